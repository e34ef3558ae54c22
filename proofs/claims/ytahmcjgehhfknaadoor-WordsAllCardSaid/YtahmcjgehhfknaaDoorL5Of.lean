/-
  The law WordsOf (columnsevenlaw05), walked.
-/
import Derived.Test.YtahmcjgehhfknaaDoorWd11
import Derived.Test.YtahmcjgehhfknaaDoorShelf
namespace Go.Proofs.YtahmcjgehhfknaaDoor
open Go.RowKit
set_option linter.unusedVariables false
set_option linter.unusedSimpArgs false

/-- A list of words lies in a row. -/
structure WordsAt (W : World) (g : Nat) (L : List (List UInt8)) : Prop where
  cell : ∀ (k : Nat) x, L[k]? = some x → W.cell? ⟨g, k, none⟩ = some (.string ⟨x.toArray⟩)
  lt : g < W.heap.size
theorem words_new (w : World) (L : List (List UInt8)) (t : TypeId) : WordsAt (w.alloc (.cells (L.map fun l => Value.string ⟨l.toArray⟩).toArray t)) w.heap.size L := by
  refine ⟨fun k x h => ?_, by simp⟩
  have h2 := Joins.cell_of_block (World.alloc_heap_new w (.cells (L.map fun l => Value.string ⟨l.toArray⟩).toArray t)) k
  rw [h2]
  simp [h]
def inI (x : List UInt8) (L : List (List UInt8)) : Int := if x ∈ L then (L.idxOf x : Nat) else -1
theorem idx_here {L : List (List UInt8)} {k : Nat} {x : List UInt8} (h : L[k]? = some x) (hn : x ∉ L.take k) : x ∈ L ∧ L.idxOf x = k := by
  have hm := List.mem_of_getElem? h
  refine ⟨hm, ?_⟩
  have hk := List.getElem?_eq_some_iff.1 h
  obtain ⟨hk, he⟩ := hk
  have e : L = L.take k ++ x :: L.drop (k + 1) := by
    rw [← he, ← List.drop_eq_getElem_cons hk, List.take_append_drop]
  rw [e, List.idxOf_append, if_neg hn, List.idxOf_cons_self, List.length_take]
  omega

set_option maxRecDepth 100000 in
set_option maxHeartbeats 2000000 in
theorem c_in (s t : ByteArray) (L : List (List UInt8)) (hL : Lib.fields t.data.toList = L) (ht : t.size ≤ 10000) (ha : ∀ (j : Nat) b, t.data.toList[j]? = some b → b.toNat < 128) (hLL : L.length ≤ 1000) (w : World) (hT : SpTab w) :
    Calls Tryd.prog 11 #[.string s, .string t] w fun e w' => e = .returned (.int .i64 (inI s.data.toList L)) ∧ Below w.heap.size w w' := by
  have hF : Calls Tryd.prog 10 #[.string t] w fun e w' => e = .returned (.slice (some ⟨w.heap.size, 0, none⟩) (Lib.fields t.data.toList).length (Lib.fields t.data.toList).length) ∧ w' = w.alloc (.cells ((Lib.fields t.data.toList).map fun l => Value.string ⟨l.toArray⟩).toArray 9) :=
    Any.strings_Fields_core Tryd.lays157 (by kernel_rfl) t w (by omega) ha hT
  rw [hL] at hF
  have HF := Lib.hid hF
  have hst : s.toList = s.data.toList := ByteArray.toList_eq s
  have HST := Lib.hid hst
  obtain ⟨n, hn⟩ : ∃ n, n = L.length := ⟨_, rfl⟩
  have hWA := words_new w L 9
  have hB := (Below.refl w.heap.size w).alloc (Nat.le_refl _) (.cells (L.map fun l => Value.string ⟨l.toArray⟩).toArray 9)
  rw [← hn] at HF hLL
  generalize hW1 : w.alloc (.cells (L.map fun l => Value.string ⟨l.toArray⟩).toArray 9) = W1 at hWA hB
  have HB := Lib.hid hB
  have HW1 := Lib.hid hW1
  have HWA := Lib.hid hWA
  have HN := Lib.hid hn
  clear hF hL hst hn hWA hB ha hT ht hW1
  go_enter Tryd.func11, Tryd.ntmps11
  go_wp2_with (go_at_call 10; refine HF.out.mono ?_; rintro e w1 ⟨rfl, rfl⟩; rw [HW1.out])
  go_loopw [6] (fun s6 wr => wr = W1 ∧ ∃ k : Nat, k ≤ n ∧ s6 = .int .i64 k ∧ s.data.toList ∉ L.take k) (fun s6 _ => n - (iOf s6).toNat)
  case atStart => exact ⟨rfl, 0, Nat.zero_le _, rfl, by simp⟩
  case round =>
    obtain ⟨rfl, k, hk, rfl, hnm⟩ := hrel
    have HNM := Lib.hid hnm
    clear hnm
    by_cases hkn : k < n
    · have hkz : (k : Int) < (n : Int) := by omega
      obtain ⟨x, hx⟩ : ∃ x, L[k]? = some x := ⟨_, List.getElem?_eq_getElem (by rw [← HN.out]; exact hkn)⟩
      have hcell := HWA.out.cell k x hx
      have HX := Lib.hid hx
      have hxt : (⟨x.toArray⟩ : ByteArray).toList = x := by rw [ByteArray.toList_eq]
      obtain ⟨X, hX⟩ : ∃ X : ByteArray, X = ⟨x.toArray⟩ := ⟨_, rfl⟩
      rw [← hX] at hcell hxt
      clear hX
      by_cases he : x = s.data.toList
      · have heq : (X.toList == s.toList) = true := by rw [hxt, HST.out]; simp [he]
        have HE := Lib.hid he
        clear he hx hxt
        go_wp2
        go_ret
        have h := idx_here (HE.out ▸ HX.out) HNM.out
        exact ⟨by unfold inI; rw [if_pos h.1, h.2]; rfl, HB.out⟩
      · have heq : (X.toList == s.toList) = false := by rw [hxt, HST.out]; simpa using he
        have HE := Lib.hid he
        clear he hx hxt
        go_wp2
        go_roundw
        case rel => exact ⟨by first | trivial | rfl, k + 1, by omega, by go_num, by rw [List.take_add_one, HX.out]; simp only [Option.toList_some, List.mem_append, List.mem_singleton, not_or]; exact ⟨HNM.out, fun e => HE.out e.symm⟩⟩
        case measure => simp [iOf]; omega
    · obtain rfl : k = n := by omega
      have hkz : ¬ (k : Int) < (k : Int) := by omega
      go_wp2
      go_ret
      have h := HNM.out
      rw [HN.out, List.take_length] at h
      exact ⟨by unfold inI; rw [if_neg h]; rfl, HB.out⟩

/-! ### The lists of the law -/
def constW : List (List UInt8) := figL.map (·.1)
def bytB : ByteArray := ⟨#[48, 48, 48, 32, 32, 255, 255, 0, 0, 34, 34]⟩
theorem fold_some : ∀ (l : List (List UInt8 × Int)) (m : Upd) (x : List UInt8), ((l.foldl (fun m p => upd m p.1 p.2) m) x).isSome = ((m x).isSome || decide (x ∈ l.map (·.1)))
  | [], m, x => by simp
  | p :: l, m, x => by
    rw [List.foldl_cons, fold_some l]
    by_cases h : x = p.1
    · rw [Bool.eq_iff_iff]; simp [upd, h]
    · rw [Bool.eq_iff_iff]; simp only [upd, Bool.or_eq_true, decide_eq_true_eq, List.map_cons, List.mem_cons, h, false_or, if_false]
theorem fig_mem (x : List UInt8) : isFig x = decide (x ∈ constW) := by
  unfold isFig figM
  rw [fold_some, Bool.eq_iff_iff]
  simp only [Option.isSome_none, Bool.false_or, decide_eq_true_eq, constW]
  exact decide_eq_true_iff.symm
theorem fold_none : ∀ (l : List (List UInt8 × Int)) (m : Upd) (x : List UInt8), x ∉ l.map (·.1) → (l.foldl (fun m p => upd m p.1 p.2) m) x = m x
  | [], m, x, _ => rfl
  | p :: l, m, x, h => by
    simp only [List.map_cons, List.mem_cons, not_or] at h
    rw [List.foldl_cons, fold_none l _ x h.2]
    simp [upd, h.1]
theorem byte_none (x : List UInt8) (h : x ∉ constW) : byteI x = 0 := by
  unfold byteI figM
  rw [fold_none _ _ _ h]; rfl
theorem lists_apart : (keyW.all fun x => decide (x ∉ verbW) && decide (x ∉ constW)) = true ∧ (verbW.all fun x => decide (x ∉ constW)) = true := by decide +kernel
theorem bytes_of : (constW.all fun x => decide (constW.idxOf x < 11) && decide (byteI x = ((bytB.data.toList.getD (constW.idxOf x) 0).toNat : Int))) = true := by decide +kernel
structure InOK (s t : ByteArray) (v : Int) : Prop where
  out : ∀ W, SpTab W → Calls Tryd.prog 11 #[.string s, .string t] W fun e w' => e = .returned (.int .i64 v) ∧ Below W.heap.size W w'
/-- A text is one of the law's lists. -/
structure ListOK (t : ByteArray) (L : List (List UInt8)) : Prop where
  fields : Lib.fields t.data.toList = L
  size : t.size ≤ 10000
  ascii : t.data.toList.all (fun b => decide (b.toNat < 128)) = true
  len : L.length ≤ 1000
theorem in_ok (s t : ByteArray) (L : List (List UInt8)) (h : ListOK t L) (v : Int) (hv : inI s.data.toList L = v) : InOK s t v :=
  ⟨fun W hT => by rw [← hv]; exact c_in s t L h.fields h.size (fun j b hj => by simpa using List.all_eq_true.1 h.ascii b (List.mem_of_getElem? hj)) h.len W hT⟩
theorem in_not {x : List UInt8} {L : List (List UInt8)} (h : x ∉ L) : inI x L = -1 := by unfold inI; rw [if_neg h]
theorem in_is {x : List UInt8} {L : List (List UInt8)} (h : x ∈ L) : inI x L = (L.idxOf x : Nat) := by unfold inI; rw [if_pos h]

/-- What the four places say of a word. -/
structure WordOK (u V1 V2 V3 : ByteArray) (a b c o bv : Int) (is : Bool) : Prop where
  k : InOK u V1 a
  v : InOK u V2 b
  c : InOK u V3 c
  o : OfOK u o
  b : ByteOK u bv is
theorem word_cases (u V1 V2 V3 : ByteArray) (hu : u.size ≤ maxLen) (h1 : ListOK V1 keyW) (h2 : ListOK V2 verbW) (h3 : ListOK V3 constW) :
    WordOK u V1 V2 V3 (-1) (-1) (-1) 0 0 false ∨ (∃ n : Nat, WordOK u V1 V2 V3 n (-1) (-1) 1 0 false) ∨ (∃ n : Nat, WordOK u V1 V2 V3 (-1) n (-1) 2 0 false) ∨
      (∃ (n : Nat) (x : UInt8), n < 11 ∧ bytB.data.toList[n]? = some x ∧ WordOK u V1 V2 V3 (-1) (-1) n 3 x.toNat true) := by
  have hap := lists_apart
  by_cases hk : u.data.toList ∈ keyW
  · have h := List.all_eq_true.1 hap.1 _ hk
    simp only [Bool.and_eq_true, decide_eq_true_eq] at h
    exact .inr (.inl ⟨_, in_ok _ _ _ h1 _ (in_is hk), in_ok _ _ _ h2 _ (in_not h.1), in_ok _ _ _ h3 _ (in_not h.2), of_ok _ _ hu (by unfold ofI; rw [fig_mem]; simp [h.2, hk]), byte_ok _ _ _ hu (byte_none _ h.2) (by rw [fig_mem]; simp [h.2])⟩)
  · by_cases hv : u.data.toList ∈ verbW
    · have h := List.all_eq_true.1 hap.2 _ hv
      simp only [decide_eq_true_eq] at h
      exact .inr (.inr (.inl ⟨_, in_ok _ _ _ h1 _ (in_not hk), in_ok _ _ _ h2 _ (in_is hv), in_ok _ _ _ h3 _ (in_not h), of_ok _ _ hu (by unfold ofI; rw [fig_mem]; simp [h, hk, hv]), byte_ok _ _ _ hu (byte_none _ h) (by rw [fig_mem]; simp [h])⟩))
    · by_cases hc : u.data.toList ∈ constW
      · have h := List.all_eq_true.1 bytes_of _ hc
        simp only [Bool.and_eq_true, decide_eq_true_eq] at h
        have hlen : bytB.data.toList.length = 11 := by decide
        refine .inr (.inr (.inr ⟨_, bytB.data.toList.getD (constW.idxOf u.data.toList) 0, h.1, ?_, in_ok _ _ _ h1 _ (in_not hk), in_ok _ _ _ h2 _ (in_not hv), in_ok _ _ _ h3 _ (in_is hc), of_ok _ _ hu (by unfold ofI; rw [fig_mem]; simp [hc]), byte_ok _ _ _ hu h.2 (by rw [fig_mem]; simp [hc])⟩))
        rw [List.getD_eq_getElem?_getD, List.getElem?_eq_getElem (by rw [hlen]; exact h.1)]; rfl
      · exact .inl ⟨in_ok _ _ _ h1 _ (in_not hk), in_ok _ _ _ h2 _ (in_not hv), in_ok _ _ _ h3 _ (in_not hc), of_ok _ _ hu (by unfold ofI; rw [fig_mem]; simp [hc, hk, hv]), byte_ok _ _ _ hu (byte_none _ hc) (by rw [fig_mem]; simp [hc])⟩
/-- The words of the lists are short. -/
theorem words_short : ((keyW ++ verbW ++ constW).all fun x => decide (x.length ≤ 60)) = true ∧ (keyW ++ verbW ++ constW).length ≤ 1000 ∧ 0 < (keyW ++ verbW ++ constW).length := by decide +kernel
/-- While the law runs: a word in its row. -/
structure Cur (w W : World) (g i : Nat) (u : ByteArray) : Prop where
  cell : W.cell? ⟨g, i, none⟩ = some (.string u)
  lt : g < W.heap.size
  bel : Below w.heap.size w W
theorem Cur.step {w W W' : World} {g i : Nat} {u : ByteArray} (h : Cur w W g i u) (hb : Below W.heap.size W W') : Cur w W' g i u :=
  ⟨(hb.cell (p := ⟨g, i, none⟩) h.lt).trans h.cell, Nat.lt_of_lt_of_le h.lt hb.size, h.bel.trans (hb.mono h.bel.size)⟩

set_option maxRecDepth 100000 in
set_option maxHeartbeats 8000000 in
theorem l5of (s : ByteArray) (hs : s.size ≤ maxLen) (n : Nat) (hn : n < 65536) (w : World) (hm : MaxLenAt w) (hT : SpTab w) :
    Calls Tryd.prog 3 #[.string s, .int .u16 n] w fun e w' => e = .returned (.bool true) ∧ Below w.heap.size w w' := by
  have HMX := Lib.hid hm
  have HTX := Lib.hid hT
  clear hm hT
  by_cases h60 : (60 : Int) < (s.size : Int)
  · go_enter Tryd.func3, Tryd.ntmps3
    go_wp2_with (go_at_call 9; refine (c_lives _ HMX.out HTX.out).mono ?_; rintro e w2 ⟨rfl, hb2⟩)
    go_ret
    exact ⟨rfl, hb2⟩
  have hs60 : (s.size : Int) ≤ 60 := by omega
  have HSM := Lib.hid hs
  clear hs h60
  go_enter Tryd.func3, Tryd.ntmps3
  generalize hV0 : ByteArray.mk (List.toArray (List.append _ _)) = V0
  generalize hV1 : ByteArray.mk (List.toArray (List.append _ _)) = V1
  generalize hV2 : ByteArray.mk (List.toArray (List.append _ _)) = V2
  generalize hV3 : ByteArray.mk (List.toArray (List.append _ _)) = V3
  have l0 : ListOK V0 (keyW ++ verbW ++ constW) := by rw [← hV0]; exact ⟨by decide +kernel, by decide +kernel, by decide +kernel, by decide +kernel⟩
  have l1 : ListOK V1 keyW := by rw [← hV1]; exact ⟨by decide +kernel, by decide +kernel, by decide +kernel, by decide +kernel⟩
  have l2 : ListOK V2 verbW := by rw [← hV2]; exact ⟨by decide +kernel, by decide +kernel, by decide +kernel, by decide +kernel⟩
  have l3 : ListOK V3 constW := by rw [← hV3]; exact ⟨by decide +kernel, by decide +kernel, by decide +kernel, by decide +kernel⟩
  clear hV0 hV1 hV2 hV3
  generalize hBT : (⟨#[48, 48, 48, 32, 32, 255, 255, 0, 0, 34, 34]⟩ : ByteArray) = BT
  have L0 := Lib.hid l0
  have HW : Hid (∀ u : ByteArray, u.size ≤ maxLen → _) := Lib.hid (fun u hu => word_cases u V1 V2 V3 hu l1 l2 l3)
  have hBS : BT.size = 11 := by rw [← hBT]; rfl
  have HBT : Hid (bytB = BT) := Lib.hid (by rw [← hBT]; rfl)
  clear l0 l1 l2 l3 hBT
  have hF : Calls Tryd.prog 10 #[.string V0] w fun e w' => e = .returned (.slice (some ⟨w.heap.size, 0, none⟩) (Lib.fields V0.data.toList).length (Lib.fields V0.data.toList).length) ∧ w' = w.alloc (.cells ((Lib.fields V0.data.toList).map fun l => Value.string ⟨l.toArray⟩).toArray 9) :=
    Any.strings_Fields_core Tryd.lays157 (by kernel_rfl) V0 w (by have := L0.out.size; omega) (fun j b hj => by simpa using List.all_eq_true.1 L0.out.ascii b (List.mem_of_getElem? hj)) HTX.out
  rw [L0.out.fields] at hF
  obtain ⟨L, hL⟩ : ∃ L, L = keyW ++ verbW ++ constW := ⟨_, rfl⟩
  rw [← hL] at hF
  obtain ⟨N, hN⟩ : ∃ N, N = L.length := ⟨_, rfl⟩
  have hWA := words_new w L 9
  have hB := (Below.refl w.heap.size w).alloc (Nat.le_refl _) (.cells (L.map fun l => Value.string ⟨l.toArray⟩).toArray 9)
  rw [← hN] at hF
  have HF := Lib.hid hF
  clear hF
  generalize hW1 : w.alloc (.cells (L.map fun l => Value.string ⟨l.toArray⟩).toArray 9) = W1 at hWA hB
  have hsh := words_short
  rw [← hL, ← hN] at hsh
  have hNp : (0 : Int) < (N : Int) := by omega
  have hN1000 : (N : Int) ≤ 1000 := by omega
  obtain ⟨j, hj⟩ : ∃ j, j = n % N := ⟨_, rfl⟩
  have hjN : j < N := by rw [hj]; exact Nat.mod_lt _ (by omega)
  have hjz : (j : Int) < (N : Int) := by omega
  have htm : Int.tmod (n : Int) (N : Int) = (j : Int) := by rw [hj]; rfl
  obtain ⟨x, hx⟩ : ∃ x, L[j]? = some x := ⟨_, List.getElem?_eq_getElem (by rw [← hN]; exact hjN)⟩
  have hcell := hWA.cell j x hx
  have hxs : x.length ≤ 60 := by simpa using List.all_eq_true.1 hsh.1 x (List.mem_of_getElem? hx)
  obtain ⟨X, hX⟩ : ∃ X : ByteArray, X = ⟨x.toArray⟩ := ⟨_, rfl⟩
  rw [← hX] at hcell
  have HXS : Hid (X.size ≤ maxLen) := Lib.hid (by rw [hX, Lib.size_eq]; show x.length ≤ maxLen; unfold maxLen; omega)
  have HB := Lib.hid hB
  have HW1 := Lib.hid hW1
  clear hX hxs hx hsh hWA hB hL hN hW1 hj L0
  go_upto_region 5 with (first
    | (go_at_call 10; refine HF.out.mono ?_; rintro e w1 ⟨rfl, rfl⟩; rw [HW1.out])
    | fail)
  have hcw := Joins.cell_of_block (World.alloc_heap_new W1 (.cells #[.string s, .string X] 9))
  have HC0 : Hid (Cur w (W1.alloc (.cells #[.string s, .string X] 9)) W1.heap.size 0 s) := Lib.hid ⟨hcw 0, by simp, HB.out.alloc HB.out.size _⟩
  have HC1 : Hid (Cur w (W1.alloc (.cells #[.string s, .string X] 9)) W1.heap.size 1 X) := Lib.hid ⟨hcw 1, by simp, HB.out.alloc HB.out.size _⟩
  clear hcw hcell
  generalize hW2 : W1.alloc (.cells #[.string s, .string X] 9) = W2 at HC0 HC1 ⊢
  generalize W1.heap.size = g at HC0 HC1 ⊢
  clear hW2
  go_wp2
  go_loopw [7, 8, 9, 10, 11] (fun s7 s8 s9 s10 s11 wr => ∃ i : Nat, i ≤ 2 ∧ s7 = .int .i64 i ∧ Cur w wr g 0 s ∧ Cur w wr g 1 X) (fun s7 _ _ _ _ _ => 2 - (iOf s7).toNat)
  case atStart => exact ⟨0, by omega, rfl, HC0.out, HC1.out⟩
  case round =>
    obtain ⟨i, hi, rfl, hc0, hc1⟩ := hrel
    have HC0 := Lib.hid hc0
    have HC1 := Lib.hid hc1
    clear hc0 hc1
    by_cases hi2 : i < 2
    · have hiz : (i : Int) < 2 := by omega
      obtain ⟨u, hus, hcu⟩ : ∃ u : ByteArray, u.size ≤ maxLen ∧ Cur w wr g i u := by
        rcases Nat.lt_or_ge i 1 with h | h
        · obtain rfl : i = 0 := by omega
          exact ⟨s, HSM.out, HC0.out⟩
        · obtain rfl : i = 1 := by omega
          exact ⟨X, HXS.out, HC1.out⟩
      have hwk := HW.out u hus
      have HCU := Lib.hid hcu
      have hcu := hcu.cell
      clear hus
      rcases hwk with hwk | ⟨m, hwk⟩ | ⟨m, hwk⟩ | ⟨m, x2, hm11, hx2, hwk⟩
      · have HWK := Lib.hid hwk
        clear hwk
        go_wp2_with (first
          | (go_at_call 11; refine ((by first | with_reducible exact HWK.out.k | with_reducible exact HWK.out.v | with_reducible exact HWK.out.c : InOK _ _ _).out _ (HTX.out.below HCU.out.bel)).mono ?_; rintro e w' ⟨rfl, hb⟩; have HC0 := Lib.hid (HC0.out.step hb); have HC1 := Lib.hid (HC1.out.step hb); have HCU := Lib.hid (HCU.out.step hb); have hcu := HCU.out.cell; clear hb)
          | (go_at_call 12; refine (HWK.out.b.out _).mono ?_; rintro e w' ⟨rfl, hb⟩; have HC0 := Lib.hid (HC0.out.step hb); have HC1 := Lib.hid (HC1.out.step hb); have HCU := Lib.hid (HCU.out.step hb); have hcu := HCU.out.cell; clear hb)
          | (go_at_call 13; refine (HWK.out.o.out _ (HTX.out.below HCU.out.bel)).mono ?_; rintro e w' ⟨rfl, hb⟩; have HC0 := Lib.hid (HC0.out.step hb); have HC1 := Lib.hid (HC1.out.step hb); have HCU := Lib.hid (HCU.out.step hb); have hcu := HCU.out.cell; clear hb))
        go_roundw
        case rel => exact ⟨i + 1, by omega, by go_num, HC0.out, HC1.out⟩
        case measure => simp [iOf]; omega
      · have HWK := Lib.hid hwk
        clear hwk
        have hm0 : (0 : Int) ≤ (m : Int) := by omega
        go_wp2_with (first
          | (go_at_call 11; refine ((by first | with_reducible exact HWK.out.k | with_reducible exact HWK.out.v | with_reducible exact HWK.out.c : InOK _ _ _).out _ (HTX.out.below HCU.out.bel)).mono ?_; rintro e w' ⟨rfl, hb⟩; have HC0 := Lib.hid (HC0.out.step hb); have HC1 := Lib.hid (HC1.out.step hb); have HCU := Lib.hid (HCU.out.step hb); have hcu := HCU.out.cell; clear hb)
          | (go_at_call 12; refine (HWK.out.b.out _).mono ?_; rintro e w' ⟨rfl, hb⟩; have HC0 := Lib.hid (HC0.out.step hb); have HC1 := Lib.hid (HC1.out.step hb); have HCU := Lib.hid (HCU.out.step hb); have hcu := HCU.out.cell; clear hb)
          | (go_at_call 13; refine (HWK.out.o.out _ (HTX.out.below HCU.out.bel)).mono ?_; rintro e w' ⟨rfl, hb⟩; have HC0 := Lib.hid (HC0.out.step hb); have HC1 := Lib.hid (HC1.out.step hb); have HCU := Lib.hid (HCU.out.step hb); have hcu := HCU.out.cell; clear hb))
        go_roundw
        case rel => exact ⟨i + 1, by omega, by go_num, HC0.out, HC1.out⟩
        case measure => simp [iOf]; omega
      · have HWK := Lib.hid hwk
        clear hwk
        have hm0 : (0 : Int) ≤ (m : Int) := by omega
        go_wp2_with (first
          | (go_at_call 11; refine ((by first | with_reducible exact HWK.out.k | with_reducible exact HWK.out.v | with_reducible exact HWK.out.c : InOK _ _ _).out _ (HTX.out.below HCU.out.bel)).mono ?_; rintro e w' ⟨rfl, hb⟩; have HC0 := Lib.hid (HC0.out.step hb); have HC1 := Lib.hid (HC1.out.step hb); have HCU := Lib.hid (HCU.out.step hb); have hcu := HCU.out.cell; clear hb)
          | (go_at_call 12; refine (HWK.out.b.out _).mono ?_; rintro e w' ⟨rfl, hb⟩; have HC0 := Lib.hid (HC0.out.step hb); have HC1 := Lib.hid (HC1.out.step hb); have HCU := Lib.hid (HCU.out.step hb); have hcu := HCU.out.cell; clear hb)
          | (go_at_call 13; refine (HWK.out.o.out _ (HTX.out.below HCU.out.bel)).mono ?_; rintro e w' ⟨rfl, hb⟩; have HC0 := Lib.hid (HC0.out.step hb); have HC1 := Lib.hid (HC1.out.step hb); have HCU := Lib.hid (HCU.out.step hb); have hcu := HCU.out.cell; clear hb))
        go_roundw
        case rel => exact ⟨i + 1, by omega, by go_num, HC0.out, HC1.out⟩
        case measure => simp [iOf]; omega
      · have HWK := Lib.hid hwk
        clear hwk
        have hm0 : (0 : Int) ≤ (m : Int) := by omega
        have hmz : (m : Int) < (BT.size : Int) := by omega
        have hmn : m < BT.size := by omega
        have hbt : BT[m] = x2 := by
          rw [HBT.out] at hx2
          rw [Lib.data_getElem? BT m hmn] at hx2
          injection hx2
        have hx256 := u8lt x2
        clear hx2
        go_wp2_with (first
          | (go_at_call 11; refine ((by first | with_reducible exact HWK.out.k | with_reducible exact HWK.out.v | with_reducible exact HWK.out.c : InOK _ _ _).out _ (HTX.out.below HCU.out.bel)).mono ?_; rintro e w' ⟨rfl, hb⟩; have HC0 := Lib.hid (HC0.out.step hb); have HC1 := Lib.hid (HC1.out.step hb); have HCU := Lib.hid (HCU.out.step hb); have hcu := HCU.out.cell; clear hb)
          | (go_at_call 12; refine (HWK.out.b.out _).mono ?_; rintro e w' ⟨rfl, hb⟩; have HC0 := Lib.hid (HC0.out.step hb); have HC1 := Lib.hid (HC1.out.step hb); have HCU := Lib.hid (HCU.out.step hb); have hcu := HCU.out.cell; clear hb)
          | (go_at_call 13; refine (HWK.out.o.out _ (HTX.out.below HCU.out.bel)).mono ?_; rintro e w' ⟨rfl, hb⟩; have HC0 := Lib.hid (HC0.out.step hb); have HC1 := Lib.hid (HC1.out.step hb); have HCU := Lib.hid (HCU.out.step hb); have hcu := HCU.out.cell; clear hb))
        go_roundw
        case rel => exact ⟨i + 1, by omega, by go_num, HC0.out, HC1.out⟩
        case measure => simp [iOf]; omega
    · obtain rfl : i = 2 := by omega
      have hb := HC0.out.bel
      have HBF := Lib.hid hb
      clear hb
      go_wp2_with (go_at_call 9; refine (c_lives _ (HMX.out.below HBF.out) (HTX.out.below HBF.out)).mono ?_; rintro e w2 ⟨rfl, hb2⟩; have HBG := Lib.hid (HBF.out.trans (hb2.mono HBF.out.size)); clear hb2)
      go_ret
      exact ⟨rfl, HBG.out⟩
theorem u16wf {n : Int} (h : (Lit.int .u16 n).wf = true) : ∃ k : Nat, n = k ∧ k < 65536 := by
  simp [Lit.wf, IntKind.min, IntKind.max, IntKind.signed, IntKind.bits] at h
  exact ⟨n.toNat, by omega, by omega⟩
end Go.Proofs.YtahmcjgehhfknaaDoor
