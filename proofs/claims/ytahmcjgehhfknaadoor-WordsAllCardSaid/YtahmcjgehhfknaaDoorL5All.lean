/-
  The law WordsAll (columnsevenlaw05), walked.
-/
import Derived.Test.YtahmcjgehhfknaaDoorL5Of
import Derived.Test.YtahmcjgehhfknaaDoorIter
namespace Go.Proofs.YtahmcjgehhfknaaDoor
open Go.RowKit Go.Sort
set_option linter.unusedVariables false
set_option linter.unusedSimpArgs false
attribute [local go_sem] Oper.semAt_some

def allW : List (List UInt8) := keyW ++ verbW ++ constW
def goodW (x : List UInt8) : Bool := x.all (fun c => capB c || digB c || decide (c.toNat = 45)) && x.any capB && decide (x.length ≤ 60)
set_option maxRecDepth 100000 in
theorem all_nodup : allW.Nodup := by decide +kernel
theorem all_good : allW.all goodW = true := by decide +kernel
theorem all_len : allW.length ≤ 1000 ∧ 0 < allW.length := by decide +kernel
theorem prefix_nil (x : List UInt8) : Lib.hasPrefix x [] = true := by unfold Lib.hasPrefix; rfl
theorem cls_some (x : List UInt8) : (clsM [] x).isSome = true ↔ x ∈ allW := by
  have h : clsM [] x = if isFig x = true then some 3 else if x ∈ keyW then some 1 else if x ∈ verbW then some 2 else none := by
    unfold clsM finM
    rw [putL_at _ _ _ (prefix_nil x), putL_at _ _ _ (prefix_nil x), prefix_nil]
    simp
  rw [h, fig_mem]
  unfold allW
  by_cases h1 : x ∈ constW
  · simp [h1]
  · by_cases h2 : x ∈ keyW
    · simp [h1, h2]
    · by_cases h3 : x ∈ verbW
      · simp [h1, h2, h3]
      · simp [h1, h2, h3]
theorem all_keys {w : World} {e : TypeId} {b n : Nat} {D : DataW Unit} (hown : w.ownsMap Tryd.prog 9 (plainElem Tryd.prog e) b n D) (hkv : KV D .u8 (clsM [])) : allW.Perm (strKeys D) := by
  obtain ⟨es, hD, hpw, _⟩ := hown.entries keyedS
  obtain ⟨es', hD', hko⟩ := hown.keysOf
  obtain rfl : es = es' := by rw [hD] at hD'; simpa using hD'
  subst hD
  exact perm_strKeys hpw (fun p hp => by obtain ⟨v, hv⟩ := hko p hp; obtain ⟨x, _, hx, _⟩ := Maps.keyOf_str Tryd.underlying9 hv; exact ⟨x, hx⟩) all_nodup (fun x => by rw [(hkv.2 x).1, cls_some])
theorem all_size {w : World} {e : TypeId} {b n : Nat} {D : DataW Unit} (hown : w.ownsMap Tryd.prog 9 (plainElem Tryd.prog e) b n D) (hkv : KV D .u8 (clsM [])) : Maps.size D ≤ 1000 := by
  have h := (all_keys hown hkv).length_eq
  obtain ⟨es, hD, _⟩ := hown.entries keyedS
  subst hD
  have e2 : (strKeys (DataW.map es)).length = es.length := by unfold strKeys; simp
  show es.length ≤ 1000
  rw [← e2, ← h]
  exact all_len.1

/-- The words in order. -/
def sortW : List (List UInt8) := allW.mergeSort (fun x y => decide (x ≤ y))
theorem sort_perm : sortW.Perm allW := List.mergeSort_perm _ _
theorem sort_len : sortW.length = allW.length := sort_perm.length_eq
theorem sort_lt {i : Nat} {x y : List UInt8} (hx : sortW[i]? = some x) (hy : sortW[i + 1]? = some y) : x < y := by
  have tr : ∀ a b c : List UInt8, leB a b = true → leB b c = true → leB a c = true := fun a b c h1 h2 => by simp only [leB, decide_eq_true_eq] at *; exact List.le_trans h1 h2
  have tot : ∀ a b : List UInt8, (leB a b || leB b a) = true := fun a b => by simp only [leB, Bool.or_eq_true, decide_eq_true_eq]; exact List.le_total a b
  have hp := List.pairwise_mergeSort tr tot allW
  have hnd : sortW.Nodup := sort_perm.nodup_iff.2 all_nodup
  obtain ⟨h1, e1⟩ := List.getElem?_eq_some_iff.1 hx
  obtain ⟨h2, e2⟩ := List.getElem?_eq_some_iff.1 hy
  have hle := List.pairwise_iff_getElem.1 hp i (i + 1) h1 h2 (by omega)
  have hne := List.pairwise_iff_getElem.1 hnd i (i + 1) h1 h2 (by omega)
  have hle' : x ≤ y := by
    rw [← e1, ← e2]; exact of_decide_eq_true hle
  have hne' : x ≠ y := by rw [← e1, ← e2]; exact hne
  exact Classical.byContradiction fun hc => hne' (List.le_antisymm hle' hc)

theorem c_clipS (g l cap : Nat) (h : l ≤ cap) (w : World) : Calls Tryd.prog 25 #[.slice (some ⟨g, 0, none⟩) l cap] w fun e w' =>
    e = .returned (.slice (some ⟨g, 0, none⟩) l l) ∧ w' = w := by
  have h2 : (l : Int) ≤ (cap : Int) := by omega
  go_enter Tryd.func25, Tryd.ntmps25
  go_wp2
  go_ret
  exact ⟨rfl, rfl⟩
theorem row_cap {w : World} {base : Nat} {e : TypeId} {g n cap : Nat} {xs : List Value} (h : w.ownsRow base e 1 (.slice (some ⟨g, 0, none⟩) n cap) n xs) : n ≤ cap := by
  rcases h.2 with h | ⟨g', c', cur, h, _, _, h2, _⟩
  · cases h.1
  · cases h; exact h2
theorem row_lt {w : World} {base : Nat} {e : TypeId} {g n cap : Nat} {xs : List Value} (h : w.ownsRow base e 1 (.slice (some ⟨g, 0, none⟩) n cap) n xs) : g < w.heap.size := by
  rcases h.2 with h | ⟨g', c', cur, h, _, h3, _⟩
  · cases h.1
  · cases h; exact (Array.getElem?_eq_some_iff.1 h3).1
set_option maxRecDepth 100000 in
set_option maxHeartbeats 2000000 in
theorem c_all (w : World) (hT : SpTab w) : Calls Tryd.prog 14 #[] w fun e w' =>
    ∃ g : Nat, e = .returned (.slice (some ⟨g, 0, none⟩) sortW.length sortW.length) ∧ WordsAt w' g sortW ∧ Below w.heap.size w w' := by
  refine (callsIn_wide (n := 6)).1 ?_
  have hfK : Fence.wide.fn 27 := trivial
  have hfS : Fence.wide.fn 26 := trivial
  have hfC : Fence.wide.fn 24 := trivial
  have hfL : Fence.wide.fn 25 := trivial
  have HC : Hid (Calls Tryd.prog 24 #[.string ⟨#[]⟩] w fun e w' => ∃ b n, e = .returned (.map (some b)) ∧ SM w' 26 .u8 b n (clsM []) ∧ Below w.heap.size w w') := Lib.hid (c_classes ⟨#[]⟩ (by decide) w hT)
  clear hT
  refine callsIn_of_wp Tryd.func14 rfl trivial ?_ rfl
  simp only [Tryd.ntmps14, List.size_toArray, List.length_cons, List.length_nil, Nat.reduceAdd, Nat.reduceSub, Array.replicate_succ, Array.replicate_zero, List.push_toArray, List.append_toArray, List.nil_append, List.cons_append]
  gi_wp2_with (first
    | (gi_at_call 24; refine (callsIn_wide.2 HC.out).mono ?_; rintro e w1 ⟨b, n, rfl, ⟨D, hown, hkv⟩, hb1⟩; have HOWN := Lib.hid hown; have HKV := Lib.hid hkv; have HB1 := Lib.hid hb1; clear hown hkv hb1)
    | (gi_at_call 27; refine (Tryd.maps_Keys_27 _ _).mono ?_; rintro e w' ⟨rfl, rfl⟩)
    | (gi_at_call 26; refine (Tryd.slices_Sorted_keys_26_27 b n D _ w1 HOWN.out (by have := all_size HOWN.out HKV.out; unfold maxLen; omega) (by have := all_size HOWN.out HKV.out; omega)).mono ?_; rintro e w3 ⟨v, ss, rfl, hS, hrow, hnil, hb⟩; have hperm := hS.trans (all_keys HOWN.out HKV.out).symm; have hms : ss.mergeSort (fun x y => decide (x ≤ y)) = sortW := mergeSort_of_perm hperm; have hsl : ss.length = sortW.length := hperm.length_eq.trans sort_len.symm; rw [hms, hsl] at hrow; obtain ⟨g, cap, hv⟩ := Joins.ownsRow_form hrow (by rw [sort_len]; exact all_len.2); subst hv; have HROW := Lib.hid hrow; have hcap : sortW.length ≤ cap := row_cap hrow; have HCAP := Lib.hid hcap; clear hcap; have HB3 := Lib.hid ((HB1.out.alloc HB1.out.size _).trans (hb.mono (by have := HB1.out.size; simp; omega))); clear hS hrow hnil hb hperm hms hsl)
    | (gi_at_call 25; refine (callsIn_wide.2 (c_clipS g sortW.length cap HCAP.out _)).mono ?_; rintro e w4 ⟨rfl, rfl⟩))
  go_ret
  refine ⟨g, rfl, ⟨fun k x hk => ?_, ?_⟩, HB3.out⟩
  · have hlt := (List.getElem?_eq_some_iff.1 hk).1
    rw [HROW.out.cellAt k (by omega), List.getElem?_map, hk]; rfl
  · exact row_lt HROW.out

structure FieldsOK (t : ByteArray) (n : Nat) : Prop where
  out : ∀ W, SpTab W → Calls Tryd.prog 10 #[.string t] W fun e w' => ∃ g2 : Nat, e = .returned (.slice (some ⟨g2, 0, none⟩) n n) ∧ Below W.heap.size W w'
theorem fields_ok (t : ByteArray) (L : List (List UInt8)) (h : ListOK t L) : FieldsOK t L.length := by
  refine ⟨fun W hT => ?_⟩
  have hF : Calls Tryd.prog 10 #[.string t] W fun e w' => e = .returned (.slice (some ⟨W.heap.size, 0, none⟩) (Lib.fields t.data.toList).length (Lib.fields t.data.toList).length) ∧ w' = W.alloc (.cells ((Lib.fields t.data.toList).map fun l => Value.string ⟨l.toArray⟩).toArray 9) :=
    Any.strings_Fields_core Tryd.lays157 (by kernel_rfl) t W (by have := h.size; omega) (fun j b hj => by simpa using List.all_eq_true.1 h.ascii b (List.mem_of_getElem? hj)) hT
  rw [h.fields] at hF
  refine hF.mono ?_
  rintro e w' ⟨rfl, rfl⟩
  exact ⟨_, rfl, (Below.refl _ W).alloc (Nat.le_refl _) _⟩
/-- While the law runs: the row of the words. -/
structure RowW (w W : World) (g : Nat) (L : List (List UInt8)) : Prop where
  row : WordsAt W g L
  bel : Below w.heap.size w W
theorem WordsAt.step {W W' : World} {g : Nat} {L : List (List UInt8)} (h : WordsAt W g L) (hb : Below W.heap.size W W') : WordsAt W' g L :=
  ⟨fun k x hk => (hb.cell (p := ⟨g, k, none⟩) h.lt).trans (h.cell k x hk), Nat.lt_of_lt_of_le h.lt hb.size⟩
theorem RowW.step {w W W' : World} {g : Nat} {L : List (List UInt8)} (h : RowW w W g L) (hb : Below W.heap.size W W') : RowW w W' g L := ⟨h.row.step hb, h.bel.trans (hb.mono h.bel.size)⟩
theorem RowW.drewN {w W : World} {g : Nat} {L : List (List UInt8)} (h : RowW w W g L) (n : Nat) : RowW w (W.drewN n) g L := h.step ((Below.refl _ W).trans ⟨rfl, rfl, rfl, Nat.le_refl _, fun _ _ => rfl⟩)

set_option maxRecDepth 100000 in
set_option maxHeartbeats 8000000 in
theorem l5all (n : Nat) (hn : n < 65536) (w : World) (hm : MaxLenAt w) (hT : SpTab w) :
    Calls Tryd.prog 4 #[.int .u16 n] w fun e w' => e = .returned (.bool true) ∧ Below w.heap.size w w' := by
  have HMX := Lib.hid hm
  have HTX := Lib.hid hT
  have hA := c_all w hT
  have hnd : ∀ (i : Nat) (x y : List UInt8), sortW[i]? = some x → sortW[i + 1]? = some y → Op.bytesLess x y = true := fun i x y h1 h2 => by rw [bytesLess_eq]; exact decide_eq_true (sort_lt h1 h2)
  have hgood : ∀ x ∈ sortW, goodW x = true ∧ x ∈ allW := fun x hx => by
    have h := sort_perm.mem_iff.1 hx
    exact ⟨List.all_eq_true.1 all_good x h, h⟩
  have hlen := sort_len
  obtain ⟨hl1, hl2⟩ := all_len
  rw [← hlen] at hl1 hl2
  generalize sortW = L at hA hnd hgood hlen hl1 hl2
  obtain ⟨N, hN⟩ : ∃ N, N = L.length := ⟨_, rfl⟩
  rw [← hN] at hA hl1 hl2 hlen
  have HA := Lib.hid hA
  have HND := Lib.hid hnd
  have HGD := Lib.hid hgood
  have HN := Lib.hid hN
  have HLEN := Lib.hid hlen
  clear hm hT hA hnd hgood hN hlen
  have hNz : (N : Int) ≤ 1000 := by omega
  have hN0 : (0 : Int) < (N : Int) := by omega
  go_enter Tryd.func4, Tryd.ntmps4
  generalize hV0 : ByteArray.mk (List.toArray (List.append _ _)) = V0
  have l0 : ListOK V0 allW := by rw [← hV0]; exact ⟨by decide +kernel, by decide +kernel, by decide +kernel, by decide +kernel⟩
  have HFO : Hid (FieldsOK V0 N) := Lib.hid (by rw [HLEN.out]; exact fields_ok V0 allW l0)
  have L0 := Lib.hid l0
  clear hV0 l0
  go_upto_region 5 with (first
    | (go_at_call 14; refine HA.out.mono ?_; rintro e w1 ⟨g, rfl, hrow, hb⟩; have HRW : Hid (RowW w w1 g L) := Lib.hid ⟨hrow, hb⟩; clear hrow hb)
    | (go_at_call 10; refine (HFO.out.out _ (HTX.out.below HRW.out.bel)).mono ?_; rintro e w2 ⟨g2, rfl, hb⟩; have HRW := Lib.hid (HRW.out.step hb); clear hb)
    | fail)
  go_wp2
  go_loopw [5] (fun s5 wr => RowW w wr g L ∧ ∃ q : Nat, q + 1 ≤ N ∧ s5 = .int .i64 ((q : Int) + 1)) (fun s5 _ => N - (iOf s5).toNat)
  case atStart => exact ⟨HRW.out, 0, by omega, rfl⟩
  case round =>
    obtain ⟨hrw, q, hq, rfl⟩ := hrel
    have HRW := Lib.hid hrw
    clear hrw
    by_cases hqn : q + 1 < N
    · have hqz : (q : Int) + 1 < (N : Int) := by omega
      have hq0 : (0 : Int) ≤ (q : Int) := by omega
      have hq1 : (0 : Int) ≤ (q : Int) + 1 := by omega
      have hqq : (q : Int) < (N : Int) := by omega
      have hws : IntKind.i64.wrap ((q : Int) + 1 - 1) = (q : Int) := by rw [show (q : Int) + 1 - 1 = (q : Int) from by omega]; exact IntWalk.i64_in _ ⟨by omega, by omega⟩
      have hqt : ((q : Int) + 1).toNat = q + 1 := by omega
      obtain ⟨x, hx⟩ : ∃ x, L[q]? = some x := ⟨_, List.getElem?_eq_getElem (by rw [← HN.out]; omega)⟩
      obtain ⟨y, hy⟩ : ∃ y, L[q + 1]? = some y := ⟨_, List.getElem?_eq_getElem (by rw [← HN.out]; omega)⟩
      have hlt := HND.out _ _ _ hx hy
      have c1 := HRW.out.row.cell _ _ hx
      have c2 := HRW.out.row.cell _ _ hy
      have hxt : (⟨x.toArray⟩ : ByteArray).toList = x := by rw [ByteArray.toList_eq]
      have hyt : (⟨y.toArray⟩ : ByteArray).toList = y := by rw [ByteArray.toList_eq]
      obtain ⟨X, hX⟩ : ∃ X : ByteArray, X = ⟨x.toArray⟩ := ⟨_, rfl⟩
      obtain ⟨Y, hY⟩ : ∃ X : ByteArray, X = ⟨y.toArray⟩ := ⟨_, rfl⟩
      rw [← hX] at c1 hxt
      rw [← hY] at c2 hyt
      clear hX hY hx hy
      go_upto_region 8 with fail
      go_quiet (fail)
      have HRN := Lib.hid (HRW.out.drewN nq)
      go_wp2
      go_roundw
      case rel => exact ⟨HRN.out, q + 1, hqn, by go_num⟩
      case measure => simp [iOf]; omega
    · have hqN : ((q : Int) + 1) = (N : Int) := by omega
      have hlast : ¬ (q : Int) + 1 < (N : Int) := by omega
      obtain ⟨j, hj⟩ : ∃ j, j = n % N := ⟨_, rfl⟩
      have hjN : j < N := by rw [hj]; exact Nat.mod_lt _ (by omega)
      have hjz : (j : Int) < (N : Int) := by omega
      have htm : Int.tmod (n : Int) (N : Int) = (j : Int) := by rw [hj]; rfl
      obtain ⟨x, hx⟩ : ∃ x, L[j]? = some x := ⟨_, List.getElem?_eq_getElem (by rw [← HN.out]; exact hjN)⟩
      have c1 := HRW.out.row.cell _ _ hx
      have hgx := HGD.out x (List.mem_of_getElem? hx)
      obtain ⟨X, hX⟩ : ∃ X : ByteArray, X = ⟨x.toArray⟩ := ⟨_, rfl⟩
      rw [← hX] at c1
      have hXl : X.data.toList = x := by rw [hX]
      have hXs : X.size = x.length := by rw [Lib.size_eq, hXl]
      have hg := hgx.1
      unfold goodW at hg
      simp only [Bool.and_eq_true, decide_eq_true_eq] at hg
      obtain ⟨⟨hg1, hg2⟩, hg3⟩ := hg
      have hX60 : (X.size : Int) ≤ 60 := by omega
      have hXm : X.size ≤ maxLen := by unfold maxLen; omega
      have hof : ofI x ≠ 0 := by
        have h := hgx.2
        unfold allW at h
        rw [List.mem_append, List.mem_append] at h
        unfold ofI
        rw [fig_mem]
        rcases h with (h | h) | h
        · by_cases hc : x ∈ constW <;> simp [hc, h]
        · by_cases hc : x ∈ constW
          · simp [hc]
          · by_cases hk : x ∈ keyW <;> simp [hc, hk, h]
        · simp [h]
      have HOF : Hid (OfOK X (ofI x)) := Lib.hid (of_ok X _ hXm (by rw [hXl]))
      have HIN : Hid (InOK X V0 ((allW.idxOf x : Nat) : Int)) := Lib.hid (in_ok X V0 allW L0.out _ (by rw [hXl]; exact in_is hgx.2))
      obtain ⟨v, hv⟩ : ∃ v, v = ofI x := ⟨_, rfl⟩
      obtain ⟨ix, hix⟩ : ∃ ix, ix = allW.idxOf x := ⟨_, rfl⟩
      rw [← hv] at HOF hof
      rw [← hix] at HIN
      have hix0 : (0 : Int) ≤ (ix : Int) := by omega
      have hof2 : (v == 0) = false := by simpa using hof
      have hof3 : (v != 0) = true := by simpa using hof
      have HX := Lib.hid hXl
      have HG1 := Lib.hid hg1
      have HG2 := Lib.hid hg2
      have HXS := Lib.hid hXs
      clear hX hXl hXs hg1 hg2 hg3 hgx hx hj hv hix hXm
      go_wp2
      go_loopw [7, 8] (fun s7 s8 wr2 => wr2 = wr ∧ ∃ i : Nat, i ≤ X.size ∧ s8 = .int .i64 i ∧ s7 = .int .i64 ((x.take i).countP capB : Nat)) (fun _ s8 _ => X.size - (iOf s8).toNat)
      case atStart => exact ⟨rfl, 0, Nat.zero_le _, rfl, rfl⟩
      case round =>
        obtain ⟨rfl, i, hi, rfl, rfl⟩ := hrel
        obtain ⟨m, hm⟩ : ∃ m, m = (x.take i).countP capB := ⟨_, rfl⟩
        have hmi : (m : Int) ≤ 60 := by
          have h1 : (x.take i).countP capB ≤ (x.take i).length := List.countP_le_length
          rw [List.length_take, ← hm] at h1
          have := HXS.out
          omega
        rw [← hm]
        have HM := Lib.hid hm
        clear hm
        by_cases hin : i < X.size
        · have hiz : (i : Int) < (X.size : Int) := by omega
          obtain ⟨c, hc⟩ : ∃ c : UInt8, X[i] = c := ⟨_, rfl⟩
          have hcl : x[i]? = some c := by rw [← HX.out, ← hc]; exact Lib.data_getElem? X i hin
          have hcg := List.all_eq_true.1 HG1.out c (List.mem_of_getElem? hcl)
          have hst : (x.take (i + 1)).countP capB = m + (if capB c = true then 1 else 0) := by
            rw [List.take_add_one, hcl, HM.out, List.countP_append]
            simp [List.countP_cons]
          have HST := Lib.hid hst
          clear hcl hst
          simp only [Bool.or_eq_true, decide_eq_true_eq] at hcg
          have hc256 := u8lt c
          by_cases hcap : capB c = true
          · have h1 : 65 ≤ (c.toNat : Int) := by simp [capB] at hcap; omega
            have h2 : (c.toNat : Int) ≤ 90 := by simp [capB] at hcap; omega
            have HCAP := Lib.hid hcap
            clear hcg hcap
            go_wp2
            go_roundw
            case rel => exact ⟨by first | trivial | rfl, i + 1, by omega, by go_num, by rw [HST.out, HCAP.out]; go_num⟩
            case measure => simp [iOf]; omega
          · have hcap' : capB c = false := by simpa using hcap
            have HCAP := Lib.hid hcap'
            by_cases h45 : c.toNat = 45
            · have h1 : (c.toNat : Int) = 45 := by omega
              clear hcg hcap hcap'
              go_wp2
              go_roundw
              case rel => exact ⟨by first | trivial | rfl, i + 1, by omega, by go_num, by rw [HST.out, HCAP.out]; simp⟩
              case measure => simp [iOf]; omega
            · have hd : digB c = true := hcg.elim (fun h => h.elim (fun h => absurd h hcap) id) (fun h => absurd h h45)
              have h1 : 48 ≤ (c.toNat : Int) := by simp [digB] at hd; omega
              have h2 : (c.toNat : Int) ≤ 57 := by simp [digB] at hd; omega
              have h3 : ¬ ((c.toNat : Int) = 45) := by omega
              have h4 : ((c.toNat : Int) == 45) = false := by simpa using h3
              clear hcg hcap hcap' hd h45
              go_wp2
              go_roundw
              case rel => exact ⟨by first | trivial | rfl, i + 1, by omega, by go_num, by rw [HST.out, HCAP.out]; simp⟩
              case measure => simp [iOf]; omega
        · obtain rfl : i = X.size := by omega
          have hm0 : (0 : Int) < (m : Int) := by
            have h := HM.out
            rw [show x.take X.size = x from by rw [HXS.out, List.take_length]] at h
            have h2 : 0 < x.countP capB := by
              rw [List.countP_pos_iff]
              obtain ⟨c, h1, h2⟩ := List.any_eq_true.1 HG2.out
              exact ⟨c, h1, h2⟩
            omega
          go_wp2_with (first
            | (go_at_call 13; refine (HOF.out.out _ (HTX.out.below HRW.out.bel)).mono ?_; rintro e w' ⟨rfl, hb⟩; have HRW := Lib.hid (HRW.out.step hb); clear hb)
            | (go_at_call 11; refine (HIN.out.out _ (HTX.out.below HRW.out.bel)).mono ?_; rintro e w' ⟨rfl, hb⟩; have HRW := Lib.hid (HRW.out.step hb); clear hb)
            | (go_at_call 9; refine (c_lives _ (HMX.out.below HRW.out.bel) (HTX.out.below HRW.out.bel)).mono ?_; rintro e w' ⟨rfl, hb⟩; have HRW := Lib.hid (HRW.out.step hb); clear hb))
          go_ret
          exact ⟨rfl, HRW.out.bel⟩
end Go.Proofs.YtahmcjgehhfknaaDoor
