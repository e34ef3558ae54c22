/-
  The law WordsLiteral (columnsevenlaw05): its own function digits, and the parts of the text of a number.
-/
import Derived.Test.YtahmcjgehhfknaaDoorWd13
import Derived.Test.YtahmcjgehhfknaaDoorArg5
namespace Go.Proofs.YtahmcjgehhfknaaDoor
open Go.RowKit
set_option linter.unusedVariables false
set_option linter.unusedSimpArgs false

/-! ### The parts of a number's text -/
def restT (wh fr : List UInt8) : List UInt8 := wh ++ (if fr = [] then [] else 46 :: fr)
theorem dig_ne {c : UInt8} (h : digB c = true) : c ≠ 43 ∧ c ≠ 45 ∧ c ≠ 46 := by
  refine ⟨fun e => ?_, fun e => ?_, fun e => ?_⟩ <;> (rw [e] at h; revert h; decide)
theorem signed_no (r : List UInt8) (h : ∀ c ∈ r, c ≠ 43 ∧ c ≠ 45) : signedB r = false := by
  cases r with
  | nil => rfl
  | cons c l =>
    have hc := h c (List.mem_cons_self ..)
    unfold signedB Lib.hasPrefix
    simp only [List.isPrefixOf, Bool.and_true, Bool.or_eq_false_iff, beq_eq_false_iff_ne, ne_eq]
    exact ⟨fun e => hc.1 e.symm, fun e => hc.2 e.symm⟩
theorem rest_plain (wh fr : List UInt8) (hw : wh.all digB = true) (hf : fr.all digB = true) : ∀ c ∈ restT wh fr, c ≠ 43 ∧ c ≠ 45 := by
  intro c hc
  unfold restT at hc
  rw [List.mem_append] at hc
  rcases hc with hc | hc
  · have := dig_ne (List.all_eq_true.1 hw c hc); exact ⟨this.1, this.2.1⟩
  · split at hc
    · cases hc
    · rw [List.mem_cons] at hc
      rcases hc with rfl | hc
      · decide
      · have := dig_ne (List.all_eq_true.1 hf c hc); exact ⟨this.1, this.2.1⟩
theorem rest_cut (wh fr : List UInt8) (hw : wh.all digB = true) : Lib.cut (restT wh fr) [46] = (wh, fr, !fr.isEmpty) := by
  have hn : (46 : UInt8) ∉ wh := fun h => (dig_ne (List.all_eq_true.1 hw _ h)).2.2 rfl
  unfold restT
  cases fr with
  | nil => simp only [if_true, List.append_nil]; exact cut_no 46 wh hn
  | cons c l => rw [if_neg (by simp)]; exact cut_at 46 wh (c :: l) hn
theorem num_parts (sg wh fr : List UInt8) (hs : sg = [] ∨ sg = [43] ∨ sg = [45]) (hw : wh.all digB = true) (hf : fr.all digB = true) (hne : wh ++ fr ≠ []) :
    signB (sg ++ restT wh fr) = sg ∧ (cutB (sg ++ restT wh fr)).1 = wh ∧ (cutB (sg ++ restT wh fr)).2.1 = fr ∧ badB (sg ++ restT wh fr) = false := by
  have hr : restB (sg ++ restT wh fr) = restT wh fr ∧ signB (sg ++ restT wh fr) = sg := by
    rcases hs with rfl | rfl | rfl
    · have h := signed_no _ (rest_plain wh fr hw hf)
      unfold restB signB
      simp [h]
    · have h : signedB ([43] ++ restT wh fr) = true := by simp [signedB, Lib.hasPrefix, List.isPrefixOf]
      unfold restB signB
      simp only [h, if_true]; simp
    · have h : signedB ([45] ++ restT wh fr) = true := by simp [signedB, Lib.hasPrefix, List.isPrefixOf]
      unfold restB signB
      simp only [h, if_true]; simp
  have hc : cutB (sg ++ restT wh fr) = (wh, fr, !fr.isEmpty) := by
    unfold cutB; rw [hr.1]; exact rest_cut wh fr hw
  refine ⟨hr.2, by rw [hc], by rw [hc], ?_⟩
  unfold badB
  rw [hc]
  have hd : isDigitsB (wh ++ fr) = true := by
    unfold isDigitsB
    rw [List.all_append, hw, hf]
    cases h : wh ++ fr with
    | nil => exact absurd h hne
    | cons c l => rfl
  simp only [hd]
  cases fr <;> rfl
/-- A number's field, by its parts. -/
theorem lit_parts (s : ByteArray) (sg wh fr : List UInt8) (hs : sg = [] ∨ sg = [43] ∨ sg = [45]) (hw : wh.all digB = true) (hf : fr.all digB = true) (hne : wh ++ fr ≠ []) (hlw : wh.length ≤ 12) (hlf : fr.length ≤ 6) (h : s.data.toList = sg ++ restT wh fr)
    (P : ByteArray) (hP : strB (picB sg wh fr) = P) (n k : Nat) (hn : (wh ++ fr).length = n) (hk : fr.length = k) (b : Bool) (hb : (!sg.isEmpty) = b) (bs : List UInt8) (hbs : bytesB sg (wh ++ fr) = bs) : LitOK 2 s 4 P n k b n bs := by
  obtain ⟨h1, h2, h3, h4⟩ := num_parts sg wh fr hs hw hf hne
  have hd : digsB s.data.toList = wh ++ fr := by unfold digsB; rw [h, h2, h3]
  subst hP hn hk hb hbs
  refine lit_num s _ _ _ _ _ _ ?_ (by rw [h]; exact h4) (by rw [hd, List.length_append]; omega) (by rw [h, h1, h2, h3]) (by rw [hd]) (by rw [h, h3]) (by rw [h, h1]) (by rw [hd]) (by rw [hd, h, h1])
  rw [Lib.size_eq, h]
  unfold restT
  have : sg.length ≤ 1 := by rcases hs with rfl | rfl | rfl <;> simp
  split <;> simp <;> omega

/-! ### digits -/
set_option maxRecDepth 100000 in
set_option maxHeartbeats 2000000 in
theorem c_digs (x : ByteArray) (hx : x.size ≤ maxLen) (n : Nat) (hn : n ≤ 100) (w : World) : Calls Tryd.prog 15 #[.string x, .int .i64 n] w fun e w' =>
    ∃ O : ByteArray, e = .returned (.string O) ∧ ∃ D : List UInt8, O = strB D ∧ D.length ≤ n ∧ D.all digB = true ∧ Below w.heap.size w w' := by
  have hxz : (x.size : Int) ≤ 9223372036854775807 := by unfold maxLen at hx; omega
  go_enter Tryd.func15, Tryd.ntmps15
  go_wp2
  go_loopw [5, 6] (fun s5 s6 wr => ∃ (O : ByteArray) (D : List UInt8), s5 = .string O ∧ s6 = .int .i64 D.length ∧ O = strB D ∧ D.length ≤ n ∧ D.length ≤ x.size ∧ D.all digB = true ∧ Below w.heap.size w wr) (fun _ s6 _ => n - (iOf s6).toNat)
  case atStart => exact ⟨⟨#[]⟩, [], rfl, rfl, rfl, Nat.zero_le _, Nat.zero_le _, rfl, Below.refl _ _⟩
  case round =>
    obtain ⟨O, D, rfl, rfl, hO, hDn, hDx, hDD, hB⟩ := hrel
    obtain ⟨i, hi⟩ : ∃ i, i = D.length := ⟨_, rfl⟩
    have hOs : O.size = i := by rw [hO, strB_size, hi]
    rw [← hi] at hDn hDx ⊢
    have HI := Lib.hid hi
    have HO := Lib.hid hO
    have HDD := Lib.hid hDD
    have HB := Lib.hid hB
    clear hi hO hDD hB
    by_cases h1 : i < x.size
    · have h1z : (i : Int) < (x.size : Int) := by omega
      by_cases h2 : i < n
      · have h2z : (i : Int) < (n : Int) := by omega
        obtain ⟨c, hc⟩ : ∃ c : UInt8, x[i] = c := ⟨_, rfl⟩
        obtain ⟨m, hm⟩ : ∃ m, m = c.toNat % 10 := ⟨_, rfl⟩
        have hm10 : m < 10 := by rw [hm]; exact Nat.mod_lt _ (by omega)
        have htm : Int.tmod (c.toNat : Int) 10 = (m : Int) := by rw [hm]; rfl
        have hc256 := u8lt c
        obtain ⟨d, hd⟩ : ∃ d : UInt8, d = UInt8.ofNat (48 + m) := ⟨_, rfl⟩
        have hdn : d.toNat = 48 + m := by rw [hd, UInt8.toNat_ofNat']; omega
        have hcv : (convert 41 9 (.slice (some ⟨wr.heap.size, 0, none⟩) 1 1)).run Tryd.prog (wr.alloc (.cells #[.int .u8 (48 + m)] 5)) = .ok (.string ⟨#[d]⟩) (wr.alloc (.cells #[.int .u8 (48 + m)] 5)) := by
          have h := run_str (some ⟨wr.heap.size, 0, none⟩) [d] 1 _ (Txt.new wr 5 [d])
          have e : cellsB [d] = #[.int .u8 (48 + m)] := by show #[Value.int .u8 (d.toNat : Int)] = _; rw [hdn]; rfl
          rw [e] at h
          exact h
        have HD : Hid (d.toNat = 48 + m) := Lib.hid hdn
        clear hd hdn hm
        have hOz : O.size ≤ 100 := by omega
        go_wp2
        go_roundw
        case rel => exact ⟨_, D ++ [d], rfl, by rw [List.length_append, ← HI.out]; go_num, by rw [HO.out, show (⟨#[d]⟩ : ByteArray) = strB [d] from rfl, strB_app], by rw [List.length_append, ← HI.out]; exact h2, by rw [List.length_append, ← HI.out]; exact h1, by rw [List.all_append, HDD.out]; have := HD.out; simp [digB]; omega, HB.out.alloc HB.out.size _⟩
        case measure => simp [iOf]; omega
      · have h2z : ¬ (i : Int) < (n : Int) := by omega
        go_wp2
        go_ret
        exact ⟨O, rfl, D, HO.out, by rw [← HI.out]; exact hDn, (by have := HDD.out; simpa using this), HB.out⟩
    · have h1z : ¬ (i : Int) < (x.size : Int) := by omega
      go_wp2
      go_ret
      exact ⟨O, rfl, D, HO.out, by rw [← HI.out]; exact hDn, (by have := HDD.out; simpa using this), HB.out⟩

/-- While the law runs: its boxed number. -/
structure BoxN (k : Nat) (x y : ByteArray) (w W : World) : Prop where
  blk : W.heap[w.heap.size]? = some (.cells #[.int .u8 k, .string x, .string y] 35 (0, 0))
  bel : Below w.heap.size w W
theorem BoxN.step {k : Nat} {x y : ByteArray} {w W W' : World} (h : BoxN k x y w W) (hb : Below W.heap.size W W') : BoxN k x y w W' :=
  ⟨(hb.block _ (Array.getElem?_eq_some_iff.1 h.blk).1).trans h.blk, h.bel.trans (hb.mono h.bel.size)⟩
theorem BoxN.cells {k : Nat} {x y : ByteArray} {w W : World} (h : BoxN k x y w W) : W.cell? ⟨w.heap.size, 0, none⟩ = some (.int .u8 k) ∧ W.cell? ⟨w.heap.size, 1, none⟩ = some (.string x) ∧ W.cell? ⟨w.heap.size, 2, none⟩ = some (.string y) :=
  ⟨Joins.cell_of_block h.blk 0, Joins.cell_of_block h.blk 1, Joins.cell_of_block h.blk 2⟩
/-- digits, and what it returned. -/
structure DigOK (x : ByteArray) (n : Nat) : Prop where
  out : ∀ W, Calls Tryd.prog 15 #[.string x, .int .i64 n] W fun e w' =>
    ∃ O : ByteArray, e = .returned (.string O) ∧ ∃ D : List UInt8, O = strB D ∧ D.length ≤ n ∧ D.all digB = true ∧ Below W.heap.size W w'
theorem pic_sign (c : UInt8) (wh fr : List UInt8) : strB (picB [c] wh fr) = ⟨#[83]⟩ ++ strB (picB [] wh fr) := by
  rw [show (⟨#[83]⟩ : ByteArray) = strB [83] from rfl, strB_app]
  unfold picB
  rw [if_neg (by simp), if_pos rfl]
  congr 1
theorem over_text (tab ds : List UInt8) (TAB D : ByteArray) (m : Nat) (d : UInt8) (j : Nat) (hD : D = strB ds) (hT : TAB = strB tab) (ht : tab.length = 10) (hl : ds.length = m + 1) (hd : ds[m]? = some d) (hj : j = d.toNat - 48) (hj9 : j ≤ 9) :
    D.extract 0 m ++ TAB.extract j (j + 1) = strB (overB tab ds) := by
  rw [overB_at hl hd, ← hj, hD, hT]
  apply ByteArray.ext
  apply Array.ext'
  simp only [ByteArray.data_append, ByteArray.data_extract, Array.toList_append, Array.toList_extract]
  show List.extract ds 0 m ++ List.extract tab j (j + 1) = ds.set m (tab.getD j 0)
  have h2 : List.extract tab j (j + 1) = [tab.getD j 0] := by
    have hx : tab[j]? = some (tab.getD j 0) := by rw [List.getD_eq_getElem?_getD, List.getElem?_eq_getElem (by omega)]; rfl
    simp only [List.extract, Nat.add_sub_cancel_left]
    rw [Lib.drop_at hx]; rfl
  rw [h2]
  simp only [List.extract, Nat.sub_zero, List.drop_zero]
  have e : ds.set m (tab.getD j 0) = ds.take m ++ [tab.getD j 0] := by
    rw [List.set_eq_take_append_cons_drop, if_pos (by omega), List.drop_eq_nil_of_le (by omega)]
  rw [e]
theorem drewN_below (w : World) (n : Nat) : Below w.heap.size w (w.drewN n) := (Below.refl _ w).trans ⟨rfl, rfl, rfl, Nat.le_refl _, fun _ _ => rfl⟩
structure RepOK (n : Nat) (R : ByteArray) : Prop where
  out : ∀ W, Calls Tryd.prog 16 #[.string ⟨#[57]⟩, .int .i64 n] W fun e w' => e = .returned (.string R) ∧ Below W.heap.size W w'

set_option maxRecDepth 100000 in
set_option maxHeartbeats 8000000 in
theorem l5lit (k : Nat) (x y : ByteArray) (hk : k < 256) (hx : x.size ≤ maxLen) (hy : y.size ≤ maxLen) (w : World) (hm : MaxLenAt w) (hT : SpTab w) :
    Calls Tryd.prog 5 #[nV k x y] w fun e w' => e = .returned (.bool true) ∧ Below w.heap.size w w' := by
  have HMX := Lib.hid hm
  have HTX := Lib.hid hT
  have hBN : BoxN k x y w (w.alloc (.cells #[.int .u8 k, .string x, .string y] 35)) := ⟨(MapKept.heap_alloc w _).1, (Below.refl w.heap.size w).alloc (Nat.le_refl _) _⟩
  have HBN := Lib.hid hBN
  have HD1 : Hid (DigOK x 12) := Lib.hid ⟨c_digs x hx 12 (by omega)⟩
  have HD2 : Hid (DigOK y 6) := Lib.hid ⟨c_digs y hy 6 (by omega)⟩
  clear hm hT hBN hx hy
  unfold nV
  go_enter Tryd.func5, Tryd.ntmps5
  go_upto_region 2 with (first
    | (go_at_call 15; refine (HD1.out.out _).mono ?_; rintro e w1 ⟨A, rfl, wh, hA, hwl, hwd, hb⟩; have HA := Lib.hid hA; have HWL := Lib.hid hwl; have HWD := Lib.hid hwd; clear hA hwl hwd; have HBN := Lib.hid (HBN.out.step hb); obtain ⟨b0, b1, b2⟩ := HBN.out.cells; clear hb)
    | fail)
  go_upto_region 3 with (first
    | (go_at_call 15; refine (HD2.out.out _).mono ?_; rintro e w2 ⟨B, rfl, fr, hB, hfl, hfd, hb⟩; have HB := Lib.hid hB; have HFL := Lib.hid hfl; have HFD := Lib.hid hfd; clear hB hfl hfd; have HBN := Lib.hid (HBN.out.step hb); obtain ⟨b0, b1, b2⟩ := HBN.out.cells; clear hb)
    | fail)
  obtain ⟨ds, hds⟩ : ∃ ds, ds = wh ++ fr := ⟨_, rfl⟩
  obtain ⟨D, hD⟩ : ∃ D, A ++ B = D := ⟨_, rfl⟩
  have hDs : D = strB ds := by rw [← hD, HA.out, HB.out, strB_app, hds]
  have hAz : A.size = wh.length := by rw [HA.out, strB_size]
  have hBz : B.size = fr.length := by rw [HB.out, strB_size]
  have hA12 : A.size ≤ 12 := by rw [hAz]; exact HWL.out
  have hB6 : B.size ≤ 6 := by rw [hBz]; exact HFL.out
  have hdl : ds.length = A.size + B.size := by rw [hds, List.length_append, hAz, hBz]
  have HAZ := Lib.hid hAz
  have HBZ := Lib.hid hBz
  have HDS := Lib.hid hds
  have HDE := Lib.hid hDs
  have HDL := Lib.hid hdl
  clear hAz hBz hds hDs hdl
  by_cases hne : ds = []
  · have hem : (D.toList == []) = true := by rw [HDE.out, strB_toList, hne]; rfl
    clear hne
    go_wp2_with (go_at_call 9; refine (c_lives _ (HMX.out.below HBN.out.bel) (HTX.out.below HBN.out.bel)).mono ?_; rintro e w9 ⟨rfl, hb9⟩; have HB9 := Lib.hid (HBN.out.bel.trans (hb9.mono HBN.out.bel.size)); clear hb9)
    go_ret
    exact ⟨rfl, HB9.out⟩
  have hem : (D.toList == []) = false := by rw [HDE.out, strB_toList]; simpa using hne
  have HNE := Lib.hid hne
  clear hne
  obtain ⟨m, hm⟩ : ∃ m, ds.length = m + 1 := ⟨ds.length - 1, by have := List.length_pos_iff.2 HNE.out; omega⟩
  have hDz : D.size = m + 1 := by rw [HDE.out, strB_size, hm]
  have hm18 : m + 1 ≤ 18 := by rw [← hm, HDL.out]; omega
  have HM := Lib.hid hm
  have hDsz : (D.size : Int) - 1 = (m : Int) := by omega
  have hD18 : (D.size : Int) ≤ 18 := by omega
  have hmD : (m : Int) < (D.size : Int) := by omega
  have hm0 : (0 : Int) ≤ (m : Int) := by omega
  have HDZ := Lib.hid hDz
  clear hDz hm18
  obtain ⟨R1, hR1⟩ : ∃ R, R = strB (List.replicate A.size 57) := ⟨_, rfl⟩
  have HR1 : Hid (RepOK A.size R1) := Lib.hid ⟨fun W => by rw [hR1]; exact c_rep 57 A.size (by omega) W⟩
  have HRE := Lib.hid hR1
  have hR1z : R1.size ≤ 12 := by rw [hR1, strB_size, List.length_replicate]; exact hA12
  clear hm hR1
  by_cases hfr : fr = []
  · have hBe : (B.toList == []) = true := by rw [HB.out, strB_toList, hfr]; rfl
    have hP : strB (picB [] wh fr) = R1 := by rw [hfr, HRE.out, HAZ.out]; simp [picB]
    have hS : A.data.toList = [] ++ restT wh fr := by rw [HA.out, hfr]; simp [restT, strB_data]
    obtain ⟨S, hSA⟩ : ∃ S, S = A := ⟨_, rfl⟩
    obtain ⟨P, hPP⟩ : ∃ P, P = R1 := ⟨_, rfl⟩
    rw [← hPP] at hP
    rw [← hSA] at hS
    have HSZ : Hid (S.size ≤ 19) := Lib.hid (by rw [hSA]; omega)
    have HPZ : Hid (P.size ≤ 19) := Lib.hid (by rw [hPP]; omega)
    have HFR := Lib.hid hfr
    clear hfr
    subst hSA hPP
    have HL1 := Lib.hid (lit_parts S [] wh fr (.inl rfl) HWD.out HFD.out (by rw [← HDS.out]; exact HNE.out) HWL.out HFL.out hS P hP D.size B.size (by rw [← HDS.out]; exact HM.out.trans HDZ.out.symm) HBZ.out.symm false rfl ds (by rw [← HDS.out]; rfl))
    have HP := Lib.hid hP
    have HS := Lib.hid hS
    clear hP hS
    go_upto_region 11 with (first
      | (go_at_call 16; refine (HR1.out.out _).mono ?_; rintro e w3 ⟨rfl, hb⟩; have HBN := Lib.hid (HBN.out.step hb); obtain ⟨b0, b1, b2⟩ := HBN.out.cells; clear hb)
      | (go_at_call 17; refine (HL1.out.out _ (HMX.out.below HBN.out.bel)).mono ?_; rintro e w5 ⟨g, rfl, hrow⟩; dsimp only [fdV]; have HROW := Lib.hid hrow; have hb := hrow.bel; clear hrow; have HBN := Lib.hid (HBN.out.step hb); obtain ⟨b0, b1, b2⟩ := HBN.out.cells; clear hb)
      | fail)
    obtain ⟨F, hF⟩ : ∃ F, F = w5.heap.size := ⟨_, rfl⟩
    obtain ⟨W2, hW2⟩ : ∃ W2, W2 = w5.alloc (.cells #[.int .u8 4, .int .u8 0, .string P, .int .i64 D.size, .int .i64 B.size, .bool false, .bool false, .bool false, .bool false, .bool false, .int .i64 D.size, .slice (some ⟨g, 0, none⟩) D.size D.size] 43) := ⟨_, rfl⟩
    rw [← hW2, ← hF]
    have HB12 : Hid (Below w5.heap.size w5 W2) := Lib.hid (by rw [hW2]; exact (Below.refl _ w5).alloc (Nat.le_refl _) _)
    have HFB : Hid (W2.heap[F]? = some (.cells #[.int .u8 4, .int .u8 0, .string P, .int .i64 D.size, .int .i64 B.size, .bool false, .bool false, .bool false, .bool false, .bool false, .int .i64 D.size, .slice (some ⟨g, 0, none⟩) D.size D.size] 43 (0, 0))) := Lib.hid (by rw [hW2, hF]; exact (MapKept.heap_alloc w5 _).1)
    have HBN := Lib.hid (HBN.out.step HB12.out)
    obtain ⟨b0, b1, b2⟩ := HBN.out.cells
    have HROW := Lib.hid (HROW.out.keep HB12.out)
    have hcv : (convert 41 9 (.slice (some ⟨g, 0, none⟩) D.size D.size)).run Tryd.prog W2 = .ok (.string D) W2 := by
      have h := run_str (some ⟨g, 0, none⟩) ds D.size W2 HROW.out.txt
      rw [show ds.length = D.size from HM.out.trans HDZ.out.symm, ← HDE.out] at h
      exact h
    have d0 := Joins.cell_of_block HFB.out 0
    have d1 := Joins.cell_of_block HFB.out 1
    have d2 := Joins.cell_of_block HFB.out 2
    have d3 := Joins.cell_of_block HFB.out 3
    have d4 := Joins.cell_of_block HFB.out 4
    have d5 := Joins.cell_of_block HFB.out 5
    have d6 := Joins.cell_of_block HFB.out 6
    have d7 := Joins.cell_of_block HFB.out 7
    have d8 := Joins.cell_of_block HFB.out 8
    have d9 := Joins.cell_of_block HFB.out 9
    have d10 := Joins.cell_of_block HFB.out 10
    have d11 := Joins.cell_of_block HFB.out 11
    clear hW2 hF HB12
    have HFLT : Hid (F < W2.heap.size) := Lib.hid (Array.getElem?_eq_some_iff.1 HFB.out).1
    go_upto_region 16 with fail
    have hk2 : Int.tmod (k : Int) 2 = ((k % 2 : Nat) : Int) := rfl
    obtain ⟨kk, hkk⟩ : ∃ kk, kk = k % 2 := ⟨_, rfl⟩
    rw [← hkk] at hk2
    have hk01 : kk = 0 ∨ kk = 1 := by omega
    clear hkk
    rcases hk01 with rfl | rfl
    · obtain ⟨T2, hT2⟩ : ∃ T, (⟨#[43]⟩ : ByteArray) ++ S = T := ⟨_, rfl⟩
      obtain ⟨P2, hP2⟩ : ∃ T, (⟨#[83]⟩ : ByteArray) ++ P = T := ⟨_, rfl⟩
      have hl2 : T2.data.toList = [43] ++ restT wh fr := by rw [← hT2]; have h := HS.out; rw [List.nil_append] at h; simp [h]
      have hp2 : strB (picB [43] wh fr) = P2 := by rw [pic_sign, HP.out, hP2]
      have HL2 := Lib.hid (lit_parts T2 [43] wh fr (.inr (.inl rfl)) HWD.out HFD.out (by rw [← HDS.out]; exact HNE.out) HWL.out HFL.out hl2 P2 hp2 D.size B.size (by rw [← HDS.out]; exact HM.out.trans HDZ.out.symm) HBZ.out.symm true rfl (overB plusT ds) (by rw [← HDS.out]; rfl))
      have hs19 := HSZ.out
      have hp19 := HPZ.out
      clear hl2 hp2
      go_upto_region 20 with (first
        | (go_at_call 17; refine (HL2.out.out _ (HMX.out.below HBN.out.bel)).mono ?_; rintro e w6 ⟨g2, rfl, hrow⟩; dsimp only [fdV]; have HROW2 := Lib.hid hrow; have hb := hrow.bel; clear hrow; have HFB6 := Lib.hid ((hb.block F HFLT.out).trans HFB.out); have HBE6 := Lib.hid (HBN.out.bel.trans (hb.mono HBN.out.bel.size)); clear hb)
        | fail)
      obtain ⟨F2, hF2⟩ : ∃ F, F = w6.heap.size := ⟨_, rfl⟩
      obtain ⟨W3, hW3⟩ : ∃ W, W = w6.alloc (.cells #[.int .u8 4, .int .u8 0, .string P2, .int .i64 D.size, .int .i64 B.size, .bool true, .bool false, .bool false, .bool false, .bool false, .int .i64 D.size, .slice (some ⟨g2, 0, none⟩) D.size D.size] 43) := ⟨_, rfl⟩
      rw [← hW3, ← hF2]
      have HB13 : Hid (Below w6.heap.size w6 W3) := Lib.hid (by rw [hW3]; exact (Below.refl _ w6).alloc (Nat.le_refl _) _)
      have HFB3 : Hid (W3.heap[F]? = some (.cells #[.int .u8 4, .int .u8 0, .string P, .int .i64 D.size, .int .i64 B.size, .bool false, .bool false, .bool false, .bool false, .bool false, .int .i64 D.size, .slice (some ⟨g, 0, none⟩) D.size D.size] 43 (0, 0))) := Lib.hid ((HB13.out.block F (Array.getElem?_eq_some_iff.1 HFB6.out).1).trans HFB6.out)
      have HGB3 : Hid (W3.heap[F2]? = some (.cells #[.int .u8 4, .int .u8 0, .string P2, .int .i64 D.size, .int .i64 B.size, .bool true, .bool false, .bool false, .bool false, .bool false, .int .i64 D.size, .slice (some ⟨g2, 0, none⟩) D.size D.size] 43 (0, 0))) := Lib.hid (by rw [hW3, hF2]; exact (MapKept.heap_alloc w6 _).1)
      have HBE3 : Hid (Below w.heap.size w W3) := Lib.hid (HBE6.out.trans (HB13.out.mono HBE6.out.size))
      have HROW3 := Lib.hid (HROW2.out.keep HB13.out)
      obtain ⟨SB, hSB⟩ : ∃ SB, SB = strB (overB plusT ds) := ⟨_, rfl⟩
      have hcv3 : ∀ nq, (convert 41 9 (.slice (some ⟨g2, 0, none⟩) D.size D.size)).run Tryd.prog (W3.drewN nq) = .ok (.string SB) (W3.drewN nq) := by
        intro nq
        have h := run_str (some ⟨g2, 0, none⟩) (overB plusT ds) D.size (W3.drewN nq) (HROW3.out.txt.below (drewN_below W3 nq))
        have e : (overB plusT ds).length = D.size := by unfold overB; rw [List.length_set]; exact HM.out.trans HDZ.out.symm
        rw [e, ← hSB] at h
        exact h
      obtain ⟨d, hd⟩ : ∃ d, ds[m]? = some d := ⟨_, List.getElem?_eq_getElem (by rw [HM.out]; omega)⟩
      have hdd : digB d = true := List.all_eq_true.1 (show (wh ++ fr).all digB = true by rw [List.all_append, HWD.out, HFD.out]; rfl) d (by rw [← HDS.out]; exact List.mem_of_getElem? hd)
      have hd1 : 48 ≤ (d.toNat : Int) := by simp [digB] at hdd; omega
      have hd2 : (d.toNat : Int) ≤ 57 := by simp [digB] at hdd; omega
      obtain ⟨j, hj⟩ : ∃ j, j = d.toNat - 48 := ⟨_, rfl⟩
      have hj9 : (j : Int) ≤ 9 := by omega
      have hj0 : (0 : Int) ≤ (j : Int) := by omega
      have hjd : (d.toNat : Int) - 48 = (j : Int) := by omega
      have hmn : m < D.size := by omega
      have hix : D[m] = d := by
        have h := Lib.data_getElem? D m hmn
        rw [show D.data.toList = ds from by rw [HDE.out]; rfl, hd] at h
        injection h with h; exact h.symm
      have hov : D.extract 0 m ++ (⟨#[123, 65, 66, 67, 68, 69, 70, 71, 72, 73]⟩ : ByteArray).extract j (j + 1) = SB := by rw [hSB]; exact over_text plusT ds _ D m d j HDE.out rfl rfl HM.out hd hj (by omega)
      have hwr1 : IntKind.u8.wrap ((d.toNat : Int) - 48) = (j : Int) := by rw [hjd]; exact IntWalk.u8_in _ ⟨by omega, by omega⟩
      have hwr2 : IntKind.u8.wrap ((j : Int) + 1) = (j : Int) + 1 := IntWalk.u8_in _ ⟨by omega, by omega⟩
      have hjn : ((j : Int) + 1).toNat = j + 1 := by omega
      have hmt : ((m : Int)).toNat = m := by omega
      have d0 := Joins.cell_of_block HFB3.out 0
      have d1 := Joins.cell_of_block HFB3.out 1
      have d2 := Joins.cell_of_block HFB3.out 2
      have d3 := Joins.cell_of_block HFB3.out 3
      have d4 := Joins.cell_of_block HFB3.out 4
      have d5 := Joins.cell_of_block HFB3.out 5
      have d6 := Joins.cell_of_block HFB3.out 6
      have d7 := Joins.cell_of_block HFB3.out 7
      have d8 := Joins.cell_of_block HFB3.out 8
      have d9 := Joins.cell_of_block HFB3.out 9
      have d10 := Joins.cell_of_block HFB3.out 10
      have d11 := Joins.cell_of_block HFB3.out 11
      have f0 := Joins.cell_of_block HGB3.out 0
      have f1 := Joins.cell_of_block HGB3.out 1
      have f2 := Joins.cell_of_block HGB3.out 2
      have f3 := Joins.cell_of_block HGB3.out 3
      have f4 := Joins.cell_of_block HGB3.out 4
      have f5 := Joins.cell_of_block HGB3.out 5
      have f6 := Joins.cell_of_block HGB3.out 6
      have f7 := Joins.cell_of_block HGB3.out 7
      have f8 := Joins.cell_of_block HGB3.out 8
      have f9 := Joins.cell_of_block HGB3.out 9
      have f10 := Joins.cell_of_block HGB3.out 10
      have f11 := Joins.cell_of_block HGB3.out 11
      clear hW3 hF2 HB13 hd hdd hj hSB
      go_upto_region 21 with fail
      go_quiet (fail)
      obtain ⟨W4, hW4⟩ : ∃ W4, W4 = W3.drewN nq := ⟨_, rfl⟩
      rw [← hW4]
      have HFB4 : Hid (W4.heap[F]? = some (.cells #[.int .u8 4, .int .u8 0, .string P, .int .i64 D.size, .int .i64 B.size, .bool false, .bool false, .bool false, .bool false, .bool false, .int .i64 D.size, .slice (some ⟨g, 0, none⟩) D.size D.size] 43 (0, 0))) := Lib.hid (by rw [hW4]; exact HFB3.out)
      have HGB4 : Hid (W4.heap[F2]? = some (.cells #[.int .u8 4, .int .u8 0, .string P2, .int .i64 D.size, .int .i64 B.size, .bool true, .bool false, .bool false, .bool false, .bool false, .int .i64 D.size, .slice (some ⟨g2, 0, none⟩) D.size D.size] 43 (0, 0))) := Lib.hid (by rw [hW4]; exact HGB3.out)
      have HBE4 : Hid (Below w.heap.size w W4) := Lib.hid (by rw [hW4]; exact HBE3.out.trans ⟨rfl, rfl, rfl, Nat.le_refl _, fun _ _ => rfl⟩)
      have d0 := Joins.cell_of_block HFB4.out 0
      have d1 := Joins.cell_of_block HFB4.out 1
      have d2 := Joins.cell_of_block HFB4.out 2
      have d3 := Joins.cell_of_block HFB4.out 3
      have d4 := Joins.cell_of_block HFB4.out 4
      have d5 := Joins.cell_of_block HFB4.out 5
      have d6 := Joins.cell_of_block HFB4.out 6
      have d7 := Joins.cell_of_block HFB4.out 7
      have d8 := Joins.cell_of_block HFB4.out 8
      have d9 := Joins.cell_of_block HFB4.out 9
      have d10 := Joins.cell_of_block HFB4.out 10
      have d11 := Joins.cell_of_block HFB4.out 11
      have f0 := Joins.cell_of_block HGB4.out 0
      have f1 := Joins.cell_of_block HGB4.out 1
      have f2 := Joins.cell_of_block HGB4.out 2
      have f3 := Joins.cell_of_block HGB4.out 3
      have f4 := Joins.cell_of_block HGB4.out 4
      have f5 := Joins.cell_of_block HGB4.out 5
      have f6 := Joins.cell_of_block HGB4.out 6
      have f7 := Joins.cell_of_block HGB4.out 7
      have f8 := Joins.cell_of_block HGB4.out 8
      have f9 := Joins.cell_of_block HGB4.out 9
      have f10 := Joins.cell_of_block HGB4.out 10
      have f11 := Joins.cell_of_block HGB4.out 11
      clear hW4 hcv3 hwr1 hwr2
      go_upto_region 26 with fail
      obtain ⟨F5, hF5⟩ : ∃ F, F = W4.heap.size := ⟨_, rfl⟩
      obtain ⟨W5, hW5⟩ : ∃ W, W = W4.alloc (.cells #[.int .u8 4, .int .u8 0, .string P2, .int .i64 D.size, .int .i64 B.size, .bool true, .bool false, .bool false, .bool false, .bool false, .int .i64 D.size] 40) := ⟨_, rfl⟩
      rw [← hW5, ← hF5]
      have HB45 : Hid (Below W4.heap.size W4 W5) := Lib.hid (by rw [hW5]; exact (Below.refl _ W4).alloc (Nat.le_refl _) _)
      have HGB5 := Lib.hid ((HB45.out.block F2 (Array.getElem?_eq_some_iff.1 HGB4.out).1).trans HGB4.out)
      have HSH5 : Hid (W5.heap[F5]? = some (.cells #[.int .u8 4, .int .u8 0, .string P2, .int .i64 D.size, .int .i64 B.size, .bool true, .bool false, .bool false, .bool false, .bool false, .int .i64 D.size] 40 (0, 0))) := Lib.hid (by rw [hW5, hF5]; exact (MapKept.heap_alloc W4 _).1)
      have HBE5 := Lib.hid (HBE4.out.trans (HB45.out.mono HBE4.out.size))
      have f0 := Joins.cell_of_block HGB5.out 0
      have f1 := Joins.cell_of_block HGB5.out 1
      have f2 := Joins.cell_of_block HGB5.out 2
      have f3 := Joins.cell_of_block HGB5.out 3
      have f4 := Joins.cell_of_block HGB5.out 4
      have f5 := Joins.cell_of_block HGB5.out 5
      have f6 := Joins.cell_of_block HGB5.out 6
      have f7 := Joins.cell_of_block HGB5.out 7
      have f8 := Joins.cell_of_block HGB5.out 8
      have f9 := Joins.cell_of_block HGB5.out 9
      have f10 := Joins.cell_of_block HGB5.out 10
      have f11 := Joins.cell_of_block HGB5.out 11
      have h0 := Joins.cell_of_block HSH5.out 0
      have h1 := Joins.cell_of_block HSH5.out 1
      have h2 := Joins.cell_of_block HSH5.out 2
      have h3 := Joins.cell_of_block HSH5.out 3
      have h4 := Joins.cell_of_block HSH5.out 4
      have h5 := Joins.cell_of_block HSH5.out 5
      have h6 := Joins.cell_of_block HSH5.out 6
      have h7 := Joins.cell_of_block HSH5.out 7
      have h8 := Joins.cell_of_block HSH5.out 8
      have h9 := Joins.cell_of_block HSH5.out 9
      have h10 := Joins.cell_of_block HSH5.out 10
      clear hW5 hF5 HB45
      go_wp2_with (go_at_call 9; refine (c_lives _ (HMX.out.below HBE5.out) (HTX.out.below HBE5.out)).mono ?_; rintro e w9 ⟨rfl, hb9⟩; have HB9 := Lib.hid (HBE5.out.trans (hb9.mono HBE5.out.size)); clear hb9)
      go_ret
      exact ⟨rfl, HB9.out⟩
    · obtain ⟨T2, hT2⟩ : ∃ T, (⟨#[45]⟩ : ByteArray) ++ S = T := ⟨_, rfl⟩
      obtain ⟨P2, hP2⟩ : ∃ T, (⟨#[83]⟩ : ByteArray) ++ P = T := ⟨_, rfl⟩
      have hl2 : T2.data.toList = [45] ++ restT wh fr := by rw [← hT2]; have h := HS.out; rw [List.nil_append] at h; simp [h]
      have hp2 : strB (picB [45] wh fr) = P2 := by rw [pic_sign, HP.out, hP2]
      have HL2 := Lib.hid (lit_parts T2 [45] wh fr (.inr (.inr rfl)) HWD.out HFD.out (by rw [← HDS.out]; exact HNE.out) HWL.out HFL.out hl2 P2 hp2 D.size B.size (by rw [← HDS.out]; exact HM.out.trans HDZ.out.symm) HBZ.out.symm true rfl (overB minusT ds) (by rw [← HDS.out]; rfl))
      have hs19 := HSZ.out
      have hp19 := HPZ.out
      clear hl2 hp2
      go_upto_region 20 with (first
        | (go_at_call 17; refine (HL2.out.out _ (HMX.out.below HBN.out.bel)).mono ?_; rintro e w6 ⟨g2, rfl, hrow⟩; dsimp only [fdV]; have HROW2 := Lib.hid hrow; have hb := hrow.bel; clear hrow; have HFB6 := Lib.hid ((hb.block F HFLT.out).trans HFB.out); have HBE6 := Lib.hid (HBN.out.bel.trans (hb.mono HBN.out.bel.size)); clear hb)
        | fail)
      obtain ⟨F2, hF2⟩ : ∃ F, F = w6.heap.size := ⟨_, rfl⟩
      obtain ⟨W3, hW3⟩ : ∃ W, W = w6.alloc (.cells #[.int .u8 4, .int .u8 0, .string P2, .int .i64 D.size, .int .i64 B.size, .bool true, .bool false, .bool false, .bool false, .bool false, .int .i64 D.size, .slice (some ⟨g2, 0, none⟩) D.size D.size] 43) := ⟨_, rfl⟩
      rw [← hW3, ← hF2]
      have HB13 : Hid (Below w6.heap.size w6 W3) := Lib.hid (by rw [hW3]; exact (Below.refl _ w6).alloc (Nat.le_refl _) _)
      have HFB3 : Hid (W3.heap[F]? = some (.cells #[.int .u8 4, .int .u8 0, .string P, .int .i64 D.size, .int .i64 B.size, .bool false, .bool false, .bool false, .bool false, .bool false, .int .i64 D.size, .slice (some ⟨g, 0, none⟩) D.size D.size] 43 (0, 0))) := Lib.hid ((HB13.out.block F (Array.getElem?_eq_some_iff.1 HFB6.out).1).trans HFB6.out)
      have HGB3 : Hid (W3.heap[F2]? = some (.cells #[.int .u8 4, .int .u8 0, .string P2, .int .i64 D.size, .int .i64 B.size, .bool true, .bool false, .bool false, .bool false, .bool false, .int .i64 D.size, .slice (some ⟨g2, 0, none⟩) D.size D.size] 43 (0, 0))) := Lib.hid (by rw [hW3, hF2]; exact (MapKept.heap_alloc w6 _).1)
      have HBE3 : Hid (Below w.heap.size w W3) := Lib.hid (HBE6.out.trans (HB13.out.mono HBE6.out.size))
      have HROW3 := Lib.hid (HROW2.out.keep HB13.out)
      obtain ⟨SB, hSB⟩ : ∃ SB, SB = strB (overB minusT ds) := ⟨_, rfl⟩
      have hcv3 : ∀ nq, (convert 41 9 (.slice (some ⟨g2, 0, none⟩) D.size D.size)).run Tryd.prog (W3.drewN nq) = .ok (.string SB) (W3.drewN nq) := by
        intro nq
        have h := run_str (some ⟨g2, 0, none⟩) (overB minusT ds) D.size (W3.drewN nq) (HROW3.out.txt.below (drewN_below W3 nq))
        have e : (overB minusT ds).length = D.size := by unfold overB; rw [List.length_set]; exact HM.out.trans HDZ.out.symm
        rw [e, ← hSB] at h
        exact h
      obtain ⟨d, hd⟩ : ∃ d, ds[m]? = some d := ⟨_, List.getElem?_eq_getElem (by rw [HM.out]; omega)⟩
      have hdd : digB d = true := List.all_eq_true.1 (show (wh ++ fr).all digB = true by rw [List.all_append, HWD.out, HFD.out]; rfl) d (by rw [← HDS.out]; exact List.mem_of_getElem? hd)
      have hd1 : 48 ≤ (d.toNat : Int) := by simp [digB] at hdd; omega
      have hd2 : (d.toNat : Int) ≤ 57 := by simp [digB] at hdd; omega
      obtain ⟨j, hj⟩ : ∃ j, j = d.toNat - 48 := ⟨_, rfl⟩
      have hj9 : (j : Int) ≤ 9 := by omega
      have hj0 : (0 : Int) ≤ (j : Int) := by omega
      have hjd : (d.toNat : Int) - 48 = (j : Int) := by omega
      have hmn : m < D.size := by omega
      have hix : D[m] = d := by
        have h := Lib.data_getElem? D m hmn
        rw [show D.data.toList = ds from by rw [HDE.out]; rfl, hd] at h
        injection h with h; exact h.symm
      have hov : D.extract 0 m ++ (⟨#[125, 74, 75, 76, 77, 78, 79, 80, 81, 82]⟩ : ByteArray).extract j (j + 1) = SB := by rw [hSB]; exact over_text minusT ds _ D m d j HDE.out rfl rfl HM.out hd hj (by omega)
      have hwr1 : IntKind.u8.wrap ((d.toNat : Int) - 48) = (j : Int) := by rw [hjd]; exact IntWalk.u8_in _ ⟨by omega, by omega⟩
      have hwr2 : IntKind.u8.wrap ((j : Int) + 1) = (j : Int) + 1 := IntWalk.u8_in _ ⟨by omega, by omega⟩
      have hjn : ((j : Int) + 1).toNat = j + 1 := by omega
      have hmt : ((m : Int)).toNat = m := by omega
      have d0 := Joins.cell_of_block HFB3.out 0
      have d1 := Joins.cell_of_block HFB3.out 1
      have d2 := Joins.cell_of_block HFB3.out 2
      have d3 := Joins.cell_of_block HFB3.out 3
      have d4 := Joins.cell_of_block HFB3.out 4
      have d5 := Joins.cell_of_block HFB3.out 5
      have d6 := Joins.cell_of_block HFB3.out 6
      have d7 := Joins.cell_of_block HFB3.out 7
      have d8 := Joins.cell_of_block HFB3.out 8
      have d9 := Joins.cell_of_block HFB3.out 9
      have d10 := Joins.cell_of_block HFB3.out 10
      have d11 := Joins.cell_of_block HFB3.out 11
      have f0 := Joins.cell_of_block HGB3.out 0
      have f1 := Joins.cell_of_block HGB3.out 1
      have f2 := Joins.cell_of_block HGB3.out 2
      have f3 := Joins.cell_of_block HGB3.out 3
      have f4 := Joins.cell_of_block HGB3.out 4
      have f5 := Joins.cell_of_block HGB3.out 5
      have f6 := Joins.cell_of_block HGB3.out 6
      have f7 := Joins.cell_of_block HGB3.out 7
      have f8 := Joins.cell_of_block HGB3.out 8
      have f9 := Joins.cell_of_block HGB3.out 9
      have f10 := Joins.cell_of_block HGB3.out 10
      have f11 := Joins.cell_of_block HGB3.out 11
      clear hW3 hF2 HB13 hd hdd hj hSB
      go_upto_region 21 with fail
      go_quiet (fail)
      obtain ⟨W4, hW4⟩ : ∃ W4, W4 = W3.drewN nq := ⟨_, rfl⟩
      rw [← hW4]
      have HFB4 : Hid (W4.heap[F]? = some (.cells #[.int .u8 4, .int .u8 0, .string P, .int .i64 D.size, .int .i64 B.size, .bool false, .bool false, .bool false, .bool false, .bool false, .int .i64 D.size, .slice (some ⟨g, 0, none⟩) D.size D.size] 43 (0, 0))) := Lib.hid (by rw [hW4]; exact HFB3.out)
      have HGB4 : Hid (W4.heap[F2]? = some (.cells #[.int .u8 4, .int .u8 0, .string P2, .int .i64 D.size, .int .i64 B.size, .bool true, .bool false, .bool false, .bool false, .bool false, .int .i64 D.size, .slice (some ⟨g2, 0, none⟩) D.size D.size] 43 (0, 0))) := Lib.hid (by rw [hW4]; exact HGB3.out)
      have HBE4 : Hid (Below w.heap.size w W4) := Lib.hid (by rw [hW4]; exact HBE3.out.trans ⟨rfl, rfl, rfl, Nat.le_refl _, fun _ _ => rfl⟩)
      have d0 := Joins.cell_of_block HFB4.out 0
      have d1 := Joins.cell_of_block HFB4.out 1
      have d2 := Joins.cell_of_block HFB4.out 2
      have d3 := Joins.cell_of_block HFB4.out 3
      have d4 := Joins.cell_of_block HFB4.out 4
      have d5 := Joins.cell_of_block HFB4.out 5
      have d6 := Joins.cell_of_block HFB4.out 6
      have d7 := Joins.cell_of_block HFB4.out 7
      have d8 := Joins.cell_of_block HFB4.out 8
      have d9 := Joins.cell_of_block HFB4.out 9
      have d10 := Joins.cell_of_block HFB4.out 10
      have d11 := Joins.cell_of_block HFB4.out 11
      have f0 := Joins.cell_of_block HGB4.out 0
      have f1 := Joins.cell_of_block HGB4.out 1
      have f2 := Joins.cell_of_block HGB4.out 2
      have f3 := Joins.cell_of_block HGB4.out 3
      have f4 := Joins.cell_of_block HGB4.out 4
      have f5 := Joins.cell_of_block HGB4.out 5
      have f6 := Joins.cell_of_block HGB4.out 6
      have f7 := Joins.cell_of_block HGB4.out 7
      have f8 := Joins.cell_of_block HGB4.out 8
      have f9 := Joins.cell_of_block HGB4.out 9
      have f10 := Joins.cell_of_block HGB4.out 10
      have f11 := Joins.cell_of_block HGB4.out 11
      clear hW4 hcv3 hwr1 hwr2
      go_upto_region 26 with fail
      obtain ⟨F5, hF5⟩ : ∃ F, F = W4.heap.size := ⟨_, rfl⟩
      obtain ⟨W5, hW5⟩ : ∃ W, W = W4.alloc (.cells #[.int .u8 4, .int .u8 0, .string P2, .int .i64 D.size, .int .i64 B.size, .bool true, .bool false, .bool false, .bool false, .bool false, .int .i64 D.size] 40) := ⟨_, rfl⟩
      rw [← hW5, ← hF5]
      have HB45 : Hid (Below W4.heap.size W4 W5) := Lib.hid (by rw [hW5]; exact (Below.refl _ W4).alloc (Nat.le_refl _) _)
      have HGB5 := Lib.hid ((HB45.out.block F2 (Array.getElem?_eq_some_iff.1 HGB4.out).1).trans HGB4.out)
      have HSH5 : Hid (W5.heap[F5]? = some (.cells #[.int .u8 4, .int .u8 0, .string P2, .int .i64 D.size, .int .i64 B.size, .bool true, .bool false, .bool false, .bool false, .bool false, .int .i64 D.size] 40 (0, 0))) := Lib.hid (by rw [hW5, hF5]; exact (MapKept.heap_alloc W4 _).1)
      have HBE5 := Lib.hid (HBE4.out.trans (HB45.out.mono HBE4.out.size))
      have f0 := Joins.cell_of_block HGB5.out 0
      have f1 := Joins.cell_of_block HGB5.out 1
      have f2 := Joins.cell_of_block HGB5.out 2
      have f3 := Joins.cell_of_block HGB5.out 3
      have f4 := Joins.cell_of_block HGB5.out 4
      have f5 := Joins.cell_of_block HGB5.out 5
      have f6 := Joins.cell_of_block HGB5.out 6
      have f7 := Joins.cell_of_block HGB5.out 7
      have f8 := Joins.cell_of_block HGB5.out 8
      have f9 := Joins.cell_of_block HGB5.out 9
      have f10 := Joins.cell_of_block HGB5.out 10
      have f11 := Joins.cell_of_block HGB5.out 11
      have h0 := Joins.cell_of_block HSH5.out 0
      have h1 := Joins.cell_of_block HSH5.out 1
      have h2 := Joins.cell_of_block HSH5.out 2
      have h3 := Joins.cell_of_block HSH5.out 3
      have h4 := Joins.cell_of_block HSH5.out 4
      have h5 := Joins.cell_of_block HSH5.out 5
      have h6 := Joins.cell_of_block HSH5.out 6
      have h7 := Joins.cell_of_block HSH5.out 7
      have h8 := Joins.cell_of_block HSH5.out 8
      have h9 := Joins.cell_of_block HSH5.out 9
      have h10 := Joins.cell_of_block HSH5.out 10
      clear hW5 hF5 HB45
      go_wp2_with (go_at_call 9; refine (c_lives _ (HMX.out.below HBE5.out) (HTX.out.below HBE5.out)).mono ?_; rintro e w9 ⟨rfl, hb9⟩; have HB9 := Lib.hid (HBE5.out.trans (hb9.mono HBE5.out.size)); clear hb9)
      go_ret
      exact ⟨rfl, HB9.out⟩
  · have hBe : (B.toList == []) = false := by rw [HB.out, strB_toList]; simpa using hfr
    obtain ⟨R2, hR2⟩ : ∃ R, R = strB (List.replicate B.size 57) := ⟨_, rfl⟩
    have HR2 : Hid (RepOK B.size R2) := Lib.hid ⟨fun W => by rw [hR2]; exact c_rep 57 B.size (by omega) W⟩
    have hR2z : R2.size ≤ 6 := by rw [hR2, strB_size, List.length_replicate]; exact hB6
    obtain ⟨S, hSA⟩ : ∃ S, A ++ ⟨#[46]⟩ ++ B = S := ⟨_, rfl⟩
    obtain ⟨P, hPP⟩ : ∃ P, R1 ++ ⟨#[86]⟩ ++ R2 = P := ⟨_, rfl⟩
    have hP : strB (picB [] wh fr) = P := by
      rw [← hPP, HRE.out, hR2, show (⟨#[86]⟩ : ByteArray) = strB [86] from rfl, strB_app, strB_app, HAZ.out, HBZ.out]
      unfold picB
      rw [if_neg hfr, if_pos rfl]
      congr 1
      simp
    have hSe : S = strB (restT wh fr) := by
      rw [← hSA, HA.out, HB.out, show (⟨#[46]⟩ : ByteArray) = strB [46] from rfl, strB_app, strB_app]
      unfold restT
      rw [if_neg hfr]
      congr 1
      simp
    have hS : S.data.toList = [] ++ restT wh fr := by rw [hSe]; rfl
    have HSZ : Hid (S.size ≤ 19) := Lib.hid (by rw [← hSA, ByteArray.size_append, ByteArray.size_append]; have : (⟨#[46]⟩ : ByteArray).size = 1 := rfl; omega)
    have HPZ : Hid (P.size ≤ 19) := Lib.hid (by rw [← hPP, ByteArray.size_append, ByteArray.size_append]; have : (⟨#[86]⟩ : ByteArray).size = 1 := rfl; omega)
    have HFR := Lib.hid hfr
    clear hfr hSe hR2
    have HL1 := Lib.hid (lit_parts S [] wh fr (.inl rfl) HWD.out HFD.out (by rw [← HDS.out]; exact HNE.out) HWL.out HFL.out hS P hP D.size B.size (by rw [← HDS.out]; exact HM.out.trans HDZ.out.symm) HBZ.out.symm false rfl ds (by rw [← HDS.out]; rfl))
    have HP := Lib.hid hP
    have HS := Lib.hid hS
    clear hP hS
    go_upto_region 11 with (first
      | (go_at_call 16; refine ((by first | with_reducible exact HR2.out | with_reducible exact HR1.out : RepOK _ _).out _).mono ?_; rintro e w4 ⟨rfl, hb⟩; have HBN := Lib.hid (HBN.out.step hb); obtain ⟨b0, b1, b2⟩ := HBN.out.cells; clear hb)
      | (go_at_call 17; refine (HL1.out.out _ (HMX.out.below HBN.out.bel)).mono ?_; rintro e w5 ⟨g, rfl, hrow⟩; dsimp only [fdV]; have HROW := Lib.hid hrow; have hb := hrow.bel; clear hrow; have HBN := Lib.hid (HBN.out.step hb); obtain ⟨b0, b1, b2⟩ := HBN.out.cells; clear hb)
      | fail)
    obtain ⟨F, hF⟩ : ∃ F, F = w5.heap.size := ⟨_, rfl⟩
    obtain ⟨W2, hW2⟩ : ∃ W2, W2 = w5.alloc (.cells #[.int .u8 4, .int .u8 0, .string P, .int .i64 D.size, .int .i64 B.size, .bool false, .bool false, .bool false, .bool false, .bool false, .int .i64 D.size, .slice (some ⟨g, 0, none⟩) D.size D.size] 43) := ⟨_, rfl⟩
    rw [← hW2, ← hF]
    have HB12 : Hid (Below w5.heap.size w5 W2) := Lib.hid (by rw [hW2]; exact (Below.refl _ w5).alloc (Nat.le_refl _) _)
    have HFB : Hid (W2.heap[F]? = some (.cells #[.int .u8 4, .int .u8 0, .string P, .int .i64 D.size, .int .i64 B.size, .bool false, .bool false, .bool false, .bool false, .bool false, .int .i64 D.size, .slice (some ⟨g, 0, none⟩) D.size D.size] 43 (0, 0))) := Lib.hid (by rw [hW2, hF]; exact (MapKept.heap_alloc w5 _).1)
    have HBN := Lib.hid (HBN.out.step HB12.out)
    obtain ⟨b0, b1, b2⟩ := HBN.out.cells
    have HROW := Lib.hid (HROW.out.keep HB12.out)
    have hcv : (convert 41 9 (.slice (some ⟨g, 0, none⟩) D.size D.size)).run Tryd.prog W2 = .ok (.string D) W2 := by
      have h := run_str (some ⟨g, 0, none⟩) ds D.size W2 HROW.out.txt
      rw [show ds.length = D.size from HM.out.trans HDZ.out.symm, ← HDE.out] at h
      exact h
    have d0 := Joins.cell_of_block HFB.out 0
    have d1 := Joins.cell_of_block HFB.out 1
    have d2 := Joins.cell_of_block HFB.out 2
    have d3 := Joins.cell_of_block HFB.out 3
    have d4 := Joins.cell_of_block HFB.out 4
    have d5 := Joins.cell_of_block HFB.out 5
    have d6 := Joins.cell_of_block HFB.out 6
    have d7 := Joins.cell_of_block HFB.out 7
    have d8 := Joins.cell_of_block HFB.out 8
    have d9 := Joins.cell_of_block HFB.out 9
    have d10 := Joins.cell_of_block HFB.out 10
    have d11 := Joins.cell_of_block HFB.out 11
    clear hW2 hF HB12
    have HFLT : Hid (F < W2.heap.size) := Lib.hid (Array.getElem?_eq_some_iff.1 HFB.out).1
    go_upto_region 16 with fail
    have hk2 : Int.tmod (k : Int) 2 = ((k % 2 : Nat) : Int) := rfl
    obtain ⟨kk, hkk⟩ : ∃ kk, kk = k % 2 := ⟨_, rfl⟩
    rw [← hkk] at hk2
    have hk01 : kk = 0 ∨ kk = 1 := by omega
    clear hkk
    rcases hk01 with rfl | rfl
    · obtain ⟨T2, hT2⟩ : ∃ T, (⟨#[43]⟩ : ByteArray) ++ S = T := ⟨_, rfl⟩
      obtain ⟨P2, hP2⟩ : ∃ T, (⟨#[83]⟩ : ByteArray) ++ P = T := ⟨_, rfl⟩
      have hl2 : T2.data.toList = [43] ++ restT wh fr := by rw [← hT2]; have h := HS.out; rw [List.nil_append] at h; simp [h]
      have hp2 : strB (picB [43] wh fr) = P2 := by rw [pic_sign, HP.out, hP2]
      have HL2 := Lib.hid (lit_parts T2 [43] wh fr (.inr (.inl rfl)) HWD.out HFD.out (by rw [← HDS.out]; exact HNE.out) HWL.out HFL.out hl2 P2 hp2 D.size B.size (by rw [← HDS.out]; exact HM.out.trans HDZ.out.symm) HBZ.out.symm true rfl (overB plusT ds) (by rw [← HDS.out]; rfl))
      have hs19 := HSZ.out
      have hp19 := HPZ.out
      clear hl2 hp2
      go_upto_region 20 with (first
        | (go_at_call 17; refine (HL2.out.out _ (HMX.out.below HBN.out.bel)).mono ?_; rintro e w6 ⟨g2, rfl, hrow⟩; dsimp only [fdV]; have HROW2 := Lib.hid hrow; have hb := hrow.bel; clear hrow; have HFB6 := Lib.hid ((hb.block F HFLT.out).trans HFB.out); have HBE6 := Lib.hid (HBN.out.bel.trans (hb.mono HBN.out.bel.size)); clear hb)
        | fail)
      obtain ⟨F2, hF2⟩ : ∃ F, F = w6.heap.size := ⟨_, rfl⟩
      obtain ⟨W3, hW3⟩ : ∃ W, W = w6.alloc (.cells #[.int .u8 4, .int .u8 0, .string P2, .int .i64 D.size, .int .i64 B.size, .bool true, .bool false, .bool false, .bool false, .bool false, .int .i64 D.size, .slice (some ⟨g2, 0, none⟩) D.size D.size] 43) := ⟨_, rfl⟩
      rw [← hW3, ← hF2]
      have HB13 : Hid (Below w6.heap.size w6 W3) := Lib.hid (by rw [hW3]; exact (Below.refl _ w6).alloc (Nat.le_refl _) _)
      have HFB3 : Hid (W3.heap[F]? = some (.cells #[.int .u8 4, .int .u8 0, .string P, .int .i64 D.size, .int .i64 B.size, .bool false, .bool false, .bool false, .bool false, .bool false, .int .i64 D.size, .slice (some ⟨g, 0, none⟩) D.size D.size] 43 (0, 0))) := Lib.hid ((HB13.out.block F (Array.getElem?_eq_some_iff.1 HFB6.out).1).trans HFB6.out)
      have HGB3 : Hid (W3.heap[F2]? = some (.cells #[.int .u8 4, .int .u8 0, .string P2, .int .i64 D.size, .int .i64 B.size, .bool true, .bool false, .bool false, .bool false, .bool false, .int .i64 D.size, .slice (some ⟨g2, 0, none⟩) D.size D.size] 43 (0, 0))) := Lib.hid (by rw [hW3, hF2]; exact (MapKept.heap_alloc w6 _).1)
      have HBE3 : Hid (Below w.heap.size w W3) := Lib.hid (HBE6.out.trans (HB13.out.mono HBE6.out.size))
      have HROW3 := Lib.hid (HROW2.out.keep HB13.out)
      obtain ⟨SB, hSB⟩ : ∃ SB, SB = strB (overB plusT ds) := ⟨_, rfl⟩
      have hcv3 : ∀ nq, (convert 41 9 (.slice (some ⟨g2, 0, none⟩) D.size D.size)).run Tryd.prog (W3.drewN nq) = .ok (.string SB) (W3.drewN nq) := by
        intro nq
        have h := run_str (some ⟨g2, 0, none⟩) (overB plusT ds) D.size (W3.drewN nq) (HROW3.out.txt.below (drewN_below W3 nq))
        have e : (overB plusT ds).length = D.size := by unfold overB; rw [List.length_set]; exact HM.out.trans HDZ.out.symm
        rw [e, ← hSB] at h
        exact h
      obtain ⟨d, hd⟩ : ∃ d, ds[m]? = some d := ⟨_, List.getElem?_eq_getElem (by rw [HM.out]; omega)⟩
      have hdd : digB d = true := List.all_eq_true.1 (show (wh ++ fr).all digB = true by rw [List.all_append, HWD.out, HFD.out]; rfl) d (by rw [← HDS.out]; exact List.mem_of_getElem? hd)
      have hd1 : 48 ≤ (d.toNat : Int) := by simp [digB] at hdd; omega
      have hd2 : (d.toNat : Int) ≤ 57 := by simp [digB] at hdd; omega
      obtain ⟨j, hj⟩ : ∃ j, j = d.toNat - 48 := ⟨_, rfl⟩
      have hj9 : (j : Int) ≤ 9 := by omega
      have hj0 : (0 : Int) ≤ (j : Int) := by omega
      have hjd : (d.toNat : Int) - 48 = (j : Int) := by omega
      have hmn : m < D.size := by omega
      have hix : D[m] = d := by
        have h := Lib.data_getElem? D m hmn
        rw [show D.data.toList = ds from by rw [HDE.out]; rfl, hd] at h
        injection h with h; exact h.symm
      have hov : D.extract 0 m ++ (⟨#[123, 65, 66, 67, 68, 69, 70, 71, 72, 73]⟩ : ByteArray).extract j (j + 1) = SB := by rw [hSB]; exact over_text plusT ds _ D m d j HDE.out rfl rfl HM.out hd hj (by omega)
      have hwr1 : IntKind.u8.wrap ((d.toNat : Int) - 48) = (j : Int) := by rw [hjd]; exact IntWalk.u8_in _ ⟨by omega, by omega⟩
      have hwr2 : IntKind.u8.wrap ((j : Int) + 1) = (j : Int) + 1 := IntWalk.u8_in _ ⟨by omega, by omega⟩
      have hjn : ((j : Int) + 1).toNat = j + 1 := by omega
      have hmt : ((m : Int)).toNat = m := by omega
      have d0 := Joins.cell_of_block HFB3.out 0
      have d1 := Joins.cell_of_block HFB3.out 1
      have d2 := Joins.cell_of_block HFB3.out 2
      have d3 := Joins.cell_of_block HFB3.out 3
      have d4 := Joins.cell_of_block HFB3.out 4
      have d5 := Joins.cell_of_block HFB3.out 5
      have d6 := Joins.cell_of_block HFB3.out 6
      have d7 := Joins.cell_of_block HFB3.out 7
      have d8 := Joins.cell_of_block HFB3.out 8
      have d9 := Joins.cell_of_block HFB3.out 9
      have d10 := Joins.cell_of_block HFB3.out 10
      have d11 := Joins.cell_of_block HFB3.out 11
      have f0 := Joins.cell_of_block HGB3.out 0
      have f1 := Joins.cell_of_block HGB3.out 1
      have f2 := Joins.cell_of_block HGB3.out 2
      have f3 := Joins.cell_of_block HGB3.out 3
      have f4 := Joins.cell_of_block HGB3.out 4
      have f5 := Joins.cell_of_block HGB3.out 5
      have f6 := Joins.cell_of_block HGB3.out 6
      have f7 := Joins.cell_of_block HGB3.out 7
      have f8 := Joins.cell_of_block HGB3.out 8
      have f9 := Joins.cell_of_block HGB3.out 9
      have f10 := Joins.cell_of_block HGB3.out 10
      have f11 := Joins.cell_of_block HGB3.out 11
      clear hW3 hF2 HB13 hd hdd hj hSB
      go_upto_region 21 with fail
      go_quiet (fail)
      obtain ⟨W4, hW4⟩ : ∃ W4, W4 = W3.drewN nq := ⟨_, rfl⟩
      rw [← hW4]
      have HFB4 : Hid (W4.heap[F]? = some (.cells #[.int .u8 4, .int .u8 0, .string P, .int .i64 D.size, .int .i64 B.size, .bool false, .bool false, .bool false, .bool false, .bool false, .int .i64 D.size, .slice (some ⟨g, 0, none⟩) D.size D.size] 43 (0, 0))) := Lib.hid (by rw [hW4]; exact HFB3.out)
      have HGB4 : Hid (W4.heap[F2]? = some (.cells #[.int .u8 4, .int .u8 0, .string P2, .int .i64 D.size, .int .i64 B.size, .bool true, .bool false, .bool false, .bool false, .bool false, .int .i64 D.size, .slice (some ⟨g2, 0, none⟩) D.size D.size] 43 (0, 0))) := Lib.hid (by rw [hW4]; exact HGB3.out)
      have HBE4 : Hid (Below w.heap.size w W4) := Lib.hid (by rw [hW4]; exact HBE3.out.trans ⟨rfl, rfl, rfl, Nat.le_refl _, fun _ _ => rfl⟩)
      have d0 := Joins.cell_of_block HFB4.out 0
      have d1 := Joins.cell_of_block HFB4.out 1
      have d2 := Joins.cell_of_block HFB4.out 2
      have d3 := Joins.cell_of_block HFB4.out 3
      have d4 := Joins.cell_of_block HFB4.out 4
      have d5 := Joins.cell_of_block HFB4.out 5
      have d6 := Joins.cell_of_block HFB4.out 6
      have d7 := Joins.cell_of_block HFB4.out 7
      have d8 := Joins.cell_of_block HFB4.out 8
      have d9 := Joins.cell_of_block HFB4.out 9
      have d10 := Joins.cell_of_block HFB4.out 10
      have d11 := Joins.cell_of_block HFB4.out 11
      have f0 := Joins.cell_of_block HGB4.out 0
      have f1 := Joins.cell_of_block HGB4.out 1
      have f2 := Joins.cell_of_block HGB4.out 2
      have f3 := Joins.cell_of_block HGB4.out 3
      have f4 := Joins.cell_of_block HGB4.out 4
      have f5 := Joins.cell_of_block HGB4.out 5
      have f6 := Joins.cell_of_block HGB4.out 6
      have f7 := Joins.cell_of_block HGB4.out 7
      have f8 := Joins.cell_of_block HGB4.out 8
      have f9 := Joins.cell_of_block HGB4.out 9
      have f10 := Joins.cell_of_block HGB4.out 10
      have f11 := Joins.cell_of_block HGB4.out 11
      clear hW4 hcv3 hwr1 hwr2
      go_upto_region 26 with fail
      obtain ⟨F5, hF5⟩ : ∃ F, F = W4.heap.size := ⟨_, rfl⟩
      obtain ⟨W5, hW5⟩ : ∃ W, W = W4.alloc (.cells #[.int .u8 4, .int .u8 0, .string P2, .int .i64 D.size, .int .i64 B.size, .bool true, .bool false, .bool false, .bool false, .bool false, .int .i64 D.size] 40) := ⟨_, rfl⟩
      rw [← hW5, ← hF5]
      have HB45 : Hid (Below W4.heap.size W4 W5) := Lib.hid (by rw [hW5]; exact (Below.refl _ W4).alloc (Nat.le_refl _) _)
      have HGB5 := Lib.hid ((HB45.out.block F2 (Array.getElem?_eq_some_iff.1 HGB4.out).1).trans HGB4.out)
      have HSH5 : Hid (W5.heap[F5]? = some (.cells #[.int .u8 4, .int .u8 0, .string P2, .int .i64 D.size, .int .i64 B.size, .bool true, .bool false, .bool false, .bool false, .bool false, .int .i64 D.size] 40 (0, 0))) := Lib.hid (by rw [hW5, hF5]; exact (MapKept.heap_alloc W4 _).1)
      have HBE5 := Lib.hid (HBE4.out.trans (HB45.out.mono HBE4.out.size))
      have f0 := Joins.cell_of_block HGB5.out 0
      have f1 := Joins.cell_of_block HGB5.out 1
      have f2 := Joins.cell_of_block HGB5.out 2
      have f3 := Joins.cell_of_block HGB5.out 3
      have f4 := Joins.cell_of_block HGB5.out 4
      have f5 := Joins.cell_of_block HGB5.out 5
      have f6 := Joins.cell_of_block HGB5.out 6
      have f7 := Joins.cell_of_block HGB5.out 7
      have f8 := Joins.cell_of_block HGB5.out 8
      have f9 := Joins.cell_of_block HGB5.out 9
      have f10 := Joins.cell_of_block HGB5.out 10
      have f11 := Joins.cell_of_block HGB5.out 11
      have h0 := Joins.cell_of_block HSH5.out 0
      have h1 := Joins.cell_of_block HSH5.out 1
      have h2 := Joins.cell_of_block HSH5.out 2
      have h3 := Joins.cell_of_block HSH5.out 3
      have h4 := Joins.cell_of_block HSH5.out 4
      have h5 := Joins.cell_of_block HSH5.out 5
      have h6 := Joins.cell_of_block HSH5.out 6
      have h7 := Joins.cell_of_block HSH5.out 7
      have h8 := Joins.cell_of_block HSH5.out 8
      have h9 := Joins.cell_of_block HSH5.out 9
      have h10 := Joins.cell_of_block HSH5.out 10
      clear hW5 hF5 HB45
      go_wp2_with (go_at_call 9; refine (c_lives _ (HMX.out.below HBE5.out) (HTX.out.below HBE5.out)).mono ?_; rintro e w9 ⟨rfl, hb9⟩; have HB9 := Lib.hid (HBE5.out.trans (hb9.mono HBE5.out.size)); clear hb9)
      go_ret
      exact ⟨rfl, HB9.out⟩
    · obtain ⟨T2, hT2⟩ : ∃ T, (⟨#[45]⟩ : ByteArray) ++ S = T := ⟨_, rfl⟩
      obtain ⟨P2, hP2⟩ : ∃ T, (⟨#[83]⟩ : ByteArray) ++ P = T := ⟨_, rfl⟩
      have hl2 : T2.data.toList = [45] ++ restT wh fr := by rw [← hT2]; have h := HS.out; rw [List.nil_append] at h; simp [h]
      have hp2 : strB (picB [45] wh fr) = P2 := by rw [pic_sign, HP.out, hP2]
      have HL2 := Lib.hid (lit_parts T2 [45] wh fr (.inr (.inr rfl)) HWD.out HFD.out (by rw [← HDS.out]; exact HNE.out) HWL.out HFL.out hl2 P2 hp2 D.size B.size (by rw [← HDS.out]; exact HM.out.trans HDZ.out.symm) HBZ.out.symm true rfl (overB minusT ds) (by rw [← HDS.out]; rfl))
      have hs19 := HSZ.out
      have hp19 := HPZ.out
      clear hl2 hp2
      go_upto_region 20 with (first
        | (go_at_call 17; refine (HL2.out.out _ (HMX.out.below HBN.out.bel)).mono ?_; rintro e w6 ⟨g2, rfl, hrow⟩; dsimp only [fdV]; have HROW2 := Lib.hid hrow; have hb := hrow.bel; clear hrow; have HFB6 := Lib.hid ((hb.block F HFLT.out).trans HFB.out); have HBE6 := Lib.hid (HBN.out.bel.trans (hb.mono HBN.out.bel.size)); clear hb)
        | fail)
      obtain ⟨F2, hF2⟩ : ∃ F, F = w6.heap.size := ⟨_, rfl⟩
      obtain ⟨W3, hW3⟩ : ∃ W, W = w6.alloc (.cells #[.int .u8 4, .int .u8 0, .string P2, .int .i64 D.size, .int .i64 B.size, .bool true, .bool false, .bool false, .bool false, .bool false, .int .i64 D.size, .slice (some ⟨g2, 0, none⟩) D.size D.size] 43) := ⟨_, rfl⟩
      rw [← hW3, ← hF2]
      have HB13 : Hid (Below w6.heap.size w6 W3) := Lib.hid (by rw [hW3]; exact (Below.refl _ w6).alloc (Nat.le_refl _) _)
      have HFB3 : Hid (W3.heap[F]? = some (.cells #[.int .u8 4, .int .u8 0, .string P, .int .i64 D.size, .int .i64 B.size, .bool false, .bool false, .bool false, .bool false, .bool false, .int .i64 D.size, .slice (some ⟨g, 0, none⟩) D.size D.size] 43 (0, 0))) := Lib.hid ((HB13.out.block F (Array.getElem?_eq_some_iff.1 HFB6.out).1).trans HFB6.out)
      have HGB3 : Hid (W3.heap[F2]? = some (.cells #[.int .u8 4, .int .u8 0, .string P2, .int .i64 D.size, .int .i64 B.size, .bool true, .bool false, .bool false, .bool false, .bool false, .int .i64 D.size, .slice (some ⟨g2, 0, none⟩) D.size D.size] 43 (0, 0))) := Lib.hid (by rw [hW3, hF2]; exact (MapKept.heap_alloc w6 _).1)
      have HBE3 : Hid (Below w.heap.size w W3) := Lib.hid (HBE6.out.trans (HB13.out.mono HBE6.out.size))
      have HROW3 := Lib.hid (HROW2.out.keep HB13.out)
      obtain ⟨SB, hSB⟩ : ∃ SB, SB = strB (overB minusT ds) := ⟨_, rfl⟩
      have hcv3 : ∀ nq, (convert 41 9 (.slice (some ⟨g2, 0, none⟩) D.size D.size)).run Tryd.prog (W3.drewN nq) = .ok (.string SB) (W3.drewN nq) := by
        intro nq
        have h := run_str (some ⟨g2, 0, none⟩) (overB minusT ds) D.size (W3.drewN nq) (HROW3.out.txt.below (drewN_below W3 nq))
        have e : (overB minusT ds).length = D.size := by unfold overB; rw [List.length_set]; exact HM.out.trans HDZ.out.symm
        rw [e, ← hSB] at h
        exact h
      obtain ⟨d, hd⟩ : ∃ d, ds[m]? = some d := ⟨_, List.getElem?_eq_getElem (by rw [HM.out]; omega)⟩
      have hdd : digB d = true := List.all_eq_true.1 (show (wh ++ fr).all digB = true by rw [List.all_append, HWD.out, HFD.out]; rfl) d (by rw [← HDS.out]; exact List.mem_of_getElem? hd)
      have hd1 : 48 ≤ (d.toNat : Int) := by simp [digB] at hdd; omega
      have hd2 : (d.toNat : Int) ≤ 57 := by simp [digB] at hdd; omega
      obtain ⟨j, hj⟩ : ∃ j, j = d.toNat - 48 := ⟨_, rfl⟩
      have hj9 : (j : Int) ≤ 9 := by omega
      have hj0 : (0 : Int) ≤ (j : Int) := by omega
      have hjd : (d.toNat : Int) - 48 = (j : Int) := by omega
      have hmn : m < D.size := by omega
      have hix : D[m] = d := by
        have h := Lib.data_getElem? D m hmn
        rw [show D.data.toList = ds from by rw [HDE.out]; rfl, hd] at h
        injection h with h; exact h.symm
      have hov : D.extract 0 m ++ (⟨#[125, 74, 75, 76, 77, 78, 79, 80, 81, 82]⟩ : ByteArray).extract j (j + 1) = SB := by rw [hSB]; exact over_text minusT ds _ D m d j HDE.out rfl rfl HM.out hd hj (by omega)
      have hwr1 : IntKind.u8.wrap ((d.toNat : Int) - 48) = (j : Int) := by rw [hjd]; exact IntWalk.u8_in _ ⟨by omega, by omega⟩
      have hwr2 : IntKind.u8.wrap ((j : Int) + 1) = (j : Int) + 1 := IntWalk.u8_in _ ⟨by omega, by omega⟩
      have hjn : ((j : Int) + 1).toNat = j + 1 := by omega
      have hmt : ((m : Int)).toNat = m := by omega
      have d0 := Joins.cell_of_block HFB3.out 0
      have d1 := Joins.cell_of_block HFB3.out 1
      have d2 := Joins.cell_of_block HFB3.out 2
      have d3 := Joins.cell_of_block HFB3.out 3
      have d4 := Joins.cell_of_block HFB3.out 4
      have d5 := Joins.cell_of_block HFB3.out 5
      have d6 := Joins.cell_of_block HFB3.out 6
      have d7 := Joins.cell_of_block HFB3.out 7
      have d8 := Joins.cell_of_block HFB3.out 8
      have d9 := Joins.cell_of_block HFB3.out 9
      have d10 := Joins.cell_of_block HFB3.out 10
      have d11 := Joins.cell_of_block HFB3.out 11
      have f0 := Joins.cell_of_block HGB3.out 0
      have f1 := Joins.cell_of_block HGB3.out 1
      have f2 := Joins.cell_of_block HGB3.out 2
      have f3 := Joins.cell_of_block HGB3.out 3
      have f4 := Joins.cell_of_block HGB3.out 4
      have f5 := Joins.cell_of_block HGB3.out 5
      have f6 := Joins.cell_of_block HGB3.out 6
      have f7 := Joins.cell_of_block HGB3.out 7
      have f8 := Joins.cell_of_block HGB3.out 8
      have f9 := Joins.cell_of_block HGB3.out 9
      have f10 := Joins.cell_of_block HGB3.out 10
      have f11 := Joins.cell_of_block HGB3.out 11
      clear hW3 hF2 HB13 hd hdd hj hSB
      go_upto_region 21 with fail
      go_quiet (fail)
      obtain ⟨W4, hW4⟩ : ∃ W4, W4 = W3.drewN nq := ⟨_, rfl⟩
      rw [← hW4]
      have HFB4 : Hid (W4.heap[F]? = some (.cells #[.int .u8 4, .int .u8 0, .string P, .int .i64 D.size, .int .i64 B.size, .bool false, .bool false, .bool false, .bool false, .bool false, .int .i64 D.size, .slice (some ⟨g, 0, none⟩) D.size D.size] 43 (0, 0))) := Lib.hid (by rw [hW4]; exact HFB3.out)
      have HGB4 : Hid (W4.heap[F2]? = some (.cells #[.int .u8 4, .int .u8 0, .string P2, .int .i64 D.size, .int .i64 B.size, .bool true, .bool false, .bool false, .bool false, .bool false, .int .i64 D.size, .slice (some ⟨g2, 0, none⟩) D.size D.size] 43 (0, 0))) := Lib.hid (by rw [hW4]; exact HGB3.out)
      have HBE4 : Hid (Below w.heap.size w W4) := Lib.hid (by rw [hW4]; exact HBE3.out.trans ⟨rfl, rfl, rfl, Nat.le_refl _, fun _ _ => rfl⟩)
      have d0 := Joins.cell_of_block HFB4.out 0
      have d1 := Joins.cell_of_block HFB4.out 1
      have d2 := Joins.cell_of_block HFB4.out 2
      have d3 := Joins.cell_of_block HFB4.out 3
      have d4 := Joins.cell_of_block HFB4.out 4
      have d5 := Joins.cell_of_block HFB4.out 5
      have d6 := Joins.cell_of_block HFB4.out 6
      have d7 := Joins.cell_of_block HFB4.out 7
      have d8 := Joins.cell_of_block HFB4.out 8
      have d9 := Joins.cell_of_block HFB4.out 9
      have d10 := Joins.cell_of_block HFB4.out 10
      have d11 := Joins.cell_of_block HFB4.out 11
      have f0 := Joins.cell_of_block HGB4.out 0
      have f1 := Joins.cell_of_block HGB4.out 1
      have f2 := Joins.cell_of_block HGB4.out 2
      have f3 := Joins.cell_of_block HGB4.out 3
      have f4 := Joins.cell_of_block HGB4.out 4
      have f5 := Joins.cell_of_block HGB4.out 5
      have f6 := Joins.cell_of_block HGB4.out 6
      have f7 := Joins.cell_of_block HGB4.out 7
      have f8 := Joins.cell_of_block HGB4.out 8
      have f9 := Joins.cell_of_block HGB4.out 9
      have f10 := Joins.cell_of_block HGB4.out 10
      have f11 := Joins.cell_of_block HGB4.out 11
      clear hW4 hcv3 hwr1 hwr2
      go_upto_region 26 with fail
      obtain ⟨F5, hF5⟩ : ∃ F, F = W4.heap.size := ⟨_, rfl⟩
      obtain ⟨W5, hW5⟩ : ∃ W, W = W4.alloc (.cells #[.int .u8 4, .int .u8 0, .string P2, .int .i64 D.size, .int .i64 B.size, .bool true, .bool false, .bool false, .bool false, .bool false, .int .i64 D.size] 40) := ⟨_, rfl⟩
      rw [← hW5, ← hF5]
      have HB45 : Hid (Below W4.heap.size W4 W5) := Lib.hid (by rw [hW5]; exact (Below.refl _ W4).alloc (Nat.le_refl _) _)
      have HGB5 := Lib.hid ((HB45.out.block F2 (Array.getElem?_eq_some_iff.1 HGB4.out).1).trans HGB4.out)
      have HSH5 : Hid (W5.heap[F5]? = some (.cells #[.int .u8 4, .int .u8 0, .string P2, .int .i64 D.size, .int .i64 B.size, .bool true, .bool false, .bool false, .bool false, .bool false, .int .i64 D.size] 40 (0, 0))) := Lib.hid (by rw [hW5, hF5]; exact (MapKept.heap_alloc W4 _).1)
      have HBE5 := Lib.hid (HBE4.out.trans (HB45.out.mono HBE4.out.size))
      have f0 := Joins.cell_of_block HGB5.out 0
      have f1 := Joins.cell_of_block HGB5.out 1
      have f2 := Joins.cell_of_block HGB5.out 2
      have f3 := Joins.cell_of_block HGB5.out 3
      have f4 := Joins.cell_of_block HGB5.out 4
      have f5 := Joins.cell_of_block HGB5.out 5
      have f6 := Joins.cell_of_block HGB5.out 6
      have f7 := Joins.cell_of_block HGB5.out 7
      have f8 := Joins.cell_of_block HGB5.out 8
      have f9 := Joins.cell_of_block HGB5.out 9
      have f10 := Joins.cell_of_block HGB5.out 10
      have f11 := Joins.cell_of_block HGB5.out 11
      have h0 := Joins.cell_of_block HSH5.out 0
      have h1 := Joins.cell_of_block HSH5.out 1
      have h2 := Joins.cell_of_block HSH5.out 2
      have h3 := Joins.cell_of_block HSH5.out 3
      have h4 := Joins.cell_of_block HSH5.out 4
      have h5 := Joins.cell_of_block HSH5.out 5
      have h6 := Joins.cell_of_block HSH5.out 6
      have h7 := Joins.cell_of_block HSH5.out 7
      have h8 := Joins.cell_of_block HSH5.out 8
      have h9 := Joins.cell_of_block HSH5.out 9
      have h10 := Joins.cell_of_block HSH5.out 10
      clear hW5 hF5 HB45
      go_wp2_with (go_at_call 9; refine (c_lives _ (HMX.out.below HBE5.out) (HTX.out.below HBE5.out)).mono ?_; rintro e w9 ⟨rfl, hb9⟩; have HB9 := Lib.hid (HBE5.out.trans (hb9.mono HBE5.out.size)); clear hb9)
      go_ret
      exact ⟨rfl, HB9.out⟩
end Go.Proofs.YtahmcjgehhfknaaDoor
