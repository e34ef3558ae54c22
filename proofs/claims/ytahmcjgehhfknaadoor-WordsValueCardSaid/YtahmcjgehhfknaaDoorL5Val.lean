/-
  The law WordsValue (columnsevenlaw05), walked.
-/
import Derived.Test.YtahmcjgehhfknaaDoorWd13
namespace Go.Proofs.YtahmcjgehhfknaaDoor
open Go.RowKit
set_option linter.unusedVariables false
set_option linter.unusedSimpArgs false

theorem number_text (l : List UInt8) (h : badB l = false) : l = signB l ++ ((cutB l).1 ++ (if (cutB l).2.1 = [] then [] else 46 :: (cutB l).2.1)) := by
  have h1 : l = signB l ++ restB l := by
    unfold signB restB; split
    · exact (List.take_append_drop 1 l).symm
    · rfl
  have h2 : restB l = (cutB l).1 ++ (if (cutB l).2.1 = [] then [] else 46 :: (cutB l).2.1) := by
    unfold badB at h
    unfold cutB at h ⊢
    rcases split_at 46 (restB l) with h3 | ⟨a, b, h3, h4⟩
    · rw [cut_no 46 _ h3, if_pos rfl, List.append_nil]
    · rw [h3] at h ⊢
      rw [cut_at 46 a b h4] at h ⊢
      have hb : b ≠ [] := by intro e; rw [e] at h; simp at h
      rw [if_neg hb]
  rw [← h2]; exact h1
theorem sign_cases (l : List UInt8) : signB l = [] ∨ signB l = [43] ∨ signB l = [45] := by
  unfold signB
  by_cases h : signedB l = true
  · rw [if_pos h]
    unfold signedB Lib.hasPrefix at h
    cases l with
    | nil => cases h
    | cons x r =>
      simp only [List.isPrefixOf, Bool.and_true, Bool.or_eq_true, beq_iff_eq] at h
      rcases h with h | h
      · right; left; rw [← h]; rfl
      · right; right; rw [← h]; rfl
  · rw [if_neg h]; exact .inl rfl

theorem join_text (s Tt : ByteArray) (ds wh fr sg : List UInt8) (n k : Nat) (h1 : Tt = strB ds) (h2 : ds = wh ++ fr) (h3 : n = ds.length) (h4 : k = fr.length) (h5 : s.data.toList = sg ++ (wh ++ (if fr = [] then [] else 46 :: fr))) (hk : ¬ k = 0) :
    strB sg ++ (Tt.extract 0 (n - k) ++ ⟨#[46]⟩ ++ Tt.extract (n - k) n) = s := by
  have hw : n - k = wh.length := by rw [h3, h2, h4, List.length_append]; omega
  have hfr : fr ≠ [] := by intro e; rw [e] at h4; exact hk h4
  rw [if_neg hfr] at h5
  have e1 : Tt.extract 0 (n - k) = strB wh := by
    rw [Lib.extract_eq, h1, hw]
    show (⟨(List.take (wh.length - 0) (List.drop 0 ds)).toArray⟩ : ByteArray) = strB wh
    rw [h2]; simp [strB]
  have e2 : Tt.extract (n - k) n = strB fr := by
    rw [Lib.extract_eq, h1, hw]
    show (⟨(List.take (n - wh.length) (List.drop wh.length ds)).toArray⟩ : ByteArray) = strB fr
    rw [h3, h2]; simp [strB]
  rw [e1, e2, show (⟨#[46]⟩ : ByteArray) = strB [46] from rfl, strB_app, strB_app, strB_app]
  rw [strB_eta s, h5]
  simp
theorem below_dq {B : Nat} {w W : World} (h : Below B w W) (n : Nat) : Below B w (W.drewN n) := h.trans ⟨rfl, rfl, rfl, Nat.le_refl _, fun _ _ => rfl⟩
structure ConOK (tab : ByteArray) (c : UInt8) (b : Bool) : Prop where
  out : ∀ W, Calls Tryd.prog 18 #[.string tab, .string ⟨#[c]⟩] W fun e w' => e = .returned (.bool b) ∧ w' = W
structure IdxOK (tab : ByteArray) (c : UInt8) (m : Nat) : Prop where
  out : ∀ W, Calls Tryd.prog 19 #[.string tab, .string ⟨#[c]⟩] W fun e w' => e = .returned (.int .i64 m) ∧ w' = W
theorem con_ok (tab : ByteArray) (c : UInt8) (b : Bool) (h : decide (0 ≤ Lib.indexByte tab.data.toList c) = b) : ConOK tab c b := ⟨fun W => by rw [← h]; exact Tryd.strings_Contains_one tab c W⟩
theorem idx_ok (tab : ByteArray) (c : UInt8) (m : Nat) (h : Lib.indexByte tab.data.toList c = m) : IdxOK tab c m := ⟨fun W => by rw [← h]; exact Tryd.strings_Index_one tab c W⟩
theorem plus_ix (d : UInt8) (h : digB d = true) : decide (0 ≤ Lib.indexByte (⟨#[123, 65, 66, 67, 68, 69, 70, 71, 72, 73]⟩ : ByteArray).data.toList (plusT.getD (d.toNat - 48) 0)) = true ∧
    decide (0 ≤ Lib.indexByte (⟨#[125, 74, 75, 76, 77, 78, 79, 80, 81, 82]⟩ : ByteArray).data.toList (plusT.getD (d.toNat - 48) 0)) = false ∧
    Lib.indexByte (⟨#[123, 65, 66, 67, 68, 69, 70, 71, 72, 73]⟩ : ByteArray).data.toList (plusT.getD (d.toNat - 48) 0) = (d.toNat - 48 : Nat) := by
  rcases dig_cases h with rfl | rfl | rfl | rfl | rfl | rfl | rfl | rfl | rfl | rfl <;> decide
theorem minus_ix (d : UInt8) (h : digB d = true) : decide (0 ≤ Lib.indexByte (⟨#[123, 65, 66, 67, 68, 69, 70, 71, 72, 73]⟩ : ByteArray).data.toList (minusT.getD (d.toNat - 48) 0)) = false ∧
    decide (0 ≤ Lib.indexByte (⟨#[125, 74, 75, 76, 77, 78, 79, 80, 81, 82]⟩ : ByteArray).data.toList (minusT.getD (d.toNat - 48) 0)) = true ∧
    Lib.indexByte (⟨#[125, 74, 75, 76, 77, 78, 79, 80, 81, 82]⟩ : ByteArray).data.toList (minusT.getD (d.toNat - 48) 0) = (d.toNat - 48 : Nat) := by
  rcases dig_cases h with rfl | rfl | rfl | rfl | rfl | rfl | rfl | rfl | rfl | rfl <;> decide
theorem dig_text (d : UInt8) (h : digB d = true) : ((⟨#[48, 49, 50, 51, 52, 53, 54, 55, 56, 57]⟩ : ByteArray).extract (d.toNat - 48) 10).extract 0 1 = ⟨#[d]⟩ := by
  rcases dig_cases h with rfl | rfl | rfl | rfl | rfl | rfl | rfl | rfl | rfl | rfl <;> decide
theorem dig_not (d : UInt8) (h : digB d = true) : decide (0 ≤ Lib.indexByte (⟨#[123, 65, 66, 67, 68, 69, 70, 71, 72, 73]⟩ : ByteArray).data.toList d) = false ∧ decide (0 ≤ Lib.indexByte (⟨#[125, 74, 75, 76, 77, 78, 79, 80, 81, 82]⟩ : ByteArray).data.toList d) = false := by
  rcases dig_cases h with rfl | rfl | rfl | rfl | rfl | rfl | rfl | rfl | rfl | rfl <;> decide
set_option maxRecDepth 100000 in
set_option maxHeartbeats 8000000 in
theorem l5value (s : ByteArray) (hs : s.size ≤ maxLen) (w : World) (hm : MaxLenAt w) (hT : SpTab w) :
    Calls Tryd.prog 8 #[.string s] w fun e w' => e = .returned (.bool true) ∧ Below w.heap.size w w' := by
  have HMX := Lib.hid hm
  have HTX := Lib.hid hT
  clear hm hT
  by_cases h40 : (40 : Int) < (s.size : Int)
  · go_enter Tryd.func8, Tryd.ntmps8
    go_wp2_with (go_at_call 9; refine (c_lives _ HMX.out HTX.out).mono ?_; rintro e w2 ⟨rfl, hb2⟩)
    go_ret
    exact ⟨rfl, hb2⟩
  have hs40 : (s.size : Int) ≤ 40 := by omega
  have hs6 : s.size ≤ 1000000 := by omega
  clear hs h40
  cases hbad : badB s.data.toList
  case true =>
    have HLIT := Lib.hid (lit_num_bad s hs6 hbad)
    clear hbad
    go_enter Tryd.func8, Tryd.ntmps8
    go_wp2_with (first
      | (go_at_call 17; refine (HLIT.out.out _ HMX.out).mono ?_; rintro e w2 ⟨rfl, hb2⟩; dsimp only [zeroF, fdV]; have HB2 := Lib.hid hb2; clear hb2)
      | (go_at_call 9; refine (c_lives _ (HMX.out.below (HB2.out.alloc HB2.out.size _)) (HTX.out.below (HB2.out.alloc HB2.out.size _))).mono ?_; rintro e w3 ⟨rfl, hb3⟩; have HB3 := Lib.hid ((HB2.out.alloc HB2.out.size _).trans (hb3.mono (HB2.out.alloc HB2.out.size _).size)); clear hb3))
    go_ret
    exact ⟨rfl, HB3.out⟩
  case false =>
    by_cases h18 : 18 < (digsB s.data.toList).length
    · have HLIT := Lib.hid (lit_num_wide s hs6 hbad h18)
      clear hbad h18
      go_enter Tryd.func8, Tryd.ntmps8
      go_wp2_with (first
        | (go_at_call 17; refine (HLIT.out.out _ HMX.out).mono ?_; rintro e w2 ⟨rfl, hb2⟩; dsimp only [zeroF, fdV]; have HB2 := Lib.hid hb2; clear hb2)
        | (go_at_call 9; refine (c_lives _ (HMX.out.below (HB2.out.alloc HB2.out.size _)) (HTX.out.below (HB2.out.alloc HB2.out.size _))).mono ?_; rintro e w3 ⟨rfl, hb3⟩; have HB3 := Lib.hid ((HB2.out.alloc HB2.out.size _).trans (hb3.mono (HB2.out.alloc HB2.out.size _).size)); clear hb3))
      go_ret
      exact ⟨rfl, HB3.out⟩
    · have h := lit_num_ok s hs6 hbad (by omega)
      obtain ⟨ds, hds⟩ : ∃ ds, ds = digsB s.data.toList := ⟨_, rfl⟩
      obtain ⟨fr, hfr⟩ : ∃ fr, fr = (cutB s.data.toList).2.1 := ⟨_, rfl⟩
      obtain ⟨wh, hwh⟩ : ∃ wh, wh = (cutB s.data.toList).1 := ⟨_, rfl⟩
      obtain ⟨sg, hsg⟩ : ∃ sg, sg = signB s.data.toList := ⟨_, rfl⟩
      have htext := number_text _ hbad
      have hsc := sign_cases s.data.toList
      have hdd : isDigitsB ds = true := by
        unfold badB at hbad
        simp only [Bool.or_eq_false_iff, Bool.not_eq_false'] at hbad
        rw [hds]; exact hbad.2
      have hwf : ds = wh ++ fr := by rw [hds, hwh, hfr]; rfl
      rw [← hds] at h h18
      rw [← hsg] at h hsc htext
      rw [← hfr] at h htext
      rw [← hwh] at h htext
      obtain ⟨n, hn⟩ : ∃ n, n = ds.length := ⟨_, rfl⟩
      obtain ⟨k, hk⟩ : ∃ k, k = fr.length := ⟨_, rfl⟩
      rw [← hn] at h h18
      rw [← hk] at h
      have hnpos : 0 < n := by
        rw [hn]; unfold isDigitsB at hdd
        cases ds with
        | nil => cases hdd
        | cons x r => simp
      have hkn : k ≤ n := by rw [hk, hn, hwf, List.length_append]; omega
      obtain ⟨P, hP⟩ : ∃ P, P = strB (picB sg wh fr) := ⟨_, rfl⟩
      rw [← hP] at h
      obtain ⟨bs, hbs⟩ : ∃ bs, bs = bytesB sg ds := ⟨_, rfl⟩
      rw [← hbs] at h
      have hbl : bs.length = n := by rw [hbs, bytesB_length, hn]
      obtain ⟨c, hc⟩ : ∃ c, bs[n - 1]? = some c := ⟨_, List.getElem?_eq_getElem (by omega)⟩
      have HLIT := Lib.hid h
      have HTEXT := Lib.hid htext
      have HDD := Lib.hid hdd
      have HWF := Lib.hid hwf
      have HDS := Lib.hid hn
      have HK := Lib.hid hk
      have HBS := Lib.hid hbs
      have HBL := Lib.hid hbl
      have HC := Lib.hid hc
      have HSC := Lib.hid hsc
      have hn18 : (n : Int) ≤ 18 := by omega
      have hkz : (k : Int) ≤ (n : Int) := by omega
      have hpz : (0 : Int) < (n : Int) := by omega
      have hnz : ¬ ((n : Int) = 0) := by omega
      have hn0b : ((n : Int) == 0) = false := by simp; omega
      have hk0 : ¬ ((k : Int) < 0) := by omega
      have hk0d : decide ((k : Int) < 0) = false := by simp
      have hnkd : decide (n < k) = false := by simp; omega
      have hnk : ¬ (n < k) := by omega
      have hnpos2 : 1 ≤ n := hnpos
      have HNP := Lib.hid hnpos
      clear hs6 hbad h18 h hds hfr hwh hsg htext hdd hwf hn hk hP hbs hbl hc hsc hnpos hkn
      have hgoal : ∀ sgv : Bool, (!sg.isEmpty) = sgv → True := fun _ _ => trivial
      go_enter Tryd.func8, Tryd.ntmps8
      go_upto_region 4 with (go_at_call 17; refine (HLIT.out.out _ HMX.out).mono ?_; rintro e w2 ⟨g, rfl, hrow⟩; dsimp only [fdV])
      have HROW := Lib.hid hrow
      have HTX2 := Lib.hid (hrow.txt)
      have HB2 := Lib.hid hrow.bel
      clear hrow
      obtain ⟨W3, hW3⟩ : ∃ W3, W3 = w2.alloc (.cells #[.int .u8 4, .int .u8 0, .string P, .int .i64 n, .int .i64 k, .bool (!sg.isEmpty), .bool false, .bool false, .bool false, .bool false, .int .i64 n, .slice (some ⟨g, 0, none⟩) n n] 43) := ⟨_, rfl⟩
      have hT1 : Txt W3 (some ⟨g, 0, none⟩) (bs.take (n - 1)) := by
        rw [hW3]
        intro h0
        obtain ⟨b, off, e, h1, h2⟩ := (HTX2.out.alloc (.cells #[.int .u8 4, .int .u8 0, .string P, .int .i64 n, .int .i64 k, .bool (!sg.isEmpty), .bool false, .bool false, .bool false, .bool false, .int .i64 n, .slice (some ⟨g, 0, none⟩) n n] 43)) (by rw [HBL.out]; have := HNP.out; omega)
        refine ⟨b, off, e, h1, fun j x hj => h2 j x ?_⟩
        rw [List.getElem?_take] at hj
        split at hj
        · exact hj
        · cases hj
      have hbel3 : Below w2.heap.size w2 W3 := by rw [hW3]; exact (Below.refl _ _).alloc (Nat.le_refl _) _
      have hT2 : Txt W3 (some ⟨g, n - 1, none⟩) [c] := fun _ => by
        refine ⟨g, n - 1, rfl, Nat.lt_of_lt_of_le HROW.out.lt hbel3.size, fun j x hj => ?_⟩
        cases j with
        | zero =>
          injection hj with hj
          subst hj
          exact (hbel3.cell (p := ⟨g, n - 1, none⟩) HROW.out.lt).trans (HROW.out.cell (n - 1) c HC.out)
        | succ j => cases hj
      obtain ⟨T0, hT0⟩ : ∃ T0, T0 = strB (bs.take (n - 1)) := ⟨_, rfl⟩
      have htl : (bs.take (n - 1)).length = n - 1 := by rw [List.length_take, HBL.out]; have := HNP.out; omega
      have hz0 : T0.size = n - 1 := by rw [hT0, strB_size, htl]
      have hcv1 : (convert 41 9 (.slice (some ⟨g, 0, none⟩) (n - 1) n)).run Tryd.prog W3 = .ok (.string T0) W3 := by
        have h := run_str (some ⟨g, 0, none⟩) (bs.take (n - 1)) n W3 hT1
        rw [htl, ← hT0] at h; exact h
      have hcv2 : (convert 41 9 (.slice (some ⟨g, n - 1, none⟩) (n - (n - 1)) (n - (n - 1)))).run Tryd.prog W3 = .ok (.string ⟨#[c]⟩) W3 := by
        rw [show n - (n - 1) = 1 from by have := HNP.out; omega]
        exact run_str (some ⟨g, n - 1, none⟩) [c] 1 W3 hT2
      have HT0 := Lib.hid hT0
      have HZ0 := Lib.hid hz0
      clear hT0 hT1 hT2 htl hz0
      rw [← hW3]
      have hfw : W3.heap[w2.heap.size]? = some (.cells #[.int .u8 4, .int .u8 0, .string P, .int .i64 n, .int .i64 k, .bool (!sg.isEmpty), .bool false, .bool false, .bool false, .bool false, .int .i64 n, .slice (some ⟨g, 0, none⟩) n n] 43 (0, 0)) := by rw [hW3]; exact (MapKept.heap_alloc w2 _).1
      have d3 := Joins.cell_of_block hfw 3
      have d4 := Joins.cell_of_block hfw 4
      have d5 := Joins.cell_of_block hfw 5
      have d10 := Joins.cell_of_block hfw 10
      have d11 := Joins.cell_of_block hfw 11
      have HB3 := Lib.hid (HB2.out.trans (hbel3.mono HB2.out.size))
      clear hfw hbel3 hW3
      generalize w2.heap.size = M at *
      go_upto_region 9 with fail
      have hz0 : T0.size ≤ 100 := by rw [HZ0.out]; omega
      clear hcv1 hcv2
      obtain ⟨d, hd⟩ : ∃ d, ds[n - 1]? = some d := ⟨_, List.getElem?_eq_getElem (by rw [← HDS.out]; omega)⟩
      have hdig : digB d = true := by
        have h := HDD.out
        unfold isDigitsB at h
        simp only [Bool.and_eq_true] at h
        exact List.all_eq_true.1 h.2 d (List.mem_of_getElem? hd)
      have HD := Lib.hid hd
      have HDIG := Lib.hid hdig
      clear hd hdig
      obtain ⟨Tt, hTt⟩ : ∃ Tt, Tt = strB ds := ⟨_, rfl⟩
      have hTs : Tt.size = n := by rw [hTt, strB_size, HDS.out]
      have hlast : ds = ds.take (n - 1) ++ [d] := by
        have h1 : ds.take (n - 1 + 1) = ds.take (n - 1) ++ [d] := by rw [List.take_add_one, HD.out]; rfl
        rw [show n - 1 + 1 = ds.length from by rw [← HDS.out]; have := HNP.out; omega, List.take_length] at h1
        exact h1
      have HLAST := Lib.hid hlast
      have HTT := Lib.hid hTt
      have HTS := Lib.hid hTs
      have hTz : Tt.size ≤ 100 := by rw [hTs]; omega
      clear hlast hTt hTs
      rcases HSC.out with hsg | hsg | hsg
      · have hcd : c = d := by
          have h1 := HC.out
          rw [HBS.out, hsg] at h1
          have h2 := HD.out
          have h3 : (bytesB [] ds)[n - 1]? = ds[n - 1]? := rfl
          rw [h3, h2] at h1
          injection h1 with h1
          exact h1.symm
        have HCO1 : ConOK ⟨#[123, 65, 66, 67, 68, 69, 70, 71, 72, 73]⟩ c false := con_ok _ _ _ (by rw [hcd]; exact (dig_not d HDIG.out).1)
        have HCO2 : ConOK ⟨#[125, 74, 75, 76, 77, 78, 79, 80, 81, 82]⟩ c false := con_ok _ _ _ (by rw [hcd]; exact (dig_not d HDIG.out).2)
        have HCD := Lib.hid hcd
        have HSG := Lib.hid hsg
        clear hcd
        have hsgb : (!sg.isEmpty) = false := by rw [hsg]; rfl
        rw [hsgb] at d5
        clear hsgb hsg
        have hjoin : T0 ++ ⟨#[c]⟩ = Tt := by
          rw [HT0.out, HTT.out, show (⟨#[c]⟩ : ByteArray) = strB [c] from rfl, strB_app, HCD.out, HBS.out, HSG.out]
          show strB (List.take (n - 1) ds ++ [d]) = _
          rw [← HLAST.out]
        by_cases hk0' : k = 0
        · have hfr : fr = [] := List.eq_nil_of_length_eq_zero (by rw [← HK.out]; exact hk0')
          have hTS : Tt = s := by
            rw [HTT.out, HWF.out, hfr, List.append_nil]
            have h := HTEXT.out
            rw [HSG.out, hfr] at h
            simp at h
            rw [← h]; rfl
          subst hTS
          have hemp : (⟨#[]⟩ : ByteArray) ++ Tt = Tt := by apply ByteArray.ext; simp
          clear hfr
          subst hk0'
          go_wp2_with (first
            | (go_at_call 18; refine ((by first | with_reducible exact HCO1 | with_reducible exact HCO2 : ConOK _ _ _).out _).mono ?_; rintro e w' ⟨rfl, rfl⟩)
            | (go_at_call 9; refine (c_lives _ (HMX.out.below HB3.out) (HTX.out.below HB3.out)).mono ?_; rintro e w4 ⟨rfl, hb4⟩; have HB4 := Lib.hid (HB3.out.trans (hb4.mono HB3.out.size)); clear hb4))
          go_ret
          exact ⟨rfl, HB4.out⟩
        · have hkp : (0 : Int) < (k : Int) := by omega
          have hTs1 : Tt.size = n := HTS.out
          have hkn2 : k ≤ n := by omega
          have hUs := join_text s Tt ds wh fr sg n k HTT.out HWF.out HDS.out HK.out HTEXT.out hk0'
          rw [HSG.out] at hUs
          have hU : (⟨#[]⟩ : ByteArray) ++ (Tt.extract 0 (n - k) ++ ⟨#[46]⟩ ++ Tt.extract (n - k) n) = s := hUs
          clear hUs
          go_upto_region 18 with (first
            | (go_at_call 18; refine ((by first | with_reducible exact HCO1 | with_reducible exact HCO2 : ConOK _ _ _).out _).mono ?_; rintro e w' ⟨rfl, rfl⟩)
            | fail)
          go_quiet (fail)
          have HBQ := Lib.hid (below_dq HB3.out nq)
          go_wp2_with (go_at_call 9; refine (c_lives _ (HMX.out.below HBQ.out) (HTX.out.below HBQ.out)).mono ?_; rintro e w4 ⟨rfl, hb4⟩; have HB4 := Lib.hid (HBQ.out.trans (hb4.mono HBQ.out.size)); clear hb4)
          go_ret
          exact ⟨rfl, HB4.out⟩
      · obtain ⟨m, hm⟩ : ∃ m, m = d.toNat - 48 := ⟨_, rfl⟩
        have hcd : c = plusT.getD m 0 := by
          have h1 := HC.out
          rw [HBS.out, hsg] at h1
          have h3 : bytesB [43] ds = overB plusT ds := rfl
          rw [h3, overB_at (show ds.length = n - 1 + 1 by rw [← HDS.out]; have := HNP.out; omega) HD.out, ← hm] at h1
          rw [List.getElem?_set_self (by rw [← HDS.out]; have := HNP.out; omega)] at h1
          injection h1 with h1
          exact h1.symm
        have hm9 : (m : Int) ≤ 9 := by have h := HDIG.out; simp [digB] at h; omega
        have hpl := plus_ix d HDIG.out
        rw [← hm] at hpl
        have HCO1 : ConOK ⟨#[123, 65, 66, 67, 68, 69, 70, 71, 72, 73]⟩ c true := con_ok _ _ _ (by rw [hcd]; exact hpl.1)
        have HCO2 : ConOK ⟨#[125, 74, 75, 76, 77, 78, 79, 80, 81, 82]⟩ c false := con_ok _ _ _ (by rw [hcd]; exact hpl.2.1)
        have HIX : IdxOK ⟨#[123, 65, 66, 67, 68, 69, 70, 71, 72, 73]⟩ c m := idx_ok _ _ _ (by rw [hcd]; exact hpl.2.2)
        have HSG := Lib.hid hsg
        obtain ⟨Xm, hx1⟩ : ∃ Xm, (⟨#[48, 49, 50, 51, 52, 53, 54, 55, 56, 57]⟩ : ByteArray).extract m 10 = Xm := ⟨_, rfl⟩
        have hxs : Xm.size = 10 - m := by rw [← hx1, ByteArray.size_extract]; show min 10 10 - m = 10 - m; rfl
        have hxs1 : 1 ≤ Xm.size := by rw [hxs]; omega
        have hx2 : Xm.extract 0 1 = ⟨#[d]⟩ := by rw [← hx1, hm]; exact dig_text d HDIG.out
        have hjoin : T0 ++ ⟨#[d]⟩ = Tt := by
          rw [HT0.out, HTT.out, show (⟨#[d]⟩ : ByteArray) = strB [d] from rfl, strB_app, HBS.out, hsg]
          have h3 : bytesB [43] ds = overB plusT ds := rfl
          rw [h3, overB_at (show ds.length = n - 1 + 1 by rw [← HDS.out]; have := HNP.out; omega) HD.out, List.take_set_of_le (Nat.le_refl _), ← HLAST.out]
        clear hcd hpl hxs hm
        have hsgb : (!sg.isEmpty) = true := by rw [hsg]; rfl
        rw [hsgb] at d5
        clear hsgb hsg
        by_cases hk0' : k = 0
        · have hfr : fr = [] := List.eq_nil_of_length_eq_zero (by rw [← HK.out]; exact hk0')
          have hTS : (⟨#[43]⟩ : ByteArray) ++ Tt = s := by
            rw [HTT.out, HWF.out, hfr, List.append_nil]
            have h := HTEXT.out
            rw [HSG.out, hfr] at h
            simp at h
            rw [show (⟨#[43]⟩ : ByteArray) = strB [43] from rfl, strB_app]
            rw [show [43] ++ wh = s.data.toList from by rw [h]; rfl]; rfl
          clear hfr
          subst hk0'
          go_wp2_with (first
            | (go_at_call 18; refine ((by first | with_reducible exact HCO1 | with_reducible exact HCO2 : ConOK _ _ _).out _).mono ?_; rintro e w' ⟨rfl, rfl⟩)
            | (go_at_call 19; refine (HIX.out _).mono ?_; rintro e w' ⟨rfl, rfl⟩)
            | (go_at_call 9; refine (c_lives _ (HMX.out.below HB3.out) (HTX.out.below HB3.out)).mono ?_; rintro e w4 ⟨rfl, hb4⟩; have HB4 := Lib.hid (HB3.out.trans (hb4.mono HB3.out.size)); clear hb4))
          go_ret
          exact ⟨rfl, HB4.out⟩
        · have hkp : (0 : Int) < (k : Int) := by omega
          have hTs1 : Tt.size = n := HTS.out
          have hkn2 : k ≤ n := by omega
          have hUs := join_text s Tt ds wh fr sg n k HTT.out HWF.out HDS.out HK.out HTEXT.out hk0'
          rw [HSG.out] at hUs
          have hU : (⟨#[43]⟩ : ByteArray) ++ (Tt.extract 0 (n - k) ++ ⟨#[46]⟩ ++ Tt.extract (n - k) n) = s := hUs
          clear hUs
          go_upto_region 18 with (first
            | (go_at_call 18; refine ((by first | with_reducible exact HCO1 | with_reducible exact HCO2 : ConOK _ _ _).out _).mono ?_; rintro e w' ⟨rfl, rfl⟩)
            | (go_at_call 19; refine (HIX.out _).mono ?_; rintro e w' ⟨rfl, rfl⟩)
            | fail)
          go_quiet (fail)
          have HBQ := Lib.hid (below_dq HB3.out nq)
          go_wp2_with (go_at_call 9; refine (c_lives _ (HMX.out.below HBQ.out) (HTX.out.below HBQ.out)).mono ?_; rintro e w4 ⟨rfl, hb4⟩; have HB4 := Lib.hid (HBQ.out.trans (hb4.mono HBQ.out.size)); clear hb4)
          go_ret
          exact ⟨rfl, HB4.out⟩
      · obtain ⟨m, hm⟩ : ∃ m, m = d.toNat - 48 := ⟨_, rfl⟩
        have hcd : c = minusT.getD m 0 := by
          have h1 := HC.out
          rw [HBS.out, hsg] at h1
          have h3 : bytesB [45] ds = overB minusT ds := rfl
          rw [h3, overB_at (show ds.length = n - 1 + 1 by rw [← HDS.out]; have := HNP.out; omega) HD.out, ← hm] at h1
          rw [List.getElem?_set_self (by rw [← HDS.out]; have := HNP.out; omega)] at h1
          injection h1 with h1
          exact h1.symm
        have hm9 : (m : Int) ≤ 9 := by have h := HDIG.out; simp [digB] at h; omega
        have hpl := minus_ix d HDIG.out
        rw [← hm] at hpl
        have HCO1 : ConOK ⟨#[123, 65, 66, 67, 68, 69, 70, 71, 72, 73]⟩ c false := con_ok _ _ _ (by rw [hcd]; exact hpl.1)
        have HCO2 : ConOK ⟨#[125, 74, 75, 76, 77, 78, 79, 80, 81, 82]⟩ c true := con_ok _ _ _ (by rw [hcd]; exact hpl.2.1)
        have HIX : IdxOK ⟨#[125, 74, 75, 76, 77, 78, 79, 80, 81, 82]⟩ c m := idx_ok _ _ _ (by rw [hcd]; exact hpl.2.2)
        have HSG := Lib.hid hsg
        obtain ⟨Xm, hx1⟩ : ∃ Xm, (⟨#[48, 49, 50, 51, 52, 53, 54, 55, 56, 57]⟩ : ByteArray).extract m 10 = Xm := ⟨_, rfl⟩
        have hxs : Xm.size = 10 - m := by rw [← hx1, ByteArray.size_extract]; show min 10 10 - m = 10 - m; rfl
        have hxs1 : 1 ≤ Xm.size := by rw [hxs]; omega
        have hx2 : Xm.extract 0 1 = ⟨#[d]⟩ := by rw [← hx1, hm]; exact dig_text d HDIG.out
        have hjoin : T0 ++ ⟨#[d]⟩ = Tt := by
          rw [HT0.out, HTT.out, show (⟨#[d]⟩ : ByteArray) = strB [d] from rfl, strB_app, HBS.out, hsg]
          have h3 : bytesB [45] ds = overB minusT ds := rfl
          rw [h3, overB_at (show ds.length = n - 1 + 1 by rw [← HDS.out]; have := HNP.out; omega) HD.out, List.take_set_of_le (Nat.le_refl _), ← HLAST.out]
        clear hcd hpl hxs hm
        have hsgb : (!sg.isEmpty) = true := by rw [hsg]; rfl
        rw [hsgb] at d5
        clear hsgb hsg
        by_cases hk0' : k = 0
        · have hfr : fr = [] := List.eq_nil_of_length_eq_zero (by rw [← HK.out]; exact hk0')
          have hTS : (⟨#[45]⟩ : ByteArray) ++ Tt = s := by
            rw [HTT.out, HWF.out, hfr, List.append_nil]
            have h := HTEXT.out
            rw [HSG.out, hfr] at h
            simp at h
            rw [show (⟨#[45]⟩ : ByteArray) = strB [45] from rfl, strB_app]
            rw [show [45] ++ wh = s.data.toList from by rw [h]; rfl]; rfl
          clear hfr
          subst hk0'
          go_wp2_with (first
            | (go_at_call 18; refine ((by first | with_reducible exact HCO1 | with_reducible exact HCO2 : ConOK _ _ _).out _).mono ?_; rintro e w' ⟨rfl, rfl⟩)
            | (go_at_call 19; refine (HIX.out _).mono ?_; rintro e w' ⟨rfl, rfl⟩)
            | (go_at_call 9; refine (c_lives _ (HMX.out.below HB3.out) (HTX.out.below HB3.out)).mono ?_; rintro e w4 ⟨rfl, hb4⟩; have HB4 := Lib.hid (HB3.out.trans (hb4.mono HB3.out.size)); clear hb4))
          go_ret
          exact ⟨rfl, HB4.out⟩
        · have hkp : (0 : Int) < (k : Int) := by omega
          have hTs1 : Tt.size = n := HTS.out
          have hkn2 : k ≤ n := by omega
          have hUs := join_text s Tt ds wh fr sg n k HTT.out HWF.out HDS.out HK.out HTEXT.out hk0'
          rw [HSG.out] at hUs
          have hU : (⟨#[45]⟩ : ByteArray) ++ (Tt.extract 0 (n - k) ++ ⟨#[46]⟩ ++ Tt.extract (n - k) n) = s := hUs
          clear hUs
          go_upto_region 18 with (first
            | (go_at_call 18; refine ((by first | with_reducible exact HCO1 | with_reducible exact HCO2 : ConOK _ _ _).out _).mono ?_; rintro e w' ⟨rfl, rfl⟩)
            | (go_at_call 19; refine (HIX.out _).mono ?_; rintro e w' ⟨rfl, rfl⟩)
            | fail)
          go_quiet (fail)
          have HBQ := Lib.hid (below_dq HB3.out nq)
          go_wp2_with (go_at_call 9; refine (c_lives _ (HMX.out.below HBQ.out) (HTX.out.below HBQ.out)).mono ?_; rintro e w4 ⟨rfl, hb4⟩; have HB4 := Lib.hid (HBQ.out.trans (hb4.mono HBQ.out.size)); clear hb4)
          go_ret
          exact ⟨rfl, HB4.out⟩
end Go.Proofs.YtahmcjgehhfknaaDoor
