/-
  Texts of this seat, merged: Rf1 Rf2.
-/
import Derived.Test.YtpalfhfbgfnacaaGreatDoorGB
import Derived.Test.YtpalfhfbgfnacaaGreatDoorGA
/-
  The contracts of the reference's tests on a byte (columnsevenref03): in, digit, letter, wordy, blank.
-/
namespace Go.Proofs.YtpalfhfbgfnacaaGreatDoor
open Go.RowKit
set_option linter.unusedVariables false
set_option linter.unusedSimpArgs false

/-- Does a byte stand in a text? -/
def inB (c : UInt8) (l : List UInt8) : Bool := l.any fun x => decide (x.toNat = c.toNat)
theorem inB_drop (c : UInt8) (l : List UInt8) (k : Nat) (d : UInt8) (h : l[k]? = some d) : inB c (l.drop k) = (decide (d.toNat = c.toNat) || inB c (l.drop (k + 1))) := by
  rw [drop_get h]; simp [inB]
theorem r3in (c : UInt8) (s : ByteArray) (hs : s.size ≤ 140737488355328) (w : World) : Calls Tryz.prog 30 #[.int .u8 c.toNat, .string s] w fun e w' => e = .returned (.bool (inB c s.data.toList)) ∧ w = w' := by
  have HL := Lib.hid (size_data s)
  go_enter Tryz.func30, Tryz.ntmps30
  go_wp2
  go_loop [5] (fun i => ∃ k : Nat, k ≤ s.size ∧ i = .int .i64 k ∧ Hid (inB c s.data.toList = inB c (s.data.toList.drop k))) (fun i => s.size - (intOf i).toNat)
  case atStart => exact ⟨0, Nat.zero_le _, rfl, rfl⟩
  case round =>
    obtain ⟨k, hk, rfl, HE⟩ := hrel
    by_cases hlt : k < s.size
    · have HD := Lib.hid (HE.out.trans (inB_drop c _ k _ (get_data s k hlt)))
      by_cases he : s[k].toNat = c.toNat
      · have hq : ((s[k].toNat : Int) == (c.toNat : Int)) = true := by simp; omega
        have HT : Hid (inB c s.data.toList = true) := by show _ = _; rw [HD.out]; simp [he]
        clear he
        go_wp2
        go_ret
        exact ⟨ret_bool HT.out.symm, rfl⟩
      · have hq : ((s[k].toNat : Int) == (c.toNat : Int)) = false := by simp; omega
        have HT : Hid (inB c s.data.toList = inB c (s.data.toList.drop (k + 1))) := by show _ = _; rw [HD.out]; simp [he]
        clear he
        go_wp2
        go_round
        case rel => exact ⟨k + 1, by omega, by go_num, HT⟩
        case measure => simp [intOf]; omega
    · have HT : Hid (inB c s.data.toList = false) := by
        show _ = _
        rw [HE.out, List.drop_of_length_le (by rw [← HL.out]; omega)]; rfl
      go_wp2
      go_ret
      exact ⟨ret_bool HT.out.symm, rfl⟩
theorem r3digit (s : ByteArray) (i : Nat) (hs : s.size ≤ 134217728) (hi : i ≤ 140737488355328) (w : World) : Calls Tryz.prog 60 #[.string s, .int .i64 i] w fun e w' => e = .returned (.bool (atB digB s.data.toList i)) ∧ w = w' := by
  by_cases hlt : i < s.size
  · have hget := get_data s i hlt
    have HR : Hid (atB digB s.data.toList i = (decide (48 ≤ (s[i].toNat : Int)) && decide ((s[i].toNat : Int) ≤ 57))) := by
      show _ = _
      rw [atB_some hget]
      unfold digB
      rw [dec_le _ 57, show decide (48 ≤ s[i].toNat) = decide (48 ≤ (s[i].toNat : Int)) from by rw [Bool.eq_iff_iff]; simp; omega]
      rfl
    have hb := u8lt s[i]
    clear hget
    by_cases h1 : 48 ≤ (s[i].toNat : Int) <;> by_cases h2 : (s[i].toNat : Int) ≤ 57
    all_goals
      go_enter Tryz.func60, Tryz.ntmps60
      go_wp2
      go_ret
      refine ⟨ret_bool ?_, rfl⟩
      rw [HR.out]
      simp [h1, h2] <;> omega
  · have HR : Hid (atB digB s.data.toList i = false) := atB_none (by rw [← size_data]; omega)
    go_enter Tryz.func60, Tryz.ntmps60
    go_wp2
    go_ret
    exact ⟨ret_bool HR.out.symm, rfl⟩
theorem r3letter (s : ByteArray) (i : Nat) (hs : s.size ≤ 134217728) (hi : i ≤ 140737488355328) (w : World) : Calls Tryz.prog 61 #[.string s, .int .i64 i] w fun e w' => e = .returned (.bool (atB letB s.data.toList i)) ∧ w = w' := by
  by_cases hlt : i < s.size
  · have hget := get_data s i hlt
    have HR : Hid (atB letB s.data.toList i = ((decide (65 ≤ s[i].toNat) && decide (s[i].toNat ≤ 90)) || (decide (97 ≤ s[i].toNat) && decide (s[i].toNat ≤ 122)))) := by
      show _ = _
      rw [atB_some hget]
      rfl
    have hb := u8lt s[i]
    clear hget
    by_cases h1 : 65 ≤ (s[i].toNat : Int) <;> by_cases h2 : (s[i].toNat : Int) ≤ 90 <;> by_cases h3 : 97 ≤ (s[i].toNat : Int) <;> by_cases h4 : (s[i].toNat : Int) ≤ 122
    all_goals first
      | omega
      | (go_enter Tryz.func61, Tryz.ntmps61
         go_wp2
         go_ret
         refine ⟨ret_bool ?_, rfl⟩
         rw [HR.out]
         have e1 : decide (65 ≤ s[i].toNat) = decide (65 ≤ (s[i].toNat : Int)) := by rw [Bool.eq_iff_iff]; simp; omega
         have e2 : decide (s[i].toNat ≤ 90) = decide ((s[i].toNat : Int) ≤ 90) := by rw [Bool.eq_iff_iff]; simp; omega
         have e3 : decide (97 ≤ s[i].toNat) = decide (97 ≤ (s[i].toNat : Int)) := by rw [Bool.eq_iff_iff]; simp; omega
         have e4 : decide (s[i].toNat ≤ 122) = decide ((s[i].toNat : Int) ≤ 122) := by rw [Bool.eq_iff_iff]; simp; omega
         rw [e1, e2, e3, e4]
         simp [h1, h2, h3, h4] <;> omega)
  · have HR : Hid (atB letB s.data.toList i = false) := atB_none (by rw [← size_data]; omega)
    go_enter Tryz.func61, Tryz.ntmps61
    go_wp2
    go_ret
    exact ⟨ret_bool HR.out.symm, rfl⟩
theorem atB_inw (l : List UInt8) (i : Nat) : atB inwB l i = (atB digB l i || atB letB l i || isAt l i 45) := by
  unfold isAt atB
  cases l[i]? with
  | none => rfl
  | some c =>
    show inwB c = (digB c || letB c || decide (c.toNat = 45))
    unfold inwB
    cases letB c <;> cases digB c <;> rfl
theorem r3wordy (s : ByteArray) (i : Nat) (hs : s.size ≤ 134217728) (hi : i ≤ 140737488355328) (w : World) : Calls Tryz.prog 57 #[.string s, .int .i64 i] w fun e w' => e = .returned (.bool (atB inwB s.data.toList i)) ∧ w = w' := by
  have hw := atB_inw s.data.toList i
  have HD := Lib.hid (r3digit s i hs hi w)
  have HT := Lib.hid (r3letter s i hs hi w)
  obtain ⟨d, hd⟩ : ∃ d, d = atB digB s.data.toList i := ⟨_, rfl⟩
  obtain ⟨t, ht⟩ : ∃ t, t = atB letB s.data.toList i := ⟨_, rfl⟩
  rw [← hd, ← ht] at hw
  rw [← hd] at HD
  rw [← ht] at HT
  have HW := Lib.hid hw
  clear hw
  by_cases hlt : i < s.size
  · have hget := get_data s i hlt
    have HA : Hid (isAt s.data.toList i 45 = ((s[i].toNat : Int) == 45)) := by
      show _ = _
      unfold isAt
      rw [atB_some hget, Bool.eq_iff_iff]; simp; omega
    have hb := u8lt s[i]
    clear hget hd ht
    by_cases h45 : (s[i].toNat : Int) = 45
    all_goals
      cases d <;> cases t
      all_goals
        go_enter Tryz.func57, Tryz.ntmps57
        go_wp2_with (first | (go_at_call 60; refine HD.out.mono ?_; rintro e w' ⟨rfl, rfl⟩) | (go_at_call 61; refine HT.out.mono ?_; rintro e w' ⟨rfl, rfl⟩))
        go_ret
        refine ⟨ret_bool ?_, rfl⟩
        rw [HW.out, HA.out]
        simp [h45]
  · have HA : Hid (isAt s.data.toList i 45 = false) := atB_none (by rw [← size_data]; omega)
    have hd0 : d = false := by rw [hd]; exact atB_none (by rw [← size_data]; omega)
    have ht0 : t = false := by rw [ht]; exact atB_none (by rw [← size_data]; omega)
    subst hd0; subst ht0
    clear hd ht
    go_enter Tryz.func57, Tryz.ntmps57
    go_wp2_with (first | (go_at_call 60; refine HD.out.mono ?_; rintro e w' ⟨rfl, rfl⟩) | (go_at_call 61; refine HT.out.mono ?_; rintro e w' ⟨rfl, rfl⟩))
    go_ret
    refine ⟨ret_bool ?_, rfl⟩
    rw [HW.out, HA.out]; rfl
theorem endT_at (l : List UInt8) (i : Nat) : endT (l.drop i) = (decide (l.length ≤ i) || isAt l i 32) := by
  cases h : l[i]? with
  | none =>
    have := List.getElem?_eq_none_iff.1 h
    rw [List.drop_of_length_le this]
    simp [endT, this]
  | some c =>
    have := lt_of_get h
    rw [drop_get h]
    unfold isAt
    rw [atB_some h]
    have e : decide (l.length ≤ i) = false := by simp; omega
    rw [e]; simp [endT]
theorem r3blank (s : ByteArray) (i : Nat) (hs : s.size ≤ 134217728) (hi : i ≤ 140737488355328) (w : World) : Calls Tryz.prog 31 #[.string s, .int .i64 i] w fun e w' => e = .returned (.bool (endT (s.data.toList.drop i))) ∧ w = w' := by
  have hw := endT_at s.data.toList i
  rw [← size_data] at hw
  by_cases hlt : i < s.size
  · have hget := get_data s i hlt
    have HW : Hid (endT (s.data.toList.drop i) = ((s[i].toNat : Int) == 32)) := by
      show _ = _
      rw [hw]
      unfold isAt
      have e : decide (s.size ≤ i) = false := by simp; omega
      rw [atB_some hget, e, Bool.eq_iff_iff]; simp; omega
    have hb := u8lt s[i]
    clear hget hw
    by_cases h32 : (s[i].toNat : Int) = 32
    all_goals
      go_enter Tryz.func31, Tryz.ntmps31
      go_wp2
      go_ret
      refine ⟨ret_bool ?_, rfl⟩
      rw [HW.out]
      simp [h32] <;> omega
  · have HW : Hid (endT (s.data.toList.drop i) = true) := by
      show _ = _
      have e : decide (s.size ≤ i) = true := by simp; omega
      rw [hw, e]; rfl
    clear hw
    go_enter Tryz.func31, Tryz.ntmps31
    go_wp2
    go_ret
    exact ⟨ret_bool HW.out.symm, rfl⟩
end Go.Proofs.YtpalfhfbgfnacaaGreatDoor

/-
  The contracts of the reference's fold and name (columnsevenref03).
-/
namespace Go.Proofs.YtpalfhfbgfnacaaGreatDoor
open Go.RowKit
set_option linter.unusedVariables false
set_option linter.unusedSimpArgs false

theorem ret_str {a b : ByteArray} (h : a = b) : Ending.returned (.string a) = .returned (.string b) := by rw [h]
theorem fold_take (l : List UInt8) (k : Nat) (c : UInt8) (h : l[k]? = some c) : foldB (l.take (k + 1)) = foldB (l.take k) ++ [upB c] := by
  rw [List.take_add_one, h]; simp [foldB]
theorem conv_one (c : UInt8) (w : World) : (convert 66 9 (.slice (some ⟨w.heap.size, 0, none⟩) 1 1)).run Tryz.prog (w.alloc (.cells #[.int .u8 c.toNat] 5)) = .ok (.string (strL [c])) (w.alloc (.cells #[.int .u8 c.toNat] 5)) :=
  run_str (some ⟨w.heap.size, 0, none⟩) [c] 1 _ (Txt.new w 5 [c])
set_option maxHeartbeats 1000000 in
set_option maxRecDepth 100000 in
theorem r3fold (s : ByteArray) (hs : s.size ≤ 134217728) (w : World) : Calls Tryz.prog 56 #[.string s] w fun e w' => e = .returned (.string (strL (foldB s.data.toList))) ∧ Below w.heap.size w w' := by
  have HL := Lib.hid (size_data s)
  go_enter Tryz.func56, Tryz.ntmps56
  go_wp2
  go_loopw [3, 4] (fun o i wr => ∃ (k : Nat) (T : ByteArray), k ≤ s.size ∧ i = .int .i64 k ∧ o = .string T ∧ T.size = k ∧ Hid (T.data.toList = foldB (s.data.toList.take k)) ∧ Hid (Below w.heap.size w wr)) (fun _ i _ => s.size - (intOf i).toNat)
  case atStart => exact ⟨0, ⟨#[]⟩, Nat.zero_le _, rfl, rfl, rfl, rfl, Below.refl _ _⟩
  case round =>
    obtain ⟨k, T, hk, rfl, rfl, hT, HT, HB⟩ := hrel
    by_cases hlt : k < s.size
    · have hget := get_data s k hlt
      have HS := Lib.hid (fold_take _ k _ hget)
      have hb := u8lt s[k]
      have hu := upB_toNat s[k]
      have hcs := conv_one (upB s[k]) wr
      have HB2 : Hid (Below w.heap.size w (wr.alloc (.cells #[.int .u8 (upB s[k]).toNat] 5))) := HB.out.alloc HB.out.size _
      have HT2 : Hid ((T ++ strL [upB s[k]]).data.toList = foldB (s.data.toList.take (k + 1))) := by
        show _ = _
        rw [append_data, HT.out, HS.out, strL_data]
      have hT2 : (T ++ strL [upB s[k]]).size = k + 1 := by rw [ByteArray.size_append, strL_size, hT]; rfl
      have h1s : (strL [upB s[k]]).size = 1 := rfl
      by_cases hsm : 97 ≤ (s[k].toNat : Int) ∧ (s[k].toNat : Int) ≤ 122
      · have e : (s[k].toNat : Int) - 32 = ((upB s[k]).toNat : Int) := by
          rw [hu, if_pos (by unfold smallB; simp; omega)]; omega
        obtain ⟨h1, h2⟩ := hsm
        clear hget hu
        go_upto_region 8 with fail
        clear e h1 h2
        generalize upB s[k] = c at *
        go_wp2
        go_roundw
        case rel => exact ⟨k + 1, _, by omega, by go_num, rfl, hT2, HT2, HB2⟩
        case measure => simp [intOf]; omega
      · have e : upB s[k] = s[k] := upB_else _ hsm
        rw [e] at hcs HB2 HT2 hT2 h1s
        have h3 : ¬ 97 ≤ (s[k].toNat : Int) ∨ 97 ≤ (s[k].toNat : Int) ∧ ¬ (s[k].toNat : Int) ≤ 122 := by omega
        clear hget hu hsm e HS
        rcases h3 with h1 | ⟨h1, h2⟩
        all_goals
          go_upto_region 8 with fail
          generalize s[k] = c at *
          go_wp2
          go_roundw
          case rel => exact ⟨k + 1, _, by omega, by go_num, rfl, hT2, HT2, HB2⟩
          case measure => simp [intOf]; omega
    · have HE : Hid (T = strL (foldB s.data.toList)) := by
        show _ = _
        obtain rfl : k = s.size := by omega
        rw [← strL_of T, HT.out, List.take_of_length_le (by rw [← HL.out]; exact Nat.le_refl _)]
      go_wp2
      go_ret
      exact ⟨ret_str HE.out, HB.out⟩
set_option maxHeartbeats 1000000 in
set_option maxRecDepth 100000 in
theorem r3name (s : ByteArray) (hs : s.size ≤ 134217728) (w : World) : Calls Tryz.prog 62 #[.string s] w fun e w' => e = .returned (.bool (nameR s.data.toList)) ∧ w = w' := by
  have HL := Lib.hid (size_data s)
  have HLT : Hid (∀ (k : Nat) (W : World), k < s.size → Calls Tryz.prog 61 #[.string s, .int .i64 k] W fun e w' => e = .returned (.bool (atB letB s.data.toList k)) ∧ W = w') := fun k W hk => r3letter s k hs (by omega) W
  go_enter Tryz.func62, Tryz.ntmps62
  go_wp2
  go_loop [3, 4] (fun n i => ∃ k c : Nat, k ≤ s.size ∧ c ≤ k ∧ i = .int .i64 k ∧ n = .int .i64 c ∧ Hid ((s.data.toList.take k).any letB = decide (0 < c))) (fun _ i => s.size - (intOf i).toNat)
  case atStart => exact ⟨0, 0, Nat.zero_le _, Nat.le_refl _, rfl, rfl, by simp [Hid]⟩
  case round =>
    obtain ⟨k, c, hk, hc, rfl, rfl, HA⟩ := hrel
    by_cases hlt : k < s.size
    · have hget := get_data s k hlt
      have HN : Hid ((s.data.toList.take (k + 1)).any letB = (decide (0 < c) || letB s[k])) := by
        show _ = _
        rw [List.take_add_one, hget, List.any_append, HA.out]; simp
      have HC := Lib.hid (HLT.out k w hlt)
      rw [atB_some hget] at HC
      clear hget
      cases hl : letB s[k]
      · rw [hl] at HC HN
        have HN2 : Hid ((s.data.toList.take (k + 1)).any letB = decide (0 < c)) := by show _ = _; rw [HN.out]; simp
        clear hl
        go_wp2_with (go_at_call 61; refine HC.out.mono ?_; rintro e w' ⟨rfl, rfl⟩)
        go_round
        case rel => exact ⟨k + 1, c, by omega, by omega, by go_num, rfl, HN2⟩
        case measure => simp [intOf]; omega
      · rw [hl] at HC HN
        have HN2 : Hid ((s.data.toList.take (k + 1)).any letB = decide (0 < c + 1)) := by show _ = _; rw [HN.out]; simp
        clear hl
        go_wp2_with (go_at_call 61; refine HC.out.mono ?_; rintro e w' ⟨rfl, rfl⟩)
        go_round
        case rel => exact ⟨k + 1, c + 1, by omega, by omega, by go_num, by go_num, HN2⟩
        case measure => simp [intOf]; omega
    · obtain rfl : k = s.size := by omega
      have HA2 : Hid (s.data.toList.any letB = decide (0 < c)) := by
        show _ = _
        rw [← HA.out, List.take_of_length_le (by rw [← HL.out]; exact Nat.le_refl _)]
      clear HA
      rcases Nat.eq_zero_or_pos c with h0 | h0
      · subst h0
        have HF : Hid (nameR s.data.toList = false) := by show _ = _; unfold nameR; rw [HA2.out]; simp
        go_wp2
        go_ret
        exact ⟨ret_bool HF.out.symm, rfl⟩
      · have h1 : 0 < s.size := by omega
        have hl1 : s.size - 1 < s.size := by omega
        have g0 := get_getD s 0 h1
        have gl := get_getD s (s.size - 1) hl1
        have hi : ((s.size : Int) - 1) = ((s.size - 1 : Nat) : Int) := by omega
        have HF : Hid (nameR s.data.toList = (((s[0].toNat : Int) != 45) && ((s[s.size - 1].toNat : Int) != 45))) := by
          show _ = _
          unfold nameR
          rw [← HL.out, HA2.out, g0, gl, Bool.eq_iff_iff]
          simp [h0]
          omega
        have u0 := u8lt s[0]
        have u1 := u8lt s[s.size - 1]
        clear g0 gl
        by_cases h45 : (s[0].toNat : Int) = 45 <;> by_cases hz45 : (s[s.size - 1].toNat : Int) = 45
        all_goals
          go_wp2
          go_ret
          refine ⟨ret_bool ?_, rfl⟩
          rw [HF.out] <;> simp [h45, hz45]
end Go.Proofs.YtpalfhfbgfnacaaGreatDoor
