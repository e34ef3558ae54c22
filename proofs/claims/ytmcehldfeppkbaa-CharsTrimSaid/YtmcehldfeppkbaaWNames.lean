/-
  The walk of the law CharsNames: true for every text.
-/
import Derived.Test.YtmcehldfeppkbaaNames
namespace Go.Proofs.Ytmcehldfeppkbaa
open Go.RowKit
set_option linter.unusedVariables false
set_option linter.unusedSimpArgs false

theorem digB_iff (c : UInt8) : digB c = true ↔ 48 ≤ (c.toNat : Int) ∧ (c.toNat : Int) ≤ 57 := by simp [digB]; omega
theorem capB_iff (c : UInt8) : capB c = true ↔ 65 ≤ (c.toNat : Int) ∧ (c.toNat : Int) ≤ 90 := by simp [capB]; omega
theorem digB_no (c : UInt8) (h : ¬ (48 ≤ (c.toNat : Int) ∧ (c.toNat : Int) ≤ 57)) : digB c = false := by
  rw [← Bool.not_eq_true]; exact fun e => h ((digB_iff c).1 e)
theorem capB_no (c : UInt8) (h : ¬ (65 ≤ (c.toNat : Int) ∧ (c.toNat : Int) ≤ 90)) : capB c = false := by
  rw [← Bool.not_eq_true]; exact fun e => h ((capB_iff c).1 e)
theorem val_bool {a b : Bool} (h : a = b) : Value.bool a = Value.bool b := by rw [h]
theorem val_int {k : IntKind} {a b : Int} (h : a = b) : Value.int k a = Value.int k b := by rw [h]

/-- What the loop of CharsNames knows behind k rounds. -/
def NamesRel (s : ByteArray) (d l p r i : Value) : Prop := ∃ k : Nat, k ≤ s.size ∧ i = .int .i64 k ∧ d = .int .i64 (cnt digB s.data.toList k) ∧ l = .int .i64 (cnt capB s.data.toList k) ∧
  p = .bool (allTo (fun _ c => prtB c) s.data.toList k) ∧ r = .bool (allTo (okAt s.size) s.data.toList k)

theorem names_step (s : ByteArray) (k : Nat) (c : UInt8) (hlt : k < s.size) (nd nc : Nat) (pb rb : Bool)
    (S1 : Hid (cnt digB s.data.toList (k + 1) = nd + if digB c = true then 1 else 0)) (S2 : Hid (cnt capB s.data.toList (k + 1) = nc + if capB c = true then 1 else 0))
    (S3 : Hid (allTo (fun _ c => prtB c) s.data.toList (k + 1) = (pb && prtB c))) (S4 : Hid (allTo (okAt s.size) s.data.toList (k + 1) = (rb && okAt s.size k c)))
    (D L : Int) (P R : Bool) (hD : D = nd + if 48 ≤ (c.toNat : Int) ∧ (c.toNat : Int) ≤ 57 then 1 else 0) (hL : L = nc + if 65 ≤ (c.toNat : Int) ∧ (c.toNat : Int) ≤ 90 then 1 else 0)
    (hP : P = (pb && decide (32 ≤ (c.toNat : Int) ∧ (c.toNat : Int) ≤ 126)))
    (hR : R = (rb && decide ((48 ≤ (c.toNat : Int) ∧ (c.toNat : Int) ≤ 57) ∨ (65 ≤ (c.toNat : Int) ∧ (c.toNat : Int) ≤ 90) ∨ ((c.toNat : Int) = 45 ∧ 0 < k ∧ (k : Int) + 1 < s.size)))) :
    NamesRel s (.int .i64 D) (.int .i64 L) (.bool P) (.bool R) (.int .i64 ((k : Int) + 1)) := by
  have e1 : (digB c = true) = (48 ≤ (c.toNat : Int) ∧ (c.toNat : Int) ≤ 57) := propext (digB_iff c)
  have e2 : (capB c = true) = (65 ≤ (c.toNat : Int) ∧ (c.toNat : Int) ≤ 90) := propext (capB_iff c)
  refine ⟨k + 1, hlt, by go_num, val_int ?_, val_int ?_, val_bool ?_, val_bool ?_⟩
  · rw [hD, S1.out]; simp only [e1]; split <;> omega
  · rw [hL, S2.out]; simp only [e2]; split <;> omega
  · rw [hP, S3.out]; congr 1; rw [Bool.eq_iff_iff]; simp [prtB]; omega
  · rw [hR, S4.out]; congr 1; rw [Bool.eq_iff_iff]; simp only [okAt, Bool.or_eq_true, Bool.and_eq_true, decide_eq_true_eq, e1, e2]; omega

set_option maxRecDepth 100000 in
set_option maxHeartbeats 4000000 in
theorem names_walk (s : ByteArray) (hs0 : s.size ≤ maxLen) (w : World) : Calls Try.prog 3 #[.string s] w fun e w' => e = .returned (.bool true) ∧ Below w.heap.size w w' := by
  by_cases h100 : (100 : Int) < s.size
  · unfold maxLen at hs0
    go_enter Try.func3, Try.ntmps3
    go_wp2_with fail
    refine (lives_any _).mono ?_; rintro e w' ⟨rfl, hb⟩
    go_wp2
    go_ret
    exact ⟨rfl, hb⟩
  have hs : s.size ≤ 140737488355328 := by omega
  clear hs0
  have HN : Hid (s.size = s.data.toList.length) := Array.length_toList.symm
  go_enter Try.func3, Try.ntmps3
  go_wp2
  go_loop [3, 4, 5, 6, 7] (fun d l p r i => NamesRel s d l p r i) (fun _ _ _ _ i => s.size - (intOf i).toNat)
  case atStart => exact ⟨0, Nat.zero_le _, rfl, rfl, rfl, rfl, rfl⟩
  case round =>
    obtain ⟨k, hk, rfl, rfl, rfl, rfl, rfl⟩ := hrel
    have hd1 := cnt_le digB s.data.toList k
    have hc1 := cnt_le capB s.data.toList k
    by_cases hlt : k < s.size
    · have hget : s.data.toList[k]? = some s[k] := by simp [hlt]; rfl
      have S1 := Lib.hid (cnt_succ (p := digB) hget)
      have S2 := Lib.hid (cnt_succ (p := capB) hget)
      have S3 := Lib.hid (allTo_succ (p := fun _ c => prtB c) hget)
      have S4 := Lib.hid (allTo_succ (p := okAt s.size) hget)
      clear hget
      generalize cnt digB s.data.toList k = nd at *
      generalize cnt capB s.data.toList k = nc at *
      generalize allTo (fun _ c => prtB c) s.data.toList k = pb at *
      generalize allTo (okAt s.size) s.data.toList k = rb at *
      cases pb
      all_goals
        go_wp2
      all_goals
        go_round
        case rel =>
          refine names_step s k s[k] hlt nd nc _ rb S1 S2 S3 S4 _ _ _ _ ?_ ?_ ?_ ?_
          · split <;> omega
          · split <;> omega
          · rw [Bool.eq_iff_iff]; simp; try omega
          · cases rb
            · simp
            · rw [Bool.eq_iff_iff]; simp; omega
        case measure => simp [intOf]; omega
    · obtain rfl : s.size = k := by omega
      clear hk hlt
      have HD : Hid (isDigitsB s.data.toList = (decide (0 < (cnt digB s.data.toList s.size : Int)) && ((cnt digB s.data.toList s.size : Int) == (s.size : Int)))) := by
        show _ = _
        rw [digits_law, ← HN.out, Bool.eq_iff_iff]; simp; intro _; omega
      have HM : Hid (isNameB s.data.toList = (allTo (okAt s.size) s.data.toList s.size && decide (0 < (cnt capB s.data.toList s.size : Int)) && decide ((s.size : Int) ≤ 30))) := by
        show _ = _
        rw [name_law, ← HN.out, Bool.eq_iff_iff]; simp; omega
      have HP : Hid (printB s.data.toList = allTo (fun _ c => prtB c) s.data.toList s.size) := by
        show _ = _
        rw [print_law, ← HN.out]
      generalize cnt digB s.data.toList s.size = nd at *
      generalize cnt capB s.data.toList s.size = nc at *
      generalize allTo (fun _ c => prtB c) s.data.toList s.size = pb at *
      generalize allTo (okAt s.size) s.data.toList s.size = rb at *
      go_wp2_with fail
      refine (isDigits_any s hs _).mono ?_; rintro e w' ⟨rfl, rfl⟩
      rw [HD.out]
      by_cases g1 : 0 < (nd : Int)
      all_goals
        go_wp2_with fail
        refine (isName_any s hs _).mono ?_; rintro e w' ⟨rfl, rfl⟩
        rw [HM.out]
      all_goals
        cases rb
        all_goals
          by_cases g2 : 0 < (nc : Int)
          all_goals
            go_wp2_with fail
            refine (printable_any s hs _).mono ?_; rintro e w' ⟨rfl, rfl⟩
            rw [HP.out]
            go_wp2_with fail
            refine (lives_any _).mono ?_; rintro e w' ⟨rfl, hb⟩
            go_wp2
            go_ret
            exact ⟨rfl, hb⟩
end Go.Proofs.Ytmcehldfeppkbaa
