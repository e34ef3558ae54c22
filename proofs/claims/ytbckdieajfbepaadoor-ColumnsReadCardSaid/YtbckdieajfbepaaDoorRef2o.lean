/-
  The contract of the reference's function Open (columnsevenref02).
-/
import Derived.Test.YtbckdieajfbepaaDoorText
namespace Go.Proofs.YtbckdieajfbepaaDoor
open Go.RowKit
set_option linter.unusedVariables false
set_option linter.unusedSimpArgs false

theorem retI {k : IntKind} {a b : Int} (h : a = b) : Ending.returned (.int k a) = .returned (.int k b) := by rw [h]
theorem retB {a b : Bool} (h : a = b) : Ending.returned (.bool a) = .returned (.bool b) := by rw [h]
theorem retS {a b : ByteArray} (h : a = b) : Ending.returned (.string a) = .returned (.string b) := by rw [h]

set_option maxHeartbeats 400000 in
theorem r2open (s : ByteArray) (hs : s.size ≤ 140737488355328) (w : World) :
    Calls Tryd.prog 20 #[.string s] w fun e w' => e = .returned (.bool (openB s.data.toList)) ∧ w = w' := by
  have HL := Lib.hid (size_data s)
  go_enter Tryd.func20, Tryd.ntmps20
  go_wp2
  go_loop [3, 4] (fun n i => ∃ k : Nat, k ≤ s.size ∧ i = .int .i64 k ∧ n = .int .i64 (qn (s.data.toList.take k))) (fun _ i => s.size - (intOf i).toNat)
  case atStart => exact ⟨0, Nat.zero_le _, rfl, rfl⟩
  case round =>
    obtain ⟨k, hk, rfl, rfl⟩ := hrel
    have hle : qn (s.data.toList.take k) ≤ k := Nat.le_trans (qn_le _) (List.length_take_le _ _)
    by_cases hlt : k < s.size
    · have HD := Lib.hid (qn_take _ k _ (get_data s k hlt))
      generalize qn (s.data.toList.take k) = n at *
      by_cases h34 : s[k].toNat = 34
      · have hq : ((s[k].toNat : Int) == 34) = true := by simp; omega
        have H34 := Lib.hid h34; clear h34
        go_wp2
        go_round
        case rel => exact ⟨k + 1, by omega, by go_num, by rw [HD.out, if_pos H34.out]; go_num⟩
        case measure => simp [intOf]; omega
      · have hq : ((s[k].toNat : Int) == 34) = false := by simp; omega
        have H34 := Lib.hid h34; clear h34
        go_wp2
        go_round
        case rel => exact ⟨k + 1, by omega, by go_num, by rw [HD.out, if_neg H34.out]; go_num⟩
        case measure => simp [intOf]; omega
    · have HQ : Hid (s.data.toList.take k = s.data.toList) := List.take_of_length_le (by rw [← HL.out]; omega)
      go_wp2
      go_ret
      exact ⟨retB (by unfold openB; rw [HQ.out]; rw [Bool.eq_iff_iff]; simp; omega), rfl⟩

end Go.Proofs.YtbckdieajfbepaaDoor
