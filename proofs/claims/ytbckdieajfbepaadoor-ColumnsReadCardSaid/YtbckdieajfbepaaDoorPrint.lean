/-
  The contract of package chars' function Printable, alone (for seats that lay no other function of that package).
-/
import Derived.Test.YtbckdieajfbepaaDoorText
namespace Go.Proofs.YtbckdieajfbepaaDoor
open Go.RowKit
set_option linter.unusedVariables false
set_option linter.unusedSimpArgs false

theorem ret_int {k : IntKind} {a b : Int} (h : a = b) : Ending.returned (.int k a) = .returned (.int k b) := by rw [h]
theorem ret_bool {a b : Bool} (h : a = b) : Ending.returned (.bool a) = .returned (.bool b) := by rw [h]
theorem dec_gt (n : Nat) (k : Nat) : (!decide (n ≤ k)) = decide ((k : Int) < (n : Int)) := by
  rw [Bool.eq_iff_iff]; simp
/-- What a test on a byte is: function K decides p, and leaves the world. -/
structure Tests (K : Nat) (p : UInt8 → Bool) : Prop where
  enter : ∀ (args : Array Value) (w : World), (callFunc K args).run Tryd.prog w = .ok (.enter K args) w
  calls : ∀ (c : UInt8) (w : World), Calls Tryd.prog K #[.int .u8 c.toNat] w fun e w' => e = .returned (.bool (p c)) ∧ w = w'

theorem notPrint_any : Tests 80 (fun c => !prtB c) := by
  refine ⟨fun args w => by kernel_rfl, ?_⟩
  intro c w
  have hlt := u8lt c
  by_cases h : (c.toNat : Int) < 32
  · go_enter Tryd.func80, Tryd.ntmps80
    go_wp2
    go_ret
    exact ⟨ret_bool (by simp [prtB]; omega), rfl⟩
  · go_enter Tryd.func80, Tryd.ntmps80
    go_wp2
    go_ret
    exact ⟨ret_bool (by have h1 : 32 ≤ c.toNat := by omega
                        simp only [prtB, h1, decide_true, Bool.true_and]; exact (dec_gt _ _).symm), rfl⟩
set_option maxHeartbeats 400000 in
theorem first_any (s : ByteArray) (K : Nat) (p : UInt8 → Bool) (hp : Tests K p) (hs : s.size ≤ 140737488355328) (w : World) :
    Calls Tryd.prog 79 #[.string s, .func (.func K) #[] #[]] w fun e w' => e = .returned (.int .i64 (firstI p 0 s.data.toList)) ∧ w = w' := by
  have hen := hp.enter
  have HP := Lib.hid hp.calls; clear hp
  go_enter Tryd.func79, Tryd.ntmps79
  go_wp2
  go_loop [8] (fun i => ∃ k : Nat, k ≤ s.size ∧ i = .int .i64 k ∧ firstI p 0 s.data.toList = firstI p k (s.data.toList.drop k)) (fun i => s.size - (intOf i).toNat)
  case atStart => exact ⟨0, Nat.zero_le _, rfl, by simp⟩
  case round =>
    obtain ⟨k, hk, rfl, he⟩ := hrel
    have HE := Lib.hid he; clear he
    by_cases hlt : k < s.size
    · have hget : s.data.toList[k]? = some s[k] := by simp [hlt]; rfl
      have hd := firstI_drop p s.data.toList k s[k] hget
      have HD := Lib.hid hd; clear hd hget
      go_wp2_with fail
      refine (HP.out _ _).mono ?_
      rintro e w' ⟨rfl, rfl⟩
      cases hpb : p s[k]
      · go_wp2
        go_round
        case rel => exact ⟨k + 1, by omega, by go_num, by rw [HE.out, HD.out, hpb]; simp⟩
        case measure => simp [intOf]; omega
      · go_wp2
        go_ret
        exact ⟨ret_int (by rw [HE.out, HD.out, hpb]; simp), rfl⟩
    · go_wp2
      go_ret
      exact ⟨ret_int (by rw [HE.out, List.drop_of_length_le (by simp; omega)]; rfl), rfl⟩

set_option maxRecDepth 100000 in
theorem printable_any (s : ByteArray) (hs : s.size ≤ 140737488355328) (w : World) : Calls Tryd.prog 57 #[.string s] w fun e w' => e = .returned (.bool (printB s.data.toList)) ∧ w = w' := by
  have h2 : printB s.data.toList = decide (firstI (fun c => !prtB c) 0 s.data.toList < 0) := by
    unfold printB
    cases hall : s.data.toList.all prtB
    · have := firstI_some (fun c => !prtB c) s.data.toList 0 (by simpa using hall)
      simp; omega
    · have := firstI_none (fun c => !prtB c) s.data.toList 0 (by simpa using hall)
      simp [this]
  rw [h2]; clear h2
  go_enter Tryd.func57, Tryd.ntmps57
  go_wp2_with (go_at_call 79; refine (first_any s _ _ notPrint_any hs _).mono ?_; rintro e w' ⟨rfl, rfl⟩)
  go_ret
  exact ⟨rfl, rfl⟩
end Go.Proofs.YtbckdieajfbepaaDoor
