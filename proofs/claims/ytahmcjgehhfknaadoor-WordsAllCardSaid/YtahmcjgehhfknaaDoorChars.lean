/-
  The contracts of package chars' functions that only read.
-/
import Derived.Test.YtahmcjgehhfknaaDoorBase
namespace Go.Proofs.YtahmcjgehhfknaaDoor
open Go.RowKit
set_option linter.unusedVariables false
set_option linter.unusedSimpArgs false

theorem ret_int {k : IntKind} {a b : Int} (h : a = b) : Ending.returned (.int k a) = .returned (.int k b) := by rw [h]
theorem ret_bool {a b : Bool} (h : a = b) : Ending.returned (.bool a) = .returned (.bool b) := by rw [h]
theorem dec_le (n : Nat) (k : Nat) : decide (n ≤ k) = decide ((n : Int) ≤ (k : Int)) := by simp
theorem dec_gt (n : Nat) (k : Nat) : (!decide (n ≤ k)) = decide ((k : Int) < (n : Int)) := by
  rw [Bool.eq_iff_iff]; simp
theorem ne_nat (n k : Nat) : ((n : Int) != (k : Int)) = !decide (n = k) := by
  rw [Bool.eq_iff_iff]; simp; omega

theorem isDigit_any (c : UInt8) (w : World) : Calls Tryd.prog 88 #[.int .u8 c.toNat] w fun e w' => e = .returned (.bool (digB c)) ∧ w = w' := by
  have hlt := u8lt c
  by_cases h : 48 ≤ (c.toNat : Int)
  · go_enter Tryd.func88, Tryd.ntmps88
    go_wp2
    go_ret
    exact ⟨ret_bool (by have h1 : 48 ≤ c.toNat := by omega
                        simp only [digB, h1, decide_true, Bool.true_and]; exact (dec_le _ _).symm), rfl⟩
  · go_enter Tryd.func88, Tryd.ntmps88
    go_wp2
    go_ret
    exact ⟨ret_bool (by have h1 : ¬ 48 ≤ c.toNat := by omega
                        simp [digB, h1]), rfl⟩
/-- What a test on a byte is: function K decides p, and leaves the world. -/
structure Tests (K : Nat) (p : UInt8 → Bool) : Prop where
  enter : ∀ (args : Array Value) (w : World), (callFunc K args).run Tryd.prog w = .ok (.enter K args) w
  calls : ∀ (c : UInt8) (w : World), Calls Tryd.prog K #[.int .u8 c.toNat] w fun e w' => e = .returned (.bool (p c)) ∧ w = w'

theorem notDigit_any : Tests 87 (fun c => !digB c) := by
  refine ⟨fun args w => by kernel_rfl, ?_⟩
  intro c w
  go_enter Tryd.func87, Tryd.ntmps87
  go_wp2_with (go_at_call 88; refine (isDigit_any c _).mono ?_; rintro e w' ⟨rfl, rfl⟩)
  go_ret
  exact ⟨rfl, rfl⟩
set_option maxHeartbeats 400000 in
theorem first_any (s : ByteArray) (K : Nat) (p : UInt8 → Bool) (hp : Tests K p) (hs : s.size ≤ 140737488355328) (w : World) :
    Calls Tryd.prog 86 #[.string s, .func (.func K) #[] #[]] w fun e w' => e = .returned (.int .i64 (firstI p 0 s.data.toList)) ∧ w = w' := by
  have hen := hp.enter
  have HP := Lib.hid hp.calls; clear hp
  go_enter Tryd.func86, Tryd.ntmps86
  go_wp2
  go_loop [8] (fun i => ∃ k : Nat, k ≤ s.size ∧ i = .int .i64 k ∧ firstI p 0 s.data.toList = firstI p k (s.data.toList.drop k)) (fun i => s.size - (intOf i).toNat)
  case atStart => exact ⟨0, Nat.zero_le _, rfl, by simp⟩
  case round =>
    obtain ⟨k, hk, rfl, he⟩ := hrel
    have HE := Lib.hid he; clear he
    by_cases hlt : k < s.size
    · have hget : s.data.toList[k]? = some s[k] := by simp [hlt]; rfl
      have hd := firstI_drop p s.data.toList k s[k] hget
      have HD := Lib.hid hd; clear hd hget
      go_wp2_with fail
      refine (HP.out _ _).mono ?_
      rintro e w' ⟨rfl, rfl⟩
      cases hpb : p s[k]
      · go_wp2
        go_round
        case rel => exact ⟨k + 1, by omega, by go_num, by rw [HE.out, HD.out, hpb]; simp⟩
        case measure => simp [intOf]; omega
      · go_wp2
        go_ret
        exact ⟨ret_int (by rw [HE.out, HD.out, hpb]; simp), rfl⟩
    · go_wp2
      go_ret
      exact ⟨ret_int (by rw [HE.out, List.drop_of_length_le (by simp; omega)]; rfl), rfl⟩

end Go.Proofs.YtahmcjgehhfknaaDoor
