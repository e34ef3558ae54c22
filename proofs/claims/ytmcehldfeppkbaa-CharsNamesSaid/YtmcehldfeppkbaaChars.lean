/-
  The contracts of package chars' functions that only read.
-/
import Derived.Test.YtmcehldfeppkbaaBase
namespace Go.Proofs.Ytmcehldfeppkbaa
open Go.RowKit
set_option linter.unusedVariables false
set_option linter.unusedSimpArgs false

theorem ret_int {k : IntKind} {a b : Int} (h : a = b) : Ending.returned (.int k a) = .returned (.int k b) := by rw [h]
theorem ret_bool {a b : Bool} (h : a = b) : Ending.returned (.bool a) = .returned (.bool b) := by rw [h]
theorem dec_le (n : Nat) (k : Nat) : decide (n ≤ k) = decide ((n : Int) ≤ (k : Int)) := by simp
theorem dec_gt (n : Nat) (k : Nat) : (!decide (n ≤ k)) = decide ((k : Int) < (n : Int)) := by
  rw [Bool.eq_iff_iff]; simp
theorem ne_nat (n k : Nat) : ((n : Int) != (k : Int)) = !decide (n = k) := by
  rw [Bool.eq_iff_iff]; simp; omega

theorem isDigit_any (c : UInt8) (w : World) : Calls Try.prog 22 #[.int .u8 c.toNat] w fun e w' => e = .returned (.bool (digB c)) ∧ w = w' := by
  have hlt := u8lt c
  by_cases h : 48 ≤ (c.toNat : Int)
  · go_enter Try.func22, Try.ntmps22
    go_wp2
    go_ret
    exact ⟨ret_bool (by have h1 : 48 ≤ c.toNat := by omega
                        simp only [digB, h1, decide_true, Bool.true_and]; exact (dec_le _ _).symm), rfl⟩
  · go_enter Try.func22, Try.ntmps22
    go_wp2
    go_ret
    exact ⟨ret_bool (by have h1 : ¬ 48 ≤ c.toNat := by omega
                        simp [digB, h1]), rfl⟩
theorem isCapital_any (c : UInt8) (w : World) : Calls Try.prog 24 #[.int .u8 c.toNat] w fun e w' => e = .returned (.bool (capB c)) ∧ w = w' := by
  have hlt := u8lt c
  by_cases h : 65 ≤ (c.toNat : Int)
  · go_enter Try.func24, Try.ntmps24
    go_wp2
    go_ret
    exact ⟨ret_bool (by have h1 : 65 ≤ c.toNat := by omega
                        simp only [capB, h1, decide_true, Bool.true_and]; exact (dec_le _ _).symm), rfl⟩
  · go_enter Try.func24, Try.ntmps24
    go_wp2
    go_ret
    exact ⟨ret_bool (by have h1 : ¬ 65 ≤ c.toNat := by omega
                        simp [capB, h1]), rfl⟩

/-- What a test on a byte is: function K decides p, and leaves the world. -/
structure Tests (K : Nat) (p : UInt8 → Bool) : Prop where
  enter : ∀ (args : Array Value) (w : World), (callFunc K args).run Try.prog w = .ok (.enter K args) w
  calls : ∀ (c : UInt8) (w : World), Calls Try.prog K #[.int .u8 c.toNat] w fun e w' => e = .returned (.bool (p c)) ∧ w = w'

theorem notDigit_any : Tests 21 (fun c => !digB c) := by
  refine ⟨fun args w => by kernel_rfl, ?_⟩
  intro c w
  go_enter Try.func21, Try.ntmps21
  go_wp2_with (go_at_call 22; refine (isDigit_any c _).mono ?_; rintro e w' ⟨rfl, rfl⟩)
  go_ret
  exact ⟨rfl, rfl⟩
theorem capital_any : Tests 24 capB := ⟨fun args w => by kernel_rfl, fun c w => isCapital_any c w⟩
theorem notSpace_any : Tests 29 (fun c => !spcB c) := by
  refine ⟨fun args w => by kernel_rfl, ?_⟩
  intro c w
  have hlt := u8lt c
  go_enter Try.func29, Try.ntmps29
  go_wp2
  go_ret
  exact ⟨ret_bool (ne_nat _ 32), rfl⟩
theorem notPrint_any : Tests 25 (fun c => !prtB c) := by
  refine ⟨fun args w => by kernel_rfl, ?_⟩
  intro c w
  have hlt := u8lt c
  by_cases h : (c.toNat : Int) < 32
  · go_enter Try.func25, Try.ntmps25
    go_wp2
    go_ret
    exact ⟨ret_bool (by simp [prtB]; omega), rfl⟩
  · go_enter Try.func25, Try.ntmps25
    go_wp2
    go_ret
    exact ⟨ret_bool (by have h1 : 32 ≤ c.toNat := by omega
                        simp only [prtB, h1, decide_true, Bool.true_and]; exact (dec_gt _ _).symm), rfl⟩
theorem strange_any : Tests 23 (fun c => !nameB c) := by
  refine ⟨fun args w => by kernel_rfl, ?_⟩
  intro c w
  have hlt := u8lt c
  cases h : capB c
  · cases h2 : digB c
    · go_enter Try.func23, Try.ntmps23
      go_wp2_with (first | (go_at_call 22; refine (isDigit_any c _).mono ?_; rintro e w' ⟨rfl, rfl⟩) | (go_at_call 24; refine (isCapital_any c _).mono ?_; rintro e w' ⟨rfl, rfl⟩))
      go_ret
      exact ⟨ret_bool (by simp only [nameB, h, h2, Bool.false_or]; exact ne_nat _ 45), rfl⟩
    · go_enter Try.func23, Try.ntmps23
      go_wp2_with (first | (go_at_call 22; refine (isDigit_any c _).mono ?_; rintro e w' ⟨rfl, rfl⟩) | (go_at_call 24; refine (isCapital_any c _).mono ?_; rintro e w' ⟨rfl, rfl⟩))
      go_ret
      exact ⟨ret_bool (by simp [nameB, h, h2]), rfl⟩
  · go_enter Try.func23, Try.ntmps23
    go_wp2_with (first | (go_at_call 22; refine (isDigit_any c _).mono ?_; rintro e w' ⟨rfl, rfl⟩) | (go_at_call 24; refine (isCapital_any c _).mono ?_; rintro e w' ⟨rfl, rfl⟩))
    go_ret
    exact ⟨ret_bool (by simp [nameB, h]), rfl⟩

set_option maxHeartbeats 400000 in
theorem first_any (s : ByteArray) (K : Nat) (p : UInt8 → Bool) (hp : Tests K p) (hs : s.size ≤ 140737488355328) (w : World) :
    Calls Try.prog 20 #[.string s, .func (.func K) #[] #[]] w fun e w' => e = .returned (.int .i64 (firstI p 0 s.data.toList)) ∧ w = w' := by
  have hen := hp.enter
  have HP := Lib.hid hp.calls; clear hp
  go_enter Try.func20, Try.ntmps20
  go_wp2
  go_loop [8] (fun i => ∃ k : Nat, k ≤ s.size ∧ i = .int .i64 k ∧ firstI p 0 s.data.toList = firstI p k (s.data.toList.drop k)) (fun i => s.size - (intOf i).toNat)
  case atStart => exact ⟨0, Nat.zero_le _, rfl, by simp⟩
  case round =>
    obtain ⟨k, hk, rfl, he⟩ := hrel
    have HE := Lib.hid he; clear he
    by_cases hlt : k < s.size
    · have hget : s.data.toList[k]? = some s[k] := by simp [hlt]; rfl
      have hd := firstI_drop p s.data.toList k s[k] hget
      have HD := Lib.hid hd; clear hd hget
      go_wp2_with fail
      refine (HP.out _ _).mono ?_
      rintro e w' ⟨rfl, rfl⟩
      cases hpb : p s[k]
      · go_wp2
        go_round
        case rel => exact ⟨k + 1, by omega, by go_num, by rw [HE.out, HD.out, hpb]; simp⟩
        case measure => simp [intOf]; omega
      · go_wp2
        go_ret
        exact ⟨ret_int (by rw [HE.out, HD.out, hpb]; simp), rfl⟩
    · go_wp2
      go_ret
      exact ⟨ret_int (by rw [HE.out, List.drop_of_length_le (by simp; omega)]; rfl), rfl⟩

set_option maxRecDepth 100000 in
set_option maxHeartbeats 400000 in
theorem last_any (A : Option Addr) (xs : List UInt8) (cap : Nat) (K : Nat) (p : UInt8 → Bool) (hp : Tests K p) (w : World) (h : Txt w A xs) (hl : xs.length ≤ 140737488355328) :
    Calls Try.prog 28 #[.slice A xs.length cap, .func (.func K) #[] #[]] w fun e w' => e = .returned (.int .i64 (lastI p xs xs.length)) ∧ w = w' := by
  have hen := hp.enter
  have HP := Lib.hid hp.calls; clear hp
  have HX := Lib.hid h; clear h
  go_enter Try.func28, Try.ntmps28
  go_wp2
  go_loop [5] (fun i => ∃ k : Nat, k ≤ xs.length ∧ i = .int .i64 ((k : Int) - 1) ∧ lastI p xs xs.length = lastI p xs k) (fun i => (intOf i + 1).toNat)
  case atStart => exact ⟨xs.length, Nat.le_refl _, rfl, rfl⟩
  case round =>
    obtain ⟨k, hk, rfl, he⟩ := hrel
    have HE := Lib.hid he; clear he
    rcases k with _ | k
    · go_wp2
      go_ret
      exact ⟨ret_int (by rw [HE.out]; rfl), rfl⟩
    · obtain ⟨b, off, c, rfl, hb, hc, hcell⟩ := HX.out.at_ (k := k) (by omega)
      have HD : Hid (lastI p xs (k + 1) = if p c = true then (k : Int) else lastI p xs k) := by
        simp [Hid, lastI, List.getD, hc]
      clear hc
      rw [show (((k + 1 : Nat) : Int) - 1) = (k : Int) from by omega]
      go_wp2_with fail
      refine (HP.out c _).mono ?_
      rintro e w' ⟨rfl, rfl⟩
      cases hpb : p c
      · go_wp2
        go_round
        case rel => exact ⟨k, by omega, rfl, by rw [HE.out, HD.out, hpb]; simp⟩
        case measure => simp only [intOf]; omega
      · go_wp2
        go_ret
        exact ⟨ret_int (by rw [HE.out, HD.out, hpb]; simp), rfl⟩
end Go.Proofs.Ytmcehldfeppkbaa
