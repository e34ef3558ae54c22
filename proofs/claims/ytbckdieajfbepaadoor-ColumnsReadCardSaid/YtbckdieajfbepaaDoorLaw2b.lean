/-
  The contracts of the law's functions divide and digits of layer 2 (columnsevenlaw02).
-/
import Derived.Test.YtbckdieajfbepaaDoorRef2o
import Derived.Handy
namespace Go.Proofs.YtbckdieajfbepaaDoor
open Go.RowKit
set_option linter.unusedVariables false
set_option linter.unusedSimpArgs false

/-- Can a text be divided at k? -/
def hitAt (l : List UInt8) (ins : Bool) (k : Nat) : Bool :=
  match l[k]? with
  | none => false
  | some c => decide (c.toNat = 32) && (openB (l.take k) == ins)
/-- The greatest such k from 1 to a room. -/
def divN (l : List UInt8) (ins : Bool) : Nat → Option Nat
  | 0 => none
  | k + 1 => if hitAt l ins (k + 1) then some (k + 1) else divN l ins k
theorem divN_hit (l : List UInt8) (ins : Bool) (k : Nat) (h : hitAt l ins (k + 1) = true) : divN l ins (k + 1) = some (k + 1) := by
  show (if _ then _ else _) = _; rw [if_pos h]
theorem divN_miss (l : List UInt8) (ins : Bool) (k : Nat) (h : hitAt l ins (k + 1) = false) : divN l ins (k + 1) = divN l ins k := by
  show (if _ then _ else _) = _; rw [h]; rfl
theorem hitAt_of (l : List UInt8) (ins : Bool) (k : Nat) (c : UInt8) (h : l[k]? = some c) : hitAt l ins k = (decide (c.toNat = 32) && (openB (l.take k) == ins)) := by
  unfold hitAt; rw [h]
theorem hitAt_none (l : List UInt8) (ins : Bool) (k : Nat) (h : l.length ≤ k) : hitAt l ins k = false := by
  unfold hitAt; rw [List.getElem?_eq_none h]

set_option maxHeartbeats 1000000 in
theorem l2divide (s : ByteArray) (hs : s.size ≤ 1048576) (room : Nat) (hr : room ≤ 1048576) (ins : Bool) (w : World) :
    Calls Tryd.prog 19 #[.string s, .int .i64 room, .bool ins] w fun e w' => e = .returned (.tuple #[.int .i64 ((divN s.data.toList ins room).getD room : Nat), .bool (divN s.data.toList ins room).isSome]) ∧ w = w' := by
  have HL := Lib.hid (size_data s)
  go_enter Tryd.func19, Tryd.ntmps19
  go_wp2
  go_loop [8] (fun i => ∃ k : Nat, k ≤ room ∧ i = .int .i64 k ∧ Hid (divN s.data.toList ins room = divN s.data.toList ins k)) (fun i => (intOf i).toNat)
  case atStart => exact ⟨room, Nat.le_refl _, rfl, rfl⟩
  case round =>
    obtain ⟨k, hk, rfl, HD⟩ := hrel
    cases k with
    | zero =>
      have HN : Hid (divN s.data.toList ins room = none) := HD.out
      go_wp2
      go_returns
      exact ⟨by rw [HN.out]; rfl, rfl⟩
    | succ k =>
      by_cases hlt : k + 1 < s.size
      · have hget := get_data s (k + 1) hlt
        have hh := hitAt_of s.data.toList ins (k + 1) _ hget
        have hhit : hitAt s.data.toList ins (k + 1) = true → Hid (divN s.data.toList ins room = some (k + 1)) := fun h => HD.out.trans (divN_hit _ _ _ h)
        have hmiss : hitAt s.data.toList ins (k + 1) = false → Hid (divN s.data.toList ins room = divN s.data.toList ins k) := fun h => HD.out.trans (divN_miss _ _ _ h)
        clear hget
        by_cases h32 : s[k + 1].toNat = 32
        · have hq : ((s[k + 1].toNat : Int) == 32) = true := by simp; omega
          by_cases ho : openB (s.data.toList.take (k + 1)) = ins
          · have HN := hhit (by rw [hh, ho]; simp [h32])
            have HO : Hid (openB (s.extract 0 (k + 1)).data.toList = ins) := by show _ = _; rw [extract_data]; exact ho
            clear hh hhit hmiss h32 ho
            go_wp2_with fail
            refine (r2open (s.extract 0 (k + 1)) (by rw [ByteArray.size_extract]; omega) _).mono ?_; rintro e w' ⟨rfl, rfl⟩
            rw [HO.out]
            cases ins <;> (go_wp2; go_returns; exact ⟨by rw [HN.out]; rfl, rfl⟩)
          · have HN := hmiss (by rw [hh]; simp [ho])
            have HO : Hid (openB (s.extract 0 (k + 1)).data.toList = !ins) := by
              show _ = _; rw [extract_data]
              show openB (s.data.toList.take (k + 1)) = _
              cases ins <;> simpa using ho
            clear hh hhit hmiss h32 ho
            go_wp2_with fail
            refine (r2open (s.extract 0 (k + 1)) (by rw [ByteArray.size_extract]; omega) _).mono ?_; rintro e w' ⟨rfl, rfl⟩
            rw [HO.out]
            cases ins <;>
            · go_wp2
              go_round
              case rel => exact ⟨k, by omega, by go_num, HN⟩
              case measure => simp [intOf]
        · have hq : ((s[k + 1].toNat : Int) == 32) = false := by simp; omega
          have HN := hmiss (by rw [hh]; simp [h32])
          clear hh hhit hmiss h32
          go_wp2
          go_round
          case rel => exact ⟨k, by omega, by go_num, HN⟩
          case measure => simp [intOf]
      · have HN : Hid (divN s.data.toList ins room = divN s.data.toList ins k) := HD.out.trans (divN_miss _ _ _ (hitAt_none _ _ _ (by rw [← HL.out]; omega)))
        go_wp2
        go_round
        case rel => exact ⟨k, by omega, by go_num, HN⟩
        case measure => simp [intOf]

/-- The digits of a number, none for 0. -/
def digN (n : Nat) : List UInt8 := if h : n = 0 then [] else digN (n / 10) ++ [UInt8.ofNat (48 + n % 10)]
termination_by n
decreasing_by omega
theorem digN_zero : digN 0 = [] := by rw [digN]; simp
theorem digN_pos (n : Nat) (h : 0 < n) : digN n = digN (n / 10) ++ [UInt8.ofNat (48 + n % 10)] := by
  rw [digN, dif_neg (by omega)]
theorem dig_cut : ∀ d : Fin 10, ((⟨#[48, 49, 50, 51, 52, 53, 54, 55, 56, 57]⟩ : ByteArray).extract d.val (d.val + 1)).data.toList = [UInt8.ofNat (48 + d.val)] := by decide +kernel

set_option maxHeartbeats 1000000 in
theorem l2digits (n : Nat) (hn : n ≤ 1048576) (w : World) :
    Calls Tryd.prog 18 #[.int .i64 n] w fun e w' => e = .returned (.string (strL (digN n))) ∧ w = w' := by
  go_enter Tryd.func18, Tryd.ntmps18
  go_wp2
  go_loop [0, 3] (fun i o => ∃ (m : Nat) (t : ByteArray), m + t.size ≤ n ∧ i = .int .i64 m ∧ o = .string t ∧ Hid (digN n = digN m ++ t.data.toList)) (fun i _ => (intOf i).toNat)
  case atStart => exact ⟨n, ⟨#[]⟩, Nat.le_refl _, rfl, rfl, by simp [Hid]⟩
  case round =>
    obtain ⟨m, t, hm, rfl, rfl, HD⟩ := hrel
    by_cases h0 : 0 < m
    · have HM : Hid (((m : Int).tmod 10) = ((m % 10 : Nat) : Int)) := by show _ = _; rw [Int.tmod_eq_emod_of_nonneg (by omega)]; omega
      have hd : m % 10 < 10 := Nat.mod_lt _ (by decide)
      go_wp2
      go_round
      case rel =>
        refine ⟨m / 10, _, ?_, by go_num, rfl, ?_⟩
        · rw [ByteArray.size_append, ByteArray.size_extract]
          omega
        · show _ = _
          rw [HD.out, digN_pos m h0, append_data, dig_cut ⟨m % 10, hd⟩, List.append_assoc]
      case measure => simp [intOf]; omega
    · have HN : Hid (digN n = t.data.toList) := by
        have : m = 0 := by omega
        subst this
        show _ = _
        rw [HD.out, digN_zero]; rfl
      go_wp2
      go_ret
      exact ⟨retS (str_ext (by rw [HN.out, strL_data])), rfl⟩
end Go.Proofs.YtbckdieajfbepaaDoor
