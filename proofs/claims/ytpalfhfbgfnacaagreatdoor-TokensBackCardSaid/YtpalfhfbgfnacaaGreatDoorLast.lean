/-
  The contracts of package columns' functions lastSpace and isComplete.
-/
import Derived.Test.YtpalfhfbgfnacaaGreatDoorGD
import Derived.Test.YtpalfhfbgfnacaaGreatDoorLaw2b
import Derived.Test.YtpalfhfbgfnacaaGreatDoorGW
import Derived.Test.YtpalfhfbgfnacaaGreatDoorLaw2
namespace Go.Proofs.YtpalfhfbgfnacaaGreatDoor
open Go.RowKit
set_option linter.unusedVariables false
set_option linter.unusedSimpArgs false

set_option maxHeartbeats 1000000 in
theorem c_last (s : ByteArray) (hs : s.size ≤ 1048576) (op : Bool) (w : World) :
    Calls Tryz.prog 69 #[.string s, .bool op] w fun e w' => e = .returned (.int .i64 (lastHit s.data.toList op s.data.toList.length : Nat)) ∧ w = w' := by
  have HL := Lib.hid (size_data s)
  go_enter Tryz.func69, Tryz.ntmps69
  go_wp2
  go_loop [1, 5, 9] (fun b a i => ∃ (k : Nat) (c : Bool) (at_ : Nat), k ≤ s.size ∧ i = .int .i64 k ∧ b = .bool c ∧ a = .int .i64 at_ ∧ at_ ≤ k ∧ Hid (c = (op ^^ openB (s.data.toList.take k))) ∧ Hid (at_ = lastHit s.data.toList op k)) (fun _ _ i => s.size - (intOf i).toNat)
  case atStart => exact ⟨0, op, 0, Nat.zero_le _, rfl, rfl, rfl, Nat.le_refl _, by simp [Hid, openB, qn], rfl⟩
  case round =>
    obtain ⟨k, c, at_, hk, rfl, rfl, rfl, hat, HC, HA⟩ := hrel
    by_cases hlt : k < s.size
    · have hget := get_data s k hlt
      have HD := Lib.hid (qn_take _ k _ hget)
      have HH := Lib.hid (hitAt_of s.data.toList op k _ hget)
      clear hget
      by_cases h34 : s[k].toNat = 34
      · have hq : ((s[k].toNat : Int) == 34) = true := by simp; omega
        have HN : Hid ((!c) = (op ^^ openB (s.data.toList.take (k + 1)))) := by
          show _ = _
          rw [HC.out]
          have e := HD.out
          rw [if_pos h34] at e
          unfold openB
          rw [e]
          rcases Nat.mod_two_eq_zero_or_one (qn (s.data.toList.take k)) with h1 | h1 <;> simp [Nat.add_mod, h1]
        have HA' : Hid (at_ = lastHit s.data.toList op (k + 1)) := by
          show _ = _
          simp only [lastHit]
          rw [HH.out, if_neg (by simp [h34]), HA.out]
        clear h34
        go_wp2
        go_round
        case rel => exact ⟨k + 1, _, at_, by omega, by go_num, rfl, rfl, by omega, HN, HA'⟩
        case measure => simp [intOf]; omega
      · have hq : ((s[k].toNat : Int) == 34) = false := by simp; omega
        have HN : Hid (c = (op ^^ openB (s.data.toList.take (k + 1)))) := by
          show _ = _
          rw [HC.out]
          have e := HD.out
          rw [if_neg h34] at e
          unfold openB
          rw [e]; rfl
        clear h34
        by_cases h32 : s[k].toNat = 32
        · have hq2 : ((s[k].toNat : Int) == 32) = true := by simp; omega
          cases c
          · have HA' : Hid (k = lastHit s.data.toList op (k + 1)) := by
              show _ = _
              simp only [lastHit]
              have e := HC.out.symm
              rw [xor_eq] at e
              rw [HH.out, if_pos (by simp [h32, e])]
            clear h32
            go_wp2
            go_round
            case rel => exact ⟨k + 1, _, k, by omega, by go_num, rfl, rfl, by omega, HN, HA'⟩
            case measure => simp [intOf]; omega
          · have HA' : Hid (at_ = lastHit s.data.toList op (k + 1)) := by
              show _ = _
              simp only [lastHit]
              have e : ¬ openB (s.data.toList.take k) = op := by
                intro e
                have := HC.out
                rw [← xor_eq] at e
                rw [e] at this; cases this
              rw [HH.out, if_neg (by simp [h32, e]), HA.out]
            clear h32
            go_wp2
            go_round
            case rel => exact ⟨k + 1, _, at_, by omega, by go_num, rfl, rfl, by omega, HN, HA'⟩
            case measure => simp [intOf]; omega
        · have hq2 : ((s[k].toNat : Int) == 32) = false := by simp; omega
          have HA' : Hid (at_ = lastHit s.data.toList op (k + 1)) := by
            show _ = _
            simp only [lastHit]
            rw [HH.out, if_neg (by simp [h32]), HA.out]
          clear h32
          go_wp2
          go_round
          case rel => exact ⟨k + 1, _, at_, by omega, by go_num, rfl, rfl, by omega, HN, HA'⟩
          case measure => simp [intOf]; omega
    · have HK : Hid (k = s.data.toList.length) := by show _ = _; rw [← HL.out]; omega
      go_wp2
      go_ret
      exact ⟨retI (by rw [HA.out, HK.out, HL.out]), rfl⟩

set_option maxHeartbeats 1000000 in
theorem c_complete (s : ByteArray) (hs : s.size ≤ 1048576) (w : World) :
    Calls Tryz.prog 38 #[.string s] w fun e w' => e = .returned (.bool (rightB s.data.toList)) ∧ Below w.heap.size w w' := by
  have hd : s.toList = s.data.toList := ByteArray.toList_eq s
  have hsz := size_data s
  by_cases h0 : s.toList = []
  · have h1 : s.toList.isEmpty = true := by rw [h0]; rfl
    have HF : Hid (rightB s.data.toList = false) := by show _ = _; rw [← hd]; simp [rightB, h0]
    clear hd hsz h0
    go_enter Tryz.func38, Tryz.ntmps38
    go_wp2
    go_ret
    exact ⟨retB HF.out.symm, Below.refl _ _⟩
  have h1 : s.toList.isEmpty = false := by
    cases h : s.toList.isEmpty
    · rfl
    · exact absurd (List.isEmpty_iff.1 h) h0
  have hpos : 0 < s.size := by rw [hsz, ← hd]; exact List.length_pos_iff.2 h0
  have hlast : s.size - 1 < s.size := by omega
  have hg0 : s.data.toList.getD 0 0 = s[0] := by simp [List.getD, get_data s 0 hpos]
  have hgl : s.data.toList.getD (s.data.toList.length - 1) 0 = s[s.size - 1]'hlast := by
    rw [← hsz]
    simp [List.getD, get_data s _ hlast]
  have HE : Hid (s.data.toList.isEmpty = false) := by show _ = _; rw [← hd]; exact h1
  by_cases hp : printB s.data.toList = true
  · have HP := Lib.hid hp
    by_cases ha : s[0].toNat = 32
    · have HF : Hid (rightB s.data.toList = false) := by
        show _ = _
        unfold rightB
        simp only [hg0, ha, decide_true, Bool.not_true, Bool.and_false, Bool.false_and]
      have hq : ((s[0].toNat : Int) == 32) = true := by simp; omega
      clear hd hsz ha hg0 hgl h0 hp
      go_enter Tryz.func38, Tryz.ntmps38
      go_wp2_with fail
      refine (printable_any s (by omega) _).mono ?_; rintro e w' ⟨rfl, rfl⟩
      rw [HP.out]
      go_wp2
      go_ret
      exact ⟨retB HF.out.symm, Below.refl _ _⟩
    have hq : ((s[0].toNat : Int) == 32) = false := by simp; omega
    by_cases hb : (s[s.size - 1]'hlast).toNat = 32
    · have HF : Hid (rightB s.data.toList = false) := by
        show _ = _
        unfold rightB
        simp only [hgl, hb, decide_true, Bool.not_true, Bool.and_false, Bool.false_and]
      have hq2 : (((s[s.size - 1]'hlast).toNat : Int) == 32) = true := by simp; omega
      clear hd hsz ha hb hg0 hgl h0 hp
      go_enter Tryz.func38, Tryz.ntmps38
      go_wp2_with fail
      refine (printable_any s (by omega) _).mono ?_; rintro e w' ⟨rfl, rfl⟩
      rw [HP.out]
      go_wp2
      go_ret
      exact ⟨retB HF.out.symm, Below.refl _ _⟩
    have hq2 : (((s[s.size - 1]'hlast).toNat : Int) == 32) = false := by simp; omega
    have HF : Hid (rightB s.data.toList = !(false ^^ openB s.data.toList)) := by
      show _ = _
      unfold rightB
      rw [hp]
      simp only [hg0, hgl, ha, hb, HE.out, decide_false, Bool.not_false, Bool.true_and]
      unfold openB
      rcases Nat.mod_two_eq_zero_or_one (qn s.data.toList) with e | e <;> simp [e]
    clear hd hsz ha hb hg0 hgl h0 hp
    have hen := opens_enter
    go_enter Tryz.func38, Tryz.ntmps38
    go_wp2_with fail
    refine (printable_any s (by omega) _).mono ?_; rintro e w' ⟨rfl, rfl⟩
    rw [HP.out]
    go_wp2_with fail
    refine (c_opener _).mono ?_; rintro e w' ⟨rfl, rfl⟩
    unfold opener
    go_wp2_with fail
    refine (c_opens s (by omega) w.heap.size false _ (heap_alloc_new w _)).mono ?_; rintro e w' ⟨rfl, ht⟩
    generalize (false ^^ openB s.data.toList) = b at *
    have hb : Below w.heap.size w w' := ((Below.refl _ _).alloc (Nat.le_refl _) _).trans (ht.below (Nat.le_refl _))
    clear ht
    go_wp2
    go_ret
    exact ⟨retB HF.out.symm, hb⟩
  · have hp' : printB s.data.toList = false := by simpa using hp
    have HP := Lib.hid hp'
    have HF : Hid (rightB s.data.toList = false) := by show _ = _; unfold rightB; rw [hp']; rfl
    clear hd hsz hg0 hgl h0 hp hp'
    go_enter Tryz.func38, Tryz.ntmps38
    go_wp2_with fail
    refine (printable_any s (by omega) _).mono ?_; rintro e w' ⟨rfl, rfl⟩
    rw [HP.out]
    go_wp2
    go_ret
    exact ⟨retB HF.out.symm, Below.refl _ _⟩
end Go.Proofs.YtpalfhfbgfnacaaGreatDoor
