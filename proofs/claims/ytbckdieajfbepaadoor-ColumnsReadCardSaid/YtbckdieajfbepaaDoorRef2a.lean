/-
  The contracts of the reference's functions on strings (columnsevenref02): first, end, tail.
-/
import Derived.Test.YtbckdieajfbepaaDoorRef2o
namespace Go.Proofs.YtbckdieajfbepaaDoor
open Go.RowKit
set_option linter.unusedVariables false
set_option linter.unusedSimpArgs false

set_option maxHeartbeats 400000 in
theorem r2first (s : ByteArray) (hs : s.size ≤ 140737488355328) (w : World) :
    Calls Tryd.prog 29 #[.string s] w fun e w' => e = .returned (.int .i64 (fstN s.data.toList)) ∧ w = w' := by
  have HL := Lib.hid (size_data s)
  go_enter Tryd.func29, Tryd.ntmps29
  go_wp2
  go_loop [3] (fun i => ∃ k : Nat, k ≤ s.size ∧ i = .int .i64 k ∧ fstN s.data.toList = k + fstN (s.data.toList.drop k)) (fun i => s.size - (intOf i).toNat)
  case atStart => exact ⟨0, Nat.zero_le _, rfl, by simp⟩
  case round =>
    obtain ⟨k, hk, rfl, he⟩ := hrel
    have HE := Lib.hid he; clear he
    by_cases hlt : k < s.size
    · have HD := Lib.hid (fstN_drop _ k _ (get_data s k hlt))
      by_cases h32 : s[k].toNat = 32
      · have hq : ((s[k].toNat : Int) != 32) = false := by simp; omega
        have H32 := Lib.hid h32; clear h32
        go_wp2
        go_round
        case rel => exact ⟨k + 1, by omega, by go_num, by rw [HE.out, HD.out, if_pos H32.out]; omega⟩
        case measure => simp [intOf]; omega
      · have hq : ((s[k].toNat : Int) != 32) = true := by simp; omega
        have H32 := Lib.hid h32; clear h32
        go_wp2
        go_ret
        exact ⟨retI (by rw [HE.out, HD.out, if_neg H32.out]; simp), rfl⟩
    · go_wp2
      go_ret
      exact ⟨retI (by rw [HE.out, List.drop_of_length_le (by rw [← HL.out]; omega)]; simp [fstN]; omega), rfl⟩

set_option maxHeartbeats 400000 in
theorem r2end (s : ByteArray) (hs : s.size ≤ 140737488355328) (w : World) :
    Calls Tryd.prog 77 #[.string s] w fun e w' => e = .returned (.string (strL (trimB s.data.toList))) ∧ w = w' := by
  go_enter Tryd.func77, Tryd.ntmps77
  go_wp2
  go_loop [0] (fun v => ∃ t : ByteArray, v = .string t ∧ Hid (Cut s t)) (fun v => strSize v)
  case atStart => exact ⟨s, rfl, Cut.start s⟩
  case round =>
    obtain ⟨t, rfl, HC⟩ := hrel
    have ht := HC.out.le
    by_cases h0 : 0 < t.size
    · have hlast : t.size - 1 < t.size := by omega
      by_cases h32 : (t[t.size - 1]'hlast).toNat = 32
      · have hq : (((t[t.size - 1]'hlast).toNat : Int) == 32) = true := by simp; omega
        have H32 := Lib.hid h32; clear h32
        go_wp2
        go_round
        case rel => exact ⟨_, rfl, HC.out.step h0 hlast H32.out⟩
        case measure => simp only [strSize_mk]; rw [size_cut t _ (by omega)]; omega
      · have hq : (((t[t.size - 1]'hlast).toNat : Int) == 32) = false := by simp; omega
        have HD := Lib.hid (HC.out.done (.inr ⟨hlast, h32⟩)); clear h32
        go_wp2
        go_ret
        exact ⟨retS HD.out, rfl⟩
    · have HD := Lib.hid (HC.out.done (.inl (by omega)))
      go_wp2
      go_ret
      exact ⟨retS HD.out, rfl⟩

/-- The rest of a row as a part. -/
def tailB (rest text : List UInt8) : List UInt8 := if openB (text ++ rest) = true then rest else trimB rest
set_option maxHeartbeats 400000 in
theorem r2tail (rest text : ByteArray) (hr : rest.size ≤ 1048576) (ht : text.size ≤ 1048576) (w : World) :
    Calls Tryd.prog 54 #[.string rest, .string text] w fun e w' => e = .returned (.string (strL (tailB rest.data.toList text.data.toList))) ∧ w = w' := by
  have HO : Hid ((text ++ rest).data.toList = text.data.toList ++ rest.data.toList) := append_data _ _
  cases ho : openB (text.data.toList ++ rest.data.toList)
  · have HT : Hid (tailB rest.data.toList text.data.toList = trimB rest.data.toList) := by simp [Hid, tailB, ho]
    have HH := Lib.hid ho; clear ho
    go_enter Tryd.func54, Tryd.ntmps54
    go_wp2_with fail
    refine (r2open (text ++ rest) (by rw [ByteArray.size_append]; omega) _).mono ?_; rintro e w' ⟨rfl, rfl⟩
    rw [HO.out, HH.out]
    go_wp2_with fail
    refine (r2end rest (by omega) _).mono ?_; rintro e w' ⟨rfl, rfl⟩
    go_wp2
    go_ret
    exact ⟨retS (by rw [HT.out]), rfl⟩
  · have HT : Hid (tailB rest.data.toList text.data.toList = rest.data.toList) := by simp [Hid, tailB, ho]
    have HH := Lib.hid ho; clear ho
    go_enter Tryd.func54, Tryd.ntmps54
    go_wp2_with fail
    refine (r2open (text ++ rest) (by rw [ByteArray.size_append]; omega) _).mono ?_; rintro e w' ⟨rfl, rfl⟩
    rw [HO.out, HH.out]
    go_wp2
    go_ret
    exact ⟨retS (by rw [HT.out]; rfl), rfl⟩
end Go.Proofs.YtbckdieajfbepaaDoor
