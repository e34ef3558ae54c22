/-
  The contracts of the reference's functions on rows (columnsevenref02): part, row.
-/
import Derived.Test.YtbckdieajfbepaaDoorRef2a
import Derived.Handy
namespace Go.Proofs.YtbckdieajfbepaaDoor
open Go.RowKit
set_option linter.unusedVariables false
set_option linter.unusedSimpArgs false

/-- The part of a row behind a text: what is taken, and where it begins; or the column of the fault. -/
def rpart (row text : List UInt8) (begins : Bool) : (List UInt8 × Nat) ⊕ Nat :=
  if begins = true then .inl (tailB (row.drop (fstN row)) text, fstN row + 8)
  else if fstN row < 4 ∨ (openB text = true ∧ (row.getD (fstN row) 0).toNat ≠ 34) then .inr (fstN row + 8)
  else if openB text = true then .inl (tailB (row.drop (fstN row + 1)) text, fstN row + 1 + 8)
  else .inl (tailB (row.drop (fstN row)) text, fstN row + 8)
/-- What part returns. -/
def partV (line : Int) : (List UInt8 × Nat) ⊕ Nat → Value
  | .inl (p, c) => .tuple #[.string (strL p), .int .i64 c, .agg #[.int .i64 0, .int .i64 0, .int .i64 0]]
  | .inr c => .tuple #[.string ⟨#[]⟩, .int .i64 0, .agg #[.int .i64 4, .int .i64 line, .int .i64 c]]

set_option maxHeartbeats 1000000 in
theorem r2part (line mark : Int) (row text : ByteArray) (begins : Bool) (hr : row.size = 65) (ht : text.size ≤ 1048576) (hf : fstN row.data.toList < 65) (w : World) :
    Calls Tryd.prog 30 #[.agg #[.int .i64 line, .int .u8 mark, .string row], .string text, .bool begins] w fun e w' =>
      e = .returned (partV line (rpart row.data.toList text.data.toList begins)) ∧ Below w.heap.size w w' := by
  obtain ⟨k, hk⟩ : ∃ k, k = fstN row.data.toList := ⟨_, rfl⟩
  have hk65 : k < 65 := by omega
  have HK := Lib.hid hk; clear hk
  have hrs : k ≤ row.size := by omega
  have HR := Lib.hid hr; clear hr
  have e1 : row.size - k + k = row.size := by omega
  have ex : ∀ j, j ≤ row.size → List.take (row.size - j) (List.drop j row.data.toList) = row.data.toList.drop j := fun j hj => by
    apply List.take_of_length_le
    rw [List.length_drop, ← size_data]; omega
  have EX := Lib.hid ex; clear ex e1
  cases begins
  · by_cases g4 : (k : Int) < 4
    · have HP : Hid (rpart row.data.toList text.data.toList false = .inr (k + 8)) := by
        show _ = _
        unfold rpart
        rw [if_neg (by decide), ← HK.out, if_pos (.inl (by omega))]
      go_enter Tryd.func30, Tryd.ntmps30
      go_wp2_with fail
      refine (r2first row (by rw [HR.out]; decide) _).mono ?_; rintro e w' ⟨rfl, rfl⟩
      rw [← HK.out]
      go_wp2
      go_region
      all_goals
        go_wp2
        go_returns
        refine ⟨?_, by go_grown⟩
        rw [HP.out]
        rfl
    · have hrk : k < row.size := by rw [HR.out]; exact hk65
      have hget : row.data.toList.getD k 0 = row[k] := by simp [List.getD, get_data row k hrk]
      cases ho : openB text.data.toList
      · have HP : Hid (rpart row.data.toList text.data.toList false = .inl (tailB (row.data.toList.drop k) text.data.toList, k + 8)) := by
          show _ = _
          unfold rpart
          rw [if_neg (by decide), ← HK.out, if_neg (by rw [ho]; simp; omega), if_neg (by rw [ho]; simp)]
        have HO := Lib.hid ho; clear ho hget
        go_enter Tryd.func30, Tryd.ntmps30
        go_wp2_with fail
        refine (r2first row (by rw [HR.out]; decide) _).mono ?_; rintro e w' ⟨rfl, rfl⟩
        rw [← HK.out]
        go_wp2_with fail
        refine (r2open text (by omega) _).mono ?_; rintro e w' ⟨rfl, rfl⟩
        rw [HO.out]
        go_wp2_with fail
        refine (r2open text (by omega) _).mono ?_; rintro e w' ⟨rfl, rfl⟩
        rw [HO.out]
        go_wp2_with fail
        refine (r2tail (row.extract k row.size) text (by rw [ByteArray.size_extract, HR.out]; omega) ht _).mono ?_; rintro e w' ⟨rfl, rfl⟩
        go_wp2
        go_returns
        refine ⟨?_, by go_grown⟩
        rw [HP.out, EX.out _ (by omega)]
        rfl
      · by_cases g34 : (row[k]).toNat = 34
        · have HP : Hid (rpart row.data.toList text.data.toList false = .inl (tailB (row.data.toList.drop (k + 1)) text.data.toList, k + 1 + 8)) := by
            show _ = _
            unfold rpart
            rw [if_neg (by decide), ← HK.out, hget, if_neg (by rw [ho]; simp [g34]; omega), if_pos ho]
          have hq : ((row[k].toNat : Int) != 34) = false := by simp; omega
          have HO := Lib.hid ho; clear ho hget g34
          go_enter Tryd.func30, Tryd.ntmps30
          go_wp2_with fail
          refine (r2first row (by rw [HR.out]; decide) _).mono ?_; rintro e w' ⟨rfl, rfl⟩
          rw [← HK.out]
          go_wp2_with fail
          refine (r2open text (by omega) _).mono ?_; rintro e w' ⟨rfl, rfl⟩
          rw [HO.out]
          go_wp2_with fail
          refine (r2open text (by omega) _).mono ?_; rintro e w' ⟨rfl, rfl⟩
          rw [HO.out]
          go_wp2_with fail
          refine (r2tail (row.extract (k + 1) row.size) text (by rw [ByteArray.size_extract, HR.out]; omega) ht _).mono ?_; rintro e w' ⟨rfl, rfl⟩
          go_wp2
          go_returns
          refine ⟨?_, by go_grown⟩
          rw [HP.out, EX.out _ (by omega)]
          rfl
        · have HP : Hid (rpart row.data.toList text.data.toList false = .inr (k + 8)) := by
            show _ = _
            unfold rpart
            rw [if_neg (by decide), ← HK.out, hget, if_pos (.inr ⟨ho, g34⟩)]
          have hq : ((row[k].toNat : Int) != 34) = true := by simp; omega
          have HO := Lib.hid ho; clear ho hget g34
          go_enter Tryd.func30, Tryd.ntmps30
          go_wp2_with fail
          refine (r2first row (by rw [HR.out]; decide) _).mono ?_; rintro e w' ⟨rfl, rfl⟩
          rw [← HK.out]
          go_wp2_with fail
          refine (r2open text (by omega) _).mono ?_; rintro e w' ⟨rfl, rfl⟩
          rw [HO.out]
          go_wp2
          go_region
          all_goals
            go_wp2
            go_returns
            refine ⟨?_, by go_grown⟩
            rw [HP.out]
            rfl
  · have HP : Hid (rpart row.data.toList text.data.toList true = .inl (tailB (row.data.toList.drop k) text.data.toList, k + 8)) := by
      show _ = _
      unfold rpart
      rw [if_pos rfl, ← HK.out]
    go_enter Tryd.func30, Tryd.ntmps30
    go_wp2_with fail
    refine (r2first row (by rw [HR.out]; decide) _).mono ?_; rintro e w' ⟨rfl, rfl⟩
    rw [← HK.out]
    go_wp2_with fail
    refine (r2tail (row.extract k row.size) text (by rw [ByteArray.size_extract, HR.out]; omega) ht _).mono ?_; rintro e w' ⟨rfl, rfl⟩
    go_wp2
    go_returns
    refine ⟨?_, by go_grown⟩
    rw [HP.out, EX.out _ (by omega)]
    rfl
end Go.Proofs.YtbckdieajfbepaaDoor
