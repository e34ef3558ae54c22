/-
  The pieces of a text between its bytes 10, on lists; no walk here.
-/
import Derived.Test.YtbckdieajfbepaaDoorColS
import Derived.Lib.SplitLaws
namespace Go.Proofs.YtbckdieajfbepaaDoor
open Go.RowKit
set_option linter.unusedVariables false
set_option linter.unusedSimpArgs false

/-- The pieces between the bytes 10. -/
def piecesG (cur : List UInt8) : List UInt8 → List (List UInt8)
  | [] => [cur]
  | c :: r => if c.toNat = 10 then cur :: piecesG [] r else piecesG (cur ++ [c]) r
theorem pieces_lines : ∀ (l cur : List UInt8), piecesG cur l = linesG cur l ∨ piecesG cur l = linesG cur l ++ [[]]
  | [], cur => by
    by_cases h : cur = []
    · subst h; right; rfl
    · left; simp [piecesG, linesG, h]
  | c :: r, cur => by
    simp only [piecesG, linesG]
    split
    · rcases pieces_lines r [] with h | h
      · left; rw [h]
      · right; rw [h]; rfl
    · exact pieces_lines r _
theorem pieces_le : ∀ (l cur : List UInt8), ∀ x ∈ piecesG cur l, x.length ≤ cur.length + l.length
  | [], cur, x, hx => by
    simp only [piecesG, List.mem_singleton] at hx; subst hx; simp
  | c :: r, cur, x, hx => by
    unfold piecesG at hx
    rw [List.length_cons]
    split at hx
    · rcases List.mem_cons.1 hx with rfl | hx
      · omega
      · have := pieces_le r [] x hx
        simp at this; omega
    · have := pieces_le r _ x hx
      rw [List.length_append, List.length_singleton] at this; omega
theorem pieces_head : ∀ (l cur : List UInt8), ∃ h t, piecesG [] l = h :: t ∧ piecesG cur l = (cur ++ h) :: t
  | [], cur => ⟨[], [], rfl, by simp [piecesG]⟩
  | c :: r, cur => by
    simp only [piecesG]
    split
    · exact ⟨[], piecesG [] r, rfl, by simp⟩
    · obtain ⟨h, t, h1, h2⟩ := pieces_head r ([] ++ [c])
      obtain ⟨h', t', h3, h4⟩ := pieces_head r (cur ++ [c])
      rw [h1] at h3; injection h3 with e1 e2; subst e1; subst e2
      exact ⟨([] ++ [c]) ++ h, t, h2, by rw [h4]; simp⟩
theorem split_pieces : ∀ l : List UInt8, Lib.splitK [10] 0 (Lib.count l [10]) l = piecesG [] l
  | [] => by rw [Lib.count_one]; rfl
  | c :: l => by
    have ih := split_pieces l
    simp only [piecesG]
    by_cases hc : c.toNat = 10
    · obtain rfl : c = 10 := UInt8.toNat_inj.1 hc
      rw [if_pos hc, Lib.count_cons_eq, Nat.add_comm 1]
      have hix : Lib.index ((10 : UInt8) :: l) [10] = 0 := by rw [Lib.index]; simp [List.isPrefixOf]
      rw [Lib.splitK, hix]
      simp only [show ((0 : Int) == -1) = false from rfl, Bool.false_eq_true, if_false]
      show ((10 : UInt8) :: l).take 0 :: Lib.splitK [10] 0 (Lib.count l [10]) (((10 : UInt8) :: l).drop 1) = _
      rw [List.take_zero, List.drop_succ_cons, List.drop_zero, ih]
    · have hne : c ≠ 10 := fun e => hc (by rw [e]; rfl)
      rw [if_neg hc, Lib.count_cons_ne c 10 l hne]
      obtain ⟨h, t, h1, h2⟩ := pieces_head l ([] ++ [c])
      rw [h2]
      rw [h1] at ih
      have hp : ([10] : List UInt8).isPrefixOf (c :: l) = false := by simp [List.isPrefixOf, Ne.symm hne]
      have hix : Lib.index (c :: l) [10] = if Lib.index l [10] == -1 then -1 else Lib.index l [10] + 1 := by rw [Lib.index, hp]; simp
      have hge := Lib.index_ge l [10]
      cases hn : Lib.count l [10] with
      | zero => rw [hn] at ih; simp only [Lib.splitK] at ih ⊢; injection ih with e1 e2; rw [← e1, ← e2]; rfl
      | succ n =>
        rw [hn] at ih
        have hm : ¬ Lib.index l [10] = -1 := fun e => by rw [Lib.count_miss e] at hn; cases hn
        obtain ⟨j, hj⟩ : ∃ j : Nat, Lib.index l [10] = j := ⟨(Lib.index l [10]).toNat, by omega⟩
        have hb : (Lib.index l [10] == -1) = false := by rw [← Bool.not_eq_true, beq_iff_eq]; exact hm
        have hb2 : (Lib.index (c :: l) [10] == -1) = false := by rw [← Bool.not_eq_true, beq_iff_eq, hix, hb]; simp; omega
        have ej : (Lib.index (c :: l) [10]).toNat = j + 1 := by rw [hix, hb, hj]; simp; try omega
        rw [Lib.splitK, hb] at ih
        rw [Lib.splitK, hb2, ej]
        simp only [Bool.false_eq_true, if_false] at ih ⊢
        rw [hj] at ih
        injection ih with e1 e2
        rw [← e1, ← e2]
        rfl

end Go.Proofs.YtbckdieajfbepaaDoor
