/-
  How a number's text begins; parts of lists; the contracts of Literal at numbers.
-/
import Derived.Test.YtahmcjgehhfknaaDoorWd11
import Derived.Test.YtahmcjgehhfknaaDoorWd12
namespace Go.Proofs.YtahmcjgehhfknaaDoor
open Go.RowKit
set_option linter.unusedVariables false
set_option linter.unusedSimpArgs false

def segL (l : List UInt8) (i k : Nat) : List UInt8 := (l.take k).drop i
theorem segL_start (l : List UInt8) (i : Nat) : segL l i i = [] := by
  unfold segL; apply List.drop_eq_nil_of_le; simp; omega
theorem segL_succ {l : List UInt8} {i k : Nat} {c : UInt8} (hik : i ≤ k) (h : l[k]? = some c) : segL l i (k + 1) = segL l i k ++ [c] := by
  unfold segL
  have hk : k < l.length := by
    rcases Nat.lt_or_ge k l.length with hk | hk
    · exact hk
    · rw [List.getElem?_eq_none hk] at h; cases h
  rw [List.take_add_one, h, List.drop_append_of_le_length (by simp; omega)]
  rfl
theorem segL_full {l : List UInt8} {i k : Nat} (hk : k = l.length) : segL l i k = l.drop i := by
  unfold segL; rw [hk, List.take_length]
theorem countP_le' (l : List UInt8) (i k : Nat) : numR (segL l i k) ≤ l.length ∧ perR (segL l i k) ≤ l.length := by
  have h : (segL l i k).length ≤ l.length := by unfold segL; simp; omega
  exact ⟨Nat.le_trans List.countP_le_length h, Nat.le_trans List.countP_le_length h⟩
theorem lit_num_wide (s : ByteArray) (hs : s.size ≤ 1000000) (hb : badB s.data.toList = false) (hn : 18 < (digsB s.data.toList).length) : LitBad 2 s 5 :=
  ⟨fun W hm => c_lit_num_err s 0 0 false 5 W fun W' hb' => c_number_wide s hs hb hn W' (hm.below hb')⟩
theorem lit_num_ok (s : ByteArray) (hs : s.size ≤ 1000000) (hb : badB s.data.toList = false) (hn : (digsB s.data.toList).length ≤ 18) :
    LitOK 2 s 4 (strB (picB (signB s.data.toList) (cutB s.data.toList).1 (cutB s.data.toList).2.1)) (digsB s.data.toList).length (cutB s.data.toList).2.1.length (!(signB s.data.toList).isEmpty) (digsB s.data.toList).length (bytesB (signB s.data.toList) (digsB s.data.toList)) :=
  lit_num s _ _ _ _ _ _ hs hb hn rfl rfl rfl rfl rfl rfl

/-- The four ways in which a text may begin. -/
theorem head_cases (s : ByteArray) : ∃ i, i ≤ s.size ∧ restB s.data.toList = s.data.toList.drop i ∧
    ((i = 0 ∧ s.toList = []) ∨ (∃ h : 0 < s.size, s.toList.isEmpty = false ∧ ((i = 1 ∧ (s[0].toNat : Int) = 43) ∨ (i = 1 ∧ (s[0].toNat : Int) ≠ 43 ∧ (s[0].toNat : Int) = 45) ∨ (i = 0 ∧ (s[0].toNat : Int) ≠ 43 ∧ (s[0].toNat : Int) ≠ 45)))) := by
  rcases emp_cases s with ⟨h1, h2⟩ | ⟨h1, h2⟩
  · exact ⟨0, Nat.zero_le _, by rw [h1]; rfl, .inl ⟨rfl, h2⟩⟩
  · have hpos : 0 < s.size := by rw [Lib.size_eq]; exact List.length_pos_iff.2 h1
    have hx : s.data.toList[0]? = some s[0] := Lib.data_getElem? s 0 hpos
    obtain ⟨l, hl⟩ : ∃ l, s.data.toList = s[0] :: l := by
      cases h : s.data.toList with
      | nil => exact absurd h h1
      | cons y l => rw [h] at hx; injection hx with hx; exact ⟨l, by rw [hx]⟩
    have hsg : signedB s.data.toList = (decide (s[0] = 43) || decide (s[0] = 45)) := by
      rw [hl]
      unfold signedB Lib.hasPrefix
      simp only [List.isPrefixOf, Bool.and_true]
      rw [show ((43 : UInt8) == s[0]) = decide (s[0] = 43) from by rw [Bool.eq_iff_iff]; simp; exact eq_comm, show ((45 : UInt8) == s[0]) = decide (s[0] = 45) from by rw [Bool.eq_iff_iff]; simp; exact eq_comm]
    by_cases h43 : s[0] = 43
    · exact ⟨1, hpos, by unfold restB; rw [hsg, h43]; rfl, .inr ⟨hpos, h2, .inl ⟨rfl, by rw [h43]; rfl⟩⟩⟩
    · have n43 : (s[0].toNat : Int) ≠ 43 := fun e => h43 (u8_eq (by have : s[0].toNat = 43 := by omega
                                                                    rw [this]; rfl))
      by_cases h45 : s[0] = 45
      · exact ⟨1, hpos, by unfold restB; rw [hsg, h45]; rfl, .inr ⟨hpos, h2, .inr (.inl ⟨rfl, n43, by rw [h45]; rfl⟩)⟩⟩
      · have n45 : (s[0].toNat : Int) ≠ 45 := fun e => h45 (u8_eq (by have : s[0].toNat = 45 := by omega
                                                                      rw [this]; rfl))
        refine ⟨0, Nat.zero_le _, ?_, .inr ⟨hpos, h2, .inr (.inr ⟨rfl, n43, n45⟩)⟩⟩
        unfold restB
        rw [hsg, if_neg (by simp [h43, h45])]
        rfl

end Go.Proofs.YtahmcjgehhfknaaDoor
