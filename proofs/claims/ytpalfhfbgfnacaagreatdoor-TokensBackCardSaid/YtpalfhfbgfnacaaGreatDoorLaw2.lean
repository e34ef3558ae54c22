/-
  The contracts of the law's own small functions of layer 2 (columnsevenlaw02): spaces, plain, right, divide.
-/
import Derived.Test.YtpalfhfbgfnacaaGreatDoorGC
import Derived.Test.YtpalfhfbgfnacaaGreatDoorShelf
namespace Go.Proofs.YtpalfhfbgfnacaaGreatDoor
open Go.RowKit
set_option linter.unusedVariables false
set_option linter.unusedSimpArgs false

theorem repeat_one (c : UInt8) : ∀ n, Lib.repeatL [c] n = List.replicate n c
  | 0 => rfl
  | n + 1 => by simp [Lib.repeatL, repeat_one c n, List.replicate_succ]
theorem prt_no' (c : UInt8) (h : (c.toNat : Int) < 32 ∨ 126 < (c.toNat : Int)) : prtB c = false := by simp [prtB]; omega
theorem prt_yes' (c : UInt8) (h : ¬ ((c.toNat : Int) < 32 ∨ 126 < (c.toNat : Int))) : prtB c = true := by simp [prtB]; omega
theorem all_drop (p : UInt8 → Bool) (l : List UInt8) (k : Nat) (c : UInt8) (h : l[k]? = some c) : (l.drop k).all p = (p c && (l.drop (k + 1)).all p) := by
  have hk : k < l.length := by
    rcases Nat.lt_or_ge k l.length with hk | hk
    · exact hk
    · rw [List.getElem?_eq_none hk] at h; cases h
  rw [List.drop_eq_getElem_cons hk]
  rw [List.getElem?_eq_getElem hk] at h
  injection h with h
  rw [h]; rfl
theorem print_drop (l : List UInt8) (k : Nat) (c : UInt8) (h : l[k]? = some c) : printB (l.drop k) = (prtB c && printB (l.drop (k + 1))) := all_drop prtB l k c h
/-- Whether a text may be laid out. -/
def rightB (l : List UInt8) : Bool := printB l && (!l.isEmpty && !decide ((l.getD 0 0).toNat = 32) && !decide ((l.getD (l.length - 1) 0).toNat = 32) && decide (qn l % 2 = 0))
theorem count_qn (l : List UInt8) : Lib.countByte l 34 = qn l := by
  unfold Lib.countByte qn
  rw [List.count_eq_countP]
  refine List.countP_congr fun c _ => ?_
  constructor
  · intro h
    have : c = 34 := by simpa using h
    subst this; rfl
  · intro h
    have : c = 34 := u8_eq (by simpa using h)
    subst this; rfl
end Go.Proofs.YtpalfhfbgfnacaaGreatDoor
