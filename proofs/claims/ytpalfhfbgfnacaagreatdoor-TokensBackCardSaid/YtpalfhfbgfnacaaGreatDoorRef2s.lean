/-
  The contract of the reference's function Squeeze (columnsevenref02).
-/
import Derived.Test.YtpalfhfbgfnacaaGreatDoorGC
namespace Go.Proofs.YtpalfhfbgfnacaaGreatDoor
open Go.RowKit
set_option linter.unusedVariables false
set_option linter.unusedSimpArgs false

/-- Is the byte at k a space behind a space, with an even number of quotes up to it? -/
def dropAt (l : List UInt8) (k : Nat) : Bool :=
  match l[k]? with
  | none => false
  | some c => decide (c.toNat = 32) && !openB (l.take (k + 1)) && decide (0 < k) && (match l[k - 1]? with | some p => decide (p.toNat = 32) | none => false)
/-- What Squeeze keeps of the first k bytes. -/
def sqzN (l : List UInt8) : Nat → List UInt8
  | 0 => []
  | k + 1 => if dropAt l k then sqzN l k else sqzN l k ++ (l.take (k + 1)).drop k
def sqzB (l : List UInt8) : List UInt8 := sqzN l l.length
theorem sqzN_le (l : List UInt8) : ∀ k, (sqzN l k).length ≤ k
  | 0 => Nat.le_refl _
  | k + 1 => by
    have := sqzN_le l k
    unfold sqzN
    split
    · omega
    · rw [List.length_append, List.length_drop, List.length_take]; omega
theorem dropAt_of (l : List UInt8) (k : Nat) (c : UInt8) (h : l[k]? = some c) : dropAt l k = (decide (c.toNat = 32) && !openB (l.take (k + 1)) && decide (0 < k) && (match l[k - 1]? with | some p => decide (p.toNat = 32) | none => false)) := by
  unfold dropAt; rw [h]
theorem openB_take (l : List UInt8) (k : Nat) (c : UInt8) (h : l[k]? = some c) : openB (l.take (k + 1)) = if c.toNat = 34 then !openB (l.take k) else openB (l.take k) := by
  unfold openB
  rw [qn_take l k c h]
  split
  · rw [Bool.eq_iff_iff]; simp; omega
  · rfl
theorem sqz_keep (l : List UInt8) (k : Nat) (s : ByteArray) (hs : s.data.toList = l) (t : ByteArray) (ht : t.data.toList = sqzN l k) (h : dropAt l k = false) : (t ++ s.extract k (k + 1)).data.toList = sqzN l (k + 1) := by
  rw [append_data, extract_data, hs, ht]
  show _ = if dropAt l k then _ else _
  rw [h]; rfl
theorem sqz_drop (l : List UInt8) (k : Nat) (t : ByteArray) (ht : t.data.toList = sqzN l k) (h : dropAt l k = true) : t.data.toList = sqzN l (k + 1) := by
  rw [ht]
  show _ = if dropAt l k then _ else _
  rw [h]; rfl

end Go.Proofs.YtpalfhfbgfnacaaGreatDoor
