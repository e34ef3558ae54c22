/-
  Plain words on lists of bytes: comparing padded texts, filling, fitting, trimming, folding. No program is named here.
-/
import Derived.Test.YtahmcjgehhfknaaDoorBase
namespace Go.Proofs.YtahmcjgehhfknaaDoor
open Go.RowKit
set_option linter.unusedVariables false
set_option linter.unusedSimpArgs false

/-- The byte at a place of the padded text. -/
def padB (l : List UInt8) (k : Nat) : UInt8 := l.getD k 32
theorem padB_some {l : List UInt8} {k : Nat} {c : UInt8} (h : l[k]? = some c) : padB l k = c := by simp [padB, List.getD, h]
theorem padB_out {l : List UInt8} {k : Nat} (h : l.length ≤ k) : padB l k = 32 := by simp [padB, List.getD, List.getElem?_eq_none h]

def cmpFrom (a b : List UInt8) : Nat → Nat → Int
  | 0, _ => 0
  | n + 1, k => if (padB a k).toNat < (padB b k).toNat then -1 else if (padB b k).toNat < (padB a k).toNat then 1 else cmpFrom a b n (k + 1)
def cmpB (a b : List UInt8) : Int := cmpFrom a b (max a.length b.length) 0

theorem cmpFrom_step (a b : List UInt8) (n k : Nat) (h : k < n) :
    cmpFrom a b (n - k) k = if (padB a k).toNat < (padB b k).toNat then -1 else if (padB b k).toNat < (padB a k).toNat then 1 else cmpFrom a b (n - (k + 1)) (k + 1) := by
  rw [show n - k = (n - (k + 1)) + 1 from by omega]
  rfl

def fillAt (l : List UInt8) (i : Nat) : UInt8 := l.getD (i % l.length) 0
def fillB (l : List UInt8) (n : Nat) : List UInt8 := (List.range n).map (fillAt l)
/-- The byte at place i of a text that is fitted: shift is 0, or the length less n. -/
def fitAt (l : List UInt8) (shift : Int) (i : Nat) : UInt8 := if 0 ≤ (i : Int) + shift ∧ (i : Int) + shift < l.length then l.getD ((i : Int) + shift).toNat 0 else 32
theorem fitAt_in {l : List UInt8} {sh : Int} {i : Nat} {c : UInt8} (h0 : 0 ≤ (i : Int) + sh) (h1 : (i : Int) + sh < l.length) (h : l[((i : Int) + sh).toNat]? = some c) : fitAt l sh i = c := by
  unfold fitAt; rw [if_pos ⟨h0, h1⟩]; simp [List.getD, h]
theorem fitAt_zero {l : List UInt8} {i : Nat} {c : UInt8} (h : l[i]? = some c) : fitAt l 0 i = c := by
  have hi : i < l.length := by
    rcases Nat.lt_or_ge i l.length with hk | hk
    · exact hk
    · rw [List.getElem?_eq_none hk] at h; cases h
  exact fitAt_in (by omega) (by omega) (by simpa using h)
theorem fitAt_out {l : List UInt8} {sh : Int} {i : Nat} (h : ¬ (0 ≤ (i : Int) + sh ∧ (i : Int) + sh < l.length)) : fitAt l sh i = 32 := by
  unfold fitAt; rw [if_neg h]
def fitB (l : List UInt8) (n : Nat) (left : Bool) : List UInt8 := (List.range n).map fun i => fitAt l (if left = true then (l.length : Int) - n else 0) i
def trimN (l : List UInt8) : Nat := (lastI (fun c => !spcB c) l l.length + 1).toNat
def trimB (l : List UInt8) : List UInt8 := l.take (trimN l)
def foldB (l : List UInt8) : List UInt8 := l.map upB
def isDigitsB (l : List UInt8) : Bool := !l.isEmpty && l.all digB
def isNameB (l : List UInt8) : Bool := !l.isEmpty && decide (l.length ≤ 30) && !decide ((l.getD 0 0).toNat = 45) && !decide ((l.getD (l.length - 1) 0).toNat = 45) && l.all nameB && l.any capB
def printB (l : List UInt8) : Bool := l.all prtB

theorem fillB_at {l : List UInt8} {i : Nat} {c : UInt8} (h : l[i % l.length]? = some c) : fillAt l i = c := by simp [fillAt, List.getD, h]
theorem trimN_le (l : List UInt8) : trimN l ≤ l.length := by
  have := lastI_lo (fun c => !spcB c) l l.length
  unfold trimN; omega
theorem trimB_length (l : List UInt8) : (trimB l).length = trimN l := by
  have := trimN_le l
  simp [trimB]; omega
theorem fillB_length (l : List UInt8) (n : Nat) : (fillB l n).length = n := by simp [fillB]
theorem fitB_length (l : List UInt8) (n : Nat) (left : Bool) : (fitB l n left).length = n := by simp [fitB]

/-- A row of n cells that is filled from its beginning on: the first k are those of f, the others 0. -/
def partB (f : Nat → UInt8) (n k : Nat) : List UInt8 := (List.range n).map fun i => if i < k then f i else 0
theorem partB_length (f : Nat → UInt8) (n k : Nat) : (partB f n k).length = n := by simp [partB]
theorem partB_zero (f : Nat → UInt8) (n : Nat) : partB f n 0 = List.replicate n 0 := by
  apply List.ext_getElem <;> simp [partB]
theorem partB_full (f : Nat → UInt8) (n : Nat) : partB f n n = (List.range n).map f := by
  apply List.ext_getElem
  · simp [partB]
  · intro i h1 h2; simp [partB] at h1 ⊢; intro h; omega
theorem partB_succ (f : Nat → UInt8) (n k : Nat) : (partB f n k).set k (f k) = partB f n (k + 1) := by
  apply List.ext_getElem
  · simp [partB]
  · intro i h1 h2
    simp only [partB, List.length_set, List.length_map, List.length_range] at h1
    simp only [List.getElem_set, partB, List.getElem_map, List.getElem_range]
    by_cases e : k = i
    · subst e; simp
    · have e2 : (i < k + 1) = (i < k) := by simp; omega
      simp [e, e2]
theorem cellsB_set (l : List UInt8) (k : Nat) (c : UInt8) : (cellsB l).setIfInBounds k (.int .u8 c.toNat) = cellsB (l.set k c) := by
  simp [cellsB, List.map_set]
theorem cellsB_zero (n : Nat) : cellsB (List.replicate n 0) = Array.replicate n (.int .u8 0) := by
  simp [cellsB]
end Go.Proofs.YtahmcjgehhfknaaDoor
