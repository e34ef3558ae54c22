/-
  Plain words on strings as lists of bytes. No program is named here.
-/
import Derived.Test.YtbckdieajfbepaaDoorPlain
import Derived.Lib.ConvBytes
namespace Go.Proofs.YtbckdieajfbepaaDoor
open Go.RowKit
set_option linter.unusedVariables false
set_option linter.unusedSimpArgs false

/-- The string of a list of bytes. -/
def strL (l : List UInt8) : ByteArray := ⟨l.toArray⟩
theorem strL_data (l : List UInt8) : (strL l).data.toList = l := rfl
theorem strL_of (s : ByteArray) : strL s.data.toList = s := rfl
theorem strL_size (l : List UInt8) : (strL l).size = l.length := rfl
theorem size_data (s : ByteArray) : s.size = s.data.toList.length := Array.length_toList.symm
theorem get_data (s : ByteArray) (k : Nat) (h : k < s.size) : s.data.toList[k]? = some s[k] := by
  have : k < s.data.toList.length := by rw [← size_data]; exact h
  rw [List.getElem?_eq_getElem this]; rfl
theorem str_ext {a b : ByteArray} (h : a.data.toList = b.data.toList) : a = b := by
  rw [← strL_of a, ← strL_of b, h]
theorem extract_data (s : ByteArray) (i j : Nat) : (s.extract i j).data.toList = (s.data.toList.take j).drop i := by
  simp [ByteArray.data_extract, List.extract_eq_take_drop]
  rw [List.drop_take]
theorem append_data (a b : ByteArray) : (a ++ b).data.toList = a.data.toList ++ b.data.toList := by simp

/-- The index of the first byte that is not a space, or the length. -/
def fstN : List UInt8 → Nat
  | [] => 0
  | c :: l => if c.toNat = 32 then fstN l + 1 else 0
theorem fstN_le : ∀ l, fstN l ≤ l.length
  | [] => Nat.le_refl _
  | c :: l => by have := fstN_le l; simp only [fstN, List.length_cons]; split <;> omega
theorem fstN_drop (l : List UInt8) (k : Nat) (c : UInt8) (h : l[k]? = some c) : fstN (l.drop k) = if c.toNat = 32 then fstN (l.drop (k + 1)) + 1 else 0 := by
  have hk : k < l.length := by
    rcases Nat.lt_or_ge k l.length with hk | hk
    · exact hk
    · rw [List.getElem?_eq_none hk] at h; cases h
  rw [List.drop_eq_getElem_cons hk]
  rw [List.getElem?_eq_getElem hk] at h
  injection h with h
  rw [h]; rfl

/-- The number of quotes. -/
def qn (l : List UInt8) : Nat := l.countP fun c => decide (c.toNat = 34)
def openB (l : List UInt8) : Bool := decide (qn l % 2 = 1)
theorem qn_le (l : List UInt8) : qn l ≤ l.length := List.countP_le_length
theorem qn_append (a b : List UInt8) : qn (a ++ b) = qn a + qn b := List.countP_append
theorem qn_take (l : List UInt8) (k : Nat) (c : UInt8) (h : l[k]? = some c) : qn (l.take (k + 1)) = qn (l.take k) + if c.toNat = 34 then 1 else 0 := by
  have hk : k < l.length := by
    rcases Nat.lt_or_ge k l.length with hk | hk
    · exact hk
    · rw [List.getElem?_eq_none hk] at h; cases h
  rw [List.take_succ_eq_append_getElem hk, qn_append]
  rw [List.getElem?_eq_getElem hk] at h
  injection h with h
  rw [h]
  simp [qn, List.countP_cons]

/-- The size of a string in a slot: for a loop's measure. -/
def strSize : Value → Nat | .string t => t.size | _ => 0
theorem strSize_mk (t : ByteArray) : strSize (.string t) = t.size := rfl

/-- What a loop that cuts spaces off the end of s has kept: t. -/
structure Cut (s t : ByteArray) : Prop where
  le : t.size ≤ s.size
  data : t.data.toList = s.data.toList.take t.size
  last : lastI (fun c => !spcB c) s.data.toList s.data.toList.length = lastI (fun c => !spcB c) s.data.toList t.size
theorem Cut.start (s : ByteArray) : Cut s s := ⟨Nat.le_refl _, by rw [List.take_of_length_le (Nat.le_of_eq (size_data s).symm)], by rw [← size_data s]⟩
theorem Cut.at_ {s t : ByteArray} (h : Cut s t) (k : Nat) (hk : k < t.size) : s.data.toList.getD k 0 = t[k] := by
  have h1 := get_data t k hk
  rw [h.data, List.getElem?_take_of_lt hk] at h1
  simp [List.getD, h1]
theorem size_cut (t : ByteArray) (k : Nat) (hk : k ≤ t.size) : (t.extract 0 k).size = k := by
  rw [ByteArray.size_extract]; omega
theorem Cut.step {s t : ByteArray} (h : Cut s t) (h0 : 0 < t.size) (hlast : t.size - 1 < t.size) (h32 : (t[t.size - 1]'hlast).toNat = 32) : Cut s (t.extract 0 (t.size - 1)) := by
  have hsz := size_cut t (t.size - 1) (by omega)
  refine ⟨by rw [hsz]; have := h.le; omega, ?_, ?_⟩
  · rw [hsz, extract_data, h.data, List.drop_zero, List.take_take, Nat.min_eq_left (by omega)]
  · rw [hsz, h.last]
    have e : t.size = (t.size - 1) + 1 := by omega
    have hd := h.at_ (t.size - 1) hlast
    generalize t.size - 1 = m at *
    rw [e]
    simp only [lastI]
    rw [hd]
    simp [spcB, h32]
theorem Cut.done {s t : ByteArray} (h : Cut s t) (he : t.size = 0 ∨ ∃ hlast : t.size - 1 < t.size, (t[t.size - 1]'hlast).toNat ≠ 32) : t = strL (trimB s.data.toList) := by
  have hn : trimN s.data.toList = t.size := by
    unfold trimN
    rw [h.last]
    rcases he with h0 | ⟨hlast, hne⟩
    · rw [h0]; simp [lastI]
    · have e : t.size = (t.size - 1) + 1 := by omega
      have hd := h.at_ (t.size - 1) hlast
      generalize t.size - 1 = m at *
      rw [e]
      simp only [lastI]
      rw [hd]
      simp [spcB, hne]
  apply str_ext
  rw [strL_data, h.data]
  unfold trimB
  rw [hn]
end Go.Proofs.YtbckdieajfbepaaDoor
