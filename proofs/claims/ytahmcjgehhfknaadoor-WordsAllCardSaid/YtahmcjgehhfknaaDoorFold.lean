/-
  The contracts of IsName and Fold.
-/
import Derived.Test.YtahmcjgehhfknaaDoorStr
namespace Go.Proofs.YtahmcjgehhfknaaDoor
open Go.RowKit
set_option linter.unusedVariables false
set_option linter.unusedSimpArgs false

theorem all_not (p : UInt8 → Bool) (l : List UInt8) (b : Bool) (h : l.any p = b) : l.all (fun c => !p c) = !b := by
  subst h
  induction l with
  | nil => rfl
  | cons c l ih => rw [List.all_cons, List.any_cons, ih]; simp

/-- How far a text has been folded. -/
def foldTo (l : List UInt8) (k : Nat) : List UInt8 := (l.take k).map upB ++ l.drop k
theorem foldTo_length (l : List UInt8) (k : Nat) : (foldTo l k).length = l.length := by
  simp [foldTo]; omega
theorem foldTo_zero (l : List UInt8) : foldTo l 0 = l := by simp [foldTo]
theorem foldTo_full (l : List UInt8) (k : Nat) (h : l.length ≤ k) : foldTo l k = foldB l := by
  simp [foldTo, foldB, List.take_of_length_le h, List.drop_of_length_le h]
theorem foldTo_at (l : List UInt8) (k : Nat) (c : UInt8) (h : l[k]? = some c) : (foldTo l k)[k]? = some c := by
  have hk : k < l.length := by
    rcases Nat.lt_or_ge k l.length with hk | hk
    · exact hk
    · rw [List.getElem?_eq_none hk] at h; cases h
  unfold foldTo
  rw [List.getElem?_append_right (by simp; omega)]
  simp [Nat.min_eq_left (Nat.le_of_lt hk), h]
theorem foldTo_succ (l : List UInt8) (k : Nat) (c : UInt8) (h : l[k]? = some c) : (foldTo l k).set k (upB c) = foldTo l (k + 1) := by
  have hk : k < l.length := by
    rcases Nat.lt_or_ge k l.length with hk | hk
    · exact hk
    · rw [List.getElem?_eq_none hk] at h; cases h
  have hc : l[k] = c := by rw [List.getElem?_eq_getElem hk] at h; injection h
  unfold foldTo
  rw [List.set_append_right _ _ (by simp; omega), List.take_succ_eq_append_getElem hk, List.drop_eq_getElem_cons hk]
  simp [Nat.min_eq_left (Nat.le_of_lt hk), hc]
theorem set_same (l : List UInt8) (k : Nat) (c : UInt8) (h : l[k]? = some c) : l.set k c = l := by
  apply List.ext_getElem?
  intro i
  rw [List.getElem?_set]
  split
  · rename_i e; subst e
    rw [h]; split
    · rfl
    · rename_i hk; rw [List.getElem?_eq_none (by omega)] at h; cases h
  · rfl

/-- Block g of the world is a row of bytes of the call's own, which begins with l; below g the world is as it was. -/
structure RowAt (w0 wr : World) (g : Nat) (l : List UInt8) : Prop where
  lt : g < wr.heap.size
  cell : ∀ j c, l[j]? = some c → wr.cell? ⟨g, j, none⟩ = some (.int .u8 c.toNat)
  free : ∀ j, j < l.length → wr.frozen? ⟨g, j, none⟩ = false
  below : Below g w0 wr
theorem RowAt.store {w0 wr : World} {g : Nat} {l : List UInt8} (h : RowAt w0 wr g l) (k : Nat) (c : UInt8) (hk : k < l.length) : RowAt w0 (wr.setCell ⟨g, k, none⟩ (.int .u8 c.toNat)) g (l.set k c) where
  lt := by have := h.lt; simpa [World.setCell] using this
  cell := by
    intro j d hj
    rw [List.getElem?_set] at hj
    split at hj
    · rename_i e; subst e
      injection hj with hj; subst hj
      exact World.cell?_setCell_same wr _ _ (h.cell k _ (List.getElem?_eq_getElem hk))
    · rename_i e
      rw [World.cell?_setCell_other wr (a := ⟨g, k, none⟩) (b := ⟨g, j, none⟩) _ (by intro e2; injection e2 with _ e3; exact e e3)]
      exact h.cell j d hj
  free := by intro j hj; rw [World.frozen?_setCell]; exact h.free j (by simpa using hj)
  below := h.below.setCell (Nat.le_refl _) _
theorem RowAt.txt {w0 wr : World} {g : Nat} {l : List UInt8} (h : RowAt w0 wr g l) : Txt wr (some ⟨g, 0, none⟩) l := fun _ =>
  ⟨g, 0, rfl, h.lt, fun j c hj => by simpa using h.cell j c hj⟩
theorem RowAt.made (w : World) (t : TypeId) (s : ByteArray) : RowAt w (Lib.bytesWorld w t s) w.heap.size s.data.toList where
  lt := by rw [Lib.bytesWorld_size]; omega
  cell := by
    intro j c hj
    have hk : j < s.data.toList.length := by
      rcases Nat.lt_or_ge j s.data.toList.length with hk | hk
      · exact hk
      · rw [List.getElem?_eq_none hk] at hj; cases hj
    rw [Lib.bytesWorld_cell w t s j (by rw [show s.size = s.data.toList.length from Array.length_toList.symm]; exact hk)]
    simp only [List.getD, hj, Option.getD_some]
  free := by
    intro j hj
    have hs : j < s.size := by rw [show s.size = s.data.toList.length from Array.length_toList.symm]; exact hj
    have hb : s.size ≤ (Lib.bytesCells w t s).size := by simp only [Lib.bytesCells, Array.size_append, Array.size_map]; exact Nat.le_add_right _ _
    simp only [World.frozen?, Lib.bytesWorld_at_new]
    simp
    omega
  below := ⟨rfl, rfl, rfl, by rw [Lib.bytesWorld_size]; omega, fun k hk => Lib.bytesWorld_at_old w t s k hk⟩

theorem upB_small (c : UInt8) (h0 : 97 ≤ (c.toNat : Int)) (h1 : (c.toNat : Int) ≤ 122) : (upB c).toNat = (c.toNat : Int) - 97 + 65 := by
  have hs : smallB c = true := by simp [smallB]; omega
  have hlt := c.toNat_lt
  unfold upB
  rw [if_pos hs, UInt8.toNat_ofNat_of_lt' (by show c.toNat - 32 < 256; omega)]
  omega
theorem upB_else (c : UInt8) (h : ¬ (97 ≤ (c.toNat : Int) ∧ (c.toNat : Int) ≤ 122)) : upB c = c := by
  have hs : smallB c = false := by simp [smallB]; omega
  simp [upB, hs]

end Go.Proofs.YtahmcjgehhfknaaDoor
