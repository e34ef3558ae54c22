/-
  Plain words for the texts of this seat: bytes, a slice of bytes that reads as a list, the cells of a new row. No program is named here.
-/
import Derived.Test.YtahmcjgehhfknaaDoorRows
import Derived.WalkKit
import Derived.WalkSpells
import Derived.WalkLawsBesides
import Derived.Laws.BytesArg
import Derived.Lib.Hide
import Derived.Lib.ConvBytes
namespace Go.Proofs.YtahmcjgehhfknaaDoor
open Go.RowKit
set_option linter.unusedVariables false
set_option linter.unusedSimpArgs false

/-! ### Bytes -/
def digB (c : UInt8) : Bool := decide (48 ≤ c.toNat) && decide (c.toNat ≤ 57)
def capB (c : UInt8) : Bool := decide (65 ≤ c.toNat) && decide (c.toNat ≤ 90)
def prtB (c : UInt8) : Bool := decide (32 ≤ c.toNat) && decide (c.toNat ≤ 126)
def nameB (c : UInt8) : Bool := capB c || digB c || decide (c.toNat = 45)
def spcB (c : UInt8) : Bool := decide (c.toNat = 32)
def smallB (c : UInt8) : Bool := decide (97 ≤ c.toNat) && decide (c.toNat ≤ 122)
def upB (c : UInt8) : UInt8 := if smallB c = true then UInt8.ofNat (c.toNat - 32) else c

theorem u8lt (c : UInt8) : (c.toNat : Int) < 256 := by have := c.toNat_lt; omega
theorem u8_eq {a b : UInt8} (h : a.toNat = b.toNat) : a = b := by
  have := congrArg UInt8.ofNat h; simpa using this

/-- The place of the first byte that is wanted, or -1. -/
def firstI (p : UInt8 → Bool) : Nat → List UInt8 → Int
  | _, [] => -1
  | k, c :: l => if p c = true then (k : Int) else firstI p (k + 1) l
theorem firstI_none (p : UInt8 → Bool) : ∀ (l : List UInt8) (k : Nat), l.all (fun c => !p c) = true → firstI p k l = -1
  | [], _, _ => rfl
  | c :: l, k, h => by
    simp only [List.all_cons, Bool.and_eq_true, Bool.not_eq_true'] at h
    simp [firstI, h.1, firstI_none p l (k + 1) h.2]
theorem firstI_some (p : UInt8 → Bool) : ∀ (l : List UInt8) (k : Nat), l.all (fun c => !p c) = false → 0 ≤ firstI p k l
  | [], _, h => by simp at h
  | c :: l, k, h => by
    by_cases hc : p c = true
    · simp [firstI, hc]
    · simp only [firstI, hc]
      refine firstI_some p l (k + 1) ?_
      simpa [hc] using h
theorem firstI_drop (p : UInt8 → Bool) (l : List UInt8) (k : Nat) (c : UInt8) (h : l[k]? = some c) :
    firstI p k (l.drop k) = if p c = true then (k : Int) else firstI p (k + 1) (l.drop (k + 1)) := by
  have hk : k < l.length := by
    rcases Nat.lt_or_ge k l.length with hk | hk
    · exact hk
    · rw [List.getElem?_eq_none hk] at h; cases h
  rw [List.drop_eq_getElem_cons hk]
  rw [List.getElem?_eq_getElem hk] at h
  injection h with h
  rw [h]
  rfl

/-- The place of the last byte that is wanted among the first n, or -1. -/
def lastI (p : UInt8 → Bool) (l : List UInt8) : Nat → Int
  | 0 => -1
  | k + 1 => if p (l.getD k 0) = true then (k : Int) else lastI p l k
theorem lastI_lo (p : UInt8 → Bool) (l : List UInt8) : ∀ k, -1 ≤ lastI p l k ∧ lastI p l k < k
  | 0 => by simp [lastI]
  | k + 1 => by
    have := lastI_lo p l k
    simp only [lastI]
    split <;> omega

/-! ### A slice of bytes that reads as a list; nil is let in -/
def Txt (w : World) (A : Option Addr) (xs : List UInt8) : Prop :=
  0 < xs.length → ∃ b off, A = some ⟨b, off, none⟩ ∧ b < w.heap.size ∧ ∀ j c, xs[j]? = some c → w.cell? ⟨b, off + j, none⟩ = some (.int .u8 c.toNat)
theorem Txt.nil (w : World) (A : Option Addr) : Txt w A [] := fun h => absurd h (by simp)
theorem Txt.keep {w w' : World} {A : Option Addr} {xs : List UInt8} (h : Txt w A xs) (hs : w.heap.size ≤ w'.heap.size) (hk : ∀ p : Addr, p.block < w.heap.size → w'.cell? p = w.cell? p) : Txt w' A xs := fun hl => by
  obtain ⟨b, off, e, hb, hc⟩ := h hl
  exact ⟨b, off, e, by omega, fun j c hj => (hk ⟨b, off + j, none⟩ hb).trans (hc j c hj)⟩
theorem Txt.below {w w' : World} {A : Option Addr} {xs : List UInt8} (h : Txt w A xs) (hb : Below w.heap.size w w') : Txt w' A xs := h.keep hb.size fun _ hp => hb.cell hp
theorem Txt.alloc {w : World} {A : Option Addr} {xs : List UInt8} (h : Txt w A xs) (o : Obj) : Txt (w.alloc o) A xs := h.below ((Below.refl _ _).alloc (Nat.le_refl _) o)
theorem Txt.at_ {w : World} {A : Option Addr} {xs : List UInt8} (h : Txt w A xs) {k : Nat} (hk : k < xs.length) :
    ∃ b off c, A = some ⟨b, off, none⟩ ∧ b < w.heap.size ∧ xs[k]? = some c ∧ w.cell? ⟨b, off + k, none⟩ = some (.int .u8 c.toNat) := by
  obtain ⟨b, off, e, hb, hc⟩ := h (by omega)
  exact ⟨b, off, xs[k], e, hb, List.getElem?_eq_getElem hk, hc k _ (List.getElem?_eq_getElem hk)⟩

/-- The cells of a row of bytes. -/
def cellsB (l : List UInt8) : Array Value := (l.map fun c => Value.int .u8 c.toNat).toArray
theorem cellsB_size (l : List UInt8) : (cellsB l).size = l.length := by simp [cellsB]
theorem cellsB_get (l : List UInt8) (j : Nat) (c : UInt8) (h : l[j]? = some c) : (cellsB l)[j]? = some (.int .u8 c.toNat) := by
  simp [cellsB, h]
theorem Txt.new (w : World) (t : TypeId) (l : List UInt8) : Txt (w.alloc (.cells (cellsB l) t)) (some ⟨w.heap.size, 0, none⟩) l := fun _ =>
  ⟨w.heap.size, 0, rfl, by simp, fun j c hj => by
    have := cellsB_get l j c hj
    simp [World.cell?, World.alloc, -World.alloc_eq, this]⟩
end Go.Proofs.YtahmcjgehhfknaaDoor
