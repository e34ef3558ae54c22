/-
  The contracts of the law's functions divide and digits of layer 2 (columnsevenlaw02).
-/
import Derived.Test.YtpalfhfbgfnacaaGreatDoorGC
import Derived.Handy
namespace Go.Proofs.YtpalfhfbgfnacaaGreatDoor
open Go.RowKit
set_option linter.unusedVariables false
set_option linter.unusedSimpArgs false

/-- Can a text be divided at k? -/
def hitAt (l : List UInt8) (ins : Bool) (k : Nat) : Bool :=
  match l[k]? with
  | none => false
  | some c => decide (c.toNat = 32) && (openB (l.take k) == ins)
/-- The greatest such k from 1 to a room. -/
def divN (l : List UInt8) (ins : Bool) : Nat → Option Nat
  | 0 => none
  | k + 1 => if hitAt l ins (k + 1) then some (k + 1) else divN l ins k
theorem divN_hit (l : List UInt8) (ins : Bool) (k : Nat) (h : hitAt l ins (k + 1) = true) : divN l ins (k + 1) = some (k + 1) := by
  show (if _ then _ else _) = _; rw [if_pos h]
theorem divN_miss (l : List UInt8) (ins : Bool) (k : Nat) (h : hitAt l ins (k + 1) = false) : divN l ins (k + 1) = divN l ins k := by
  show (if _ then _ else _) = _; rw [h]; rfl
theorem hitAt_of (l : List UInt8) (ins : Bool) (k : Nat) (c : UInt8) (h : l[k]? = some c) : hitAt l ins k = (decide (c.toNat = 32) && (openB (l.take k) == ins)) := by
  unfold hitAt; rw [h]
theorem hitAt_none (l : List UInt8) (ins : Bool) (k : Nat) (h : l.length ≤ k) : hitAt l ins k = false := by
  unfold hitAt; rw [List.getElem?_eq_none h]

/-- The digits of a number, none for 0. -/
def digN (n : Nat) : List UInt8 := if h : n = 0 then [] else digN (n / 10) ++ [UInt8.ofNat (48 + n % 10)]
termination_by n
decreasing_by omega
theorem digN_zero : digN 0 = [] := by rw [digN]; simp
theorem digN_pos (n : Nat) (h : 0 < n) : digN n = digN (n / 10) ++ [UInt8.ofNat (48 + n % 10)] := by
  rw [digN, dif_neg (by omega)]
theorem dig_cut : ∀ d : Fin 10, ((⟨#[48, 49, 50, 51, 52, 53, 54, 55, 56, 57]⟩ : ByteArray).extract d.val (d.val + 1)).data.toList = [UInt8.ofNat (48 + d.val)] := by decide +kernel

end Go.Proofs.YtpalfhfbgfnacaaGreatDoor
