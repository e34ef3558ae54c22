/-
  What the reference's Read returns, as words on lists; no walk here.
-/
import Derived.Test.YtbckdieajfbepaaDoorRef2c
import Derived.Test.YtbckdieajfbepaaDoorRef2d
namespace Go.Proofs.YtbckdieajfbepaaDoor
open Go.RowKit
set_option linter.unusedVariables false
set_option linter.unusedSimpArgs false

/-- What a line is: a fault, a line that does not count, or a row. -/
inductive LineIs | bad (e line col : Nat) | off | row (mark : UInt8) (text : List UInt8)
def lineIs (s : List UInt8) (line : Nat) (debug : Bool) : LineIs :=
  if 80 < s.length then .bad 5 line 81
  else if 0 ≤ firstI (fun c => !prtB c) 0 s then .bad 4 line (firstI (fun c => !prtB c) 0 s + 1).toNat
  else if (markOf s).toNat = 42 ∨ (markOf s).toNat = 47 then .off
  else if (markOf s).toNat = 68 ∨ (markOf s).toNat = 100 then (if debug = true ∧ fstN (textOf s) < 65 then .row 32 (textOf s) else .off)
  else if (markOf s).toNat ≠ 32 ∧ (markOf s).toNat ≠ 45 then .bad 4 line 7
  else if fstN (textOf s) < 65 then .row (markOf s) (textOf s) else .off

/-- The value that row returns, laid open. -/
def LineSays (line : Nat) (v : Value) : LineIs → Prop
  | .bad e l c => (∃ (n : Int) (m : UInt8) (t : List UInt8), v = .tuple #[rowA n m t, .bool false, faultV e l c]) ∧ e ≠ 0
  | .off => ∃ (n : Int) (m : UInt8) (t : List UInt8), v = .tuple #[rowA n m t, .bool false, faultV 0 0 0]
  | .row m t => v = .tuple #[rowA line m t, .bool true, faultV 0 0 0] ∧ t.length = 65 ∧ fstN t < 65 ∧ (m.toNat = 32 ∨ m.toNat = 45)

theorem lineIs_says (s : List UInt8) (line : Nat) (debug : Bool) : LineSays line (rowV s line debug) (lineIs s line debug) := by
  unfold rowV lineIs
  by_cases h1 : 80 < s.length
  · rw [if_pos h1, if_pos h1]; exact ⟨⟨0, 0, [], rfl⟩, by decide⟩
  rw [if_neg h1, if_neg h1]
  by_cases h2 : 0 ≤ firstI (fun c => !prtB c) 0 s
  · rw [if_pos h2, if_pos h2]
    refine ⟨⟨0, 0, [], ?_⟩, by decide⟩
    rw [Int.toNat_of_nonneg (by omega)]
    rfl
  rw [if_neg h2, if_neg h2]
  by_cases h3 : (markOf s).toNat = 42 ∨ (markOf s).toNat = 47
  · rw [if_pos h3, if_pos h3]; exact ⟨line, markOf s, textOf s, rfl⟩
  rw [if_neg h3, if_neg h3]
  by_cases h4 : (markOf s).toNat = 68 ∨ (markOf s).toNat = 100
  · rw [if_pos h4, if_pos h4]
    by_cases h5 : debug = true ∧ fstN (textOf s) < 65
    · rw [if_pos h5]
      exact ⟨by simp [h5], textOf_length s, h5.2, .inl rfl⟩
    · rw [if_neg h5]
      refine ⟨line, 32, textOf s, ?_⟩
      have : (debug && decide (fstN (textOf s) < 65)) = false := by
        rw [← Bool.not_eq_true, Bool.and_eq_true, decide_eq_true_eq]; exact h5
      rw [this]
  rw [if_neg h4, if_neg h4]
  by_cases h5 : (markOf s).toNat ≠ 32 ∧ (markOf s).toNat ≠ 45
  · rw [if_pos h5, if_pos h5]; exact ⟨⟨line, markOf s, textOf s, rfl⟩, by decide⟩
  rw [if_neg h5, if_neg h5]
  by_cases h6 : fstN (textOf s) < 65
  · rw [if_pos h6]
    exact ⟨by simp [h6], textOf_length s, h6, by omega⟩
  · rw [if_neg h6]
    exact ⟨line, markOf s, textOf s, by simp [h6]⟩

/-- A card: Left, Text, and its Marks (From, Line, Column). -/
structure Kard where
  left : Bool
  text : List UInt8
  marks : List (Nat × Nat × Nat)
  deriving DecidableEq
/-- What Read knows between two lines: the cards that are complete, the one that is under way, where the last part begins. -/
structure ReadAt where
  done : List Kard
  cur : Option Kard
  at_ : Nat × Nat
def ReadAt.all (r : ReadAt) : List Kard := r.done ++ r.cur.toList
/-- A card with one more part. -/
def Kard.plus (c : Kard) (p : List UInt8) (line col : Nat) : Kard :=
  { c with text := c.text ++ p, marks := if p = [] then c.marks else c.marks ++ [(c.text.length, line, col)] }
/-- A row put to the card under way. -/
def putRow (done : List Kard) (c : Kard) (t : List UInt8) (line : Nat) (begins : Bool) : (Nat × Nat × Nat) ⊕ ReadAt :=
  match rpart t c.text begins with
  | .inr col => .inl (4, line, col)
  | .inl (p, col) => .inr ⟨done, some (c.plus p line col), (line, col)⟩
def readRow (r : ReadAt) (m : UInt8) (t : List UInt8) (line : Nat) : (Nat × Nat × Nat) ⊕ ReadAt :=
  if m.toNat = 32 then
    match r.cur with
    | none => putRow r.done ⟨decide (fstN t < 4), [], []⟩ t line true
    | some c => if openB c.text = true then .inl (4, r.at_) else putRow (r.done ++ [c]) ⟨decide (fstN t < 4), [], []⟩ t line true
  else
    match r.cur with
    | none => .inl (6, line, 7)
    | some c => putRow r.done c t line false
def readLine (debug : Bool) (r : ReadAt) (s : List UInt8) (line : Nat) : (Nat × Nat × Nat) ⊕ ReadAt :=
  match lineIs s line debug with
  | .bad e l c => .inl (e, l, c)
  | .off => .inr r
  | .row m t => readRow r m t line
/-- All lines from one on; line: the number of lines before. -/
def readFrom (debug : Bool) (r : ReadAt) (line : Nat) : List (List UInt8) → (Nat × Nat × Nat) ⊕ List Kard
  | [] => match r.cur with
    | some c => if openB c.text = true then .inl (4, r.at_) else .inr r.all
    | none => .inr r.all
  | s :: L => match readLine debug r s (line + 1) with
    | .inl f => .inl f
    | .inr r' => readFrom debug r' (line + 1) L
def readB (text : List UInt8) (debug : Bool) : (Nat × Nat × Nat) ⊕ List Kard :=
  if 1048576 < text.length then .inl (3, 0, 0) else readFrom debug ⟨[], none, (0, 0)⟩ 0 (linesB text)

/-- The loop's step: k lines are read. -/
theorem readFrom_step (debug : Bool) (r : ReadAt) (L : List (List UInt8)) (k : Nat) (s : List UInt8) (h : L[k]? = some s) :
    readFrom debug r k (L.drop k) = match readLine debug r s (k + 1) with | .inl f => .inl f | .inr r' => readFrom debug r' (k + 1) (L.drop (k + 1)) := by
  have hk : k < L.length := by
    rcases Nat.lt_or_ge k L.length with hk | hk
    · exact hk
    · rw [List.getElem?_eq_none hk] at h; cases h
  rw [List.drop_eq_getElem_cons hk]
  rw [List.getElem?_eq_getElem hk] at h
  injection h with h
  rw [h]
  rfl

/-- A part is not longer than its row. -/
theorem rpart_le (t text : List UInt8) (begins : Bool) (p : List UInt8) (col : Nat) (h : rpart t text begins = .inl (p, col)) : p.length ≤ t.length ∧ col ≤ t.length + 9 := by
  have hf := fstN_le t
  have he : ∀ l, (tailB l text).length ≤ l.length := fun l => by
    unfold tailB
    split
    · exact Nat.le_refl _
    · rw [trimB_length]; exact trimN_le l
  unfold rpart at h
  split at h
  · injection h with h; injection h with h1 h2
    subst h1; have := he (t.drop (fstN t)); rw [List.length_drop] at this; omega
  · split at h
    · cases h
    · split at h
      · injection h with h; injection h with h1 h2
        subst h1; have := he (t.drop (fstN t + 1)); rw [List.length_drop] at this; omega
      · injection h with h; injection h with h1 h2
        subst h1; have := he (t.drop (fstN t)); rw [List.length_drop] at this; omega
end Go.Proofs.YtbckdieajfbepaaDoor
