/-
  Texts of this seat, merged: Ref2o Ref2a Ref2b Ref2c Ref2d ReadS ColS Pieces Same EqF.
-/
import Derived.Test.YtpalfhfbgfnacaaGreatDoorGA
import Derived.Handy
import Derived.Deep.RegionWith
import Derived.Lib.TrimByte
import Derived.Lib.SplitLaws
import Derived.Deep.QuietTactic
import Derived.Laws.StructEq
import Derived.BigQuiet
/-
  The contract of the reference's function Open (columnsevenref02).
-/
namespace Go.Proofs.YtpalfhfbgfnacaaGreatDoor
open Go.RowKit
set_option linter.unusedVariables false
set_option linter.unusedSimpArgs false

theorem retI {k : IntKind} {a b : Int} (h : a = b) : Ending.returned (.int k a) = .returned (.int k b) := by rw [h]
theorem retB {a b : Bool} (h : a = b) : Ending.returned (.bool a) = .returned (.bool b) := by rw [h]
theorem retS {a b : ByteArray} (h : a = b) : Ending.returned (.string a) = .returned (.string b) := by rw [h]

end Go.Proofs.YtpalfhfbgfnacaaGreatDoor

/-
  The contracts of the reference's functions on strings (columnsevenref02): first, end, tail.
-/
namespace Go.Proofs.YtpalfhfbgfnacaaGreatDoor
open Go.RowKit
set_option linter.unusedVariables false
set_option linter.unusedSimpArgs false
/-- The rest of a row as a part. -/
def tailB (rest text : List UInt8) : List UInt8 := if openB (text ++ rest) = true then rest else trimB rest
end Go.Proofs.YtpalfhfbgfnacaaGreatDoor

/-
  The contracts of the reference's functions on rows (columnsevenref02): part, row.
-/
namespace Go.Proofs.YtpalfhfbgfnacaaGreatDoor
open Go.RowKit
set_option linter.unusedVariables false
set_option linter.unusedSimpArgs false

/-- The part of a row behind a text: what is taken, and where it begins; or the column of the fault. -/
def rpart (row text : List UInt8) (begins : Bool) : (List UInt8 × Nat) ⊕ Nat :=
  if begins = true then .inl (tailB (row.drop (fstN row)) text, fstN row + 8)
  else if fstN row < 4 ∨ (openB text = true ∧ (row.getD (fstN row) 0).toNat ≠ 34) then .inr (fstN row + 8)
  else if openB text = true then .inl (tailB (row.drop (fstN row + 1)) text, fstN row + 1 + 8)
  else .inl (tailB (row.drop (fstN row)) text, fstN row + 8)
/-- What part returns. -/
def partV (line : Int) : (List UInt8 × Nat) ⊕ Nat → Value
  | .inl (p, c) => .tuple #[.string (strL p), .int .i64 c, .agg #[.int .i64 0, .int .i64 0, .int .i64 0]]
  | .inr c => .tuple #[.string ⟨#[]⟩, .int .i64 0, .agg #[.int .i64 4, .int .i64 line, .int .i64 c]]

end Go.Proofs.YtpalfhfbgfnacaaGreatDoor

/-
  The contract of the reference's function row (columnsevenref02).
-/
namespace Go.Proofs.YtpalfhfbgfnacaaGreatDoor
open Go.RowKit
set_option linter.unusedVariables false
set_option linter.unusedSimpArgs false

/-- A line as if it were 72 columns long, or longer. -/
def padTo (s : List UInt8) : List UInt8 := s ++ List.replicate (72 - s.length) 32
def markOf (s : List UInt8) : UInt8 := (padTo s).getD 6 0
def textOf (s : List UInt8) : List UInt8 := ((padTo s).take 72).drop 7
theorem padTo_length (s : List UInt8) : 72 ≤ (padTo s).length := by simp [padTo]; omega
theorem textOf_length (s : List UInt8) : (textOf s).length = 65 := by
  have := padTo_length s
  simp [textOf]; omega
def faultV (e line col : Int) : Value := .agg #[.int .i64 e, .int .i64 line, .int .i64 col]
def rowA (line : Int) (m : UInt8) (t : List UInt8) : Value := .agg #[.int .i64 line, .int .u8 m.toNat, .string (strL t)]
def row0 : Value := .agg #[.int .i64 0, .int .u8 0, .string ⟨#[]⟩]
/-- What row returns. -/
def rowV (s : List UInt8) (line : Int) (debug : Bool) : Value :=
  if 80 < s.length then .tuple #[row0, .bool false, faultV 5 line 81]
  else if 0 ≤ firstI (fun c => !prtB c) 0 s then .tuple #[row0, .bool false, faultV 4 line (firstI (fun c => !prtB c) 0 s + 1)]
  else if (markOf s).toNat = 42 ∨ (markOf s).toNat = 47 then .tuple #[rowA line (markOf s) (textOf s), .bool false, faultV 0 0 0]
  else if (markOf s).toNat = 68 ∨ (markOf s).toNat = 100 then .tuple #[rowA line 32 (textOf s), .bool (debug && decide (fstN (textOf s) < 65)), faultV 0 0 0]
  else if (markOf s).toNat ≠ 32 ∧ (markOf s).toNat ≠ 45 then .tuple #[rowA line (markOf s) (textOf s), .bool false, faultV 4 line 7]
  else .tuple #[rowA line (markOf s) (textOf s), .bool (decide (fstN (textOf s) < 65)), faultV 0 0 0]

theorem prt_no (c : UInt8) (h : (c.toNat : Int) < 32 ∨ 126 < (c.toNat : Int)) : (!prtB c) = true := by simp [prtB]; omega
theorem prt_yes (c : UInt8) (h : ¬ ((c.toNat : Int) < 32 ∨ 126 < (c.toNat : Int))) : (!prtB c) = false := by simp [prtB]; omega

/-- What the loop that pads has: t. -/
structure Padded (s t : ByteArray) : Prop where
  data : ∃ j, t.data.toList = s.data.toList ++ List.replicate j 32 ∧ (0 < j → t.size ≤ 72)
theorem Padded.start (s : ByteArray) : Padded s s := ⟨0, by simp, by omega⟩
theorem Padded.step {s t : ByteArray} (h : Padded s t) (hlt : t.size < 72) : Padded s (t ++ ⟨#[32]⟩) := by
  obtain ⟨j, hj, _⟩ := h.data
  refine ⟨j + 1, ?_, fun _ => by rw [ByteArray.size_append]; show t.size + 1 ≤ 72; omega⟩
  rw [append_data, hj, List.replicate_succ']
  simp
theorem Padded.done {s t : ByteArray} (h : Padded s t) (hge : ¬ t.size < 72) : t.data.toList = padTo s.data.toList := by
  obtain ⟨j, hj, h72⟩ := h.data
  have hsz : t.size = s.size + j := by rw [size_data t, hj, List.length_append, List.length_replicate, ← size_data]
  rw [hj]
  unfold padTo
  congr 1
  rw [← size_data]
  rcases Nat.eq_zero_or_pos j with h0 | h0
  · rw [show 72 - s.size = j from by omega]
  · have := h72 h0
    rw [show 72 - s.size = j from by omega]

end Go.Proofs.YtpalfhfbgfnacaaGreatDoor

/-
  The contracts of the reference's function lines (columnsevenref02).
-/
namespace Go.Proofs.YtpalfhfbgfnacaaGreatDoor
open Go.RowKit
set_option linter.unusedVariables false
set_option linter.unusedSimpArgs false

/-- The lines of a text: what stands before each byte 10, and the rest if it is not empty. -/
def linesG (cur : List UInt8) : List UInt8 → List (List UInt8)
  | [] => if cur = [] then [] else [cur]
  | c :: r => if c.toNat = 10 then cur :: linesG [] r else linesG (cur ++ [c]) r
def linesB (l : List UInt8) : List (List UInt8) := linesG [] l
/-- The cells of a list of strings. -/
def valsS (ls : List (List UInt8)) : List Value := ls.map fun l => Value.string (strL l)

/-- What the loop of lines knows when i is k, and the line began at j. -/
def LinesAt (l : List UInt8) (k j : Nat) (L : List (List UInt8)) : Prop :=
  (k ≤ l.length ∧ j ≤ k ∧ L ++ linesG ((l.take k).drop j) (l.drop k) = linesB l) ∨ (k = l.length + 1 ∧ L = linesB l)
theorem LinesAt.start (l : List UInt8) : LinesAt l 0 0 [] := .inl ⟨Nat.zero_le _, Nat.le_refl _, by simp [linesB]⟩
theorem LinesAt.len {l : List UInt8} {k j : Nat} {L : List (List UInt8)} (h : LinesAt l k j L) : k ≤ l.length + 1 := by
  rcases h with ⟨h, _⟩ | ⟨h, _⟩ <;> omega
theorem LinesAt.done {l : List UInt8} {k j : Nat} {L : List (List UInt8)} (h : LinesAt l k j L) (hk : l.length < k) : L = linesB l := by
  rcases h with ⟨h, _⟩ | ⟨_, h⟩
  · omega
  · exact h
theorem LinesAt.last {l : List UInt8} {j : Nat} {L : List (List UInt8)} (h : LinesAt l l.length j L) : (j = l.length → L = linesB l) ∧ (j < l.length → LinesAt l (l.length + 1) (l.length + 1) (L ++ [l.drop j])) := by
  rcases h with ⟨_, hj, h⟩ | ⟨h, _⟩
  · simp only [List.take_length, List.drop_length, linesG] at h
    constructor
    · intro e; subst e
      simpa using h
    · intro hlt
      rw [if_neg (by intro e; have := congrArg List.length e; simp at this; omega)] at h
      exact .inr ⟨rfl, h⟩
  · omega
theorem LinesAt.bounds {l : List UInt8} {k j : Nat} {L : List (List UInt8)} (h : LinesAt l k j L) (hk : k ≤ l.length) : j ≤ k := by
  rcases h with ⟨_, h, _⟩ | ⟨h, _⟩ <;> omega
theorem LinesAt.break {l : List UInt8} {k j : Nat} {L : List (List UInt8)} (h : LinesAt l k j L) (c : UInt8) (hc : l[k]? = some c) (h10 : c.toNat = 10) : LinesAt l (k + 1) (k + 1) (L ++ [(l.take k).drop j]) := by
  have hk : k < l.length := by
    rcases Nat.lt_or_ge k l.length with hk | hk
    · exact hk
    · rw [List.getElem?_eq_none hk] at hc; cases hc
  rcases h with ⟨_, hj, h⟩ | ⟨h, _⟩
  · refine .inl ⟨hk, Nat.le_refl _, ?_⟩
    rw [List.getElem?_eq_getElem hk] at hc
    injection hc with hc
    rw [List.drop_eq_getElem_cons hk, hc] at h
    simp only [linesG, h10, if_true] at h
    rw [← h, List.append_assoc]
    congr 1
    rw [show (l.take (k + 1)).drop (k + 1) = [] from by apply List.drop_eq_nil_of_le; simp; omega]
    rfl
  · omega
theorem LinesAt.more {l : List UInt8} {k j : Nat} {L : List (List UInt8)} (h : LinesAt l k j L) (c : UInt8) (hc : l[k]? = some c) (h10 : c.toNat ≠ 10) : LinesAt l (k + 1) j L := by
  have hk : k < l.length := by
    rcases Nat.lt_or_ge k l.length with hk | hk
    · exact hk
    · rw [List.getElem?_eq_none hk] at hc; cases hc
  rcases h with ⟨_, hj, h⟩ | ⟨h, _⟩
  · refine .inl ⟨hk, by omega, ?_⟩
    rw [List.getElem?_eq_getElem hk] at hc
    injection hc with hc
    rw [List.drop_eq_getElem_cons hk, hc] at h
    simp only [linesG, h10, if_false] at h
    rw [← h, List.take_succ_eq_append_getElem hk, hc, List.drop_append_of_le_length (by simp; omega)]
  · omega
theorem Tryz.infoStr : (Tryz.prog.info? 9).map (fun i => (i.zero, i.size, i.bytes)) = some (some (.string ⟨#[]⟩), 1, 16) := by kernel_rfl
theorem valsS_length (L : List (List UInt8)) : (valsS L).length = L.length := by simp [valsS]
theorem valsS_snoc (L : List (List UInt8)) (t : ByteArray) (l : List UInt8) (h : t.data.toList = l) : valsS L ++ [.string t] = valsS (L ++ [l]) := by
  subst h
  simp [valsS, strL_of]

/-- append of one string onto a row of the call's own. -/
theorem append_str (base : Nat) (v : Value) (L : List (List UInt8)) (t : ByteArray) (l : List UInt8) (hl : t.data.toList = l) (W : World) (hown : W.ownsRow base 9 1 v L.length (valsS L)) (hn : L.length ≤ 2097152) (hbase : base ≤ W.heap.size) :
    ∃ v' w', (Builtin.append_ #[69, 69] 69 #[v, .slice (some ⟨W.heap.size, 0, none⟩) 1 1]).run Tryz.prog (W.alloc (.cells #[.string t] 9)) = .ok v' w' ∧
      w'.ownsRow base 9 1 v' (L ++ [l]).length (valsS (L ++ [l])) ∧ Below base W w' ∧ base ≤ w'.heap.size := by
  obtain ⟨i0, hi, hz0, hz1, hz2⟩ := info_parts Tryz.infoStr
  obtain ⟨v', w', h1, h2, h3, h4⟩ := append_one (P := Tryz.prog) 69 9 i0 (.string ⟨#[]⟩) 16 Tryz.underlying69 hi hz0 hz1 hz2 rfl base v L.length (valsS L) (.string t) W hown rfl (by unfold maxLen; omega) (by omega) hbase
  rw [valsS_snoc L t l hl] at h2
  exact ⟨v', w', h1, by rw [List.length_append]; exact h2, h3, h4⟩

end Go.Proofs.YtpalfhfbgfnacaaGreatDoor

/-
  What the reference's Read returns, as words on lists; no walk here.
-/
namespace Go.Proofs.YtpalfhfbgfnacaaGreatDoor
open Go.RowKit
set_option linter.unusedVariables false
set_option linter.unusedSimpArgs false

/-- What a line is: a fault, a line that does not count, or a row. -/
inductive LineIs | bad (e line col : Nat) | off | row (mark : UInt8) (text : List UInt8)
def lineIs (s : List UInt8) (line : Nat) (debug : Bool) : LineIs :=
  if 80 < s.length then .bad 5 line 81
  else if 0 ≤ firstI (fun c => !prtB c) 0 s then .bad 4 line (firstI (fun c => !prtB c) 0 s + 1).toNat
  else if (markOf s).toNat = 42 ∨ (markOf s).toNat = 47 then .off
  else if (markOf s).toNat = 68 ∨ (markOf s).toNat = 100 then (if debug = true ∧ fstN (textOf s) < 65 then .row 32 (textOf s) else .off)
  else if (markOf s).toNat ≠ 32 ∧ (markOf s).toNat ≠ 45 then .bad 4 line 7
  else if fstN (textOf s) < 65 then .row (markOf s) (textOf s) else .off

/-- The value that row returns, laid open. -/
def LineSays (line : Nat) (v : Value) : LineIs → Prop
  | .bad e l c => (∃ (n : Int) (m : UInt8) (t : List UInt8), v = .tuple #[rowA n m t, .bool false, faultV e l c]) ∧ e ≠ 0
  | .off => ∃ (n : Int) (m : UInt8) (t : List UInt8), v = .tuple #[rowA n m t, .bool false, faultV 0 0 0]
  | .row m t => v = .tuple #[rowA line m t, .bool true, faultV 0 0 0] ∧ t.length = 65 ∧ fstN t < 65 ∧ (m.toNat = 32 ∨ m.toNat = 45)

theorem lineIs_says (s : List UInt8) (line : Nat) (debug : Bool) : LineSays line (rowV s line debug) (lineIs s line debug) := by
  unfold rowV lineIs
  by_cases h1 : 80 < s.length
  · rw [if_pos h1, if_pos h1]; exact ⟨⟨0, 0, [], rfl⟩, by decide⟩
  rw [if_neg h1, if_neg h1]
  by_cases h2 : 0 ≤ firstI (fun c => !prtB c) 0 s
  · rw [if_pos h2, if_pos h2]
    refine ⟨⟨0, 0, [], ?_⟩, by decide⟩
    rw [Int.toNat_of_nonneg (by omega)]
    rfl
  rw [if_neg h2, if_neg h2]
  by_cases h3 : (markOf s).toNat = 42 ∨ (markOf s).toNat = 47
  · rw [if_pos h3, if_pos h3]; exact ⟨line, markOf s, textOf s, rfl⟩
  rw [if_neg h3, if_neg h3]
  by_cases h4 : (markOf s).toNat = 68 ∨ (markOf s).toNat = 100
  · rw [if_pos h4, if_pos h4]
    by_cases h5 : debug = true ∧ fstN (textOf s) < 65
    · rw [if_pos h5]
      exact ⟨by simp [h5], textOf_length s, h5.2, .inl rfl⟩
    · rw [if_neg h5]
      refine ⟨line, 32, textOf s, ?_⟩
      have : (debug && decide (fstN (textOf s) < 65)) = false := by
        rw [← Bool.not_eq_true, Bool.and_eq_true, decide_eq_true_eq]; exact h5
      rw [this]
  rw [if_neg h4, if_neg h4]
  by_cases h5 : (markOf s).toNat ≠ 32 ∧ (markOf s).toNat ≠ 45
  · rw [if_pos h5, if_pos h5]; exact ⟨⟨line, markOf s, textOf s, rfl⟩, by decide⟩
  rw [if_neg h5, if_neg h5]
  by_cases h6 : fstN (textOf s) < 65
  · rw [if_pos h6]
    exact ⟨by simp [h6], textOf_length s, h6, by omega⟩
  · rw [if_neg h6]
    exact ⟨line, markOf s, textOf s, by simp [h6]⟩

/-- A card: Left, Text, and its Marks (From, Line, Column). -/
structure Kard where
  left : Bool
  text : List UInt8
  marks : List (Nat × Nat × Nat)
  deriving DecidableEq
/-- What Read knows between two lines: the cards that are complete, the one that is under way, where the last part begins. -/
structure ReadAt where
  done : List Kard
  cur : Option Kard
  at_ : Nat × Nat
def ReadAt.all (r : ReadAt) : List Kard := r.done ++ r.cur.toList
/-- A card with one more part. -/
def Kard.plus (c : Kard) (p : List UInt8) (line col : Nat) : Kard :=
  { c with text := c.text ++ p, marks := if p = [] then c.marks else c.marks ++ [(c.text.length, line, col)] }
/-- A row put to the card under way. -/
def putRow (done : List Kard) (c : Kard) (t : List UInt8) (line : Nat) (begins : Bool) : (Nat × Nat × Nat) ⊕ ReadAt :=
  match rpart t c.text begins with
  | .inr col => .inl (4, line, col)
  | .inl (p, col) => .inr ⟨done, some (c.plus p line col), (line, col)⟩
def readRow (r : ReadAt) (m : UInt8) (t : List UInt8) (line : Nat) : (Nat × Nat × Nat) ⊕ ReadAt :=
  if m.toNat = 32 then
    match r.cur with
    | none => putRow r.done ⟨decide (fstN t < 4), [], []⟩ t line true
    | some c => if openB c.text = true then .inl (4, r.at_) else putRow (r.done ++ [c]) ⟨decide (fstN t < 4), [], []⟩ t line true
  else
    match r.cur with
    | none => .inl (6, line, 7)
    | some c => putRow r.done c t line false
def readLine (debug : Bool) (r : ReadAt) (s : List UInt8) (line : Nat) : (Nat × Nat × Nat) ⊕ ReadAt :=
  match lineIs s line debug with
  | .bad e l c => .inl (e, l, c)
  | .off => .inr r
  | .row m t => readRow r m t line
/-- All lines from one on; line: the number of lines before. -/
def readFrom (debug : Bool) (r : ReadAt) (line : Nat) : List (List UInt8) → (Nat × Nat × Nat) ⊕ List Kard
  | [] => match r.cur with
    | some c => if openB c.text = true then .inl (4, r.at_) else .inr r.all
    | none => .inr r.all
  | s :: L => match readLine debug r s (line + 1) with
    | .inl f => .inl f
    | .inr r' => readFrom debug r' (line + 1) L
def readB (text : List UInt8) (debug : Bool) : (Nat × Nat × Nat) ⊕ List Kard :=
  if 1048576 < text.length then .inl (3, 0, 0) else readFrom debug ⟨[], none, (0, 0)⟩ 0 (linesB text)

/-- The loop's step: k lines are read. -/
theorem readFrom_step (debug : Bool) (r : ReadAt) (L : List (List UInt8)) (k : Nat) (s : List UInt8) (h : L[k]? = some s) :
    readFrom debug r k (L.drop k) = match readLine debug r s (k + 1) with | .inl f => .inl f | .inr r' => readFrom debug r' (k + 1) (L.drop (k + 1)) := by
  have hk : k < L.length := by
    rcases Nat.lt_or_ge k L.length with hk | hk
    · exact hk
    · rw [List.getElem?_eq_none hk] at h; cases h
  rw [List.drop_eq_getElem_cons hk]
  rw [List.getElem?_eq_getElem hk] at h
  injection h with h
  rw [h]
  rfl

/-- A part is not longer than its row. -/
theorem rpart_le (t text : List UInt8) (begins : Bool) (p : List UInt8) (col : Nat) (h : rpart t text begins = .inl (p, col)) : p.length ≤ t.length ∧ col ≤ t.length + 9 := by
  have hf := fstN_le t
  have he : ∀ l, (tailB l text).length ≤ l.length := fun l => by
    unfold tailB
    split
    · exact Nat.le_refl _
    · rw [trimB_length]; exact trimN_le l
  unfold rpart at h
  split at h
  · injection h with h; injection h with h1 h2
    subst h1; have := he (t.drop (fstN t)); rw [List.length_drop] at this; omega
  · split at h
    · cases h
    · split at h
      · injection h with h; injection h with h1 h2
        subst h1; have := he (t.drop (fstN t + 1)); rw [List.length_drop] at this; omega
      · injection h with h; injection h with h1 h2
        subst h1; have := he (t.drop (fstN t)); rw [List.length_drop] at this; omega
end Go.Proofs.YtpalfhfbgfnacaaGreatDoor

/-
  Plain words on the lines of a source text as package columns looks at them, and that they say what the reference's words say. No program is named here.
-/
namespace Go.Proofs.YtpalfhfbgfnacaaGreatDoor
open Go.RowKit
set_option linter.unusedVariables false
set_option linter.unusedSimpArgs false

/-- Columns 8 to 72 of a line, as far as it goes. -/
def areasB (s : List UInt8) : List UInt8 := (s.take 72).drop 7
theorem areasB_length (s : List UInt8) : (areasB s).length = min 72 s.length - 7 := by simp [areasB]
theorem textOf_areas (s : List UInt8) : textOf s = areasB s ++ List.replicate (65 - (areasB s).length) 32 := by
  have hl := areasB_length s
  have e : textOf s = ((s ++ List.replicate (72 - s.length) 32).take 72).drop 7 := rfl
  rw [e]
  apply List.ext_getElem
  · simp; omega
  · intro k h1 h2
    have h1' : k < 65 := by simp at h1; omega
    rw [List.getElem_drop, List.getElem_take]
    by_cases hk : k < (areasB s).length
    · rw [List.getElem_append_left (by omega), List.getElem_append_left hk]
      simp [areasB]
    · rw [List.getElem_append_right (by omega), List.getElem_append_right (by omega)]
      simp
theorem markOf_getD (s : List UInt8) : markOf s = s.getD 6 32 := by
  unfold markOf padTo
  rcases Nat.lt_or_ge 6 s.length with h | h
  · simp [List.getD, List.getElem?_append_left h, List.getElem?_eq_getElem h]
  · have h72 : 6 - s.length < 72 - s.length := by omega
    simp [List.getD, List.getElem?_append_right h, List.getElem?_eq_none h, List.getElem?_replicate, h72]

theorem fstN_append (a b : List UInt8) (h : fstN a < a.length) : fstN (a ++ b) = fstN a := by
  induction a with
  | nil => simp at h
  | cons c l ih =>
    simp only [List.cons_append, fstN, List.length_cons] at h ⊢
    split
    · next h32 => rw [if_pos h32] at h; rw [ih (by omega)]
    · rfl
theorem fstN_spaces (n : Nat) : fstN (List.replicate n 32) = n := by
  induction n with
  | zero => rfl
  | succ n ih => rw [List.replicate_succ]; simp only [fstN]; rw [if_pos (by rfl), ih]
theorem fstN_append_all (a b : List UInt8) (h : fstN a = a.length) : fstN (a ++ b) = a.length + fstN b := by
  induction a with
  | nil => simp
  | cons c l ih =>
    have hle := fstN_le l
    simp only [List.cons_append, fstN, List.length_cons] at h ⊢
    split
    · next h32 => rw [if_pos h32] at h; rw [ih (by omega)]; omega
    · next h32 => rw [if_neg h32] at h; omega
/-- A line has something in columns 8 to 72. -/
theorem fst_textOf (s : List UInt8) : (fstN (areasB s) < (areasB s).length → fstN (textOf s) = fstN (areasB s) ∧ fstN (textOf s) < 65) ∧ (fstN (areasB s) = (areasB s).length → ¬ fstN (textOf s) < 65) := by
  have hl := areasB_length s
  have ht := textOf_areas s
  constructor
  · intro h
    have : fstN (textOf s) = fstN (areasB s) := by rw [ht]; exact fstN_append _ _ h
    exact ⟨this, by omega⟩
  · intro h
    rw [ht, fstN_append_all _ _ h, fstN_spaces]
    omega
theorem fst_not (s : List UInt8) (h : fstN s < s.length) : (s.getD (fstN s) 0).toNat ≠ 32 := by
  induction s with
  | nil => simp at h
  | cons c l ih =>
    simp only [fstN, List.length_cons] at h ⊢
    split
    · next h32 => rw [if_pos h32] at h; have := ih (by omega); simpa [List.getD] using this
    · next h32 => simpa [List.getD] using h32

theorem lastI_append (p : UInt8 → Bool) (a b : List UInt8) : ∀ k, k ≤ a.length → lastI p (a ++ b) k = lastI p a k
  | 0, _ => rfl
  | k + 1, h => by
    simp only [lastI]
    rw [lastI_append p a b k (by omega)]
    have : (a ++ b).getD k 0 = a.getD k 0 := by simp [List.getD, List.getElem?_append_left (show k < a.length by omega)]
    rw [this]
theorem lastI_spaces (a : List UInt8) (n : Nat) : ∀ j, j ≤ n → lastI (fun c => !spcB c) (a ++ List.replicate n 32) (a.length + j) = lastI (fun c => !spcB c) (a ++ List.replicate n 32) a.length
  | 0, _ => rfl
  | j + 1, h => by
    rw [show a.length + (j + 1) = (a.length + j) + 1 from rfl]
    simp only [lastI]
    rw [lastI_spaces a n j (by omega)]
    have : (a ++ List.replicate n 32).getD (a.length + j) 0 = 32 := by
      simp [List.getD, List.getElem?_append_right, List.getElem?_replicate, show j < n by omega]
    rw [this]
    simp [spcB]
theorem trimN_spaces (a : List UInt8) (n : Nat) : trimN (a ++ List.replicate n 32) = trimN a := by
  unfold trimN
  rw [List.length_append, List.length_replicate, lastI_spaces a n n (Nat.le_refl _), lastI_append _ _ _ _ (Nat.le_refl _)]
theorem trimB_spaces (a : List UInt8) (n : Nat) : trimB (a ++ List.replicate n 32) = trimB a := by
  unfold trimB
  rw [trimN_spaces, List.take_append_of_le_length (trimN_le a)]
theorem qn_spaces (n : Nat) : qn (List.replicate n 32) = 0 := by
  unfold qn
  rw [List.countP_replicate]
  simp
theorem openB_spaces (a : List UInt8) (n : Nat) : openB (a ++ List.replicate n 32) = openB a := by
  unfold openB; rw [qn_append, qn_spaces]; rfl
theorem openB_xor (a b : List UInt8) : openB (a ++ b) = (openB a ^^ openB b) := by
  unfold openB
  rw [qn_append]
  rcases Nat.mod_two_eq_zero_or_one (qn a) with h1 | h1 <;> rcases Nat.mod_two_eq_zero_or_one (qn b) with h2 | h2 <;> simp [Nat.add_mod, h1, h2]

/-- Nothing but spaces stands behind what trimB keeps. -/
theorem lastI_le (p : UInt8 → Bool) (l : List UInt8) : ∀ n k, k < n → lastI p l n < k + 1 → k < n → lastI p l n < k → p (l.getD k 0) = false
  | 0, k, h, _, _, _ => by omega
  | n + 1, k, _, _, h, hl => by
    simp only [lastI] at hl
    split at hl
    · omega
    · next hp =>
      by_cases e : k = n
      · subst e; simpa using hp
      · exact lastI_le p l n k (by omega) (by omega) (by omega) hl
theorem trim_rest (l : List UInt8) : l = trimB l ++ List.replicate (l.length - trimN l) 32 := by
  apply List.ext_getElem
  · have := trimN_le l
    simp [trimB]; omega
  · intro k h1 h2
    have hn := trimN_le l
    by_cases hk : k < trimN l
    · rw [List.getElem_append_left (by simp [trimB]; omega)]
      simp [trimB]
    · rw [List.getElem_append_right (by simp [trimB]; omega)]
      simp only [List.getElem_replicate]
      have := lastI_le (fun c => !spcB c) l l.length k h1 (by unfold trimN at hk; omega) h1 (by unfold trimN at hk; omega)
      simp only [List.getD, List.getElem?_eq_getElem h1, Option.getD_some, spcB, Bool.not_eq_false', decide_eq_true_eq] at this
      exact u8_eq this
theorem openB_trim (a l : List UInt8) : openB (a ++ trimB l) = openB (a ++ l) := by
  have h := trim_rest l
  have h2 : a ++ l = (a ++ trimB l) ++ List.replicate (l.length - trimN l) 32 := by rw [List.append_assoc, ← h]
  rw [h2, openB_spaces]
theorem openB_tail (rest text : List UInt8) : openB (text ++ tailB rest text) = openB (text ++ rest) := by
  unfold tailB
  split
  · rfl
  · exact openB_trim _ _

/-- The rest of a line's columns from one on (k columns behind column 8), as the reference sees it. -/
theorem drop_textOf (s : List UInt8) (k : Nat) (h : k ≤ (areasB s).length) : (textOf s).drop k = (areasB s).drop k ++ List.replicate (65 - (areasB s).length) 32 := by
  rw [textOf_areas, List.drop_append_of_le_length h]
theorem tail_areas (s text : List UInt8) (k : Nat) (h : k ≤ (areasB s).length) :
    openB (text ++ (textOf s).drop k) = openB (text ++ (areasB s).drop k) ∧
    tailB ((textOf s).drop k) text = if openB (text ++ (areasB s).drop k) = true then (areasB s).drop k ++ List.replicate (65 - (areasB s).length) 32 else trimB ((areasB s).drop k) := by
  have e : openB (text ++ (textOf s).drop k) = openB (text ++ (areasB s).drop k) := by
    rw [drop_textOf s k h, ← List.append_assoc, openB_spaces]
  refine ⟨e, ?_⟩
  unfold tailB
  rw [e]
  split
  · exact drop_textOf s k h
  · rw [drop_textOf s k h, trimB_spaces]

/-- The library's words for what is cut off. -/
theorem trimRight_trimB (l : List UInt8) : Lib.trimRightB l 32 = trimB l := by
  have hr := trim_rest l
  have hn := trimN_le l
  have hlen : (trimB l).length = trimN l := trimB_length l
  refine Lib.trimRightB_take l 32 (trimN l) hn (fun j b hj hb => ?_) (fun b h0 hb => ?_)
  · rw [hr, List.getElem?_append_right (by omega), List.getElem?_replicate] at hb
    split at hb
    · injection hb with hb; exact hb.symm
    · cases hb
  · have h2 := lastI_lo (fun c => !spcB c) l l.length
    have hw : ∀ n, 0 ≤ lastI (fun c => !spcB c) l n → (fun c => !spcB c) (l.getD (lastI (fun c => !spcB c) l n).toNat 0) = true := by
      intro n
      induction n with
      | zero => intro h; simp [lastI] at h
      | succ n ih =>
        intro h
        simp only [lastI] at h ⊢
        split
        · next hp => simpa using hp
        · next hp => rw [if_neg hp] at h; exact ih h
    have h3 := hw l.length (by unfold trimN at h0; omega)
    have e : (lastI (fun c => !spcB c) l l.length).toNat = trimN l - 1 := by unfold trimN; omega
    rw [e] at h3
    simp only [List.getD, hb, Option.getD_some] at h3
    intro hb32
    subst hb32
    simp [spcB] at h3
theorem fstN_before (l : List UInt8) : ∀ (j : Nat) b, j < fstN l → l[j]? = some b → b = 32 := by
  induction l with
  | nil => intro j b h; simp [fstN] at h
  | cons c l ih =>
    intro j b h hb
    simp only [fstN] at h
    split at h
    · next h32 =>
      cases j with
      | zero => simp at hb; subst hb; exact u8_eq h32
      | succ j => exact ih j b (by omega) (by simpa using hb)
    · omega
theorem trimLeft_fstN (l : List UInt8) : Lib.trimLeftB l 32 = l.drop (fstN l) := by
  refine Lib.trimLeftB_drop l 32 (fstN l) (fstN_le l) (fstN_before l) (fun b hb => ?_)
  have hlt : fstN l < l.length := by
    rcases Nat.lt_or_ge (fstN l) l.length with h | h
    · exact h
    · rw [List.getElem?_eq_none h] at hb; cases hb
  have := fst_not l hlt
  simp only [List.getD, hb, Option.getD_some] at this
  intro e; subst e; exact this rfl
end Go.Proofs.YtpalfhfbgfnacaaGreatDoor

/-
  The pieces of a text between its bytes 10, on lists; no walk here.
-/
namespace Go.Proofs.YtpalfhfbgfnacaaGreatDoor
open Go.RowKit
set_option linter.unusedVariables false
set_option linter.unusedSimpArgs false

/-- The pieces between the bytes 10. -/
def piecesG (cur : List UInt8) : List UInt8 → List (List UInt8)
  | [] => [cur]
  | c :: r => if c.toNat = 10 then cur :: piecesG [] r else piecesG (cur ++ [c]) r
theorem pieces_lines : ∀ (l cur : List UInt8), piecesG cur l = linesG cur l ∨ piecesG cur l = linesG cur l ++ [[]]
  | [], cur => by
    by_cases h : cur = []
    · subst h; right; rfl
    · left; simp [piecesG, linesG, h]
  | c :: r, cur => by
    simp only [piecesG, linesG]
    split
    · rcases pieces_lines r [] with h | h
      · left; rw [h]
      · right; rw [h]; rfl
    · exact pieces_lines r _
theorem pieces_le : ∀ (l cur : List UInt8), ∀ x ∈ piecesG cur l, x.length ≤ cur.length + l.length
  | [], cur, x, hx => by
    simp only [piecesG, List.mem_singleton] at hx; subst hx; simp
  | c :: r, cur, x, hx => by
    unfold piecesG at hx
    rw [List.length_cons]
    split at hx
    · rcases List.mem_cons.1 hx with rfl | hx
      · omega
      · have := pieces_le r [] x hx
        simp at this; omega
    · have := pieces_le r _ x hx
      rw [List.length_append, List.length_singleton] at this; omega
theorem pieces_head : ∀ (l cur : List UInt8), ∃ h t, piecesG [] l = h :: t ∧ piecesG cur l = (cur ++ h) :: t
  | [], cur => ⟨[], [], rfl, by simp [piecesG]⟩
  | c :: r, cur => by
    simp only [piecesG]
    split
    · exact ⟨[], piecesG [] r, rfl, by simp⟩
    · obtain ⟨h, t, h1, h2⟩ := pieces_head r ([] ++ [c])
      obtain ⟨h', t', h3, h4⟩ := pieces_head r (cur ++ [c])
      rw [h1] at h3; injection h3 with e1 e2; subst e1; subst e2
      exact ⟨([] ++ [c]) ++ h, t, h2, by rw [h4]; simp⟩
theorem split_pieces : ∀ l : List UInt8, Lib.splitK [10] 0 (Lib.count l [10]) l = piecesG [] l
  | [] => by rw [Lib.count_one]; rfl
  | c :: l => by
    have ih := split_pieces l
    simp only [piecesG]
    by_cases hc : c.toNat = 10
    · obtain rfl : c = 10 := UInt8.toNat_inj.1 hc
      rw [if_pos hc, Lib.count_cons_eq, Nat.add_comm 1]
      have hix : Lib.index ((10 : UInt8) :: l) [10] = 0 := by rw [Lib.index]; simp [List.isPrefixOf]
      rw [Lib.splitK, hix]
      simp only [show ((0 : Int) == -1) = false from rfl, Bool.false_eq_true, if_false]
      show ((10 : UInt8) :: l).take 0 :: Lib.splitK [10] 0 (Lib.count l [10]) (((10 : UInt8) :: l).drop 1) = _
      rw [List.take_zero, List.drop_succ_cons, List.drop_zero, ih]
    · have hne : c ≠ 10 := fun e => hc (by rw [e]; rfl)
      rw [if_neg hc, Lib.count_cons_ne c 10 l hne]
      obtain ⟨h, t, h1, h2⟩ := pieces_head l ([] ++ [c])
      rw [h2]
      rw [h1] at ih
      have hp : ([10] : List UInt8).isPrefixOf (c :: l) = false := by simp [List.isPrefixOf, Ne.symm hne]
      have hix : Lib.index (c :: l) [10] = if Lib.index l [10] == -1 then -1 else Lib.index l [10] + 1 := by rw [Lib.index, hp]; simp
      have hge := Lib.index_ge l [10]
      cases hn : Lib.count l [10] with
      | zero => rw [hn] at ih; simp only [Lib.splitK] at ih ⊢; injection ih with e1 e2; rw [← e1, ← e2]; rfl
      | succ n =>
        rw [hn] at ih
        have hm : ¬ Lib.index l [10] = -1 := fun e => by rw [Lib.count_miss e] at hn; cases hn
        obtain ⟨j, hj⟩ : ∃ j : Nat, Lib.index l [10] = j := ⟨(Lib.index l [10]).toNat, by omega⟩
        have hb : (Lib.index l [10] == -1) = false := by rw [← Bool.not_eq_true, beq_iff_eq]; exact hm
        have hb2 : (Lib.index (c :: l) [10] == -1) = false := by rw [← Bool.not_eq_true, beq_iff_eq, hix, hb]; simp; omega
        have ej : (Lib.index (c :: l) [10]).toNat = j + 1 := by rw [hix, hb, hj]; simp; try omega
        rw [Lib.splitK, hb] at ih
        rw [Lib.splitK, hb2, ej]
        simp only [Bool.false_eq_true, if_false] at ih ⊢
        rw [hj] at ih
        injection ih with e1 e2
        rw [← e1, ← e2]
        rfl

end Go.Proofs.YtpalfhfbgfnacaaGreatDoor

/-
  A world's cards, and the contract of the reference's function Same, which only reads them.
-/
namespace Go.Proofs.YtpalfhfbgfnacaaGreatDoor
open Go.RowKit
set_option linter.unusedVariables false
set_option linter.unusedSimpArgs false

/-- The slice m reads as the marks ms. -/
def MarksAt (w : World) (m : Value) (ms : List (Nat × Nat × Nat)) : Prop :=
  (m = .slice none 0 0 ∧ ms = []) ∨ ∃ b o cap, m = .slice (some ⟨b, o, none⟩) ms.length cap ∧ ms.length ≤ cap ∧ ms.length ≤ 1048576 ∧
    ∀ k x, ms[k]? = some x → w.cell? ⟨b, o + k * 3, none⟩ = some (.int .i64 x.1) ∧ w.cell? ⟨b, o + k * 3 + 1, none⟩ = some (.int .i64 x.2.1) ∧ w.cell? ⟨b, o + k * 3 + 2, none⟩ = some (.int .i64 x.2.2)
/-- The slice v reads as the cards L. -/
def KardsAt (w : World) (v : Value) (L : List Kard) : Prop :=
  (v = .slice none 0 0 ∧ L = []) ∨ ∃ b o cap, v = .slice (some ⟨b, o, none⟩) L.length cap ∧ L.length ≤ cap ∧ L.length ≤ 1048576 ∧
    ∀ k c, L[k]? = some c → w.cell? ⟨b, o + k * 3, none⟩ = some (.bool c.left) ∧ w.cell? ⟨b, o + k * 3 + 1, none⟩ = some (.string (strL c.text)) ∧ ∃ m, w.cell? ⟨b, o + k * 3 + 2, none⟩ = some m ∧ MarksAt w m c.marks

theorem eqPos (d : Nat) (a b c e : Int) (w : World) : (Op.equalIn (d + 1 + 1) 26 (.agg #[.int .i64 a, .int .i64 b]) (.agg #[.int .i64 c, .int .i64 e])).run Tryz.prog w = .ok (a == c && b == e) w := by
  have u3 := Tryz.underlying3
  have a3 := Tryz.isAgg3
  have z3 := Tryz.sizeOf3
  have hS : Tryz.prog.underlying 26 = some (.struct (Tryz.prog.fieldsOf 26)) := by kernel_rfl
  have hp : Tryz.prog.stoodInHeld 26 = false := by kernel_rfl
  rw [run_equalIn_agg w (d + 1) 26 _ _ hS hp]
  simp only [Program.fieldsOf, Tryz.underlying26]
  go_simp
  by_cases h1 : a = c <;> by_cases h2 : b = e <;> simp [h1, h2]
@[local go_sem] theorem eqMark (a b c x y z : Int) (w : World) : (Op.equalIn 10000 52 (.agg #[.int .i64 a, .int .i64 b, .int .i64 c]) (.agg #[.int .i64 x, .int .i64 y, .int .i64 z])).run Tryz.prog w = .ok (a == x && (b == y && c == z)) w := by
  have u3 := Tryz.underlying3
  have a3 := Tryz.isAgg3
  have z3 := Tryz.sizeOf3
  have a4 := Tryz.isAgg26
  have z4 := Tryz.sizeOf26
  have hS : Tryz.prog.underlying 52 = some (.struct (Tryz.prog.fieldsOf 52)) := by kernel_rfl
  have hp : Tryz.prog.stoodInHeld 52 = false := by kernel_rfl
  have hE := eqPos 9997 b c y z
  rw [show (10000 : Nat) = 9999 + 1 from rfl, run_equalIn_agg w 9999 52 _ _ hS hp]
  simp only [Program.fieldsOf, Tryz.underlying52]
  go_simp
  by_cases h1 : a = x <;> by_cases h2 : b = y <;> by_cases h3 : c = z <;> simp [h1, h2, h3]
@[local go_sem] theorem guardMark (op : BinOp) (x y : Operand) (xs ys : Array Value) (w : World) : (eqGuard op 52 x y (.agg xs) (.agg ys)).run Tryz.prog w = .ok () w :=
  run_eqGuard_agg w op 52 x y xs ys (by kernel_rfl)
@[local go_sem] theorem neqMark (a b c x y z : Int) (w : World) : (binOp .neq 52 (.agg #[.int .i64 a, .int .i64 b, .int .i64 c]) (.agg #[.int .i64 x, .int .i64 y, .int .i64 z])).run Tryz.prog w = .ok (.bool (!(a == x && (b == y && c == z)))) w := by
  rw [run_neq_struct, eqMark]
  rfl
theorem quiet_neqMark (A : Act) (o : Oper) (p q : Operand) (a b c x y z : Int) (ho : o.op = .binOp .neq 52 p q 52) (hp : A.eval p = .agg #[.int .i64 a, .int .i64 b, .int .i64 c]) (hq : A.eval q = .agg #[.int .i64 x, .int .i64 y, .int .i64 z]) (C : World → Prop) (w : World) :
    o.quietAt Tryz.prog A C w (.bool (!(a == x && (b == y && c == z)))) := by
  unfold Oper.quietAt
  have h1 := neqMark a b c x y z w
  have h2 := guardMark .neq p q #[.int .i64 a, .int .i64 b, .int .i64 c] #[.int .i64 x, .int .i64 y, .int .i64 z] w
  simp [execOp, ho, hp, hq, h1, h2, Oper.quietUpon, Result.andThen]
theorem KardsAt.get {w : World} {b o : Nat} {cap : Nat} {L : List Kard} (h : KardsAt w (.slice (some ⟨b, o, none⟩) L.length cap) L) (k : Nat) (hk : k < L.length) :
    w.cell? ⟨b, o + k * 3, none⟩ = some (.bool L[k].left) ∧ w.cell? ⟨b, o + k * 3 + 1, none⟩ = some (.string (strL L[k].text)) ∧ ∃ m, w.cell? ⟨b, o + k * 3 + 2, none⟩ = some m ∧ MarksAt w m L[k].marks := by
  rcases h with ⟨h, _⟩ | ⟨b', o', cap', h, _, _, hc⟩
  · cases h
  · injection h with h1 h2 h3
    injection h1 with h1
    injection h1 with h1 h2
    subst h1; subst h2
    exact hc k _ (List.getElem?_eq_getElem hk)
theorem MarksAt.get {w : World} {m : Value} {ms : List (Nat × Nat × Nat)} (h : MarksAt w m ms) : ∃ oa cap, m = .slice oa ms.length cap ∧ ms.length ≤ 1048576 ∧
    (0 < ms.length → ∃ b o, oa = some ⟨b, o, none⟩ ∧ ∀ k x, ms[k]? = some x → w.cell? ⟨b, o + k * 3, none⟩ = some (.int .i64 x.1) ∧ w.cell? ⟨b, o + k * 3 + 1, none⟩ = some (.int .i64 x.2.1) ∧ w.cell? ⟨b, o + k * 3 + 2, none⟩ = some (.int .i64 x.2.2)) := by
  rcases h with ⟨rfl, rfl⟩ | ⟨b, o, cap, rfl, _, h2, h3⟩
  · exact ⟨none, 0, rfl, Nat.zero_le _, fun h => absurd h (by decide)⟩
  · exact ⟨some ⟨b, o, none⟩, cap, rfl, h2, fun _ => ⟨b, o, rfl, h3⟩⟩
theorem drew2 (w : World) (n m : Nat) : (w.drewN n).drewN m = w.drewN (n + m) := by simp [World.drewN, Nat.add_assoc]
theorem str_ne {a b : List UInt8} (h : a ≠ b) : ((strL a).toList == (strL b).toList) = false := by
  rw [beq_eq_false_iff_ne, ByteArray.toList_eq, ByteArray.toList_eq]
  exact h
def sameI (A B : List Kard) : Int := if A = B then 0 else 1
theorem sameI_eq {A B : List Kard} (h : A = B) : sameI A B = 0 := if_pos h
theorem sameI_ne {A B : List Kard} (h : A ≠ B) : sameI A B = 1 := if_neg h
theorem sameI_at {A B : List Kard} {k : Nat} (hA : k < A.length) (hB : k < B.length) (h : A[k] ≠ B[k]) : sameI A B = 1 := sameI_ne fun he => by subst he; exact h rfl
theorem take_succ_eq {α : Type} {A B : List α} {k : Nat} (hA : k < A.length) (hB : k < B.length) (h : A.take k = B.take k) (he : A[k] = B[k]) : A.take (k + 1) = B.take (k + 1) := by
  rw [List.take_succ_eq_append_getElem hA, List.take_succ_eq_append_getElem hB, h, he]

end Go.Proofs.YtpalfhfbgfnacaaGreatDoor

/-
  Equality of two faults (a struct that holds a position), for a walk.
-/
namespace Go.Proofs.YtpalfhfbgfnacaaGreatDoor
open Go.RowKit
set_option linter.unusedVariables false
set_option linter.unusedSimpArgs false

theorem eqPosF (d : Nat) (a b c e : Int) (w : World) : (Op.equalIn (d + 1 + 1) 26 (.agg #[.int .i64 a, .int .i64 b]) (.agg #[.int .i64 c, .int .i64 e])).run Tryz.prog w = .ok (a == c && b == e) w := by
  have u3 := Tryz.underlying3
  have a3 := Tryz.isAgg3
  have z3 := Tryz.sizeOf3
  have hS : Tryz.prog.underlying 26 = some (.struct (Tryz.prog.fieldsOf 26)) := by kernel_rfl
  have hp : Tryz.prog.stoodInHeld 26 = false := by kernel_rfl
  rw [run_equalIn_agg w (d + 1) 26 _ _ hS hp]
  simp only [Program.fieldsOf, Tryz.underlying26]
  go_simp
  by_cases h1 : a = c <;> by_cases h2 : b = e <;> simp [h1, h2]
theorem eqFault (a b c x y z : Int) (w : World) : (Op.equalIn 10000 28 (.agg #[.int .i64 a, .int .i64 b, .int .i64 c]) (.agg #[.int .i64 x, .int .i64 y, .int .i64 z])).run Tryz.prog w = .ok (a == x && (b == y && c == z)) w := by
  have u3 := Tryz.underlying24
  have a3 := Tryz.isAgg24
  have z3 := Tryz.sizeOf24
  have a4 := Tryz.isAgg26
  have z4 := Tryz.sizeOf26
  have hS : Tryz.prog.underlying 28 = some (.struct (Tryz.prog.fieldsOf 28)) := by kernel_rfl
  have hp : Tryz.prog.stoodInHeld 28 = false := by kernel_rfl
  have hE := eqPosF 9997 b c y z
  rw [show (10000 : Nat) = 9999 + 1 from rfl, run_equalIn_agg w 9999 28 _ _ hS hp]
  simp only [Program.fieldsOf, Tryz.underlying28]
  go_simp
  by_cases h1 : a = x <;> by_cases h2 : b = y <;> by_cases h3 : c = z <;> simp [h1, h2, h3]
theorem guardFault (op : BinOp) (x y : Operand) (xs ys : Array Value) (w : World) : (eqGuard op 28 x y (.agg xs) (.agg ys)).run Tryz.prog w = .ok () w :=
  run_eqGuard_agg w op 28 x y xs ys (by kernel_rfl)
theorem neqFault (a b c x y z : Int) (w : World) : (binOp .neq 28 (.agg #[.int .i64 a, .int .i64 b, .int .i64 c]) (.agg #[.int .i64 x, .int .i64 y, .int .i64 z])).run Tryz.prog w = .ok (.bool (!(a == x && (b == y && c == z)))) w := by
  rw [run_neq_struct, eqFault]
  rfl
theorem eqlFault (a b c x y z : Int) (w : World) : (binOp .eql 28 (.agg #[.int .i64 a, .int .i64 b, .int .i64 c]) (.agg #[.int .i64 x, .int .i64 y, .int .i64 z])).run Tryz.prog w = .ok (.bool (a == x && (b == y && c == z))) w := by
  rw [run_eql_struct, eqFault]
  rfl
end Go.Proofs.YtpalfhfbgfnacaaGreatDoor
