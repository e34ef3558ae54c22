/-
  What package columns' Read does, as words on lists: the pieces between bytes 10, the reading of them, its bounds. No walk here.
-/
import Derived.Test.YtpalfhfbgfnacaaGreatDoorRun
import Derived.Test.YtpalfhfbgfnacaaGreatDoorGC
namespace Go.Proofs.YtpalfhfbgfnacaaGreatDoor
open Go.RowKit
set_option linter.unusedVariables false
set_option linter.unusedSimpArgs false

/-! ### Reading -/
def readLineU (u : Bool) (debug : Bool) (r : ReadAt) (s : List UInt8) (line : Nat) : (Nat × Nat × Nat) ⊕ ReadAt :=
  match lineIs s line debug with
  | .bad e l c => .inl (e, l, c)
  | .off => .inr r
  | .row m t => readRowU u r m t line
/-- What is returned after the last line. -/
def endOf (r : ReadAt) : (Nat × Nat × Nat) ⊕ List Kard :=
  match r.cur with
  | some c => if openB c.text = true then .inl (4, r.at_) else .inr r.all
  | none => .inr r.all
def readFromU (u : Bool) (debug : Bool) (r : ReadAt) (line : Nat) : List (List UInt8) → (Nat × Nat × Nat) ⊕ List Kard
  | [] => endOf r
  | s :: L => match readLineU u debug r s (line + 1) with
    | .inl f => .inl f
    | .inr r' => readFromU u debug r' (line + 1) L
def readBU (u : Bool) (text : List UInt8) (debug : Bool) : (Nat × Nat × Nat) ⊕ List Kard :=
  if 1048576 < text.length then .inl (3, 0, 0) else readFromU u debug ⟨[], none, (0, 0)⟩ 0 (linesB text)
theorem putRowU_true (a : Nat × Nat) (done : List Kard) (c : Kard) (t : List UInt8) (line : Nat) (b : Bool) : putRowU true a done c t line b = putRow done c t line b := by
  unfold putRowU putRow
  cases rpart t c.text b with
  | inr col => rfl
  | inl pc =>
    obtain ⟨p, col⟩ := pc
    simp
theorem readRowU_true (r : ReadAt) (m : UInt8) (t : List UInt8) (line : Nat) : readRowU true r m t line = readRow r m t line := by
  unfold readRowU readRow
  cases r.cur with
  | none => simp only [putRowU_true]
  | some c => simp only [putRowU_true]
theorem readLineU_true (debug : Bool) (r : ReadAt) (s : List UInt8) (line : Nat) : readLineU true debug r s line = readLine debug r s line := by
  unfold readLineU readLine
  cases lineIs s line debug with
  | bad e l c => rfl
  | off => rfl
  | row m t => exact readRowU_true _ _ _ _
theorem readFromU_true (debug : Bool) : ∀ (L : List (List UInt8)) (r : ReadAt) (k : Nat), readFromU true debug r k L = readFrom debug r k L
  | [], r, k => rfl
  | s :: L, r, k => by
    show (match readLineU true debug r s (k + 1) with | .inl f => (.inl f : (Nat × Nat × Nat) ⊕ List Kard) | .inr r' => readFromU true debug r' (k + 1) L) = (match readLine debug r s (k + 1) with | .inl f => .inl f | .inr r' => readFrom debug r' (k + 1) L)
    rw [readLineU_true]
    cases readLine debug r s (k + 1) with
    | inl f => rfl
    | inr r' => exact readFromU_true debug L _ _
/-- The program's reader says what the reference says. -/
theorem readBU_true (text : List UInt8) (debug : Bool) : readBU true text debug = readB text debug := by
  unfold readBU readB
  rw [readFromU_true]
theorem readFromU_step (u debug : Bool) (r : ReadAt) (L : List (List UInt8)) (k : Nat) (s : List UInt8) (h : L[k]? = some s) :
    readFromU u debug r k (L.drop k) = match readLineU u debug r s (k + 1) with | .inl f => .inl f | .inr r' => readFromU u debug r' (k + 1) (L.drop (k + 1)) := by
  have hk : k < L.length := by
    rcases Nat.lt_or_ge k L.length with hk | hk
    · exact hk
    · rw [List.getElem?_eq_none hk] at h; cases h
  rw [List.drop_eq_getElem_cons hk]
  rw [List.getElem?_eq_getElem hk] at h
  injection h with h
  rw [h]
  rfl
theorem lineIs_nil (n : Nat) (debug : Bool) : lineIs [] n debug = .off := by
  cases debug <;> rfl
theorem readFromU_snoc (u debug : Bool) : ∀ (L : List (List UInt8)) (r : ReadAt) (k : Nat), readFromU u debug r k (L ++ [[]]) = readFromU u debug r k L
  | [], r, k => by
    show (match readLineU u debug r [] (k + 1) with | .inl f => (.inl f : (Nat × Nat × Nat) ⊕ List Kard) | .inr r' => readFromU u debug r' (k + 1) []) = _
    unfold readLineU
    rw [lineIs_nil]
    rfl
  | s :: L, r, k => by
    show (match readLineU u debug r s (k + 1) with | .inl f => (.inl f : (Nat × Nat × Nat) ⊕ List Kard) | .inr r' => readFromU u debug r' (k + 1) (L ++ [[]])) = (match readLineU u debug r s (k + 1) with | .inl f => (.inl f : (Nat × Nat × Nat) ⊕ List Kard) | .inr r' => readFromU u debug r' (k + 1) L)
    split
    · rfl
    · exact readFromU_snoc u debug L _ _
theorem readBU_pieces (u debug : Bool) (text : List UInt8) (h : text.length ≤ 1048576) : readBU u text debug = readFromU u debug ⟨[], none, (0, 0)⟩ 0 (piecesG [] text) := by
  unfold readBU
  rw [if_neg (by omega)]
  rcases pieces_lines text [] with e | e
  · rw [e]; rfl
  · rw [e, readFromU_snoc]; rfl

/-! ### Bounds -/
structure Bnd (r : ReadAt) (k : Nat) : Prop where
  all : r.all.length ≤ k
  each : ∀ c ∈ r.all, c.text.length ≤ 65 * k ∧ c.marks.length ≤ k
theorem Bnd.small {r : ReadAt} {k : Nat} (h : Bnd r k) (hk : k ≤ 1048577) : Small r := by
  have h1 := h.all
  unfold ReadAt.all at h1
  rw [List.length_append] at h1
  refine ⟨by omega, fun c hc => ?_, fun c hc => ?_⟩
  all_goals
    have := h.each c (by unfold ReadAt.all; rw [hc]; simp)
    omega
theorem Bnd.more {r : ReadAt} {k k' : Nat} (h : Bnd r k) (hk : k ≤ k') : Bnd r k' :=
  ⟨Nat.le_trans h.all hk, fun c hc => by have := h.each c hc; omega⟩
theorem put_bnd {u : Bool} {a : Nat × Nat} {done : List Kard} {c : Kard} {t : List UInt8} {n : Nat} {b : Bool} {r' : ReadAt} {k : Nat} (ht : t.length = 65) (hl : done.length ≤ k) (hd : ∀ x ∈ done, x.text.length ≤ 65 * k ∧ x.marks.length ≤ k) (hc : c.text.length ≤ 65 * k ∧ c.marks.length ≤ k)
    (h : putRowU u a done c t n b = .inr r') : Bnd r' (k + 1) := by
  unfold putRowU at h
  split at h
  · cases h
  · rename_i p col hp
    have hle := rpart_le _ _ _ _ _ hp
    injection h with h
    subst h
    refine ⟨?_, fun x hx => ?_⟩
    · unfold ReadAt.all; simp; omega
    · unfold ReadAt.all at hx
      simp at hx
      rcases hx with hx | rfl
      · have := hd x hx; omega
      · constructor
        · show (c.text ++ p).length ≤ _
          rw [List.length_append]; omega
        · unfold Kard.plus
          simp only
          split
          · omega
          · rw [List.length_append, List.length_singleton]; omega
theorem row_bnd {u debug : Bool} {r r' : ReadAt} {s : List UInt8} {n k : Nat} (h : Bnd r k) (he : readLineU u debug r s n = .inr r') : Bnd r' (k + 1) := by
  unfold readLineU at he
  have hs := lineIs_says s n debug
  split at he
  · cases he
  · injection he with he; subst he; exact h.more (by omega)
  · rename_i m t hm
    rw [hm] at hs
    obtain ⟨_, ht, _, _⟩ := hs
    have h1 := h.all
    have h2 := h.each
    unfold ReadAt.all at h1 h2
    rw [List.length_append] at h1
    unfold readRowU at he
    split at he
    · split at he
      · rename_i hc
        exact put_bnd ht (by omega) (fun x hx => h2 x (by simp [hx])) ⟨by simp, by simp⟩ he
      · rename_i c hc
        rw [hc] at h1 h2
        simp at h1
        split at he
        · cases he
        · refine put_bnd ht (by simp; omega) (fun x hx => h2 x (by simpa using hx)) ⟨by simp, by simp⟩ he
    · split at he
      · cases he
      · rename_i c hc
        rw [hc] at h1 h2
        simp at h1
        exact put_bnd ht (by omega) (fun x hx => h2 x (by simp [hx])) (h2 c (by simp)) he
theorem from_bnd (u debug : Bool) : ∀ (L : List (List UInt8)) (r : ReadAt) (k : Nat) (ks : List Kard), Bnd r k → readFromU u debug r k L = .inr ks → ks.length ≤ k + L.length ∧ ∀ c ∈ ks, c.text.length ≤ 65 * (k + L.length) ∧ c.marks.length ≤ k + L.length
  | [], r, k, ks, hb, h => by
    have : ks = r.all := by
      change endOf r = _ at h
      unfold endOf at h
      split at h
      · split at h
        · cases h
        · injection h with h; exact h.symm
      · injection h with h; exact h.symm
    subst this
    exact ⟨hb.all, hb.each⟩
  | s :: L, r, k, ks, hb, h => by
    change (match readLineU u debug r s (k + 1) with | .inl f => (.inl f : (Nat × Nat × Nat) ⊕ List Kard) | .inr r' => readFromU u debug r' (k + 1) L) = .inr ks at h
    split at h
    · cases h
    · rename_i r' he
      have := from_bnd u debug L r' (k + 1) ks (row_bnd hb he) h
      rw [List.length_cons]
      rw [show k + (L.length + 1) = k + 1 + L.length from by omega]
      exact this
theorem lines_le : ∀ (l cur : List UInt8), (linesG cur l).length ≤ l.length + (if cur = [] then 0 else 1)
  | [], cur => by unfold linesG; split <;> simp
  | c :: r, cur => by
    unfold linesG
    split
    · have := lines_le r []
      simp only [List.length_cons, if_true] at this ⊢
      omega
    · have := lines_le r (cur ++ [c])
      rw [if_neg (by simp)] at this
      simp only [List.length_cons]
      omega
theorem readBU_bnd (u debug : Bool) (text : List UInt8) (ks : List Kard) (h : readBU u text debug = .inr ks) : ks.length ≤ text.length ∧ text.length ≤ 1048576 ∧ ∀ c ∈ ks, c.text.length ≤ 65 * text.length ∧ c.marks.length ≤ text.length := by
  unfold readBU at h
  split at h
  · cases h
  · have h1 := lines_le text []
    rw [if_pos rfl] at h1
    have h2 := from_bnd u debug (linesB text) _ 0 ks ⟨by simp [ReadAt.all], fun c hc => by simp [ReadAt.all] at hc⟩ h
    have h3 : (linesB text).length ≤ text.length := h1
    refine ⟨by omega, by omega, fun c hc => ?_⟩
    have := h2.2 c hc
    omega

/-! ### A line -/
theorem ib_cons (b c : UInt8) (l : List UInt8) : Lib.indexByte (b :: l) c < 0 ↔ b.toNat ≠ c.toNat ∧ Lib.indexByte l c < 0 := by
  have hg := Lib.indexByte_ge l c
  rw [show Lib.indexByte (b :: l) c = if b == c then 0 else if Lib.indexByte l c == -1 then -1 else Lib.indexByte l c + 1 from rfl]
  rw [ne_eq, UInt8.toNat_inj]
  by_cases h : b = c
  · simp [h]
  · have : (b == c) = false := by simpa using h
    rw [this]
    simp only [Bool.false_eq_true, if_false]
    split
    · rename_i e; have := beq_iff_eq.1 e; simp [h]; omega
    · rename_i e
      have : ¬ Lib.indexByte l c = -1 := fun e' => e (beq_iff_eq.2 e')
      simp [h]; omega
theorem ib_mark (m : UInt8) : Lib.indexByte [32, 45, 42, 47, 68, 100] m < 0 ↔ ¬ (m.toNat = 32 ∨ m.toNat = 45 ∨ m.toNat = 42 ∨ m.toNat = 47 ∨ m.toNat = 68 ∨ m.toNat = 100) := by
  have h0 : Lib.indexByte [] m < 0 := by simp [Lib.indexByte]
  rw [ib_cons, ib_cons, ib_cons, ib_cons, ib_cons, ib_cons]
  simp only [h0, and_true]
  have e1 : (32 : UInt8).toNat = 32 := rfl
  have e2 : (45 : UInt8).toNat = 45 := rfl
  have e3 : (42 : UInt8).toNat = 42 := rfl
  have e4 : (47 : UInt8).toNat = 47 := rfl
  have e5 : (68 : UInt8).toNat = 68 := rfl
  have e6 : (100 : UInt8).toNat = 100 := rfl
  rw [e1, e2, e3, e4, e5, e6]
  omega
/-- The line has a fault of its own. -/
theorem line_bad {s : List UInt8} {n e c : Nat} (debug : Bool) (h : checkF s = some (e, c)) : lineIs s n debug = .bad e n c ∧ e ≠ 0 := by
  unfold checkF at h
  unfold lineIs
  split at h
  · rename_i h1
    rw [if_pos h1]
    injection h with h; injection h with h1 h2; subst h1; subst h2
    exact ⟨rfl, by decide⟩
  rename_i h1
  rw [if_neg h1]
  split at h
  · rename_i h2
    rw [if_pos h2]
    injection h with h; injection h with h1 h2; subst h1; subst h2
    exact ⟨rfl, by decide⟩
  rename_i h2
  rw [if_neg h2]
  split at h
  · rename_i h3
    rw [ib_mark, ← markOf_getD] at h3
    rw [if_neg (by omega), if_neg (by omega), if_pos (by omega)]
    injection h with h; injection h with h1 h2; subst h1; subst h2
    exact ⟨rfl, by decide⟩
  · cases h
/-- It has none: its indicator, and whether something stands in areas A and B, say what it is. -/
theorem line_good {s : List UInt8} (h : checkF s = none) : s.length ≤ 80 ∧
    ((s.getD 6 32).toNat = 32 ∨ (s.getD 6 32).toNat = 45 ∨ (s.getD 6 32).toNat = 42 ∨ (s.getD 6 32).toNat = 47 ∨ (s.getD 6 32).toNat = 68 ∨ (s.getD 6 32).toNat = 100) ∧
    ∀ n debug, lineIs s n debug = if (s.getD 6 32).toNat = 42 ∨ (s.getD 6 32).toNat = 47 then .off else if (s.getD 6 32).toNat = 68 ∨ (s.getD 6 32).toNat = 100 then (if debug = true ∧ fstN (areasB s) < (areasB s).length then .row 32 (textOf s) else .off) else if fstN (areasB s) < (areasB s).length then .row (s.getD 6 32) (textOf s) else .off := by
  unfold checkF at h
  split at h
  · cases h
  rename_i h1
  split at h
  · cases h
  rename_i h2
  split at h
  · cases h
  rename_i h3
  rw [ib_mark, Classical.not_not] at h3
  refine ⟨by omega, h3, fun n debug => ?_⟩
  have hft : fstN (textOf s) < 65 ↔ fstN (areasB s) < (areasB s).length := by
    have h4 := fst_textOf s
    have h5 := fstN_le (areasB s)
    constructor
    · intro h
      rcases Nat.lt_or_ge (fstN (areasB s)) (areasB s).length with h' | h'
      · exact h'
      · exact absurd h (h4.2 (by omega))
    · intro h; exact (h4.1 h).2
  unfold lineIs
  rw [if_neg h1, if_neg h2, markOf_getD]
  simp only [hft]
  split
  · rfl
  · split
    · rfl
    · rw [if_neg (by omega)]
end Go.Proofs.YtpalfhfbgfnacaaGreatDoor
