/-
  Lines that change nothing but positions, on lists; no walk here.
-/
import Derived.Test.YtpalfhfbgfnacaaGreatDoorGC
import Derived.Lib.Join
namespace Go.Proofs.YtpalfhfbgfnacaaGreatDoor
open Go.RowKit
set_option linter.unusedVariables false
set_option linter.unusedSimpArgs false

/-- A card without its marks. -/
def tk (c : Kard) : Bool × List UInt8 := (c.left, c.text)
def SameR (r1 r2 : ReadAt) : Prop := r1.done.map tk = r2.done.map tk ∧ r1.cur.map tk = r2.cur.map tk
def SameO : (Nat × Nat × Nat) ⊕ List Kard → (Nat × Nat × Nat) ⊕ List Kard → Prop
  | .inl f, .inl g => f.1 = g.1
  | .inr a, .inr b => a.map tk = b.map tk
  | _, _ => False
def SameS : (Nat × Nat × Nat) ⊕ ReadAt → (Nat × Nat × Nat) ⊕ ReadAt → Prop
  | .inl f, .inl g => f.1 = g.1
  | .inr a, .inr b => SameR a b
  | _, _ => False
def SameIs : LineIs → LineIs → Prop
  | .bad e _ _, .bad e' _ _ => e = e'
  | .off, .off => True
  | .row m t, .row m' t' => m = m' ∧ t = t'
  | _, _ => False
def SameLine (d : Bool) (s1 s2 : List UInt8) : Prop := ∀ n1 n2, SameIs (lineIs s1 n1 d) (lineIs s2 n2 d)

theorem same_put {d1 d2 : List Kard} {c1 c2 : Kard} {t : List UInt8} {n1 n2 : Nat} {b : Bool} (hd : d1.map tk = d2.map tk) (hc : tk c1 = tk c2) : SameS (putRow d1 c1 t n1 b) (putRow d2 c2 t n2 b) := by
  unfold tk at hc
  injection hc with h1 h2
  unfold putRow
  rw [h2]
  cases rpart t c2.text b with
  | inr col => exact rfl
  | inl pc =>
    obtain ⟨p, col⟩ := pc
    refine ⟨hd, ?_⟩
    show some (tk (c1.plus p n1 col)) = some (tk (c2.plus p n2 col))
    unfold tk Kard.plus
    rw [h1, h2]
theorem same_row {r1 r2 : ReadAt} (h : SameR r1 r2) (m : UInt8) (t : List UInt8) (n1 n2 : Nat) : SameS (readRow r1 m t n1) (readRow r2 m t n2) := by
  obtain ⟨hd, hc⟩ := h
  unfold readRow
  cases h1 : r1.cur with
  | none =>
    rw [h1] at hc
    cases h2 : r2.cur with
    | some c => rw [h2] at hc; cases hc
    | none =>
      split
      · exact same_put hd rfl
      · exact rfl
  | some c1 =>
    rw [h1] at hc
    cases h2 : r2.cur with
    | none => rw [h2] at hc; cases hc
    | some c2 =>
      rw [h2] at hc
      have hc' : tk c1 = tk c2 := by injection hc
      have ht : c1.text = c2.text := (Prod.mk.inj hc').2
      split
      · simp only [ht]
        split
        · exact rfl
        · exact same_put (by simp [hd, hc']) rfl
      · exact same_put hd hc'
theorem same_line {d : Bool} {r1 r2 : ReadAt} {s1 s2 : List UInt8} (h : SameR r1 r2) (hs : SameLine d s1 s2) (n1 n2 : Nat) : SameS (readLine d r1 s1 n1) (readLine d r2 s2 n2) := by
  have hx := hs n1 n2
  unfold readLine
  cases h1 : lineIs s1 n1 d <;> cases h2 : lineIs s2 n2 d <;> rw [h1, h2] at hx <;> try exact hx.elim
  · exact hx
  · exact h
  · obtain ⟨rfl, rfl⟩ := hx
    exact same_row h _ _ _ _
/-- The second list says what the first says, but for lines that do not count. -/
inductive RelL (d : Bool) : List (List UInt8) → List (List UInt8) → Prop
  | nil : RelL d [] []
  | cons {a b L M} : SameLine d a b → RelL d L M → RelL d (a :: L) (b :: M)
  | skip {x L M} : (∀ n, lineIs x n d = .off) → RelL d L M → RelL d L (x :: M)
theorem same_end {r1 r2 : ReadAt} (d : Bool) (h : SameR r1 r2) (n1 n2 : Nat) : SameO (readFrom d r1 n1 []) (readFrom d r2 n2 []) := by
  obtain ⟨hd, hc⟩ := h
  have ha : r1.all.map tk = r2.all.map tk := by
    unfold ReadAt.all
    rw [List.map_append, List.map_append, hd]
    congr 1
    cases h1 : r1.cur with
    | none =>
      rw [h1] at hc
      cases h2 : r2.cur with
      | none => rfl
      | some c => rw [h2] at hc; cases hc
    | some c1 =>
      rw [h1] at hc
      cases h2 : r2.cur with
      | none => rw [h2] at hc; cases hc
      | some c2 =>
        rw [h2] at hc
        have hc' : tk c1 = tk c2 := by injection hc
        simp [hc']
  unfold readFrom
  cases h1 : r1.cur with
  | none =>
    rw [h1] at hc
    cases h2 : r2.cur with
    | some c => rw [h2] at hc; cases hc
    | none => exact ha
  | some c1 =>
    rw [h1] at hc
    cases h2 : r2.cur with
    | none => rw [h2] at hc; cases hc
    | some c2 =>
      rw [h2] at hc
      injection hc with hc
      have ht : c1.text = c2.text := (Prod.mk.inj hc).2
      simp only [ht]
      split
      · exact rfl
      · exact ha
theorem same_from {d : Bool} {L M : List (List UInt8)} (h : RelL d L M) : ∀ (r1 r2 : ReadAt) (n1 n2 : Nat), SameR r1 r2 → SameO (readFrom d r1 n1 L) (readFrom d r2 n2 M) := by
  induction h with
  | nil => exact fun r1 r2 n1 n2 hr => same_end d hr n1 n2
  | @cons a b L M hs _ ih =>
    intro r1 r2 n1 n2 hr
    have hx := same_line hr hs (n1 + 1) (n2 + 1)
    show SameO (match readLine d r1 a (n1 + 1) with | .inl f => (.inl f : (Nat × Nat × Nat) ⊕ List Kard) | .inr r' => readFrom d r' (n1 + 1) L) (match readLine d r2 b (n2 + 1) with | .inl f => (.inl f : (Nat × Nat × Nat) ⊕ List Kard) | .inr r' => readFrom d r' (n2 + 1) M)
    cases h1 : readLine d r1 a (n1 + 1) <;> cases h2 : readLine d r2 b (n2 + 1) <;> rw [h1, h2] at hx
    · exact hx
    · exact hx.elim
    · exact hx.elim
    · exact ih _ _ _ _ hx
  | @skip x L M ho _ ih =>
    intro r1 r2 n1 n2 hr
    have e : readFrom d r2 n2 (x :: M) = readFrom d r2 (n2 + 1) M := by
      show (match readLine d r2 x (n2 + 1) with | .inl f => (.inl f : (Nat × Nat × Nat) ⊕ List Kard) | .inr r' => readFrom d r' (n2 + 1) M) = _
      unfold readLine
      rw [ho]
    rw [e]
    exact ih _ _ _ _ hr

/-! ### The pieces of what has been joined -/
def no10 (l : List UInt8) : Prop := ∀ c ∈ l, c.toNat ≠ 10
theorem pieces_part : ∀ (x cur rest : List UInt8), no10 x → piecesG cur (x ++ rest) = piecesG (cur ++ x) rest
  | [], cur, rest, _ => by simp
  | c :: x, cur, rest, h => by
    rw [List.cons_append]
    show (if c.toNat = 10 then _ else piecesG (cur ++ [c]) (x ++ rest)) = _
    rw [if_neg (h c (by simp)), pieces_part x _ rest (fun y hy => h y (by simp [hy]))]
    simp
theorem pieces_joinTail : ∀ (r : List (List UInt8)) (x : List UInt8), (∀ y ∈ r, no10 y) → piecesG x (Lib.joinTail [10] r) = x :: r
  | [], x, _ => by simp [Lib.joinTail, piecesG]
  | y :: r, x, h => by
    have e : Lib.joinTail [10] (y :: r) = 10 :: (y ++ Lib.joinTail [10] r) := by simp [Lib.joinTail]
    rw [e]
    show (if (10 : UInt8).toNat = 10 then x :: piecesG [] (y ++ Lib.joinTail [10] r) else _) = _
    rw [if_pos (by rfl), pieces_part y [] _ (h y (by simp)), List.nil_append, pieces_joinTail r y (fun z hz => h z (by simp [hz]))]
theorem pieces_join (x : List UInt8) (r : List (List UInt8)) (h : ∀ y ∈ x :: r, no10 y) : piecesG [] (Lib.join (x :: r) [10]) = x :: r := by
  rw [Lib.join_cons, pieces_part x [] _ (h x (by simp)), List.nil_append]
  exact pieces_joinTail r x (fun y hy => h y (by simp [hy]))
theorem pieces_no10 : ∀ (l cur : List UInt8), no10 cur → ∀ x ∈ piecesG cur l, no10 x
  | [], cur, hc, x, hx => by simp only [piecesG, List.mem_singleton] at hx; subst hx; exact hc
  | c :: r, cur, hc, x, hx => by
    unfold piecesG at hx
    split at hx
    · rcases List.mem_cons.1 hx with rfl | hx
      · exact hc
      · exact pieces_no10 r [] (fun y hy => by simp at hy) x hx
    · rename_i h10
      exact pieces_no10 r _ (fun y hy => by
        rcases List.mem_append.1 hy with hy | hy
        · exact hc y hy
        · simp at hy; subst hy; exact h10) x hx
theorem lineIs_nil0 (n : Nat) (d : Bool) : lineIs [] n d = .off := by cases d <;> rfl
theorem readFrom_snoc (d : Bool) : ∀ (L : List (List UInt8)) (r : ReadAt) (k : Nat), readFrom d r k (L ++ [[]]) = readFrom d r k L
  | [], r, k => by
    show (match readLine d r [] (k + 1) with | .inl f => (.inl f : (Nat × Nat × Nat) ⊕ List Kard) | .inr r' => readFrom d r' (k + 1) []) = _
    unfold readLine
    rw [lineIs_nil0]
    rfl
  | s :: L, r, k => by
    show (match readLine d r s (k + 1) with | .inl f => (.inl f : (Nat × Nat × Nat) ⊕ List Kard) | .inr r' => readFrom d r' (k + 1) (L ++ [[]])) = (match readLine d r s (k + 1) with | .inl f => (.inl f : (Nat × Nat × Nat) ⊕ List Kard) | .inr r' => readFrom d r' (k + 1) L)
    split
    · rfl
    · exact readFrom_snoc d L _ _
theorem readB_pieces (d : Bool) (text : List UInt8) (h : text.length ≤ 1048576) : readB text d = readFrom d ⟨[], none, (0, 0)⟩ 0 (piecesG [] text) := by
  unfold readB
  rw [if_neg (by omega)]
  rcases pieces_lines text [] with e | e
  · rw [e]; rfl
  · rw [e, readFrom_snoc]; rfl
theorem line_bad_ne {s : List UInt8} {n : Nat} {d : Bool} {e l c : Nat} (h : lineIs s n d = .bad e l c) : e ≠ 0 := by
  have := lineIs_says s n d
  rw [h] at this
  exact this.2
theorem readFrom_ne (d : Bool) : ∀ (L : List (List UInt8)) (r : ReadAt) (k : Nat) (f : Nat × Nat × Nat), readFrom d r k L = .inl f → f.1 ≠ 0
  | [], r, k, f, h => by
    unfold readFrom at h
    split at h
    · split at h
      · injection h with h; subst h; exact fun h => by cases h
      · cases h
    · cases h
  | s :: L, r, k, f, h => by
    change (match readLine d r s (k + 1) with | .inl f => (.inl f : (Nat × Nat × Nat) ⊕ List Kard) | .inr r' => readFrom d r' (k + 1) L) = _ at h
    split at h
    · rename_i g hg
      injection h with h
      subst h
      unfold readLine at hg
      split at hg
      · rename_i hb
        injection hg with hg; subst hg; exact line_bad_ne hb
      · cases hg
      · unfold readRow putRow at hg
        repeat' split at hg
        all_goals first | (injection hg; done) | (injection hg with hg; subst hg; simp)
    · exact readFrom_ne d L _ _ f h
theorem readB_ne {text : List UInt8} {d : Bool} {f : Nat × Nat × Nat} (h : readB text d = .inl f) : f.1 ≠ 0 := by
  unfold readB at h
  split at h
  · injection h with h; subst h; exact fun h => by cases h
  · exact readFrom_ne d _ _ _ f h

/-! ### The law's change of a line -/
def plainB (l : List UInt8) : Bool := l.all prtB
def edgeL (edge s : List UInt8) : List UInt8 := (edge ++ List.replicate 6 32).take 6 ++ s.drop 6 ++ List.replicate (72 - s.length) 32 ++ edge
def canX (edge s : List UInt8) : Bool := decide (7 ≤ s.length) && decide (s.length ≤ 72) && plainB (s.take 6) && plainB edge
def lineX (edge s : List UInt8) : List UInt8 := if canX edge s = true then edgeL edge s else s
theorem sameIs_refl (a : List UInt8) (n1 n2 : Nat) (d : Bool) : SameIs (lineIs a n1 d) (lineIs a n2 d) := by
  unfold lineIs
  repeat' split
  all_goals first | exact rfl | exact trivial | exact ⟨rfl, rfl⟩
theorem edge_six (edge : List UInt8) : ((edge ++ List.replicate 6 (32 : UInt8)).take 6).length = 6 := by simp
theorem edgeL_length (edge s : List UInt8) (h1 : 7 ≤ s.length) (h2 : s.length ≤ 72) : (edgeL edge s).length = 72 + edge.length := by
  unfold edgeL
  rw [List.length_append, List.length_append, List.length_append, edge_six, List.length_drop, List.length_replicate]
  omega
theorem firstI_iff (p : UInt8 → Bool) (l : List UInt8) : 0 ≤ firstI p 0 l ↔ l.all (fun c => !p c) = false := by
  constructor
  · intro h
    cases hh : l.all (fun c => !p c)
    · rfl
    · have := firstI_none p l 0 hh; omega
  · exact fun h => firstI_some p l 0 h
theorem same_edge (edge s : List UInt8) (he : edge.length ≤ 6) (hc : canX edge s = true) : SameLine false s (edgeL edge s) := by
  unfold canX at hc
  simp only [Bool.and_eq_true, decide_eq_true_eq] at hc
  obtain ⟨⟨⟨h1, h2⟩, h3⟩, h4⟩ := hc
  have hl := edgeL_length edge s h1 h2
  have hsix := edge_six edge
  have hm : markOf (edgeL edge s) = markOf s := by
    rw [markOf_getD, markOf_getD]
    unfold edgeL
    have e1 : (((edge ++ List.replicate 6 (32 : UInt8)).take 6 ++ s.drop 6 ++ List.replicate (72 - s.length) 32 ++ edge))[6]? = s[6]? := by
      rw [List.append_assoc, List.append_assoc, List.getElem?_append_right (by omega), hsix, List.getElem?_append_left (by rw [List.length_drop]; omega), List.getElem?_drop]
    simp only [List.getD, e1]
  have ht : textOf (edgeL edge s) = textOf s := by
    have ha : areasB s = s.drop 7 := by unfold areasB; rw [List.take_of_length_le h2]
    have hal := areasB_length (edgeL edge s)
    rw [textOf_areas, textOf_areas, ha]
    have e2 : areasB (edgeL edge s) = s.drop 7 ++ List.replicate (72 - s.length) 32 := by
      have e3 : (edgeL edge s).take 72 = (edge ++ List.replicate 6 (32 : UInt8)).take 6 ++ s.drop 6 ++ List.replicate (72 - s.length) 32 := by
        unfold edgeL
        rw [List.take_append_of_le_length (by rw [List.length_append, List.length_append, hsix, List.length_drop, List.length_replicate]; omega)]
        rw [List.take_of_length_le (by rw [List.length_append, List.length_append, hsix, List.length_drop, List.length_replicate]; omega)]
      unfold areasB
      rw [e3, List.append_assoc, List.drop_append, hsix, List.drop_eq_nil_of_le (by omega), List.nil_append, show 7 - 6 = 1 from rfl, List.drop_append_of_le_length (by rw [List.length_drop]; omega), List.drop_drop]
    rw [e2, List.append_assoc]
    congr 1
    rw [List.replicate_append_replicate]
    congr 1
    rw [List.length_append, List.length_drop, List.length_replicate]
    omega
  have hp : (0 ≤ firstI (fun c => !prtB c) 0 (edgeL edge s)) ↔ (0 ≤ firstI (fun c => !prtB c) 0 s) := by
    rw [firstI_iff, firstI_iff]
    have e0 : s.all (fun c => !!prtB c) = ((s.take 6).all (fun c => !!prtB c) && (s.drop 6).all (fun c => !!prtB c)) := by rw [← List.all_append, List.take_append_drop]
    have e1 : (edgeL edge s).all (fun c => !!prtB c) = (s.drop 6).all (fun c => !!prtB c) := by
      unfold edgeL
      have a1 : ((edge ++ List.replicate 6 (32 : UInt8)).take 6).all (fun c => !!prtB c) = true := by
        rw [List.all_eq_true]
        intro c hc
        rcases List.mem_append.1 (List.mem_of_mem_take hc) with hc | hc
        · rw [Bool.not_not]; exact List.all_eq_true.1 h4 c hc
        · rw [List.eq_of_mem_replicate hc]; rfl
      have a2 : (List.replicate (72 - s.length) (32 : UInt8)).all (fun c => !!prtB c) = true := by
        rw [List.all_eq_true]
        intro c hc
        rw [List.eq_of_mem_replicate hc]; rfl
      have a3 : edge.all (fun c => !!prtB c) = true := by
        rw [List.all_eq_true]
        intro c hc
        rw [Bool.not_not]; exact List.all_eq_true.1 h4 c hc
      rw [List.all_append, List.all_append, List.all_append, a1, a2, a3]
      simp
    have a4 : (s.take 6).all (fun c => !!prtB c) = true := by
      rw [List.all_eq_true]
      intro c hc
      rw [Bool.not_not]; exact List.all_eq_true.1 h3 c hc
    rw [e0, e1, a4, Bool.true_and]
  intro n1 n2
  unfold lineIs
  rw [if_neg (show ¬ 80 < s.length by omega), if_neg (show ¬ 80 < (edgeL edge s).length by omega), hm, ht]
  by_cases hb : 0 ≤ firstI (fun c => !prtB c) 0 s
  · rw [if_pos hb, if_pos (hp.2 hb)]; exact rfl
  rw [if_neg hb, if_neg (fun h => hb (hp.1 h))]
  repeat' split
  all_goals first | exact rfl | exact trivial | exact ⟨rfl, rfl⟩
theorem same_lineX (edge s : List UInt8) (he : edge.length ≤ 6) : SameLine false s (lineX edge s) := by
  unfold lineX
  split
  · exact same_edge edge s he ‹_›
  · exact fun n1 n2 => sameIs_refl _ _ _ _
/-- The law's lines: one is put in ahead of line k. -/
def withX (edge more : List UInt8) (k : Nat) (L : List (List UInt8)) : List (List UInt8) := (L.take k).map (lineX edge) ++ more :: (L.drop k).map (lineX edge)
theorem relL_map (edge : List UInt8) (he : edge.length ≤ 6) : ∀ L, RelL false L (L.map (lineX edge))
  | [] => .nil
  | a :: L => .cons (same_lineX edge a he) (relL_map edge he L)
theorem relL_app {d : Bool} {A B C D : List (List UInt8)} (h : RelL d A B) (h2 : RelL d C D) : RelL d (A ++ C) (B ++ D) := by
  induction h with
  | nil => exact h2
  | cons a _ ih => exact .cons a ih
  | skip a _ ih => exact .skip a ih
theorem relL_with (edge more : List UInt8) (he : edge.length ≤ 6) (hm : ∀ n, lineIs more n false = .off) (k : Nat) (L : List (List UInt8)) : RelL false L (withX edge more k L) := by
  have := relL_app (relL_map edge he (L.take k)) (.skip hm (relL_map edge he (L.drop k)))
  rw [List.take_append_drop] at this
  exact this
theorem lineX_no10 (edge s : List UInt8) (h : no10 s) : no10 (lineX edge s) := by
  unfold lineX
  split
  · rename_i hc
    unfold canX at hc
    simp only [Bool.and_eq_true, decide_eq_true_eq] at hc
    have h4 := hc.2
    have hp : ∀ c, prtB c = true → c.toNat ≠ 10 := fun c hc => by unfold prtB at hc; simp at hc; omega
    unfold edgeL
    intro c hc'
    rcases List.mem_append.1 hc' with hc' | hc'
    · rcases List.mem_append.1 hc' with hc' | hc'
      · rcases List.mem_append.1 hc' with hc' | hc'
        · rcases List.mem_append.1 (List.mem_of_mem_take hc') with hc' | hc'
          · exact hp c (List.all_eq_true.1 h4 c hc')
          · rw [List.eq_of_mem_replicate hc']; decide
        · exact h c (List.mem_of_mem_drop hc')
      · rw [List.eq_of_mem_replicate hc']; decide
    · exact hp c (List.all_eq_true.1 h4 c hc')
  · exact h
theorem lineX_le (edge s : List UInt8) (he : edge.length ≤ 6) : (lineX edge s).length ≤ s.length + 78 := by
  unfold lineX
  split
  · rename_i hc
    unfold canX at hc
    simp only [Bool.and_eq_true, decide_eq_true_eq] at hc
    rw [edgeL_length edge s hc.1.1.1 hc.1.1.2]
    omega
  · omega
/-- The sum of the lengths. -/
def sumN : List (List UInt8) → Nat
  | [] => 0
  | x :: r => x.length + 1 + sumN r
theorem sumN_append : ∀ a b, sumN (a ++ b) = sumN a + sumN b
  | [], b => by simp [sumN]
  | x :: a, b => by simp [sumN, sumN_append a b]; omega
theorem sumN_map (edge : List UInt8) (he : edge.length ≤ 6) : ∀ L, sumN (L.map (lineX edge)) ≤ sumN L + 78 * L.length
  | [] => by simp [sumN]
  | x :: L => by
    have h1 := sumN_map edge he L
    have h2 := lineX_le edge x he
    simp only [List.map_cons, sumN, List.length_cons]
    omega
theorem sumN_pieces : ∀ (l cur : List UInt8), sumN (piecesG cur l) = cur.length + l.length + 1
  | [], cur => by simp [piecesG, sumN]
  | c :: r, cur => by
    unfold piecesG
    split
    · simp only [sumN, List.length_cons]
      rw [sumN_pieces r []]
      simp; omega
    · rw [sumN_pieces r _]
      simp; omega
theorem pieces_count : ∀ (l cur : List UInt8), (piecesG cur l).length ≤ l.length + 1
  | [], cur => by simp [piecesG]
  | c :: r, cur => by
    unfold piecesG
    split
    · have := pieces_count r []; simp; omega
    · have := pieces_count r (cur ++ [c]); simp; omega
theorem join_sum (x : List UInt8) : ∀ r, (Lib.join (x :: r) [10]).length + 1 = sumN (x :: r) := by
  intro r
  rw [Lib.join_cons, List.length_append]
  simp only [sumN]
  have : ∀ r : List (List UInt8), (Lib.joinTail [10] r).length = sumN r := by
    intro r
    induction r with
    | nil => simp [Lib.joinTail, sumN]
    | cons y r ih =>
      have e : Lib.joinTail [10] (y :: r) = 10 :: (y ++ Lib.joinTail [10] r) := by simp [Lib.joinTail]
      rw [e]; simp [sumN, ih]; omega
  rw [this]; omega
theorem withX_cons (edge more : List UInt8) (k : Nat) (L : List (List UInt8)) : ∃ x r, withX edge more k L = x :: r := by
  unfold withX
  cases (L.take k).map (lineX edge) with
  | nil => exact ⟨_, _, rfl⟩
  | cons y r => exact ⟨_, _, rfl⟩
theorem withX_sum (edge more : List UInt8) (he : edge.length ≤ 6) (k : Nat) (L : List (List UInt8)) : sumN (withX edge more k L) ≤ sumN L + 78 * L.length + more.length + 1 := by
  have h1 := sumN_map edge he (L.take k)
  have h2 := sumN_map edge he (L.drop k)
  have h3 : sumN L = sumN (L.take k) + sumN (L.drop k) := by rw [← sumN_append, List.take_append_drop]
  have h4 : L.length = (L.take k).length + (L.drop k).length := by rw [← List.length_append, List.take_append_drop]
  unfold withX
  rw [sumN_append]
  simp only [sumN]
  omega
theorem ign_same (text edge more : List UInt8) (k : Nat) (ht : text.length ≤ 2000) (he : edge.length ≤ 6) (hm : ∀ n, lineIs more n false = .off) (hm10 : no10 more) (hml : more.length ≤ 80) :
    SameO (readB text false) (readB (Lib.join (withX edge more k (piecesG [] text)) [10]) false) := by
  obtain ⟨x, r, hx⟩ := withX_cons edge more k (piecesG [] text)
  have hs := withX_sum edge more he k (piecesG [] text)
  have h1 := sumN_pieces text []
  have h2 := pieces_count text []
  have hj := join_sum x r
  rw [← hx] at hj
  have h10 : ∀ y ∈ withX edge more k (piecesG [] text), no10 y := by
    have hp := pieces_no10 text [] (fun y hy => by simp at hy)
    intro y hy
    unfold withX at hy
    rcases List.mem_append.1 hy with hy | hy
    · obtain ⟨z, hz, rfl⟩ := List.mem_map.1 hy
      exact lineX_no10 edge z (hp z (List.mem_of_mem_take hz))
    · rcases List.mem_cons.1 hy with rfl | hy
      · exact hm10
      · obtain ⟨z, hz, rfl⟩ := List.mem_map.1 hy
        exact lineX_no10 edge z (hp z (List.mem_of_mem_drop hz))
  rw [readB_pieces false text (by omega), readB_pieces false _ (by simp at h1; omega)]
  rw [hx] at h10 ⊢
  rw [pieces_join x r h10, ← hx]
  exact same_from (relL_with edge more he hm k _) _ _ _ _ ⟨rfl, rfl⟩
/-- The ignored lines of the law. -/
def moreL (j : Nat) : List UInt8 :=
  match j with
  | 0 => []
  | 1 => List.replicate 6 32 ++ [42, 34]
  | 2 => List.replicate 6 32 ++ [47, 97, 110, 121, 116, 104, 105, 110, 103]
  | 3 => List.replicate 6 32 ++ [68, 32, 32, 32, 32, 88]
  | 4 => List.replicate 6 32 ++ [100, 88]
  | 5 => List.replicate 80 32
  | 6 => [49, 50, 51, 52, 53, 54]
  | _ => List.replicate 6 32 ++ [45]
theorem moreL_ok (j : Nat) (hj : j < 8) : (∀ n, lineIs (moreL j) n false = .off) ∧ no10 (moreL j) ∧ (moreL j).length ≤ 80 := by
  match j, hj with
  | 0, _ => exact ⟨fun n => by rfl, by unfold no10; decide, by decide⟩
  | 1, _ => exact ⟨fun n => by rfl, by unfold no10; decide, by decide⟩
  | 2, _ => exact ⟨fun n => by rfl, by unfold no10; decide, by decide⟩
  | 3, _ => exact ⟨fun n => by rfl, by unfold no10; decide, by decide⟩
  | 4, _ => exact ⟨fun n => by rfl, by unfold no10; decide, by decide⟩
  | 5, _ => exact ⟨fun n => by rfl, by unfold no10; decide, by decide⟩
  | 6, _ => exact ⟨fun n => by rfl, by unfold no10; decide, by decide⟩
  | 7, _ => exact ⟨fun n => by rfl, by unfold no10; decide, by decide⟩
end Go.Proofs.YtpalfhfbgfnacaaGreatDoor
