/-
  The reader of package columns in memory: its block R, the counter's block O, the rows of cards, of text and of marks; what each step leaves of it. No walk here.
-/
import Derived.Test.YtbckdieajfbepaaDoorCol2
import Derived.Test.YtbckdieajfbepaaDoorMem
namespace Go.Proofs.YtbckdieajfbepaaDoor
open Go.RowKit
set_option linter.unusedVariables false
set_option linter.unusedSimpArgs false

def marksC (ms : List (Nat × Nat × Nat)) : List Value := ms.flatMap fun m => [.int .i64 m.1, .int .i64 m.2.1, .int .i64 m.2.2]
def cardsC (L : List (Kard × Value)) : List Value := L.flatMap fun c => [.bool c.1.left, .string (strL c.1.text), c.2]
def u8C (l : List UInt8) : List Value := l.map fun c => .int .u8 c.toNat
theorem marksC_length (ms : List (Nat × Nat × Nat)) : (marksC ms).length = ms.length * 3 := by
  induction ms with
  | nil => rfl
  | cons m l ih => simp only [marksC, List.flatMap_cons, List.length_append, List.length_cons, List.length_nil] at ih ⊢; rw [ih]; omega
theorem cardsC_length (L : List (Kard × Value)) : (cardsC L).length = L.length * 3 := by
  induction L with
  | nil => rfl
  | cons m l ih => simp only [cardsC, List.flatMap_cons, List.length_append, List.length_cons, List.length_nil] at ih ⊢; rw [ih]; omega
theorem cardsC_snoc (L : List (Kard × Value)) (c : Kard) (m : Value) : cardsC (L ++ [(c, m)]) = cardsC L ++ [.bool c.left, .string (strL c.text), m] := by
  simp [cardsC]
theorem marksC_snoc (L : List (Nat × Nat × Nat)) (m : Nat × Nat × Nat) : marksC (L ++ [m]) = marksC L ++ [.int .i64 m.1, .int .i64 m.2.1, .int .i64 m.2.2] := by
  simp [marksC]
theorem u8C_append (a b : List UInt8) : u8C (a ++ b) = u8C a ++ u8C b := by simp [u8C]

/-- The marks of a card that is finished: a slice without room behind it, in a block of its own from B on and below W. -/
def MarksFin (w : World) (B W : Nat) (m : Value) (ms : List (Nat × Nat × Nat)) : Prop :=
  (m = .slice none 0 0 ∧ ms = []) ∨ ∃ (g : Nat) (cs : Array Value), m = .slice (some ⟨g, 0, none⟩) ms.length ms.length ∧ B ≤ g ∧ g < W ∧ w.heap[g]? = some (.cells cs 58 (0, 0)) ∧ cs.toList.take (ms.length * 3) = marksC ms
theorem MarksFin.turns {e : TypeId} {w w' : World} {B W : Nat} {m : Value} {ms : List (Nat × Nat × Nat)} (h : MarksFin w B W m ms) (ht : Turns e w w') (hne : 58 ≠ e) : MarksFin w' B W m ms := by
  rcases h with h | ⟨g, cs, h1, h2, h3, h4, h5⟩
  · exact .inl h
  · exact .inr ⟨g, cs, h1, h2, h3, ht.block g cs _ _ h4 hne, h5⟩
theorem MarksFin.below {w w' : World} {B W : Nat} {m : Value} {ms : List (Nat × Nat × Nat)} (h : MarksFin w B W m ms) (hb : Below W w w') : MarksFin w' B W m ms := by
  rcases h with h | ⟨g, cs, h1, h2, h3, h4, h5⟩
  · exact .inl h
  · exact .inr ⟨g, cs, h1, h2, h3, (hb.block g h3).trans h4, h5⟩
theorem MarksFin.more {w : World} {B W W' : Nat} {m : Value} {ms : List (Nat × Nat × Nat)} (h : MarksFin w B W m ms) (hW : W ≤ W') : MarksFin w B W' m ms := by
  rcases h with h | ⟨g, cs, h1, h2, h3, h4, h5⟩
  · exact .inl h
  · exact .inr ⟨g, cs, h1, h2, Nat.lt_of_lt_of_le h3 hW, h4, h5⟩

/-- Blocks of rows, of faults and of strings are as they were. -/
structure Fr (w w' : World) : Prop where
  size : w.heap.size ≤ w'.heap.size
  block : ∀ (k : Nat) (cs : Array Value) (t : TypeId) (fr : Nat × Nat), w.heap[k]? = some (.cells cs t fr) → (t = 76 ∨ t = 28 ∨ t = 9) → w'.heap[k]? = some (.cells cs t fr)
theorem Fr.refl (w : World) : Fr w w := ⟨Nat.le_refl _, fun _ _ _ _ h _ => h⟩
theorem Fr.trans {a b c : World} (h : Fr a b) (k : Fr b c) : Fr a c := ⟨Nat.le_trans h.size k.size, fun i cs t fr hi ht => k.block i cs t fr (h.block i cs t fr hi ht) ht⟩
theorem Fr.of_turns {e : TypeId} {w w' : World} (h : Turns e w w') (h1 : 76 ≠ e) (h2 : 28 ≠ e) (h3 : 9 ≠ e) : Fr w w' :=
  ⟨h.size, fun k cs t fr hk ht => h.block k cs t fr hk (by rcases ht with rfl | rfl | rfl <;> assumption)⟩
theorem Fr.of_below {w w' : World} (h : Below w.heap.size w w') : Fr w w' := Fr.of_turns (e := 0) (Turns.of_below h) (by decide) (by decide) (by decide)
theorem Fr.newCell {w w' : World} (h : Fr w w') {N : Nat} (hN : w.heap.size ≤ N) (i : Nat) (u : Value) : Fr w (w'.setCell ⟨N, i, none⟩ u) :=
  ⟨by simpa using h.size, fun k cs t fr hk ht => (Below.heap_setCell w' ⟨N, i, none⟩ u k (by have := lt_of_block hk; show k ≠ N; omega)).trans (h.block k cs t fr hk ht)⟩
/-- A reader with a card c under way. cv, tc: what the reader's cells hold; tv: what owns the text; mc: what the card's cell holds; mv: what owns the marks; xc: the text in the card's cell. -/
structure RdC (B R O Wm : Nat) (ap : Nat × Nat) (cv tc tv mc mv : Value) (xc : List UInt8) (D : List (Kard × Value)) (c : Kard) (b1 b2 : Bool) (w : World) : Prop where
  rd : w.heap[R]? = some (.cells #[cv, tc, .bool b1, .int .i64 ap.1, .int .i64 ap.2, opener O] 74 (0, 0))
  op : w.heap[O]? = some (.cells #[.bool b2] 4 (0, 0))
  cards : w.ownsRow B 34 3 cv (D.length + 1) (cardsC D ++ [.bool c.left, .string (strL xc), mc])
  text : w.ownsRow B 5 1 tv c.text.length (u8C c.text)
  marks : w.ownsRow Wm 58 3 mv c.marks.length (marksC c.marks)
  fin : ∀ x ∈ D, MarksFin w B Wm x.2 x.1.marks
  bw : B ≤ Wm
  ws : Wm ≤ w.heap.size
  br : B ≤ R
  bo : B ≤ O
/-- A reader between two cards, or at the beginning. -/
structure RdN (B R O : Nat) (ap : Nat × Nat) (cv tv : Value) (D : List (Kard × Value)) (w : World) : Prop where
  rd : w.heap[R]? = some (.cells #[cv, tv, .bool false, .int .i64 ap.1, .int .i64 ap.2, opener O] 74 (0, 0))
  op : w.heap[O]? = some (.cells #[.bool false] 4 (0, 0))
  cards : w.ownsRow B 34 3 cv D.length (cardsC D)
  text : w.ownsRow B 5 1 tv 0 []
  fin : ∀ x ∈ D, MarksFin w B w.heap.size x.2 x.1.marks
  bs : B ≤ w.heap.size
  br : B ≤ R
  bo : B ≤ O

section
variable {B R O Wm : Nat} {ap : Nat × Nat} {cv tc tv mc mv : Value} {xc : List UInt8} {D : List (Kard × Value)} {c : Kard} {b1 b2 : Bool} {w w' : World}
theorem RdC.kept (h : RdC B R O Wm ap cv tc tv mc mv xc D c b1 b2 w) (hs : w.heap.size ≤ w'.heap.size) (hk : ∀ k, k < w.heap.size → w'.heap[k]? = w.heap[k]?) : RdC B R O Wm ap cv tc tv mc mv xc D c b1 b2 w' :=
  ⟨(hk _ (lt_of_block h.rd)).trans h.rd, (hk _ (lt_of_block h.op)).trans h.op, own_kept h.cards hk, own_kept h.text hk, own_kept h.marks hk,
    fun x hx => (h.fin x hx).turns (Turns.of_kept (e := 0) hs hk) (by decide), h.bw, Nat.le_trans h.ws hs, h.br, h.bo⟩
theorem RdC.below (h : RdC B R O Wm ap cv tc tv mc mv xc D c b1 b2 w) (hb : Below w.heap.size w w') : RdC B R O Wm ap cv tc tv mc mv xc D c b1 b2 w' := h.kept hb.size hb.block
theorem RdC.drew (h : RdC B R O Wm ap cv tc tv mc mv xc D c b1 b2 w) : RdC B R O Wm ap cv tc tv mc mv xc D c b1 b2 w.drew := h.kept (Nat.le_refl _) fun _ _ => rfl
theorem RdC.drewN (h : RdC B R O Wm ap cv tc tv mc mv xc D c b1 b2 w) (n : Nat) : RdC B R O Wm ap cv tc tv mc mv xc D c b1 b2 (w.drewN n) := h.kept (Nat.le_refl _) fun _ _ => rfl
theorem RdC.alloc (h : RdC B R O Wm ap cv tc tv mc mv xc D c b1 b2 w) (o : Obj) : RdC B R O Wm ap cv tc tv mc mv xc D c b1 b2 (w.alloc o) := h.kept (by simp) (kept_alloc w o)
theorem RdC.bs (h : RdC B R O Wm ap cv tc tv mc mv xc D c b1 b2 w) : B ≤ w.heap.size := Nat.le_trans h.bw h.ws
theorem OneTurn.turns {t : TypeId} {v : Value} {cs : Array Value} {fr : Nat × Nat} (ht : OneTurn O t v w w') (ho : w.heap[O]? = some (.cells cs t fr)) : Turns t w w' :=
  ⟨Nat.le_of_eq ht.size.symm, fun k cs' t' fr' hk hn => (ht.block k (fun e => by subst e; rw [ho] at hk; injection hk with hk; injection hk with h1 h2; exact hn h2.symm)).trans hk⟩
/-- The counter has turned. -/
theorem RdC.turnO (h : RdC B R O Wm ap cv tc tv mc mv xc D c b1 b2 w) {b : Bool} (ht : OneTurn O 4 (.bool b) w w') : RdC B R O Wm ap cv tc tv mc mv xc D c b1 b w' := by
  have hT : Turns 4 w w' := ht.turns h.op
  exact ⟨hT.block _ _ _ _ h.rd (by decide), ht.here, own_turns h.cards hT (by decide), own_turns h.text hT (by decide), own_turns h.marks hT (by decide),
    fun x hx => (h.fin x hx).turns hT (by decide), h.bw, by rw [ht.size]; exact h.ws, h.br, h.bo⟩
/-- A store into the reader's cell 'open'. -/
theorem RdC.setOpen (h : RdC B R O Wm ap cv tc tv mc mv xc D c b1 b2 w) (b : Bool) : RdC B R O Wm ap cv tc tv mc mv xc D c b b2 (w.setCell ⟨R, 2, none⟩ (.bool b)) := by
  have hT := Turns.setCell h.rd 2 (.bool b)
  exact ⟨Joins.block_setCell h.rd _, hT.block _ _ _ _ h.op (by decide), own_turns h.cards hT (by decide), own_turns h.text hT (by decide), own_turns h.marks hT (by decide),
    fun x hx => (h.fin x hx).turns hT (by decide), h.bw, by simpa using h.ws, h.br, h.bo⟩
/-- A store into the reader's cell 'text'. -/
theorem RdC.setText (h : RdC B R O Wm ap cv tc tv mc mv xc D c b1 b2 w) (u : Value) : RdC B R O Wm ap cv u tv mc mv xc D c b1 b2 (w.setCell ⟨R, 1, none⟩ u) := by
  have hT := Turns.setCell h.rd 1 u
  exact ⟨Joins.block_setCell h.rd _, hT.block _ _ _ _ h.op (by decide), own_turns h.cards hT (by decide), own_turns h.text hT (by decide), own_turns h.marks hT (by decide),
    fun x hx => (h.fin x hx).turns hT (by decide), h.bw, by simpa using h.ws, h.br, h.bo⟩
/-- The text row has grown. -/
theorem RdC.grownText (h : RdC B R O Wm ap cv tc tv mc mv xc D c b1 b2 w) {tv' : Value} {l : List UInt8} (ho : w'.ownsRow B 5 1 tv' (c.text ++ l).length (u8C (c.text ++ l))) (hg : w.grownBy w' tv.ownBlock) :
    RdC B R O Wm ap cv tc tv' mc mv xc D { c with text := c.text ++ l } b1 b2 w' := by
  have hT := Turns.grown hg (own_kind h.text)
  exact ⟨hT.block _ _ _ _ h.rd (by decide), hT.block _ _ _ _ h.op (by decide), own_turns h.cards hT (by decide), ho, own_turns h.marks hT (by decide),
    fun x hx => (h.fin x hx).turns hT (by decide), h.bw, Nat.le_trans h.ws hg.size, h.br, h.bo⟩
/-- The row of marks has grown. -/
theorem RdC.grownMarks (h : RdC B R O Wm ap cv tc tv mc mv xc D c b1 b2 w) {mv' : Value} {m : Nat × Nat × Nat} (ho : w'.ownsRow Wm 58 3 mv' (c.marks.length + 1) (marksC (c.marks ++ [m]))) (hg : w.grownBy w' mv.ownBlock) :
    RdC B R O Wm ap cv tc tv mc mv' xc D { c with marks := c.marks ++ [m] } b1 b2 w' := by
  have hT := Turns.grown hg (own_kind h.marks)
  have hb : Below Wm w w' := (Below.refl _ _).grown hg h.ws fun k hk => (h.marks.lt k hk).1
  exact ⟨hT.block _ _ _ _ h.rd (by decide), hT.block _ _ _ _ h.op (by decide), own_turns h.cards hT (by decide), own_turns h.text hT (by decide), by simpa using ho,
    fun x hx => (h.fin x hx).below hb, h.bw, Nat.le_trans h.ws hg.size, h.br, h.bo⟩
/-- A store into the card's cell 'Marks'. -/
theorem RdC.setMarks {g cap : Nat} (h : RdC B R O Wm ap (.slice (some ⟨g, 0, none⟩) (D.length + 1) cap) tc tv mc mv xc D c b1 b2 w) (u : Value) :
    RdC B R O Wm ap (.slice (some ⟨g, 0, none⟩) (D.length + 1) cap) tc tv u mv xc D c b1 b2 (w.setCell ⟨g, D.length * 3 + 2, none⟩ u) := by
  obtain ⟨cs, fz, hg⟩ := own_kind h.cards g rfl
  have hT := Turns.setCell hg (D.length * 3 + 2) u
  have ho := (h.cards.stored (D.length * 3 + 2) u).1
  have e : (cardsC D ++ [.bool c.left, .string (strL xc), mc]).set (D.length * 3 + 2) u = cardsC D ++ [.bool c.left, .string (strL xc), u] := by
    rw [List.set_append_right _ _ (by rw [cardsC_length]; omega), cardsC_length]
    rw [show D.length * 3 + 2 - D.length * 3 = 2 from by omega]
    rfl
  rw [e] at ho
  exact ⟨hT.block _ _ _ _ h.rd (by decide), hT.block _ _ _ _ h.op (by decide), ho, own_turns h.text hT (by decide), own_turns h.marks hT (by decide),
    fun x hx => (h.fin x hx).turns hT (by decide), h.bw, by simpa using h.ws, h.br, h.bo⟩
/-- A store into the card's cell 'Text'. -/
theorem RdC.setCard {g cap : Nat} (h : RdC B R O Wm ap (.slice (some ⟨g, 0, none⟩) (D.length + 1) cap) tc tv mc mv xc D c b1 b2 w) (l : List UInt8) :
    RdC B R O Wm ap (.slice (some ⟨g, 0, none⟩) (D.length + 1) cap) tc tv mc mv l D c b1 b2 (w.setCell ⟨g, D.length * 3 + 1, none⟩ (.string (strL l))) := by
  obtain ⟨cs, fz, hg⟩ := own_kind h.cards g rfl
  have hT := Turns.setCell hg (D.length * 3 + 1) (.string (strL l))
  have ho := (h.cards.stored (D.length * 3 + 1) (.string (strL l))).1
  have e : (cardsC D ++ [.bool c.left, .string (strL xc), mc]).set (D.length * 3 + 1) (.string (strL l)) = cardsC D ++ [.bool c.left, .string (strL l), mc] := by
    rw [List.set_append_right _ _ (by rw [cardsC_length]; omega), cardsC_length]
    rw [show D.length * 3 + 1 - D.length * 3 = 1 from by omega]
    rfl
  rw [e] at ho
  exact ⟨hT.block _ _ _ _ h.rd (by decide), hT.block _ _ _ _ h.op (by decide), ho, own_turns h.text hT (by decide), own_turns h.marks hT (by decide),
    fun x hx => (h.fin x hx).turns hT (by decide), h.bw, by simpa using h.ws, h.br, h.bo⟩
/-- The reader's own cells. -/
theorem RdC.cells (h : RdC B R O Wm ap cv tc tv mc mv xc D c b1 b2 w) : w.cell? ⟨R, 0, none⟩ = some cv ∧ w.cell? ⟨R, 1, none⟩ = some tc ∧ w.cell? ⟨R, 2, none⟩ = some (.bool b1) ∧ w.cell? ⟨R, 5, none⟩ = some (opener O) ∧ w.cell? ⟨R, 3, none⟩ = some (.int .i64 ap.1) ∧ w.cell? ⟨R, 4, none⟩ = some (.int .i64 ap.2) :=
  ⟨Joins.cell_of_block h.rd 0, Joins.cell_of_block h.rd 1, Joins.cell_of_block h.rd 2, Joins.cell_of_block h.rd 5, Joins.cell_of_block h.rd 3, Joins.cell_of_block h.rd 4⟩
theorem RdC.free (h : RdC B R O Wm ap cv tc tv mc mv xc D c b1 b2 w) : w.frozen? ⟨R, 0, none⟩ = false ∧ w.frozen? ⟨R, 1, none⟩ = false ∧ w.frozen? ⟨R, 2, none⟩ = false ∧ w.frozen? ⟨R, 5, none⟩ = false ∧ w.frozen? ⟨R, 3, none⟩ = false ∧ w.frozen? ⟨R, 4, none⟩ = false :=
  ⟨Joins.unfrozen_of_block h.rd 0, Joins.unfrozen_of_block h.rd 1, Joins.unfrozen_of_block h.rd 2, Joins.unfrozen_of_block h.rd 5, Joins.unfrozen_of_block h.rd 3, Joins.unfrozen_of_block h.rd 4⟩
/-- Stores into the reader's cells 'last'. -/
theorem RdC.setLast (h : RdC B R O Wm ap cv tc tv mc mv xc D c b1 b2 w) (l k : Nat) : RdC B R O Wm (l, k) cv tc tv mc mv xc D c b1 b2 ((w.setCell ⟨R, 3, none⟩ (.int .i64 l)).setCell ⟨R, 4, none⟩ (.int .i64 k)) := by
  have hT1 := Turns.setCell h.rd 3 (.int .i64 l)
  have r1 := Joins.block_setCell (i := 3) h.rd (.int .i64 l)
  have hT := hT1.trans (Turns.setCell r1 4 (.int .i64 k))
  exact ⟨Joins.block_setCell r1 _, hT.block _ _ _ _ h.op (by decide), own_turns h.cards hT (by decide), own_turns h.text hT (by decide), own_turns h.marks hT (by decide),
    fun x hx => (h.fin x hx).turns hT (by decide), h.bw, by simpa using h.ws, h.br, h.bo⟩
theorem RdC.form (h : RdC B R O Wm ap cv tc tv mc mv xc D c b1 b2 w) : ∃ g cap, cv = .slice (some ⟨g, 0, none⟩) (D.length + 1) cap ∧ D.length + 1 ≤ cap ∧ B ≤ g ∧ g < w.heap.size := own_form h.cards (by omega)
/-- The cells of the card under way. -/
theorem RdC.card {g cap : Nat} (h : RdC B R O Wm ap (.slice (some ⟨g, 0, none⟩) (D.length + 1) cap) tc tv mc mv xc D c b1 b2 w) :
    w.cell? ⟨g, D.length * 3, none⟩ = some (.bool c.left) ∧ w.cell? ⟨g, D.length * 3 + 1, none⟩ = some (.string (strL xc)) ∧ w.cell? ⟨g, D.length * 3 + 2, none⟩ = some mc := by
  have hl := cardsC_length D
  refine ⟨own_at h.cards _ _ ?_, own_at h.cards _ _ ?_, own_at h.cards _ _ ?_⟩
  · rw [List.getElem?_append_right (by omega), hl, Nat.sub_self]; rfl
  · rw [List.getElem?_append_right (by omega), hl, show D.length * 3 + 1 - D.length * 3 = 1 from by omega]; rfl
  · rw [List.getElem?_append_right (by omega), hl, show D.length * 3 + 2 - D.length * 3 = 2 from by omega]; rfl
theorem RdC.cardFree {g cap : Nat} (h : RdC B R O Wm ap (.slice (some ⟨g, 0, none⟩) (D.length + 1) cap) tc tv mc mv xc D c b1 b2 w) (j : Nat) : w.frozen? ⟨g, j, none⟩ = false := h.cards.frozenAt j
/-- The blocks differ. -/
theorem RdC.ne {g cap : Nat} (h : RdC B R O Wm ap (.slice (some ⟨g, 0, none⟩) (D.length + 1) cap) tc tv mc mv xc D c b1 b2 w) : g ≠ R ∧ g ≠ O ∧ R ≠ O := by
  obtain ⟨cs, fz, hg⟩ := own_kind h.cards g rfl
  refine ⟨fun e => ?_, fun e => ?_, fun e => ?_⟩
  · subst e; rw [h.rd] at hg; injection hg with hg; injection hg with h1 h2; exact absurd h2 (by decide)
  · subst e; rw [h.op] at hg; injection hg with hg; injection hg with h1 h2; exact absurd h2 (by decide)
  · subst e; have := h.op; rw [h.rd] at this; injection this with this; injection this with h1 h2; exact absurd h2 (by decide)
end
end Go.Proofs.YtbckdieajfbepaaDoor
