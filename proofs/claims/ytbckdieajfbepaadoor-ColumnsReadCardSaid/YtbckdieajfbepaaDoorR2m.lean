/-
  The reference's reader in memory: the row of cards, the marks, the position's block; what each step leaves of it. No walk here.
-/
import Derived.Test.YtbckdieajfbepaaDoorRun
import Derived.Test.YtbckdieajfbepaaDoorSame
namespace Go.Proofs.YtbckdieajfbepaaDoor
open Go.RowKit
set_option linter.unusedVariables false
set_option linter.unusedSimpArgs false

/-- The marks of a card that is finished: a slice in a block of its own from B on and below W. -/
def MarksUp (w : World) (B W : Nat) (m : Value) (ms : List (Nat × Nat × Nat)) : Prop :=
  (m = .slice none 0 0 ∧ ms = []) ∨ ∃ (g : Nat) (cs : Array Value) (cap : Nat), m = .slice (some ⟨g, 0, none⟩) ms.length cap ∧ ms.length ≤ cap ∧ B ≤ g ∧ g < W ∧ w.heap[g]? = some (.cells cs 58 (0, 0)) ∧ cs.toList.take (ms.length * 3) = marksC ms
theorem MarksUp.turns {e : TypeId} {w w' : World} {B W : Nat} {m : Value} {ms : List (Nat × Nat × Nat)} (h : MarksUp w B W m ms) (ht : Turns e w w') (hne : 58 ≠ e) : MarksUp w' B W m ms := by
  rcases h with h | ⟨g, cs, cap, h1, h0, h2, h3, h4, h5⟩
  · exact .inl h
  · exact .inr ⟨g, cs, cap, h1, h0, h2, h3, ht.block g cs _ _ h4 hne, h5⟩
theorem MarksUp.below {w w' : World} {B W : Nat} {m : Value} {ms : List (Nat × Nat × Nat)} (h : MarksUp w B W m ms) (hb : Below W w w') : MarksUp w' B W m ms := by
  rcases h with h | ⟨g, cs, cap, h1, h0, h2, h3, h4, h5⟩
  · exact .inl h
  · exact .inr ⟨g, cs, cap, h1, h0, h2, h3, (hb.block g h3).trans h4, h5⟩
theorem MarksUp.more {w : World} {B W W' : Nat} {m : Value} {ms : List (Nat × Nat × Nat)} (h : MarksUp w B W m ms) (hW : W ≤ W') : MarksUp w B W' m ms := by
  rcases h with h | ⟨g, cs, cap, h1, h0, h2, h3, h4, h5⟩
  · exact .inl h
  · exact .inr ⟨g, cs, cap, h1, h0, h2, Nat.lt_of_lt_of_le h3 hW, h4, h5⟩
theorem up_of_own {w : World} {B W : Nat} {m : Value} {ms : List (Nat × Nat × Nat)} (h : w.ownsRow W 58 3 m ms.length (marksC ms)) (hB : B ≤ W) : MarksUp w B w.heap.size m ms := by
  rcases h.2 with ⟨e, h0⟩ | ⟨g, cp, cur, e, hb, hh, hc, _, _, ht⟩
  · exact .inl ⟨e, List.eq_nil_of_length_eq_zero h0⟩
  · exact .inr ⟨g, cur, cp, e, hc, Nat.le_trans hB hb, lt_of_block hh, hh, ht⟩
theorem MarksUp.at_ {w : World} {B W : Nat} {m : Value} {ms : List (Nat × Nat × Nat)} (h : MarksUp w B W m ms) (hM : ms.length ≤ 1048576) : MarksAt w m ms := by
  rcases h with ⟨h1, h2⟩ | ⟨gm, cs, cap, h1, h0, h2, h3, h4, h5⟩
  · exact .inl ⟨h1, h2⟩
  · refine .inr ⟨gm, 0, cap, h1, h0, hM, fun j y hj => ?_⟩
    have hjl : j < ms.length := by
      rcases Nat.lt_or_ge j ms.length with h' | h'
      · exact h'
      · rw [List.getElem?_eq_none h'] at hj; cases hj
    have hsm : marksC ms = marksC (ms.take j) ++ ([.int .i64 y.1, .int .i64 y.2.1, .int .i64 y.2.2] ++ marksC (ms.drop (j + 1))) := by
      have : ms = ms.take j ++ (y :: ms.drop (j + 1)) := by
        rw [List.getElem?_eq_getElem hjl] at hj
        injection hj with hj
        rw [← hj, ← List.drop_eq_getElem_cons hjl, List.take_append_drop]
      conv => lhs; rw [this]
      simp [marksC]
    have hml : (marksC (ms.take j)).length = j * 3 := by rw [marksC_length, List.length_take, Nat.min_eq_left (by omega)]
    have hmt : ∀ i u, ([.int .i64 y.1, .int .i64 y.2.1, .int .i64 y.2.2] : List Value)[i]? = some u → w.cell? ⟨gm, j * 3 + i, none⟩ = some u := fun i u hu => by
      have hi : i < 3 := by
        rcases Nat.lt_or_ge i 3 with h' | h'
        · exact h'
        · rw [List.getElem?_eq_none (by simpa using h')] at hu; cases hu
      have e : (marksC ms)[j * 3 + i]? = some u := by
        rw [hsm, List.getElem?_append_right (by omega), hml, show j * 3 + i - j * 3 = i from by omega, List.getElem?_append_left (by simpa using hi)]
        exact hu
      rw [← h5, List.getElem?_take_of_lt (by omega)] at e
      rw [Joins.cell_of_block h4 (j * 3 + i)]
      simpa using e
    exact ⟨by rw [Nat.zero_add]; exact hmt 0 _ rfl, by rw [Nat.zero_add]; exact hmt 1 _ rfl, by rw [Nat.zero_add]; exact hmt 2 _ rfl⟩

/-- Blocks of the reference's rows, of faults and of strings are as they were. -/
structure Fs (w w' : World) : Prop where
  size : w.heap.size ≤ w'.heap.size
  block : ∀ (k : Nat) (cs : Array Value) (t : TypeId) (fr : Nat × Nat), w.heap[k]? = some (.cells cs t fr) → (t = 63 ∨ t = 28 ∨ t = 9) → w'.heap[k]? = some (.cells cs t fr)
theorem Fs.refl (w : World) : Fs w w := ⟨Nat.le_refl _, fun _ _ _ _ h _ => h⟩
theorem Fs.trans {a b c : World} (h : Fs a b) (k : Fs b c) : Fs a c := ⟨Nat.le_trans h.size k.size, fun i cs t fr hi ht => k.block i cs t fr (h.block i cs t fr hi ht) ht⟩
theorem Fs.of_turns {e : TypeId} {w w' : World} (h : Turns e w w') (h1 : 63 ≠ e) (h2 : 28 ≠ e) (h3 : 9 ≠ e) : Fs w w' :=
  ⟨h.size, fun k cs t fr hk ht => h.block k cs t fr hk (by rcases ht with rfl | rfl | rfl <;> assumption)⟩
theorem Fs.of_below {w w' : World} (h : Below w.heap.size w w') : Fs w w' := Fs.of_turns (e := 0) (Turns.of_below h) (by decide) (by decide) (by decide)
theorem Fs.newCell {w w' : World} (h : Fs w w') {N : Nat} (hN : w.heap.size ≤ N) (i : Nat) (u : Value) : Fs w (w'.setCell ⟨N, i, none⟩ u) :=
  ⟨by simpa using h.size, fun k cs t fr hk ht => (Below.heap_setCell w' ⟨N, i, none⟩ u k (by have := lt_of_block hk; show k ≠ N; omega)).trans (h.block k cs t fr hk ht)⟩
theorem Fs.drew {w w' : World} (h : Fs w w') : Fs w w'.drew := ⟨h.size, h.block⟩
theorem own_fs {w w' : World} {B : Nat} {size n : Nat} {v : Value} {xs : List Value} (h : w.ownsRow B 9 size v n xs) (hf : Fs w w') : w'.ownsRow B 9 size v n xs := by
  refine ⟨h.1, ?_⟩
  rcases h.2 with hn | ⟨g, cap, cur, rfl, hb, hh, rest⟩
  · exact .inl hn
  · exact .inr ⟨g, cap, cur, rfl, hb, hf.block g cur _ (0, 0) hh (.inr (.inr rfl)), rest⟩

/-- The reference's reader with a card c under way. -/
structure R2C (B LB Wm : Nat) (ap : Nat × Nat) (ov mv : Value) (D : List (Kard × Value)) (c : Kard) (w : World) : Prop where
  last : w.heap[LB]? = some (.cells #[.int .i64 ap.1, .int .i64 ap.2] 26 (0, 0))
  cards : w.ownsRow B 34 3 ov (D.length + 1) (cardsC D ++ [.bool c.left, .string (strL c.text), mv])
  marks : w.ownsRow Wm 58 3 mv c.marks.length (marksC c.marks)
  fin : ∀ x ∈ D, MarksUp w B Wm x.2 x.1.marks
  bw : B ≤ Wm
  ws : Wm ≤ w.heap.size
  bl : B ≤ LB
/-- The reference's reader between two cards. -/
structure R2N (B LB : Nat) (ap : Nat × Nat) (ov : Value) (D : List (Kard × Value)) (w : World) : Prop where
  last : w.heap[LB]? = some (.cells #[.int .i64 ap.1, .int .i64 ap.2] 26 (0, 0))
  cards : w.ownsRow B 34 3 ov D.length (cardsC D)
  fin : ∀ x ∈ D, MarksUp w B w.heap.size x.2 x.1.marks
  bs : B ≤ w.heap.size
  bl : B ≤ LB
section
variable {B LB Wm : Nat} {ap : Nat × Nat} {ov mv : Value} {D : List (Kard × Value)} {c : Kard} {w w' : World}
theorem R2C.kept (h : R2C B LB Wm ap ov mv D c w) (hs : w.heap.size ≤ w'.heap.size) (hk : ∀ k, k < w.heap.size → w'.heap[k]? = w.heap[k]?) : R2C B LB Wm ap ov mv D c w' :=
  ⟨(hk _ (lt_of_block h.last)).trans h.last, own_kept h.cards hk, own_kept h.marks hk,
    fun x hx => (h.fin x hx).turns (Turns.of_kept (e := 0) hs hk) (by decide), h.bw, Nat.le_trans h.ws hs, h.bl⟩
theorem R2C.below (h : R2C B LB Wm ap ov mv D c w) (hb : Below w.heap.size w w') : R2C B LB Wm ap ov mv D c w' := h.kept hb.size hb.block
theorem R2C.turnsF (h : R2C B LB Wm ap ov mv D c w) (ht : Turns 28 w w') : R2C B LB Wm ap ov mv D c w' :=
  ⟨ht.block _ _ _ _ h.last (by decide), own_turns h.cards ht (by decide), own_turns h.marks ht (by decide), fun x hx => (h.fin x hx).turns ht (by decide), h.bw, Nat.le_trans h.ws ht.size, h.bl⟩
theorem R2C.bs (h : R2C B LB Wm ap ov mv D c w) : B ≤ w.heap.size := Nat.le_trans h.bw h.ws
theorem R2N.kept (h : R2N B LB ap ov D w) (hs : w.heap.size ≤ w'.heap.size) (hk : ∀ k, k < w.heap.size → w'.heap[k]? = w.heap[k]?) : R2N B LB ap ov D w' :=
  ⟨(hk _ (lt_of_block h.last)).trans h.last, own_kept h.cards hk,
    fun x hx => ((h.fin x hx).turns (Turns.of_kept (e := 0) hs hk) (by decide)).more hs, Nat.le_trans h.bs hs, h.bl⟩
theorem R2N.turnsF (h : R2N B LB ap ov D w) (ht : Turns 28 w w') : R2N B LB ap ov D w' :=
  ⟨ht.block _ _ _ _ h.last (by decide), own_turns h.cards ht (by decide), fun x hx => ((h.fin x hx).turns ht (by decide)).more ht.size, Nat.le_trans h.bs ht.size, h.bl⟩
/-- The card under way counts as finished. -/
theorem R2C.done (h : R2C B LB Wm ap ov mv D c w) : R2N B LB ap ov (D ++ [(c, mv)]) w :=
  ⟨h.last, by rw [cardsC_snoc, List.length_append]; exact h.cards, fun x hx => by
    rcases List.mem_append.1 hx with hx | hx
    · exact (h.fin x hx).more h.ws
    · obtain rfl : x = (c, mv) := by simpa using hx
      exact up_of_own h.marks h.bw, h.bs, h.bl⟩
/-- A card begins. -/
theorem R2N.begin {W w1 : World} {ov' : Value} {l : Bool} (h : R2N B LB ap ov D w) (hW : Below w.heap.size w W)
    (ho : w1.ownsRow B 34 3 ov' (D.length + 1) (cardsC D ++ [.bool l, .string ⟨#[]⟩, .slice none 0 0])) (hg : W.grownBy w1 ov.ownBlock) :
    R2C B LB w1.heap.size ap ov' (.slice none 0 0) D ⟨l, [], []⟩ w1 := by
  have hN := h.kept hW.size hW.block
  have hT := Turns.grown hg (own_kind hN.cards)
  exact ⟨hT.block _ _ _ _ hN.last (by decide), ho, World.ownsRow_nil _ _ _ _, fun x hx => ((hN.fin x hx).turns hT (by decide)).more hT.size, Nat.le_trans hN.bs hT.size, Nat.le_refl _, h.bl⟩
theorem R2N.beginFs {w0 W w1 : World} (h : R2N B LB ap ov D w) (h0 : Fs w0 w) (hW : Below w.heap.size w W) (hg : W.grownBy w1 ov.ownBlock) : Fs w0 w1 := by
  have hN := h.kept hW.size hW.block
  have hT := Turns.grown hg (own_kind hN.cards)
  exact (h0.trans (Fs.of_below hW)).trans (Fs.of_turns hT (by decide) (by decide) (by decide))
theorem R2N.beginBelow {w0 W w1 : World} (h : R2N B LB ap ov D w) (h0 : Below B w0 w) (hW : Below w.heap.size w W) (hg : W.grownBy w1 ov.ownBlock) : Below B w0 w1 :=
  (h0.trans (hW.mono h.bs)).grown hg (Nat.le_trans h.bs hW.size) fun k hk => (h.cards.lt k hk).1
/-- Stores into the block of the last part's position. -/
theorem R2C.setLast (h : R2C B LB Wm ap ov mv D c w) (l k : Nat) : R2C B LB Wm (l, k) ov mv D c ((w.setCell ⟨LB, 0, none⟩ (.int .i64 l)).setCell ⟨LB, 1, none⟩ (.int .i64 k)) := by
  have r1 := Joins.block_setCell (i := 0) h.last (.int .i64 l)
  have hT := (Turns.setCell h.last 0 (.int .i64 l)).trans (Turns.setCell r1 1 (.int .i64 k))
  exact ⟨Joins.block_setCell r1 _, own_turns h.cards hT (by decide), own_turns h.marks hT (by decide), fun x hx => (h.fin x hx).turns hT (by decide), h.bw, by simpa using h.ws, h.bl⟩
theorem R2C.setLastFs {w0 : World} (h : R2C B LB Wm ap ov mv D c w) (h0 : Fs w0 w) (l k : Nat) : Fs w0 ((w.setCell ⟨LB, 0, none⟩ (.int .i64 l)).setCell ⟨LB, 1, none⟩ (.int .i64 k)) := by
  have r1 := Joins.block_setCell (i := 0) h.last (.int .i64 l)
  have hT := (Turns.setCell h.last 0 (.int .i64 l)).trans (Turns.setCell r1 1 (.int .i64 k))
  exact h0.trans (Fs.of_turns hT (by decide) (by decide) (by decide))
theorem R2C.setLastBelow {w0 : World} (h : R2C B LB Wm ap ov mv D c w) (h0 : Below B w0 w) (u v : Value) : Below B w0 ((w.setCell ⟨LB, 0, none⟩ u).setCell ⟨LB, 1, none⟩ v) := (h0.setCell h.bl _).setCell h.bl _
theorem R2C.form (h : R2C B LB Wm ap ov mv D c w) : ∃ g cap, ov = .slice (some ⟨g, 0, none⟩) (D.length + 1) cap ∧ D.length + 1 ≤ cap ∧ B ≤ g ∧ g < w.heap.size := own_form h.cards (by omega)
/-- The cells of the card under way, and of the position. -/
theorem R2C.card {g cap : Nat} (h : R2C B LB Wm ap (.slice (some ⟨g, 0, none⟩) (D.length + 1) cap) mv D c w) :
    w.cell? ⟨g, D.length * 3, none⟩ = some (.bool c.left) ∧ w.cell? ⟨g, D.length * 3 + 1, none⟩ = some (.string (strL c.text)) ∧ w.cell? ⟨g, D.length * 3 + 2, none⟩ = some mv := by
  have hl := cardsC_length D
  refine ⟨own_at h.cards _ _ ?_, own_at h.cards _ _ ?_, own_at h.cards _ _ ?_⟩
  · rw [List.getElem?_append_right (by omega), hl, Nat.sub_self]; rfl
  · rw [List.getElem?_append_right (by omega), hl, show D.length * 3 + 1 - D.length * 3 = 1 from by omega]; rfl
  · rw [List.getElem?_append_right (by omega), hl, show D.length * 3 + 2 - D.length * 3 = 2 from by omega]; rfl
theorem R2C.cardFree {g cap : Nat} (h : R2C B LB Wm ap (.slice (some ⟨g, 0, none⟩) (D.length + 1) cap) mv D c w) (j : Nat) : w.frozen? ⟨g, j, none⟩ = false := h.cards.frozenAt j
theorem R2C.lastCells (h : R2C B LB Wm ap ov mv D c w) : w.cell? ⟨LB, 0, none⟩ = some (.int .i64 ap.1) ∧ w.cell? ⟨LB, 1, none⟩ = some (.int .i64 ap.2) ∧ w.frozen? ⟨LB, 0, none⟩ = false ∧ w.frozen? ⟨LB, 1, none⟩ = false ∧ LB < w.heap.size :=
  ⟨Joins.cell_of_block h.last 0, Joins.cell_of_block h.last 1, Joins.unfrozen_of_block h.last 0, Joins.unfrozen_of_block h.last 1, lt_of_block h.last⟩
theorem R2C.kind {g cap : Nat} (h : R2C B LB Wm ap (.slice (some ⟨g, 0, none⟩) (D.length + 1) cap) mv D c w) : ∃ cs fz, w.heap[g]? = some (.cells cs 34 fz) := own_kind h.cards g rfl
/-- The blocks differ. -/
theorem R2C.ne {g cap : Nat} (h : R2C B LB Wm ap (.slice (some ⟨g, 0, none⟩) (D.length + 1) cap) mv D c w) : g ≠ LB ∧ some g ≠ mv.ownBlock ∧ some LB ≠ mv.ownBlock := by
  obtain ⟨cs, fz, hg⟩ := h.kind
  refine ⟨fun e => ?_, fun e => ?_, fun e => ?_⟩
  · subst e; rw [h.last] at hg; injection hg with hg; injection hg with h1 h2; exact absurd h2 (by decide)
  · obtain ⟨c1, f1, hh⟩ := own_kind h.marks g e.symm
    rw [hg] at hh; injection hh with hh; injection hh with h1 h2; exact absurd h2 (by decide)
  · obtain ⟨c1, f1, hh⟩ := own_kind h.marks LB e.symm
    rw [h.last] at hh; injection hh with hh; injection hh with h1 h2; exact absurd h2 (by decide)
/-- A mark has been appended to the row of the card under way, and the card's cell has been set. -/
theorem R2C.mark {g cap : Nat} {W w6 : World} {mv' : Value} {m : Nat × Nat × Nat}
    (h : R2C B LB Wm ap (.slice (some ⟨g, 0, none⟩) (D.length + 1) cap) mv D c w) (hb : Below w.heap.size w W)
    (ho : w6.ownsRow Wm 58 3 mv' (c.marks.length + 1) (marksC c.marks ++ [.int .i64 m.1, .int .i64 m.2.1, .int .i64 m.2.2])) (hg : W.grownBy w6 mv.ownBlock) :
    R2C B LB Wm ap (.slice (some ⟨g, 0, none⟩) (D.length + 1) cap) mv' D { c with marks := c.marks ++ [m] } (w6.setCell ⟨g, D.length * 3 + 2, none⟩ mv') := by
  have hW := h.below hb
  have hT := Turns.grown hg (own_kind hW.marks)
  have hbm : Below Wm W w6 := (Below.refl _ _).grown hg hW.ws fun k hk => (hW.marks.lt k hk).1
  have hc6 := own_turns hW.cards hT (by decide)
  obtain ⟨cs, fz, hgc⟩ := own_kind hc6 g rfl
  have hT2 := Turns.setCell hgc (D.length * 3 + 2) mv'
  have hs := (hc6.stored (D.length * 3 + 2) mv').1
  have e : (cardsC D ++ [.bool c.left, .string (strL c.text), mv]).set (D.length * 3 + 2) mv' = cardsC D ++ [.bool c.left, .string (strL c.text), mv'] := by
    rw [List.set_append_right _ _ (by rw [cardsC_length]; omega), cardsC_length]
    rw [show D.length * 3 + 2 - D.length * 3 = 2 from by omega]
    rfl
  rw [e] at hs
  refine ⟨hT2.block _ _ _ _ (hT.block _ _ _ _ hW.last (by decide)) (by decide), hs, ?_, fun x hx => ((hW.fin x hx).below hbm).turns hT2 (by decide), h.bw, ?_, h.bl⟩
  · have := own_turns ho hT2 (by decide)
    rw [List.length_append, marksC_snoc]
    exact this
  · simpa using Nat.le_trans hW.ws hg.size
theorem R2C.markBelow {g cap : Nat} {w0 W w6 : World} {mv' : Value} {j : Nat}
    (h : R2C B LB Wm ap (.slice (some ⟨g, 0, none⟩) (D.length + 1) cap) mv D c w) (h0 : Below B w0 w) (hb : Below w.heap.size w W) (hg : W.grownBy w6 mv.ownBlock) (hgB : B ≤ g) : Below B w0 (w6.setCell ⟨g, j, none⟩ mv') := by
  have hBs : B ≤ W.heap.size := Nat.le_trans h.bs hb.size
  have h1 : Below B w0 W := h0.trans (hb.mono h.bs)
  exact (h1.grown hg hBs fun k hk => Nat.le_trans h.bw ((h.marks.lt k hk).1)).setCell hgB _
theorem R2C.markFs {g cap : Nat} {w0 W w6 : World} {mv' : Value} {j : Nat}
    (h : R2C B LB Wm ap (.slice (some ⟨g, 0, none⟩) (D.length + 1) cap) mv D c w) (h0 : Fs w0 w) (hb : Below w.heap.size w W) (hg : W.grownBy w6 mv.ownBlock) : Fs w0 (w6.setCell ⟨g, j, none⟩ mv') := by
  have hW := h.below hb
  have hT := Turns.grown hg (own_kind hW.marks)
  obtain ⟨cs, fz, hgg⟩ := hW.kind
  exact ((h0.trans (Fs.of_below hb)).trans (Fs.of_turns hT (by decide) (by decide) (by decide))).trans (Fs.of_turns (Turns.setCell (hT.block _ _ _ _ hgg (by decide)) j mv') (by decide) (by decide) (by decide))
/-- A store into the card's cell 'Text'. -/
theorem R2C.setText {g cap : Nat} (h : R2C B LB Wm ap (.slice (some ⟨g, 0, none⟩) (D.length + 1) cap) mv D c w) (l : List UInt8) :
    R2C B LB Wm ap (.slice (some ⟨g, 0, none⟩) (D.length + 1) cap) mv D { c with text := l } (w.setCell ⟨g, D.length * 3 + 1, none⟩ (.string (strL l))) := by
  obtain ⟨cs, fz, hg⟩ := h.kind
  have hT := Turns.setCell hg (D.length * 3 + 1) (.string (strL l))
  have ho := (h.cards.stored (D.length * 3 + 1) (.string (strL l))).1
  have e : (cardsC D ++ [.bool c.left, .string (strL c.text), mv]).set (D.length * 3 + 1) (.string (strL l)) = cardsC D ++ [.bool c.left, .string (strL l), mv] := by
    rw [List.set_append_right _ _ (by rw [cardsC_length]; omega), cardsC_length]
    rw [show D.length * 3 + 1 - D.length * 3 = 1 from by omega]
    rfl
  rw [e] at ho
  exact ⟨hT.block _ _ _ _ h.last (by decide), ho, own_turns h.marks hT (by decide), fun x hx => (h.fin x hx).turns hT (by decide), h.bw, by simpa using h.ws, h.bl⟩
theorem R2C.setTextFs {g cap : Nat} {w0 : World} (h : R2C B LB Wm ap (.slice (some ⟨g, 0, none⟩) (D.length + 1) cap) mv D c w) (h0 : Fs w0 w) (u : Value) : Fs w0 (w.setCell ⟨g, D.length * 3 + 1, none⟩ u) := by
  obtain ⟨cs, fz, hg⟩ := h.kind
  exact h0.trans (Fs.of_turns (Turns.setCell hg (D.length * 3 + 1) u) (by decide) (by decide) (by decide))
end
/-- The reference's reader, between two lines. -/
def S2At (B LB : Nat) (r : ReadAt) (ov : Value) (w : World) : Prop :=
  (r.cur = none ∧ r.done = [] ∧ ov = .slice none 0 0 ∧ R2N B LB r.at_ ov [] w) ∨
  (∃ (c : Kard) (Wm : Nat) (mv : Value) (D : List (Kard × Value)), r.cur = some c ∧ D.map Prod.fst = r.done ∧ R2C B LB Wm r.at_ ov mv D c w)
theorem S2At.kept {B LB : Nat} {r : ReadAt} {ov : Value} {w w' : World} (h : S2At B LB r ov w) (hs : w.heap.size ≤ w'.heap.size) (hk : ∀ k, k < w.heap.size → w'.heap[k]? = w.heap[k]?) : S2At B LB r ov w' := by
  rcases h with ⟨h1, h2, h3, h4⟩ | ⟨c, Wm, mv, D, h1, h2, h5⟩
  · exact .inl ⟨h1, h2, h3, h4.kept hs hk⟩
  · exact .inr ⟨c, Wm, mv, D, h1, h2, h5.kept hs hk⟩
/-- The cards of a reader that is between two cards. -/
theorem kards2_of {B LB : Nat} {ap : Nat × Nat} {ov : Value} {D : List (Kard × Value)} {w : World} (h : R2N B LB ap ov D w) (hD : D.length ≤ 1048576) (hM : ∀ x ∈ D, x.1.marks.length ≤ 1048576) : KardsAt w ov (D.map Prod.fst) := by
  rcases h.cards.2 with ⟨e, h0⟩ | ⟨g, cp, cur, e, hb, hh, hc, _⟩
  · obtain rfl : D = [] := List.eq_nil_of_length_eq_zero h0
    exact .inl ⟨e, rfl⟩
  · refine .inr ⟨g, 0, cp, by rw [List.length_map]; exact e, by rw [List.length_map]; exact hc, by simpa using hD, fun k c hk => ?_⟩
    obtain ⟨x, hx, rfl⟩ : ∃ x, D[k]? = some x ∧ x.1 = c := by
      rw [List.getElem?_map] at hk
      cases hd : D[k]? with
      | none => rw [hd] at hk; cases hk
      | some x => rw [hd] at hk; injection hk with hk; exact ⟨x, rfl, hk⟩
    have hkl : k < D.length := by
      rcases Nat.lt_or_ge k D.length with h' | h'
      · exact h'
      · rw [List.getElem?_eq_none h'] at hx; cases hx
    have hsp : cardsC D = cardsC (D.take k) ++ ([.bool x.1.left, .string (strL x.1.text), x.2] ++ cardsC (D.drop (k + 1))) := by
      have : D = D.take k ++ (x :: D.drop (k + 1)) := by
        rw [List.getElem?_eq_getElem hkl] at hx
        injection hx with hx
        rw [← hx, ← List.drop_eq_getElem_cons hkl, List.take_append_drop]
      conv => lhs; rw [this]
      simp [cardsC]
    have hl : (cardsC (D.take k)).length = k * 3 := by rw [cardsC_length, List.length_take, Nat.min_eq_left (by omega)]
    have hat : ∀ j u, ([.bool x.1.left, .string (strL x.1.text), x.2] : List Value)[j]? = some u → w.cell? ⟨g, k * 3 + j, none⟩ = some u := fun j u hu => by
      refine own_at (e ▸ h.cards) _ _ ?_
      rw [hsp, List.getElem?_append_right (by omega), hl, show k * 3 + j - k * 3 = j from by omega]
      have : j < 3 := by
        rcases Nat.lt_or_ge j 3 with h' | h'
        · exact h'
        · rw [List.getElem?_eq_none (by simpa using h')] at hu; cases hu
      rw [List.getElem?_append_left (by simpa using this)]
      exact hu
    exact ⟨by rw [Nat.zero_add]; exact hat 0 _ rfl, by rw [Nat.zero_add]; exact hat 1 _ rfl, x.2, by rw [Nat.zero_add]; exact hat 2 _ rfl, (h.fin x (List.mem_iff_getElem?.2 ⟨k, hx⟩)).at_ (hM x (List.mem_iff_getElem?.2 ⟨k, hx⟩))⟩
theorem lt_cell2 {w : World} {p : Addr} {v : Value} (h : w.cell? p = some v) : p.block < w.heap.size := by
  rcases Nat.lt_or_ge p.block w.heap.size with h' | h'
  · exact h'
  · unfold World.cell? at h; rw [Array.getElem?_eq_none h'] at h; cases h
/-- Cards stay while nothing that is old turns. -/
theorem marks_below {w w' : World} {m : Value} {ms : List (Nat × Nat × Nat)} (h : MarksAt w m ms) (hb : Below w.heap.size w w') : MarksAt w' m ms := by
  rcases h with h | ⟨b, o, cap, h1, h2, h3, h4⟩
  · exact .inl h
  · exact .inr ⟨b, o, cap, h1, h2, h3, fun k x hk => by
      obtain ⟨a1, a2, a3⟩ := h4 k x hk
      have hlt : b < w.heap.size := lt_cell2 a1
      exact ⟨(hb.cell (p := ⟨b, _, none⟩) hlt).trans a1, (hb.cell (p := ⟨b, _, none⟩) hlt).trans a2, (hb.cell (p := ⟨b, _, none⟩) hlt).trans a3⟩⟩
theorem kards_below {w w' : World} {v : Value} {L : List Kard} (h : KardsAt w v L) (hb : Below w.heap.size w w') : KardsAt w' v L := by
  rcases h with h | ⟨b, o, cap, h1, h2, h3, h4⟩
  · exact .inl h
  · exact .inr ⟨b, o, cap, h1, h2, h3, fun k c hk => by
      obtain ⟨a1, a2, m, a3, a4⟩ := h4 k c hk
      have hlt : b < w.heap.size := lt_cell2 a1
      exact ⟨(hb.cell (p := ⟨b, _, none⟩) hlt).trans a1, (hb.cell (p := ⟨b, _, none⟩) hlt).trans a2, m, (hb.cell (p := ⟨b, _, none⟩) hlt).trans a3, marks_below a4 hb⟩⟩
end Go.Proofs.YtbckdieajfbepaaDoor
