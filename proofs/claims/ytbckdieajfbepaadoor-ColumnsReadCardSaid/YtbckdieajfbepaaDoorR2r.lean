/-
  The contract of the reference's Read.
-/
import Derived.Test.YtbckdieajfbepaaDoorR2m
import Derived.Test.YtbckdieajfbepaaDoorReadL
import Derived.Test.YtbckdieajfbepaaDoorRes
import Derived.Deep.RegionHeld3
import Derived.Deep.CutBlock
import Derived.Test.YtbckdieajfbepaaDoorTail
namespace Go.Proofs.YtbckdieajfbepaaDoor
open Go.RowKit
set_option linter.unusedVariables false
set_option linter.unusedSimpArgs false

def R2Post (text : List UInt8) (debug : Bool) (w : World) (e : Ending) (w' : World) : Prop :=
  Below w.heap.size w w' ∧ match readB text debug with
    | .inl f => e = .returned (.tuple #[.slice none 0 0, faultN f.1 f.2.1 f.2.2])
    | .inr ks => ∃ v, e = .returned (.tuple #[v, zeroF]) ∧ KardsAt w' v ks
/-- Between two lines: k of them are read. -/
def R2Rel (s : List UInt8) (debug : Bool) (PL : Nat) (w w1 : World) (ov i : Value) (wr : World) : Prop :=
  ∃ (k : Nat) (r : ReadAt), k ≤ PL ∧ i = .int .i64 k ∧ readFrom debug r k ((linesB s).drop k) = readB s debug ∧ S2At w.heap.size (w.heap.size + 1) r ov wr ∧ Fs w1 wr ∧ Below w.heap.size w wr ∧ Bnd r k
/-- The world ahead of the first line. -/
structure Start2 (w w1 : World) (v : Value) (n : Nat) (xs : List Value) : Prop where
  rd : R2N w.heap.size (w.heap.size + 1) (0, 0) (.slice none 0 0) [] w1
  res : w1.heap[w.heap.size]? = some (.cells #[.int .i64 0, .int .i64 0, .int .i64 0] 28 (0, 0))
  str : w1.ownsRow (w.heap.size + 2) 9 1 v n xs
  below : Below w.heap.size w w1
theorem start2_of (w w1 : World) (v : Value) (n : Nat) (xs : List Value) (ho : w1.ownsRow ((w.alloc (.cells #[.int .i64 0, .int .i64 0, .int .i64 0] 28)).alloc (.cells #[.int .i64 0, .int .i64 0] 26)).heap.size 9 1 v n xs)
    (hb : Below ((w.alloc (.cells #[.int .i64 0, .int .i64 0, .int .i64 0] 28)).alloc (.cells #[.int .i64 0, .int .i64 0] 26)).heap.size ((w.alloc (.cells #[.int .i64 0, .int .i64 0, .int .i64 0] 28)).alloc (.cells #[.int .i64 0, .int .i64 0] 26)) w1) : Start2 w w1 v n xs := by
  have hz : ((w.alloc (.cells #[.int .i64 0, .int .i64 0, .int .i64 0] 28)).alloc (.cells #[.int .i64 0, .int .i64 0] 26)).heap.size = w.heap.size + 2 := by simp
  have hs := hb.size
  rw [hz] at hs ho
  refine ⟨⟨?_, World.ownsRow_nil _ _ _ _, (fun x hx => by simp at hx), by omega, by omega⟩, ?_, ho, ?_⟩
  · refine (hb.block _ (by rw [hz]; omega)).trans ?_
    exact alloc_at5 _ _ _ (by simp)
  · refine (hb.block _ (by rw [hz]; omega)).trans ((Below.heap_alloc _ _ _ (by simp)).trans ?_)
    exact alloc_at5 _ _ _ rfl
  · exact (((Below.refl _ _).alloc (Nat.le_refl _) _).alloc (by simp) _).trans (hb.mono (by simp; omega))
theorem line_le : ∀ (l cur : List UInt8), ∀ x ∈ linesG cur l, x.length ≤ cur.length + l.length
  | [], cur, x, hx => by
    unfold linesG at hx
    split at hx
    · cases hx
    · have : x = cur := by simpa using hx
      subst this; simp
  | c :: r, cur, x, hx => by
    unfold linesG at hx
    split at hx
    · rcases List.mem_cons.1 hx with rfl | hx
      · simp
      · have := line_le r [] x hx
        simp at this ⊢; omega
    · have := line_le r (cur ++ [c]) x hx
      simp at this ⊢; omega
/-- The result's block, and what three stores into it leave. -/
theorem res_facts {W : World} {N : Nat} (k : W.heap[N]? = some (.cells #[.int .i64 0, .int .i64 0, .int .i64 0] 28 (0, 0))) (a b c : Value) :
    N < W.heap.size ∧ W.cell? ⟨N, 0, none⟩ = some (.int .i64 0) ∧ W.cell? ⟨N, 1, none⟩ = some (.int .i64 0) ∧ W.cell? ⟨N, 2, none⟩ = some (.int .i64 0) ∧
    W.frozen? ⟨N, 0, none⟩ = false ∧ W.frozen? ⟨N, 1, none⟩ = false ∧ W.frozen? ⟨N, 2, none⟩ = false ∧
    (W.setCell ⟨N, 0, none⟩ a).cell? ⟨N, 0, none⟩ = some a ∧ ((W.setCell ⟨N, 0, none⟩ a).setCell ⟨N, 1, none⟩ b).cell? ⟨N, 1, none⟩ = some b ∧
      (((W.setCell ⟨N, 0, none⟩ a).setCell ⟨N, 1, none⟩ b).setCell ⟨N, 2, none⟩ c).cell? ⟨N, 2, none⟩ = some c := by
  obtain ⟨r0, r1, r2⟩ := faultCells (u := a) (v := b) (x := c) k
  exact ⟨lt_of_block k, Joins.cell_of_block k 0, Joins.cell_of_block k 1, Joins.cell_of_block k 2, Joins.unfrozen_of_block k 0, Joins.unfrozen_of_block k 1, Joins.unfrozen_of_block k 2, r0, r1, r2⟩
theorem flt_cells {W : World} {N : Nat} {a b c : Value} (k : W.heap[N]? = some (.cells #[a, b, c] 28 (0, 0))) : W.cell? ⟨N, 0, none⟩ = some a ∧ W.cell? ⟨N, 1, none⟩ = some b ∧ W.cell? ⟨N, 2, none⟩ = some c ∧ N < W.heap.size ∧ W.frozen? ⟨N, 0, none⟩ = false ∧ W.frozen? ⟨N, 1, none⟩ = false ∧ W.frozen? ⟨N, 2, none⟩ = false :=
  ⟨Joins.cell_of_block k 0, Joins.cell_of_block k 1, Joins.cell_of_block k 2, lt_of_block k, Joins.unfrozen_of_block k 0, Joins.unfrozen_of_block k 1, Joins.unfrozen_of_block k 2⟩
theorem below3 {B : Nat} {w W : World} (h : Below B w W) {N : Nat} (hN : B ≤ N) (a b c : Value) : Below B w (((W.setCell ⟨N, 0, none⟩ a).setCell ⟨N, 1, none⟩ b).setCell ⟨N, 2, none⟩ c) := ((h.setCell hN _).setCell hN _).setCell hN _
theorem flt_store {W : World} {N : Nat} {x y z : Value} (k : W.heap[N]? = some (.cells #[x, y, z] 28 (0, 0))) (a b c : Value) :
    Turns 28 W (((W.setCell ⟨N, 0, none⟩ a).setCell ⟨N, 1, none⟩ b).setCell ⟨N, 2, none⟩ c) ∧ (((W.setCell ⟨N, 0, none⟩ a).setCell ⟨N, 1, none⟩ b).setCell ⟨N, 2, none⟩ c).heap[N]? = some (.cells #[a, b, c] 28 (0, 0)) := by
  have b1 := Joins.block_setCell (i := 0) k a
  have b2 := Joins.block_setCell (i := 1) b1 b
  exact ⟨((Turns.setCell k 0 a).trans (Turns.setCell b1 1 b)).trans (Turns.setCell b2 2 c), Joins.block_setCell b2 c⟩
/-- What part says, its values apart. -/
def PartIs (n : Nat) (R : (List UInt8 × Nat) ⊕ Nat) (ps : ByteArray) (cc e0 l0 k0 : Nat) : Prop :=
  (R = .inl (ps.data.toList, cc) ∧ e0 = 0 ∧ l0 = 0 ∧ k0 = 0) ∨ (∃ col, R = .inr col ∧ e0 = 4 ∧ l0 = n ∧ k0 = col)
theorem part_is (n : Nat) (R : (List UInt8 × Nat) ⊕ Nat) : ∃ (ps : ByteArray) (cc e0 l0 k0 : Nat), partV n R = .tuple #[.string ps, .int .i64 cc, .agg #[.int .i64 e0, .int .i64 l0, .int .i64 k0]] ∧ PartIs n R ps cc e0 l0 k0 := by
  cases R with
  | inl x => exact ⟨strL x.1, x.2, 0, 0, 0, rfl, .inl ⟨rfl, rfl, rfl, rfl⟩⟩
  | inr col => exact ⟨⟨#[]⟩, 0, 4, n, col, rfl, .inr ⟨col, rfl, rfl, rfl, rfl⟩⟩
/-- The marks of a card with one more part. -/
def plusM (c : Kard) (P : List UInt8) (n cc : Nat) : Kard := { c with marks := (c.plus P n cc).marks }
theorem plusM_nil (c : Kard) (n cc : Nat) : plusM c [] n cc = c := by simp [plusM, Kard.plus]
theorem plusM_some (c : Kard) (P : List UInt8) (n cc : Nat) (h : P ≠ []) : plusM c P n cc = { c with marks := c.marks ++ [(c.text.length, n, cc)] } := by simp [plusM, Kard.plus, h]
/-- The state behind the call of part and the store of its fault. -/
structure Aft (w w1 w2 : World) (Wm : Nat) (ap : Nat × Nat) (ov mv : Value) (D : List (Kard × Value)) (c : Kard) (n : Nat) (m : UInt8) (tt : ByteArray) (e0 l0 k0 : Nat) (wx : World) : Prop where
  rd : R2C w.heap.size (w.heap.size + 1) Wm ap ov mv D c wx
  row : wx.heap[w2.heap.size]? = some (.cells #[.int .i64 n, .int .u8 m.toNat, .string tt] 63 (0, 0))
  flt : wx.heap[w2.heap.size + 1]? = some (.cells #[.int .i64 e0, .int .i64 l0, .int .i64 k0] 28 (0, 0))
  fs : Fs w1 wx
  below : Below w.heap.size w wx
theorem Aft.below5 {w w1 w2 : World} {Wm : Nat} {ap : Nat × Nat} {ov mv : Value} {D : List (Kard × Value)} {c : Kard} {n : Nat} {m : UInt8} {tt : ByteArray} {e0 l0 k0 : Nat} {wx w5 : World} (h : Aft w w1 w2 Wm ap ov mv D c n m tt e0 l0 k0 wx) (hb : Below wx.heap.size wx w5) :
    Aft w w1 w2 Wm ap ov mv D c n m tt e0 l0 k0 w5 :=
  ⟨h.rd.below hb, (hb.block _ (lt_of_block h.row)).trans h.row, (hb.block _ (lt_of_block h.flt)).trans h.flt, h.fs.trans (Fs.of_below hb), h.below.trans (hb.mono h.below.size)⟩
theorem Aft.store {w w1 w2 : World} {Wm : Nat} {ap : Nat × Nat} {ov mv : Value} {D : List (Kard × Value)} {c : Kard} {n : Nat} {m : UInt8} {tt : ByteArray} {e0 l0 k0 : Nat} {w5 : World} (h : Aft w w1 w2 Wm ap ov mv D c n m tt e0 l0 k0 w5)
    (h12 : w1.heap.size ≤ w2.heap.size) (h02 : w.heap.size ≤ w2.heap.size) (e l k : Nat) :
    Aft w w1 w2 Wm ap ov mv D c n m tt e l k (((w5.setCell ⟨w2.heap.size + 1, 0, none⟩ (.int .i64 e)).setCell ⟨w2.heap.size + 1, 1, none⟩ (.int .i64 l)).setCell ⟨w2.heap.size + 1, 2, none⟩ (.int .i64 k)) := by
  obtain ⟨hT, hk⟩ := flt_store h.flt (.int .i64 e) (.int .i64 l) (.int .i64 k)
  exact ⟨h.rd.turnsF hT, hT.block _ _ _ _ h.row (by decide), hk, ((h.fs.newCell (by omega) _ _).newCell (by omega) _ _).newCell (by omega) _ _, below3 h.below (by omega) _ _ _⟩
def curOpen (r : ReadAt) : Bool := match r.cur with | none => false | some c => openB c.text
def curNone (r : ReadAt) : Bool := match r.cur with | none => true | some _ => false
theorem S2At.sl {B LB : Nat} {r : ReadAt} {ov : Value} {w : World} (h : S2At B LB r ov w) : ∃ oa cap, ov = .slice oa r.all.length cap := by
  rcases h with ⟨h1, h2, h3, h4⟩ | ⟨c, Wm, mv, D, h1, h2, h5⟩
  · exact ⟨none, 0, by simp [ReadAt.all, h1, h2, h3]⟩
  · obtain ⟨a, cap, h⟩ := own_sl h5.cards
    exact ⟨a, cap, by rw [h]; simp [ReadAt.all, h1, ← h2]⟩
/-- A row that begins a card, and may. -/
theorem begin_case {B LB : Nat} {r : ReadAt} {ov : Value} {w : World} (h : S2At B LB r ov w) (m : UInt8) (t : List UInt8) (n : Nat) (hm : m.toNat = 32) (ho : curOpen r = false) :
    ∃ D, R2N B LB r.at_ ov D w ∧ readRow r m t n = putRow (D.map Prod.fst) ⟨decide (fstN t < 4), [], []⟩ t n true ∧ D.length = r.all.length := by
  rcases h with ⟨h1, h2, h3, h4⟩ | ⟨c, Wm, mv, D, h1, h2, h5⟩
  · refine ⟨[], h4, ?_, by simp [ReadAt.all, h1, h2]⟩
    unfold readRow
    rw [if_pos hm, h1, h2]
    rfl
  · refine ⟨_, h5.done, ?_, by simp [ReadAt.all, h1, ← h2]⟩
    unfold curOpen at ho
    rw [h1] at ho
    unfold readRow
    rw [if_pos hm, h1]
    have ho' : ¬ openB c.text = true := by rw [show openB c.text = false from ho]; decide
    show (if openB c.text = true then _ else _) = _
    rw [if_neg ho', List.map_append, h2]
    rfl
theorem cont_case {B LB : Nat} {r : ReadAt} {ov : Value} {w : World} (h : S2At B LB r ov w) (m : UInt8) (t : List UInt8) (n : Nat) (hm : m.toNat ≠ 32) (ho : curNone r = false) :
    ∃ D c Wm mv, R2C B LB Wm r.at_ ov mv D c w ∧ readRow r m t n = putRow (D.map Prod.fst) c t n false ∧ D.length + 1 = r.all.length ∧ c ∈ r.all := by
  rcases h with ⟨h1, h2, h3, h4⟩ | ⟨c, Wm, mv, D, h1, h2, h5⟩
  · unfold curNone at ho; rw [h1] at ho; cases ho
  · refine ⟨D, c, Wm, mv, h5, ?_, by simp [ReadAt.all, h1, ← h2], by simp [ReadAt.all, h1]⟩
    unfold readRow
    rw [if_neg hm, h1, h2]
theorem open_row {r : ReadAt} {m : UInt8} (t : List UInt8) (n : Nat) (hm : m.toNat = 32) (ho : curOpen r = true) : readRow r m t n = .inl (4, r.at_.1, r.at_.2) := by
  unfold curOpen at ho
  unfold readRow
  rw [if_pos hm]
  cases hc : r.cur with
  | none => rw [hc] at ho; cases ho
  | some c => rw [hc] at ho; show (if openB c.text = true then _ else _) = _; rw [if_pos ho]
theorem none_row {r : ReadAt} {m : UInt8} (t : List UInt8) (n : Nat) (hm : m.toNat ≠ 32) (ho : curNone r = true) : readRow r m t n = .inl (6, n, 7) := by
  unfold curNone at ho
  unfold readRow
  rw [if_neg hm]
  cases hc : r.cur with
  | none => rfl
  | some c => rw [hc] at ho; cases ho
theorem S2At.last {B LB : Nat} {r : ReadAt} {ov : Value} {w : World} (h : S2At B LB r ov w) : w.heap[LB]? = some (.cells #[.int .i64 r.at_.1, .int .i64 r.at_.2] 26 (0, 0)) := by
  rcases h with ⟨h1, h2, h3, h4⟩ | ⟨c, Wm, mv, D, h1, h2, h5⟩
  · exact h4.last
  · exact h5.last
theorem pos_cells {W : World} {N : Nat} {a b : Value} (k : W.heap[N]? = some (.cells #[a, b] 26 (0, 0))) : W.cell? ⟨N, 0, none⟩ = some a ∧ W.cell? ⟨N, 1, none⟩ = some b ∧ N < W.heap.size ∧ W.frozen? ⟨N, 0, none⟩ = false ∧ W.frozen? ⟨N, 1, none⟩ = false :=
  ⟨Joins.cell_of_block k 0, Joins.cell_of_block k 1, lt_of_block k, Joins.unfrozen_of_block k 0, Joins.unfrozen_of_block k 1⟩
theorem row_cells {W : World} {N : Nat} {a b c : Value} (k : W.heap[N]? = some (.cells #[a, b, c] 63 (0, 0))) : W.cell? ⟨N, 0, none⟩ = some a ∧ W.cell? ⟨N, 1, none⟩ = some b ∧ W.cell? ⟨N, 2, none⟩ = some c ∧ N < W.heap.size :=
  ⟨Joins.cell_of_block k 0, Joins.cell_of_block k 1, Joins.cell_of_block k 2, lt_of_block k⟩
/-- The world behind a row's two new blocks. -/
structure Two (w w1 w2 w3 : World) (r : ReadAt) (ov : Value) (n : Nat) (m : UInt8) (tt : ByteArray) : Prop where
  st : S2At w.heap.size (w.heap.size + 1) r ov w3
  fs : Fs w1 w3
  below : Below w.heap.size w w3
  row : w3.heap[w2.heap.size]? = some (.cells #[.int .i64 n, .int .u8 m.toNat, .string tt] 63 (0, 0))
  flt : w3.heap[w2.heap.size + 1]? = some (.cells #[.int .i64 0, .int .i64 0, .int .i64 0] 28 (0, 0))
theorem two_of {w w1 wr w2 : World} {r : ReadAt} {ov : Value} (hR : S2At w.heap.size (w.heap.size + 1) r ov wr) (hF : Fs w1 wr) (hB : Below w.heap.size w wr) (hb : Below wr.heap.size wr w2) (n : Nat) (m : UInt8) (tt : ByteArray) :
    Two w w1 w2 ((w2.alloc (.cells #[.int .i64 n, .int .u8 m.toNat, .string tt] 63)).alloc (.cells #[.int .i64 0, .int .i64 0, .int .i64 0] 28)) r ov n m tt := by
  have h2 := hb.size
  have h3 := hB.size
  have hx : Below wr.heap.size wr ((w2.alloc (.cells #[.int .i64 n, .int .u8 m.toNat, .string tt] 63)).alloc (.cells #[.int .i64 0, .int .i64 0, .int .i64 0] 28)) := (hb.alloc h2 _).alloc (by simp; omega) _
  refine ⟨hR.kept hx.size hx.block, hF.trans (Fs.of_below hx), hB.trans (hx.mono h3), ?_, alloc_at5 _ _ _ (by simp)⟩
  exact (Below.heap_alloc _ _ _ (by simp)).trans (alloc_at5 _ _ _ rfl)
theorem Aft.setLast {w w1 w2 : World} {Wm : Nat} {ap : Nat × Nat} {ov mv : Value} {D : List (Kard × Value)} {c : Kard} {n : Nat} {m : UInt8} {tt : ByteArray} {e0 l0 k0 : Nat} {wx : World} (h : Aft w w1 w2 Wm ap ov mv D c n m tt e0 l0 k0 wx) (l k : Nat) :
    Aft w w1 w2 Wm (l, k) ov mv D c n m tt e0 l0 k0 ((wx.setCell ⟨w.heap.size + 1, 0, none⟩ (.int .i64 l)).setCell ⟨w.heap.size + 1, 1, none⟩ (.int .i64 k)) := by
  have r1 := Joins.block_setCell (i := 0) h.rd.last (.int .i64 l)
  have hT := (Turns.setCell h.rd.last 0 (.int .i64 l)).trans (Turns.setCell r1 1 (.int .i64 k))
  exact ⟨h.rd.setLast l k, hT.block _ _ _ _ h.row (by decide), hT.block _ _ _ _ h.flt (by decide), h.rd.setLastFs h.fs l k, h.rd.setLastBelow h.below _ _⟩
theorem put_fault {D : List Kard} {c : Kard} {t : List UInt8} {n col : Nat} {b : Bool} (h : rpart t c.text b = .inr col) : putRow D c t n b = .inl (4, n, col) := by unfold putRow; rw [h]
theorem put_good {D : List Kard} {c : Kard} {t P : List UInt8} {n col : Nat} {b : Bool} (h : rpart t c.text b = .inl (P, col)) : putRow D c t n b = .inr ⟨D, some (c.plus P n col), (n, col)⟩ := by unfold putRow; rw [h]
theorem r2_fault {s : List UInt8} {debug : Bool} {n : Nat} {k : Nat} {r : ReadAt} {p : List UInt8} {f : Nat × Nat × Nat}
    (hs : readFrom debug r k ((linesB s).drop k) = readB s debug)
    (hst : readFrom debug r k ((linesB s).drop k) = match readLine debug r p n with | .inl f => .inl f | .inr r' => readFrom debug r' n ((linesB s).drop n))
    (he : readLine debug r p n = .inl f) : readB s debug = .inl f := by
  rw [he] at hst
  rw [← hs, hst]
theorem r2_step {s : List UInt8} {debug : Bool} {PL n : Nat} {w w1 wx : World} {ov : Value} {k : Nat} {r r' : ReadAt} {p : List UInt8} (hk : k < PL) (hn : n = k + 1)
    (hs : readFrom debug r k ((linesB s).drop k) = readB s debug)
    (hst : readFrom debug r k ((linesB s).drop k) = match readLine debug r p n with | .inl f => .inl f | .inr r' => readFrom debug r' n ((linesB s).drop n))
    (he : readLine debug r p n = .inr r') (h1 : S2At w.heap.size (w.heap.size + 1) r' ov wx) (h2 : Fs w1 wx) (h3 : Below w.heap.size w wx) (hb : Bnd r k) : R2Rel s debug PL w w1 ov (.int .i64 ((k : Int) + 1)) wx := by
  subst hn
  refine ⟨k + 1, r', by omega, by simp, ?_, h1, h2, h3, row_bnd (u := true) hb ((readLineU_true _ _ _ _).trans he)⟩
  rw [he] at hst
  rw [← hs, hst]
theorem far_off {w : World} {g a b : Nat} {v u : Value} (hne : a ≠ b) (h : w.cell? ⟨g, b, none⟩ = some u) : (w.setCell ⟨g, a, none⟩ v).cell? ⟨g, b, none⟩ = some u :=
  (World.cell?_setCell_other _ _ _ _ (by intro e; injection e; omega)).trans h
theorem far_blk {w : World} {g k a b : Nat} {v u : Value} (hne : g ≠ k) (h : w.cell? ⟨k, b, none⟩ = some u) : (w.setCell ⟨g, a, none⟩ v).cell? ⟨k, b, none⟩ = some u :=
  (World.cell?_setCell_far _ _ _ _ hne).trans h
set_option maxHeartbeats 8000000 in
set_option maxRecDepth 100000 in
theorem r2Read (s : ByteArray) (debug : Bool) (hs : s.size ≤ 3000) (w : World) :
    Calls Tryd.prog 10 #[.string s, .bool debug] w (R2Post s.data.toList debug w) := by
  have HP : Hid (readB s.data.toList debug = readFrom debug ⟨[], none, (0, 0)⟩ 0 (linesB s.data.toList)) := by
    show _ = _
    unfold readB
    rw [if_neg (by rw [← size_data]; omega)]
  obtain ⟨PL, hPL⟩ : ∃ n, n = (linesB s.data.toList).length := ⟨_, rfl⟩
  have hPLn : PL ≤ 3000 := by
    have h1 := lines_le s.data.toList []
    rw [if_pos rfl] at h1
    have h3 : (linesB s.data.toList).length ≤ s.data.toList.length := h1
    rw [← size_data] at h3
    omega
  have HPL := Lib.hid hPL
  have HLE : Hid (∀ x ∈ linesB s.data.toList, x.length ≤ s.size) := fun x hx => by
    have := line_le _ _ x hx
    rw [size_data]; simpa using this
  clear hPL
  go_enter Tryd.func10, Tryd.ntmps10
  go_wp2_with fail
  refine (r2lines s (by omega) _).mono ?_
  rintro e w1 ⟨v, rfl, ho, hb⟩
  have hst := start2_of w w1 v _ _ ho hb
  clear ho hb
  rw [← HPL.out] at hst
  obtain ⟨la, lcap, rfl⟩ := own_sl hst.str
  have HST := Lib.hid hst
  clear hst
  go_wp2_with fail
  go_loopw [6, 9] (fun ov i wr => R2Rel s.data.toList debug PL w w1 ov i wr) (fun _ i _ => PL - (intOf i).toNat)
  case atStart =>
    exact ⟨0, ⟨[], none, (0, 0)⟩, Nat.zero_le _, rfl, HP.out.symm, .inl ⟨rfl, rfl, rfl, HST.out.rd⟩, Fs.refl _, HST.out.below, ⟨by simp [ReadAt.all], fun c hc => by simp [ReadAt.all] at hc⟩⟩
  case round =>
    obtain ⟨k, r, hk, rfl, hS, hR, hF, hB, hBD⟩ := hrel
    have HS := Lib.hid hS; have HR := Lib.hid hR; have HF := Lib.hid hF; have HB := Lib.hid hB; have HBD := Lib.hid hBD
    clear hS hR hF hB hBD
    have hlt1 := lt_of_block (HF.out.block _ _ _ _ HST.out.res (.inr (.inl rfl)))
    by_cases hlt : k < PL
    --T<
    · obtain ⟨l, hl⟩ : ∃ l, (linesB s.data.toList)[k]? = some l := ⟨_, List.getElem?_eq_getElem (by rw [← HPL.out]; exact hlt)⟩
      have HST2 := Lib.hid (readFrom_step debug r _ k _ hl)
      have hln := HLE.out l (List.mem_of_getElem? hl)
      obtain ⟨p, hp, hps, HPS⟩ := strVar l
      have HPD : Hid (p.data.toList = l) := by show _ = _; rw [hp]; rfl
      obtain ⟨g, cap2, hsl, _, hg0, hg1⟩ := own_form HST.out.str (by omega)
      injection hsl with hsl1 hsl2 hsl3
      subst hsl1; subst hsl3
      have hc : wr.cell? ⟨g, k, none⟩ = some (.string p) := own_at (own_fs HST.out.str HF.out) k _ (by rw [hp]; simp [valsS, hl])
      clear hl hp
      rw [← HPD.out] at HST2
      have hpl : p.size ≤ 3000 := by omega
      clear hps hln
      go_wp2_with fail
      obtain ⟨n, hn⟩ : ∃ n : Nat, n = k + 1 := ⟨_, rfl⟩
      have hni : (k : Int) + 1 = (n : Int) := by omega
      rw [hni]
      rw [← hn] at HST2
      have HN := Lib.hid hn
      have hnb : n ≤ 3000 := by omega
      clear hni hn
      refine (r2row p n debug (by omega) (by omega) (by omega) _).mono ?_
      rintro e w2 ⟨rfl, hb2⟩
      have hsay := lineIs_says p.data.toList n debug
      have HB2 := Lib.hid hb2
      clear hb2
      have HLN : Hid (readLine debug r p.data.toList n = match lineIs p.data.toList n debug with | .bad e l c => .inl (e, l, c) | .off => .inr r | .row m t => readRow r m t n) := rfl
      cases hli : lineIs p.data.toList n debug with
      | bad e0 l0 c0 =>
        rw [hli] at hsay HLN
        obtain ⟨⟨nn, m, t, hv⟩, hne⟩ := hsay
        rw [hv]
        have HV := Lib.hid (r2_fault HS.out HST2.out HLN.out)
        clear hv hli
        have hE : ((e0 : Int) == 0) = false := by simp; omega
        unfold rowA faultV
        go_wp2_with fail
        have k3 : ((w2.alloc (.cells #[.int .i64 nn, .int .u8 m.toNat, .string (strL t)] 63)).alloc (.cells #[.int .i64 e0, .int .i64 l0, .int .i64 c0] 28)).heap[w2.heap.size + 1]? = some (.cells #[.int .i64 e0, .int .i64 l0, .int .i64 c0] 28 (0, 0)) := alloc_at5 _ _ _ (by simp)
        have hlt2 : w.heap.size < w2.heap.size := Nat.lt_of_lt_of_le hlt1 HB2.out.size
        have hbw : Below w.heap.size w ((w2.alloc (.cells #[.int .i64 nn, .int .u8 m.toNat, .string (strL t)] 63)).alloc (.cells #[.int .i64 e0, .int .i64 l0, .int .i64 c0] 28)) := ((HB.out.trans (HB2.out.mono HB.out.size)).alloc (by omega) _).alloc (by simp; omega) _
        have hfw : Fs w1 ((w2.alloc (.cells #[.int .i64 nn, .int .u8 m.toNat, .string (strL t)] 63)).alloc (.cells #[.int .i64 e0, .int .i64 l0, .int .i64 c0] 28)) := (HF.out.trans (Fs.of_below HB2.out)).trans (Fs.of_below (((Below.refl _ _).alloc (Nat.le_refl _) _).alloc (by simp) _))
        obtain ⟨w3, hw3⟩ : ∃ w3, w3 = ((w2.alloc (.cells #[.int .i64 nn, .int .u8 m.toNat, .string (strL t)] 63)).alloc (.cells #[.int .i64 e0, .int .i64 l0, .int .i64 c0] 28)) := ⟨_, rfl⟩
        rw [← hw3] at k3 hbw hfw ⊢
        clear hw3
        obtain ⟨y0, y1, y2, hy, _, _, _⟩ := flt_cells k3
        obtain ⟨hlt3, z0, z1, z2, f0, f1, f2, r0, r1, r2⟩ := res_facts (hfw.block _ _ _ _ HST.out.res (.inr (.inl rfl))) (.int .i64 e0) (.int .i64 l0) (.int .i64 c0)
        have HB3 := Lib.hid hbw
        clear k3 hbw hfw hc
        --S<
        go_region
        all_goals
          go_wp2_with fail
          refine bodyPost_ret (v := .tuple #[.slice none 0 0, faultN e0 l0 c0]) (by simp [results, Tryd.results10, go_sem, r0, r1, r2, faultN, hlt3]) rfl ⟨(below3 HB3.out (Nat.le_refl _) _ _ _).drew, ?_⟩
          rw [HV.out]
        --S>
      | off =>
        rw [hli] at hsay HLN
        obtain ⟨nn, m, t, hv⟩ := hsay
        rw [hv]
        clear hv hli
        have HX : Hid (∀ wx, Below w2.heap.size w2 wx → S2At w.heap.size (w.heap.size + 1) r u6 wx ∧ Fs w1 wx ∧ Below w.heap.size w wx) := fun wx hx => by
          have hb := HB2.out.trans (hx.mono HB2.out.size)
          exact ⟨HR.out.kept hb.size hb.block, HF.out.trans (Fs.of_below hb), HB.out.trans (hb.mono HB.out.size)⟩
        --S<
        unfold rowA faultV
        go_wp2_with fail
        go_roundw
        case rel =>
          obtain ⟨h1, h2, h3⟩ := HX.out _ (((Below.refl _ _).alloc (Nat.le_refl _) (.cells #[.int .i64 nn, .int .u8 m.toNat, .string (strL t)] 63)).alloc (by simp) (.cells #[.int .i64 0, .int .i64 0, .int .i64 0] 28))
          exact r2_step hlt HN.out HS.out HST2.out HLN.out h1 h2 h3 HBD.out
        case measure => simp [intOf]; omega
        --S>
      | row m t =>
        rw [hli] at hsay HLN
        obtain ⟨hv, htl, htf, hm⟩ := hsay
        rw [hv]
        obtain ⟨tt, htt, _, _⟩ := strVar t
        have HTT : Hid (tt.data.toList = t) := by show _ = _; rw [htt]; rfl
        obtain ⟨oa, ocap, rfl⟩ := HR.out.sl
        have hall := HBD.out.all
        obtain ⟨bg, hbg⟩ : ∃ b : Bool, b = ((m.toNat : Int) == 32) := ⟨_, rfl⟩
        have hTW := two_of HR.out HF.out HB.out HB2.out n m tt
        unfold rowA faultV
        rw [← htt]
        have hTL : tt.size = 65 := by rw [size_data, HTT.out]; exact htl
        clear hv hli htt hc
        go_upto_region 15 with fail
        rw [← hbg]
        have HBG : Hid ((bg = true → m.toNat = 32) ∧ (bg = false → m.toNat ≠ 32)) := by
          show _ ∧ _
          rw [hbg]; simp; omega
        clear hbg hm
        have HA := Lib.hid HR.out
        obtain ⟨NC, hNC⟩ : ∃ q, q = r.all.length := ⟨_, rfl⟩
        rw [← hNC] at hTW hall ⊢
        have HNC := Lib.hid hNC
        clear hNC HR HA
        obtain ⟨w3, hw3⟩ : ∃ w3, w3 = ((w2.alloc (.cells #[.int .i64 n, .int .u8 m.toNat, .string tt] 63)).alloc (.cells #[.int .i64 0, .int .i64 0, .int .i64 0] 28)) := ⟨_, rfl⟩
        rw [← hw3] at hTW ⊢
        have HTW := Lib.hid hTW
        clear hTW hw3
        have HSM := Lib.hid (HBD.out.each)
        go_cut [67] (fun v wx => v = .bool (bg && curOpen r) ∧ wx = w3)
        case first =>
          rcases HTW.out.st with ⟨h1, h2, h3, h4⟩ | ⟨c, Wm, mv, D, h1, h2, h5⟩
          · obtain rfl : NC = 0 := by rw [HNC.out]; simp [ReadAt.all, h1, h2]
            have hco : curOpen r = false := by unfold curOpen; rw [h1]
            have HCO := Lib.hid hco
            clear h1 h2 h3 h4 hco
            cases bg
            · go_wp2
              go_meet
              exact ⟨by rw [HCO.out]; rfl, rfl⟩
            · go_wp2
              go_meet
              exact ⟨by rw [HCO.out]; rfl, rfl⟩
          · have hl : NC = D.length + 1 := by rw [HNC.out]; simp [ReadAt.all, h1, ← h2]
            have hco : curOpen r = openB c.text := by unfold curOpen; rw [h1]
            have HCO := Lib.hid hco
            clear hco
            have h5 : R2C w.heap.size (w.heap.size + 1) Wm r.at_ (.slice oa (D.length + 1) ocap) mv D c w3 := by rw [← hl]; exact h5
            obtain ⟨g2, cap3, he, hgc, hgB, hgw⟩ := h5.form
            injection he with he1 he2 he3
            subst he1; subst he3
            obtain ⟨hk0, hk1, hk2⟩ := h5.card
            have hi0 : IntKind.i64.wrap ((NC : Int) - 1) = (D.length : Int) := by
              rw [IntWalk.i64_in _ (by omega)]; omega
            have hn1 : D.length < NC := by omega
            have hn0 : (0 : Int) < NC := by omega
            have hct := (HSM.out c (by simp [ReadAt.all, h1])).1
            have hcz : (strL c.text).size ≤ 140737488355328 := by show c.text.length ≤ _; omega
            have HCZ := Lib.hid hcz
            clear h1 h2 h5 hcz hct hl
            cases bg
            · go_wp2
              go_meet
              exact ⟨by rw [HCO.out]; rfl, rfl⟩
            · go_wp2_with fail
              refine (r2open (strL c.text) HCZ.out _).mono ?_; rintro e w' ⟨rfl, rfl⟩
              go_wp2
              go_meet
              exact ⟨by rw [HCO.out]; rfl, rfl⟩
        case rest =>
        obtain ⟨rfl, hw⟩ := hcut
        rw [hw]
        clear hw
        obtain ⟨q, hq⟩ : ∃ q, q = (bg && curOpen r) := ⟨_, rfl⟩
        rw [← hq]
        have HQ := Lib.hid hq
        clear hq
        cases q
        case true =>
          have HV : Hid (readB s.data.toList debug = .inl (4, r.at_.1, r.at_.2)) := by
            have h1 := HQ.out
            cases bg
            · cases h1
            · exact r2_fault HS.out HST2.out (HLN.out.trans (open_row t n (HBG.out.1 rfl) h1.symm))
          obtain ⟨y0, y1, hy, _, _⟩ := pos_cells HTW.out.st.last
          obtain ⟨hlt3, z0, z1, z2, f0, f1, f2, r0, r1, r2⟩ := res_facts (HTW.out.fs.block _ _ _ _ HST.out.res (.inr (.inl rfl))) (.int .i64 4) (.int .i64 r.at_.1) (.int .i64 r.at_.2)
          --S<
          go_wp2_with fail
          go_region
          all_goals
            go_wp2_with fail
            refine bodyPost_ret (v := .tuple #[.slice none 0 0, faultN 4 r.at_.1 r.at_.2]) (by simp [results, Tryd.results10, go_sem, r0, r1, r2, faultN, hlt3]) rfl ⟨(below3 HTW.out.below (Nat.le_refl _) _ _ _).drew, ?_⟩
            rw [HV.out]
          --S>
        case false =>
        go_upto_region 17 with fail
        go_cut [75] (fun v wx => v = .bool (!bg && curNone r) ∧ wx = w3)
        case first =>
          rcases HTW.out.st with ⟨h1, h2, h3, h4⟩ | ⟨c, Wm, mv, D, h1, h2, h5⟩
          · have hco : curNone r = true := by unfold curNone; rw [h1]
            have hl : ((NC : Int) == 0) = true := by rw [HNC.out]; simp [ReadAt.all, h1, h2]
            have HCO := Lib.hid hco
            clear h1 h2 h3 h4 hco
            cases bg
            · go_wp2
              go_meet
              exact ⟨by rw [HCO.out]; rfl, rfl⟩
            · go_wp2
              go_meet
              exact ⟨by rw [HCO.out]; rfl, rfl⟩
          · have hco : curNone r = false := by unfold curNone; rw [h1]
            have hl : ((NC : Int) == 0) = false := by rw [HNC.out]; simp [ReadAt.all, h1]; omega
            have HCO := Lib.hid hco
            clear h1 h2 h5 hco
            cases bg
            · go_wp2
              go_meet
              exact ⟨by rw [HCO.out]; rfl, rfl⟩
            · go_wp2
              go_meet
              exact ⟨by rw [HCO.out]; rfl, rfl⟩
        case rest =>
        obtain ⟨rfl, hw⟩ := hcut
        rw [hw]
        clear hw
        obtain ⟨q, hq⟩ : ∃ q, q = (!bg && curNone r) := ⟨_, rfl⟩
        rw [← hq]
        have HQ2 := Lib.hid hq
        clear hq
        cases q
        case true =>
          have HV : Hid (readB s.data.toList debug = .inl (6, n, 7)) := by
            have h1 := HQ2.out
            cases bg
            · exact r2_fault HS.out HST2.out (HLN.out.trans (none_row t n (HBG.out.2 rfl) h1.symm))
            · cases h1
          obtain ⟨y0, y1, y2, hy⟩ := row_cells HTW.out.row
          obtain ⟨hlt3, z0, z1, z2, f0, f1, f2, r0, r1, r2⟩ := res_facts (HTW.out.fs.block _ _ _ _ HST.out.res (.inr (.inl rfl))) (.int .i64 6) (.int .i64 n) (.int .i64 7)
          --S<
          go_wp2_with fail
          go_region
          all_goals
            go_wp2_with fail
            refine bodyPost_ret (v := .tuple #[.slice none 0 0, faultN 6 n 7]) (by simp [results, Tryd.results10, go_sem, r0, r1, r2, faultN, hlt3]) rfl ⟨(below3 HTW.out.below (Nat.le_refl _) _ _ _).drew, ?_⟩
            rw [HV.out]
          --S>
        case false =>
        go_upto_if 80 with fail
        go_cut [6, 13] (fun v6 v13 wx => ∃ (D : List (Kard × Value)) (c : Kard) (Wm : Nat) (mv : Value) (g2 cap2 : Nat), v6 = .slice (some ⟨g2, 0, none⟩) (D.length + 1) cap2 ∧ v13 = .int .i64 (D.length + 1 : Nat) ∧
          Hid (R2C w.heap.size (w.heap.size + 1) Wm r.at_ (.slice (some ⟨g2, 0, none⟩) (D.length + 1) cap2) mv D c wx) ∧
          Hid (wx.heap[w2.heap.size]? = some (.cells #[.int .i64 n, .int .u8 m.toNat, .string tt] 63 (0, 0))) ∧
          Hid (wx.heap[w2.heap.size + 1]? = some (.cells #[.int .i64 0, .int .i64 0, .int .i64 0] 28 (0, 0))) ∧
          Hid (Fs w1 wx) ∧ Hid (Below w.heap.size w wx) ∧ D.length ≤ 3000 ∧ c.text.length ≤ 195000 ∧ c.marks.length ≤ 3000 ∧ Hid (readRow r m t n = putRow (D.map Prod.fst) c t n bg))
        case first =>
          cases bg
          · obtain ⟨D, c, Wm, mv, h5, hrr, hl, hmem⟩ := cont_case HTW.out.st m t n (HBG.out.2 rfl) HQ2.out.symm
            rw [← HNC.out] at hl
            have hsm := HSM.out c hmem
            have hdl : D.length ≤ 3000 := by omega
            have HL := Lib.hid hl
            have H5 := Lib.hid h5
            have HRR := Lib.hid hrr
            clear h5 hrr hmem hl
            go_wp2
            go_meet
            have h5 := H5.out
            rw [← HL.out] at h5
            obtain ⟨g2, cap3, he, hgc, hgB, hgw⟩ := h5.form
            injection he with he1 he2 he3
            subst he1; subst he3
            exact ⟨D, c, Wm, mv, g2, ocap, by rw [HL.out], by rw [HL.out], h5, HTW.out.row, HTW.out.flt, HTW.out.fs, HTW.out.below, by omega, by omega, by omega, HRR.out⟩
          · obtain ⟨D, hN, hrr, hl⟩ := begin_case HTW.out.st m t n (HBG.out.1 rfl) HQ.out.symm
            rw [← HNC.out] at hl
            have hdl : D.length ≤ 3000 := by omega
            rw [← hl] at hN
            obtain ⟨F, hF⟩ : ∃ F, F = fstN t := ⟨_, rfl⟩
            rw [← hF] at hrr htf
            have HFT : Hid (fstN tt.data.toList = F) := by show _ = _; rw [HTT.out, hF]
            obtain ⟨y0, y1, y2, hy⟩ := row_cells HTW.out.row
            obtain ⟨i0, hi, hy0, hy1, hy2⟩ := info_parts Tryd.infoCard
            have HW3 := Lib.hid ((Below.refl w3.heap.size w3).alloc (Nat.le_refl _) (.cells #[.bool (decide ((F : Int) < 4)), .string ⟨#[]⟩, .slice none 0 0] 34))
            have hN3 := hN.kept HW3.out.size HW3.out.block
            obtain ⟨v', w4, hrun, ho, hg, _, _⟩ := run_append_own_at (P := Tryd.prog) (w3.alloc (.cells #[.bool (decide ((F : Int) < 4)), .string ⟨#[]⟩, .slice none 0 0] 34)) w.heap.size 23 23 34 i0 _ 3 48 Tryd.underlying23 hi hy0 hy1 hy2 rfl (by decide) _ _ _ hN3.cards ⟨w3.heap.size, 0, none⟩ 1 1 [.bool (decide ((F : Int) < 4)), .string ⟨#[]⟩, .slice none 0 0] rfl
              (fun j x hj => by
                match j, hj with
                | 0, hj => simp at hj; subst hj; simp [Addr.add]
                | 1, hj => simp at hj; subst hj; simp [Addr.add]
                | 2, hj => simp at hj; subst hj; simp [Addr.add])
              (fun x hx => by simp at hx; rcases hx with rfl | rfl | rfl <;> rfl) (by unfold maxLen; omega) (by omega) (by simp; have := hN.bs; omega)
            have hC := hN.begin HW3.out ho hg
            have hfs := hN.beginFs (Fs.refl w3) HW3.out hg
            have hbe := hN.beginBelow HTW.out.below HW3.out hg
            obtain ⟨g2, cap3, he, hgc, hgB, hgw⟩ := hC.form
            subst he
            have hdec : decide ((F : Int) < 4) = decide (F < 4) := by rw [decide_eq_decide]; omega
            rw [hdec] at hC
            have HRUN := Lib.hid hrun; have HC := Lib.hid hC; have HFS := Lib.hid hfs; have HBE := Lib.hid hbe; have HRR := Lib.hid hrr; have HL := Lib.hid hl
            rw [← hl]
            clear hrun ho hg hC hfs hbe hrr hN hN3 hi hy0 hy1 hy2 hF hdec hl hgc
            go_wp2_with fail
            refine (r2first tt (by omega) _).mono ?_; rintro e w' ⟨rfl, rfl⟩
            rw [HFT.out]
            go_wp2_with (at_builtin; refine wp_append_run rfl (.tmp 81) (.tmp 87) _ rfl _ _ _ _ rfl rfl HRUN.out ?_)
            go_meet
            exact ⟨D, _, _, _, g2, cap3, rfl, rfl, HC.out, HFS.out.block _ _ _ _ HTW.out.row (.inl rfl), HFS.out.block _ _ _ _ HTW.out.flt (.inr (.inl rfl)), HTW.out.fs.trans HFS.out, HBE.out, hdl, by simp, by simp, HRR.out⟩
        case rest =>
        obtain ⟨D, c, Wm, mv, g2, cap2, rfl, rfl, HR5, HROW, HFLT, HF5, HB5, hDl, hct, hcm, HRR⟩ := hcut
        have HAF : Hid (Aft w w1 w2 Wm r.at_ (.slice (some ⟨g2, 0, none⟩) (D.length + 1) cap2) mv D c n m tt 0 0 0 wc) := ⟨HR5.out, HROW.out, HFLT.out, HF5.out, HB5.out⟩
        have h12 : w1.heap.size ≤ w2.heap.size := Nat.le_trans HF.out.size HB2.out.size
        have h02 : w.heap.size ≤ w2.heap.size := by have := HB2.out.size; omega
        clear HR5 HROW HFLT HF5 HB5 HTW HQ HQ2
        obtain ⟨g2', cap2', he, hgc, hgB, hgw⟩ := HAF.out.rd.form
        injection he with he1 he2 he3
        injection he1 with he1; injection he1 with he1; subst he1; subst he3
        obtain ⟨ct, hctt, hcts, HCS⟩ := strVar c.text
        have HCT : Hid (ct.data.toList = c.text) := by show _ = _; rw [hctt]; rfl
        obtain ⟨ps, cc, e0, l0, k0, hpv, hpi⟩ := part_is n (rpart t c.text bg)
        have HPART : Hid (∀ W, Calls Tryd.prog 30 #[.agg #[.int .i64 n, .int .u8 m.toNat, .string tt], .string ct, .bool bg] W fun e w' => e = .returned (.tuple #[.string ps, .int .i64 cc, .agg #[.int .i64 e0, .int .i64 l0, .int .i64 k0]]) ∧ Below W.heap.size W w') := fun W => by
          have := r2part n m.toNat tt ct bg hTL (by omega) (by rw [HTT.out]; exact htf) W
          rw [HTT.out, HCT.out, hpv] at this
          exact this
        have HPI := Lib.hid hpi
        have HCTV := Lib.hid hctt.symm
        clear hpv hpi
        obtain ⟨hk0, hk1, hk2⟩ := HAF.out.rd.card
        rw [← hctt] at hk1
        have hi0 : IntKind.i64.wrap (((D.length + 1 : Nat) : Int) - 1) = (D.length : Int) := by
          rw [IntWalk.i64_in _ (by omega)]; omega
        obtain ⟨x0, x1, x2, hx⟩ := row_cells HAF.out.row
        obtain ⟨y0, y1, y2, hy, yf0, yf1, yf2⟩ := flt_cells HAF.out.flt
        clear hctt
        go_upto_region 23 with fail
        go_cut [16, 17] (fun a b wx => a = .string ps ∧ b = .int .i64 cc ∧ Hid (Aft w w1 w2 Wm r.at_ (.slice (some ⟨g2, 0, none⟩) (D.length + 1) cap2) mv D c n m tt e0 l0 k0 wx))
        case first =>
          --S<
          go_region_with (go_at_call 30; refine (HPART.out _).mono ?_; rintro e w5 ⟨rfl, hb5⟩; have HB5 : Hid (Below wc.heap.size wc w5) := (by first | exact hb5 | exact ((Below.refl _ _).drew).trans hb5); have HAF5 := Lib.hid (HAF.out.below5 HB5.out); obtain ⟨z0, z1, z2, hz, zf0, zf1, zf2⟩ := flt_cells HAF5.out.flt; clear hb5)
          all_goals
            go_wp2_with fail
            go_meet
            exact ⟨rfl, rfl, HAF5.out.store h12 h02 e0 l0 k0⟩
          --S>
        case rest =>
        obtain ⟨rfl, rfl, HAF6⟩ := hcut
        clear hk0 hk1 hk2 hi0 x0 x1 x2 hx y0 y1 y2 hy yf0 yf1 yf2 HPART HAF hgw
        obtain ⟨hk0, hk1, hk2⟩ := HAF6.out.rd.card
        obtain ⟨x0, x1, x2, hx⟩ := row_cells HAF6.out.row
        obtain ⟨y0, y1, y2, hy, yf0, yf1, yf2⟩ := flt_cells HAF6.out.flt
        obtain ⟨p0, p1, pf0, pf1, hpl⟩ := HAF6.out.rd.lastCells
        rcases HPI.out with ⟨hrp, rfl, rfl, rfl⟩ | ⟨col, hrp, he0, hl0, hk0'⟩
        case inr =>
          subst he0; obtain rfl := hl0.symm; subst hk0'
          have HV : Hid (readB s.data.toList debug = .inl (4, n, k0)) := r2_fault HS.out HST2.out (HLN.out.trans (HRR.out.trans (put_fault hrp)))
          obtain ⟨hlt3, z0, z1, z2, f0, f1, f2, r0, r1, r2⟩ := res_facts (HAF6.out.fs.block _ _ _ _ HST.out.res (.inr (.inl rfl))) (.int .i64 4) (.int .i64 n) (.int .i64 k0)
          clear hrp
          go_wp2_with fail
          --S<
          go_region
          all_goals
            go_wp2_with fail
            refine bodyPost_ret (v := .tuple #[.slice none 0 0, faultN 4 n k0]) (by simp [results, Tryd.results10, go_sem, r0, r1, r2, faultN, hlt3]) rfl ⟨(below3 HAF6.out.below (Nat.le_refl _) _ _ _).drew, ?_⟩
            rw [HV.out]
          --S>
        case inl =>
          have HV : Hid (readLine debug r p.data.toList n = .inr ⟨D.map Prod.fst, some (c.plus ps.data.toList n cc), (n, cc)⟩) := HLN.out.trans (HRR.out.trans (put_good hrp))
          have hpz : ps.size ≤ 65 := by
            have := (rpart_le _ _ _ _ _ hrp).1
            rw [size_data]; omega
          have HA7 := Lib.hid (HAF6.out.setLast n cc)
          clear hrp
          go_upto_if 115 with fail
          obtain ⟨w7, hw7⟩ : ∃ w7, w7 = (wc.setCell ⟨w.heap.size + 1, 0, none⟩ (.int .i64 n)).setCell ⟨w.heap.size + 1, 1, none⟩ (.int .i64 cc) := ⟨_, rfl⟩
          rw [← hw7] at HA7 ⊢
          clear hw7 hk0 hk1 hk2 x0 x1 x2 hx y0 y1 y2 hy yf0 yf1 yf2 p0 p1 pf0 pf1 hpl HAF6
          obtain ⟨eb, heb⟩ : ∃ eb, eb = ps.toList.isEmpty := ⟨_, rfl⟩
          rw [← heb]
          have HEB := Lib.hid heb
          clear heb
          go_cut [16] (fun a wx => a = .string ps ∧ ∃ mv', Hid (R2C w.heap.size (w.heap.size + 1) Wm (n, cc) (.slice (some ⟨g2, 0, none⟩) (D.length + 1) cap2) mv' D (plusM c ps.data.toList n cc) wx) ∧ Hid (Fs w1 wx) ∧ Hid (Below w.heap.size w wx))
          case first =>
            cases eb
            case true =>
              have HE : Hid (ps.data.toList = []) := by show _ = _; rw [← ByteArray.toList_eq]; exact List.isEmpty_iff.1 HEB.out.symm
              go_wp2
              go_meet
              refine ⟨rfl, mv, ?_, HA7.out.fs, HA7.out.below⟩
              show R2C _ _ _ _ _ _ _ _ _
              rw [HE.out, plusM_nil]
              exact HA7.out.rd
            case false =>
              have HE : Hid (ps.data.toList ≠ []) := by
                show _ ≠ _
                rw [← ByteArray.toList_eq]
                intro h0
                have h1 := HEB.out
                rw [h0] at h1
                cases h1
              obtain ⟨hk0, hk1, hk2⟩ := HA7.out.rd.card
              have hkf := HA7.out.rd.cardFree (D.length * 3 + 2)
              obtain ⟨p0, p1, pf0, pf1, hpl⟩ := HA7.out.rd.lastCells
              obtain ⟨hgL, hmg, hml2⟩ := HA7.out.rd.ne
              have hg7 : g2 < w7.heap.size := by
                obtain ⟨_, _, hh⟩ := HA7.out.rd.kind
                exact lt_of_block hh
              have hg8 : g2 < w7.heap.size + 1 := by omega
              have hp8 : w.heap.size + 1 < w7.heap.size + 1 := by omega
              obtain ⟨i0, hi, hz0, hz1, hz2⟩ := info_parts Tryd.infoMark
              have hml : Hid (c.marks.length + 1 ≤ maxLen) := by show _ ≤ maxLen; unfold maxLen; omega
              rw [HCTV.out] at hk1
              have HFIN : Hid (∀ (W w6 : World) (gg cap' : Nat), w6.ownsRow Wm 58 3 (.slice (some ⟨gg, 0, none⟩) (c.marks.length + 1) cap') (c.marks.length + 1) (marksC c.marks ++ [.int .i64 ct.size, .int .i64 n, .int .i64 cc]) → W.grownBy w6 mv.ownBlock → Below w7.heap.size w7 W →
                  Hid (R2C w.heap.size (w.heap.size + 1) Wm (n, cc) (.slice (some ⟨g2, 0, none⟩) (D.length + 1) cap2) (.slice (some ⟨gg, 0, none⟩) (c.marks.length + 1) cap') D (plusM c ps.data.toList n cc) (w6.setCell ⟨g2, D.length * 3 + 2, none⟩ (.slice (some ⟨gg, 0, none⟩) (c.marks.length + 1) cap'))) ∧
                  Hid (Fs w1 (w6.setCell ⟨g2, D.length * 3 + 2, none⟩ (.slice (some ⟨gg, 0, none⟩) (c.marks.length + 1) cap'))) ∧ Hid (Below w.heap.size w (w6.setCell ⟨g2, D.length * 3 + 2, none⟩ (.slice (some ⟨gg, 0, none⟩) (c.marks.length + 1) cap')))) := fun W w6 gg cap' hown6 hgrow hb7 => by
                refine ⟨?_, HA7.out.rd.markFs HA7.out.fs hb7 hgrow, HA7.out.rd.markBelow HA7.out.below hb7 hgrow hgB⟩
                show R2C _ _ _ _ _ _ _ _ _
                rw [plusM_some _ _ _ _ HE.out, ← HCS.out]
                exact HA7.out.rd.mark (m := (ct.size, n, cc)) hb7 hown6 hgrow
              go_wp2_with fail
              have hkf1 := HA7.out.rd.cardFree (D.length * 3 + 1)
              have KEEP : Hid (∀ W, Below w7.heap.size w7 W → W.cell? ⟨g2, D.length * 3 + 1, none⟩ = some (.string ct) ∧ W.cell? ⟨g2, D.length * 3 + 2, none⟩ = some mv ∧ W.cell? ⟨w.heap.size + 1, 0, none⟩ = some (.int .i64 n) ∧ W.cell? ⟨w.heap.size + 1, 1, none⟩ = some (.int .i64 cc)) := fun W hW =>
                ⟨(hW.cell (p := ⟨g2, D.length * 3 + 1, none⟩) hg7).trans hk1, (hW.cell (p := ⟨g2, D.length * 3 + 2, none⟩) hg7).trans hk2, (hW.cell (p := ⟨w.heap.size + 1, 0, none⟩) hpl).trans p0, (hW.cell (p := ⟨w.heap.size + 1, 1, none⟩) hpl).trans p1⟩
              --S<
              refine wp_region_noPanic ?_
              refine upto_region (S := fun W => W.cell? ⟨g2, D.length * 3 + 1, none⟩ = some (.string ct) ∧ W.cell? ⟨g2, D.length * 3 + 2, none⟩ = some mv ∧ W.cell? ⟨w.heap.size + 1, 0, none⟩ = some (.int .i64 n) ∧ W.cell? ⟨w.heap.size + 1, 1, none⟩ = some (.int .i64 cc)) (z := 16) (by kernel_rfl) (KEEP.out _ (by go_grown)) (fun hHeld => ?_)
              refine upto_take (i := 0) (oi := { dst := some 116, op := Op.move (Operand.tmp 15), type := 67, pos := "ref.go:147", after := #[], guard := none }) (v := ?v0) rfl (by kernel_rfl) (by kernel_rfl) (by kernel_rfl) (by kernel_rfl) (fun _ _ _ h => h) (Or.inl ⟨by rfl, ?y0⟩) (by assumption) ?r0
              case y0 => (intro w8 hSw; (try dsimp only at hSw); go_simp; try (with_reducible rfl))
              try simp only [Act.put, List.setIfInBounds_toArray, List.set_cons_zero, List.set_cons_succ]
              refine upto_take (i := 1) (oi := { dst := some 117, op := Op.move (Operand.tmp 15), type := 67, pos := "ref.go:147", after := #[], guard := none }) (v := ?v1) rfl (by kernel_rfl) (by kernel_rfl) (by kernel_rfl) (by kernel_rfl) (fun _ _ _ h => h) (Or.inl ⟨by rfl, ?y1⟩) (by assumption) ?r1
              case y1 => (intro w8 hSw; (try dsimp only at hSw); go_simp; try (with_reducible rfl))
              try simp only [Act.put, List.setIfInBounds_toArray, List.set_cons_zero, List.set_cons_succ]
              refine upto_take (i := 2) (oi := { dst := some 118, op := Op.nilCheck (Operand.tmp 117), type := 0, pos := "ref.go:147", after := #[{ on := 1, ground := Ground.data }], guard := none }) (v := ?v2) rfl (by kernel_rfl) (by kernel_rfl) (by kernel_rfl) (by kernel_rfl) (fun _ _ _ h => h) (Or.inl ⟨by rfl, ?y2⟩) (by assumption) ?r2
              case y2 => (intro w8 hSw; (try dsimp only at hSw); go_simp; try (with_reducible rfl))
              try simp only [Act.put, List.setIfInBounds_toArray, List.set_cons_zero, List.set_cons_succ]
              refine upto_take (i := 3) (oi := { dst := some 119, op := Op.fieldAddr 34 (Operand.tmp 118) 2, type := 0, pos := "ref.go:147", after := #[{ on := 2, ground := Ground.data }], guard := none }) (v := ?v3) rfl (by kernel_rfl) (by kernel_rfl) (by kernel_rfl) (by kernel_rfl) (fun _ _ _ h => h) (Or.inl ⟨by rfl, ?y3⟩) (by assumption) ?r3
              case y3 => (intro w8 hSw; (try dsimp only at hSw); go_simp; try (with_reducible rfl))
              try simp only [Act.put, List.setIfInBounds_toArray, List.set_cons_zero, List.set_cons_succ]
              refine upto_take (i := 4) (oi := { dst := some 120, op := Op.load 32 (Operand.tmp 119), type := 32, pos := "ref.go:147", after := #[{ on := 3, ground := Ground.data }], guard := none }) (v := ?v4) rfl (by kernel_rfl) (by kernel_rfl) (by kernel_rfl) (by kernel_rfl) (fun _ _ _ h => h) (Or.inl ⟨by rfl, ?y4⟩) (by assumption) ?r4
              case y4 => (intro w8 hSw; (try dsimp only at hSw); go_simp; try (with_reducible rfl))
              try simp only [Act.put, List.setIfInBounds_toArray, List.set_cons_zero, List.set_cons_succ]
              refine upto_take (i := 5) (oi := { dst := some 121, op := Op.move (Operand.tmp 15), type := 67, pos := "ref.go:147", after := #[], guard := none }) (v := ?v5) rfl (by kernel_rfl) (by kernel_rfl) (by kernel_rfl) (by kernel_rfl) (fun _ _ _ h => h) (Or.inl ⟨by rfl, ?y5⟩) (by assumption) ?r5
              case y5 => (intro w8 hSw; (try dsimp only at hSw); go_simp; try (with_reducible rfl))
              try simp only [Act.put, List.setIfInBounds_toArray, List.set_cons_zero, List.set_cons_succ]
              refine upto_take (i := 6) (oi := { dst := some 122, op := Op.nilCheck (Operand.tmp 121), type := 0, pos := "ref.go:147", after := #[{ on := 5, ground := Ground.data }], guard := none }) (v := ?v6) rfl (by kernel_rfl) (by kernel_rfl) (by kernel_rfl) (by kernel_rfl) (fun _ _ _ h => h) (Or.inl ⟨by rfl, ?y6⟩) (by assumption) ?r6
              case y6 => (intro w8 hSw; (try dsimp only at hSw); go_simp; try (with_reducible rfl))
              try simp only [Act.put, List.setIfInBounds_toArray, List.set_cons_zero, List.set_cons_succ]
              refine upto_take (i := 7) (oi := { dst := some 123, op := Op.fieldAddr 34 (Operand.tmp 122) 1, type := 0, pos := "ref.go:147", after := #[{ on := 6, ground := Ground.data }], guard := none }) (v := ?v7) rfl (by kernel_rfl) (by kernel_rfl) (by kernel_rfl) (by kernel_rfl) (fun _ _ _ h => h) (Or.inl ⟨by rfl, ?y7⟩) (by assumption) ?r7
              case y7 => (intro w8 hSw; (try dsimp only at hSw); go_simp; try (with_reducible rfl))
              try simp only [Act.put, List.setIfInBounds_toArray, List.set_cons_zero, List.set_cons_succ]
              refine upto_take (i := 8) (oi := { dst := some 124, op := Op.load 9 (Operand.tmp 123), type := 9, pos := "ref.go:147", after := #[{ on := 7, ground := Ground.data }], guard := none }) (v := ?v8) rfl (by kernel_rfl) (by kernel_rfl) (by kernel_rfl) (by kernel_rfl) (fun _ _ _ h => h) (Or.inl ⟨by rfl, ?y8⟩) (by assumption) ?r8
              case y8 => (intro w8 hSw; (try dsimp only at hSw); go_simp; try (with_reducible rfl))
              try simp only [Act.put, List.setIfInBounds_toArray, List.set_cons_zero, List.set_cons_succ]
              refine upto_take (i := 9) (oi := { dst := some 125, op := Op.call { callee := Callee.builtin Builtin.len, args := #[Operand.tmp 124], argTypes := #[9] }, type := 3, pos := "ref.go:147", after := #[{ on := 8, ground := Ground.data }], guard := none }) (v := ?v9) rfl (by kernel_rfl) (by kernel_rfl) (by kernel_rfl) (by kernel_rfl) (fun _ _ _ h => h) (Or.inl ⟨by rfl, ?y9⟩) (by assumption) ?r9
              case y9 => (intro w8 hSw; (try dsimp only at hSw); go_simp; try (with_reducible rfl))
              try simp only [Act.put, List.setIfInBounds_toArray, List.set_cons_zero, List.set_cons_succ]
              refine upto_take (i := 10) (oi := { dst := some 126, op := Op.load 26 (Operand.tmp 7), type := 26, pos := "ref.go:147", after := #[], guard := none }) (v := ?v10) rfl (by kernel_rfl) (by kernel_rfl) (by kernel_rfl) (by kernel_rfl) (fun _ _ _ h => h) (Or.inl ⟨by rfl, ?y10⟩) (by assumption) ?r10
              case y10 => (intro w8 hSw; (try dsimp only at hSw); go_simp; try (with_reducible rfl))
              try simp only [Act.put, List.setIfInBounds_toArray, List.set_cons_zero, List.set_cons_succ]
              refine upto_take (i := 11) (oi := { dst := some 127, op := Op.build 58 #[(0, Operand.tmp 125), (1, Operand.tmp 126)], type := 58, pos := "ref.go:147", after := #[{ on := 9, ground := Ground.data }, { on := 10, ground := Ground.data }], guard := none }) (v := ?v11) rfl (by kernel_rfl) (by kernel_rfl) (by kernel_rfl) (by kernel_rfl) (fun _ _ _ h => h) (Or.inl ⟨by rfl, ?y11⟩) (by assumption) ?r11
              case y11 => (intro w8 hSw; (try dsimp only at hSw); go_simp; try (with_reducible rfl))
              try simp only [Act.put, List.setIfInBounds_toArray, List.set_cons_zero, List.set_cons_succ]
              clear hHeld
              refine upto_one (i := 12) (o := { dst := some 128, op := Op.buildSlice 32 1 #[(0, Operand.tmp 127)], type := 32, pos := "ref.go:147", after := #[{ on := 11, ground := Ground.data }], guard := none }) (by kernel_rfl) rfl (fun K hK => ?_)
              go_simp
              refine hK.out _ _ (fun _ => KEEP.out _ (by go_grown)) (fun hHeld => ?_)
              replace hHeld := hHeld (by decide)
              clear hK K
              try simp only [Act.put, List.setIfInBounds_toArray, List.set_cons_zero, List.set_cons_succ]
              clear hHeld
              refine upto_one (i := 13) (o := { dst := some 129, op := Op.call { callee := Callee.builtin Builtin.append, args := #[Operand.tmp 120, Operand.tmp 128], argTypes := #[32, 32] }, type := 32, pos := "ref.go:147", after := #[{ on := 4, ground := Ground.data }, { on := 12, ground := Ground.data }], guard := none }) (by kernel_rfl) rfl (fun K hK => ?_)
              refine step_append_lies _ (by rfl) (.tmp 120) (.tmp 128) 32 (by rfl) Wm 58 i0 _ 3 24 Tryd.underlying32 hi hz0 hz1 hz2 rfl (by omega) mv c.marks.length (marksC c.marks) (by rfl) (own_kept HA7.out.rd.marks (Below.block (B := w7.heap.size) (w := w7) (by go_grown))) ⟨w7.heap.size, 0, none⟩ 1 1 [.int .i64 ct.size, .int .i64 n, .int .i64 cc] (by rfl) (by rfl) (World.news_of_block (cs := #[.int .i64 ct.size, .int .i64 n, .int .i64 cc]) (t := 58) (fr := (0, 0)) (alloc_new_at _ _ _ (by simp))) (by simp [Value.oneCell']) (by omega) hml.out (by omega) (Nat.le_trans HA7.out.rd.ws (Below.size (B := w7.heap.size) (w := w7) (by go_grown))) (w7.heap.size + 1) (by simp) ?_
              intro gg cap' w6 hown6 hgrow hat hlt
              obtain ⟨hk6, hkf6⟩ := farCell (w := w7) (by go_grown) hgrow hmg hg7 hk2 hkf
              obtain ⟨hj1, _⟩ := farCell (w := w7) (by go_grown) hgrow hmg hg7 hk1 hkf1
              obtain ⟨hj2, _⟩ := farCell (w := w7) (by go_grown) hgrow hml2 hpl p0 pf0
              obtain ⟨hj3, _⟩ := farCell (w := w7) (by go_grown) hgrow hml2 hpl p1 pf1
              refine hK.out _ _ (fun _ => ⟨hj1, hk6, hj2, hj3⟩) (fun hHeld => ?_)
              replace hHeld := hHeld (by decide)
              clear hK K
              try simp only [Act.put, List.setIfInBounds_toArray, List.set_cons_zero, List.set_cons_succ]
              clear hHeld
              refine upto_one (i := 14) (o := { dst := some 130, op := Op.nilCheck (Operand.tmp 116), type := 0, pos := "ref.go:147", after := #[{ on := 0, ground := Ground.data }, { on := 0, ground := Ground.phase }, { on := 1, ground := Ground.phase }, { on := 2, ground := Ground.phase }, { on := 3, ground := Ground.phase }, { on := 4, ground := Ground.phase }, { on := 5, ground := Ground.phase }, { on := 6, ground := Ground.phase }, { on := 7, ground := Ground.phase }, { on := 8, ground := Ground.phase }, { on := 9, ground := Ground.phase }, { on := 10, ground := Ground.phase }, { on := 11, ground := Ground.phase }, { on := 12, ground := Ground.phase }, { on := 13, ground := Ground.phase }], guard := none }) (by kernel_rfl) rfl (fun K hK => ?_)
              go_simp
              refine hK.out _ _ (fun _ => ⟨hj1, hk6, hj2, hj3⟩) (fun hHeld => ?_)
              replace hHeld := hHeld (by decide)
              clear hK K
              try simp only [Act.put, List.setIfInBounds_toArray, List.set_cons_zero, List.set_cons_succ]
              refine upto_take (i := 15) (oi := { dst := some 131, op := Op.fieldAddr 34 (Operand.tmp 130) 2, type := 0, pos := "ref.go:147", after := #[{ on := 14, ground := Ground.data }, { on := 0, ground := Ground.phase }, { on := 1, ground := Ground.phase }, { on := 2, ground := Ground.phase }, { on := 3, ground := Ground.phase }, { on := 4, ground := Ground.phase }, { on := 5, ground := Ground.phase }, { on := 6, ground := Ground.phase }, { on := 7, ground := Ground.phase }, { on := 8, ground := Ground.phase }, { on := 9, ground := Ground.phase }, { on := 10, ground := Ground.phase }, { on := 11, ground := Ground.phase }, { on := 12, ground := Ground.phase }, { on := 13, ground := Ground.phase }], guard := none }) (v := ?v15) rfl (by kernel_rfl) (by kernel_rfl) (by kernel_rfl) (by kernel_rfl) (fun _ _ _ h => h) (Or.inl ⟨by rfl, ?y15⟩) (by assumption) ?r15
              case y15 => (intro w8 hSw; (try dsimp only at hSw); go_simp; try (with_reducible rfl))
              try simp only [Act.put, List.setIfInBounds_toArray, List.set_cons_zero, List.set_cons_succ]
              refine upto_one (i := 16) (o := { dst := none, op := Op.store 32 (Operand.tmp 131) (Operand.tmp 129), type := 0, pos := "ref.go:147", after := #[{ on := 15, ground := Ground.data }, { on := 13, ground := Ground.data }, { on := 13, ground := Ground.chain }, { on := 0, ground := Ground.phase }, { on := 1, ground := Ground.phase }, { on := 2, ground := Ground.phase }, { on := 3, ground := Ground.phase }, { on := 4, ground := Ground.phase }, { on := 5, ground := Ground.phase }, { on := 6, ground := Ground.phase }, { on := 7, ground := Ground.phase }, { on := 8, ground := Ground.phase }, { on := 9, ground := Ground.phase }, { on := 10, ground := Ground.phase }, { on := 11, ground := Ground.phase }, { on := 12, ground := Ground.phase }, { on := 13, ground := Ground.phase }], guard := none }) (by kernel_rfl) rfl (fun K hK => ?_)
              go_simp
              refine hK.out _ _ (fun h => absurd rfl h) (fun _ => ?_)
              clear hK K hHeld
              refine upto_done (by kernel_rfl) ?_ _
              refine NoPanic.normal ?_
              go_wp2_with fail
              go_meet
              obtain ⟨q1, q2, q3⟩ := HFIN.out _ _ _ _ hown6 hgrow (by go_grown)
              exact ⟨rfl, _, q1, q2, q3⟩
              --S>
          case rest =>
            obtain ⟨rfl, mv', HR8, HF8, HB8⟩ := hcut
            obtain ⟨hk0, hk1', hk2⟩ := HR8.out.card
            have hk1 : wc.cell? ⟨g2, D.length * 3 + 1, none⟩ = some (.string ct) := by rw [hk1', ← HCTV.out]; rfl
            clear hk1'
            have hkf := HR8.out.cardFree (D.length * 3 + 1)
            have hsum : (ct ++ ps).size ≤ 195065 := by rw [ByteArray.size_append]; omega
            have hcat : ct ++ ps = strL (c.text ++ ps.data.toList) := str_ext (by rw [append_data, HCT.out]; rfl)
            have HCAT := Lib.hid hcat
            have hg8 : g2 < wc.heap.size := by
              obtain ⟨_, _, hh⟩ := HR8.out.kind
              exact lt_of_block hh
            have hsz : ct.size + ps.size ≤ 9223372036854775807 := by omega
            clear hcat
            go_wp2_with fail
            rw [HCAT.out]
            refine ⟨?_, by simp [intOf]; omega⟩
            · have hS : S2At w.heap.size (w.heap.size + 1) ⟨D.map Prod.fst, some (c.plus ps.data.toList n cc), (n, cc)⟩ (.slice (some ⟨g2, 0, none⟩) (D.length + 1) cap2) (wc.setCell ⟨g2, D.length * 3 + 1, none⟩ (.string (strL (c.text ++ ps.data.toList)))) :=
                .inr ⟨_, Wm, mv', D, rfl, rfl, HR8.out.setText (c.text ++ ps.data.toList)⟩
              exact r2_step hlt HN.out HS.out HST2.out HV.out hS (HR8.out.setTextFs HF8.out _) (HB8.out.setCell hgB _) HBD.out
    --T>
    · obtain rfl : k = PL := by omega
      have HRB : Hid (readB s.data.toList debug = match r.cur with | some c => (if openB c.text = true then .inl (4, r.at_) else .inr r.all) | none => .inr r.all) := by
        show _ = _
        rw [← HS.out, HPL.out, List.drop_length]
        rfl
      obtain ⟨NC, hNC⟩ : ∃ q, q = r.all.length := ⟨_, rfl⟩
      have hall := HBD.out.all
      rw [← hNC] at hall
      have HNC := Lib.hid hNC
      clear hNC hlt
      rcases HR.out with ⟨h1, h2, h3, h4⟩ | ⟨c, Wm, mv, D, h1, h2, h5⟩
      · subst h3
        have HV : Hid (readB s.data.toList debug = .inr []) := by
          show _ = _
          rw [HRB.out, h1]; simp [ReadAt.all, h1, h2]
        obtain ⟨hlt3, z0, z1, z2, f0, f1, f2, r0, r1, r2⟩ := res_facts (HF.out.block _ _ _ _ HST.out.res (.inr (.inl rfl))) (.int .i64 0) (.int .i64 0) (.int .i64 0)
        clear h1 h2 h4 HRB
        go_wp2_with fail
        refine bodyPost_ret (v := .tuple #[.slice none 0 0, zeroF]) (by simp [results, Tryd.results10, go_sem, r0, r1, r2, zeroF, hlt3]) rfl ⟨below3 HB.out (Nat.le_refl _) _ _ _, ?_⟩
        rw [HV.out]
        exact ⟨_, rfl, .inl ⟨rfl, rfl⟩⟩
      · have hl : NC = D.length + 1 := by rw [HNC.out]; simp [ReadAt.all, h1, ← h2]
        have HRB2 : Hid (readB s.data.toList debug = if openB c.text = true then .inl (4, r.at_) else .inr ((D ++ [(c, mv)]).map Prod.fst)) := by
          show _ = _
          rw [HRB.out, h1]; simp [ReadAt.all, h1, ← h2]
        have hsm := HBD.out.each
        have hct := (hsm c (by simp [ReadAt.all, h1])).1
        have hmk : ∀ x ∈ D ++ [(c, mv)], x.1.marks.length ≤ 1048576 := fun x hx => by
          have := (hsm x.1 (by
            rcases List.mem_append.1 hx with hx | hx
            · simp only [ReadAt.all, h1, ← h2, List.mem_append, List.mem_map]
              exact .inl ⟨x, hx, rfl⟩
            · obtain rfl : x = (c, mv) := by simpa using hx
              simp [ReadAt.all, h1])).2
          omega
        have HMK := Lib.hid hmk
        obtain ⟨g2, cap3, he, hgc, hgB, hgw⟩ := h5.form
        subst he
        have H5 := Lib.hid h5
        have HL := Lib.hid hl
        obtain ⟨hk0, hk1, hk2⟩ := h5.card
        rw [← hl]
        have hi0 : IntKind.i64.wrap ((NC : Int) - 1) = (D.length : Int) := by
          rw [IntWalk.i64_in _ (by omega)]; omega
        have hn1 : D.length < NC := by omega
        have hn0 : (0 : Int) < NC := by omega
        have hcz : (strL c.text).size ≤ 140737488355328 := by show c.text.length ≤ _; omega
        have HCZ := Lib.hid hcz
        obtain ⟨hlt3, z0, z1, z2, f0, f1, f2, r0, r1, r2⟩ := res_facts (HF.out.block _ _ _ _ HST.out.res (.inr (.inl rfl))) (.int .i64 4) (.int .i64 r.at_.1) (.int .i64 r.at_.2)
        obtain ⟨_, _, _, _, _, _, _, q0, q1, q2⟩ := res_facts (HF.out.block _ _ _ _ HST.out.res (.inr (.inl rfl))) (.int .i64 0) (.int .i64 0) (.int .i64 0)
        obtain ⟨y0, y1, hy, _, _⟩ := pos_cells h5.last
        have hOP := r2open (strL c.text) hcz
        clear hcz h5 hct hmk hl hsm h1 h2 HRB
        cases hop : openB c.text with
        | true =>
          have HV : Hid (readB s.data.toList debug = .inl (4, r.at_.1, r.at_.2)) := by show _ = _; rw [HRB2.out, if_pos hop]
          have HO : Hid (∀ W : World, Calls Tryd.prog 20 #[.string (strL c.text)] W fun e w' => e = .returned (.bool true) ∧ W = w') := fun W => (hOP W).mono fun e w' h => ⟨h.1.trans (by rw [show openB (strL c.text).data.toList = true from hop]), h.2⟩
          clear hOP hop
          go_wp2_with fail
          refine (HO.out _).mono ?_; rintro e w' ⟨rfl, rfl⟩
          go_wp2_with fail
          go_region
          all_goals
            go_wp2_with fail
            refine bodyPost_ret (v := .tuple #[.slice none 0 0, faultN 4 r.at_.1 r.at_.2]) (by simp [results, Tryd.results10, go_sem, r0, r1, r2, faultN, hlt3]) rfl ⟨(below3 HB.out (Nat.le_refl _) _ _ _).drew, ?_⟩
            rw [HV.out]
        | false =>
          have HV : Hid (readB s.data.toList debug = .inr ((D ++ [(c, mv)]).map Prod.fst)) := by show _ = _; rw [HRB2.out, if_neg (by rw [hop]; decide)]
          have HO : Hid (∀ W : World, Calls Tryd.prog 20 #[.string (strL c.text)] W fun e w' => e = .returned (.bool false) ∧ W = w') := fun W => (hOP W).mono fun e w' h => ⟨h.1.trans (by rw [show openB (strL c.text).data.toList = false from hop]), h.2⟩
          have HKD : Hid (KardsAt (((wr.setCell ⟨w.heap.size, 0, none⟩ (.int .i64 0)).setCell ⟨w.heap.size, 1, none⟩ (.int .i64 0)).setCell ⟨w.heap.size, 2, none⟩ (.int .i64 0)) (.slice (some ⟨g2, 0, none⟩) NC cap3) ((D ++ [(c, mv)]).map Prod.fst)) := by
            have hx := H5.out.done.turnsF (flt_store (HF.out.block _ _ _ _ HST.out.res (.inr (.inl rfl))) (.int .i64 0) (.int .i64 0) (.int .i64 0)).1
            have := kards2_of hx (by rw [List.length_append]; have := HL.out; simp; omega) HMK.out
            show KardsAt _ _ _
            rw [HL.out]; exact this
          clear hOP hop
          go_wp2_with fail
          refine (HO.out _).mono ?_; rintro e w' ⟨rfl, rfl⟩
          go_wp2_with fail
          refine bodyPost_ret (v := .tuple #[.slice (some ⟨g2, 0, none⟩) NC cap3, zeroF]) (by simp [results, Tryd.results10, go_sem, q0, q1, q2, zeroF, hlt3]) rfl ⟨below3 HB.out (Nat.le_refl _) _ _ _, ?_⟩
          rw [HV.out]
          exact ⟨_, rfl, HKD.out⟩
end Go.Proofs.YtbckdieajfbepaaDoor
