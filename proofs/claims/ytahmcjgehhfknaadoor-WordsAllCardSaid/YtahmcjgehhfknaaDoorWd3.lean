/-
  words.classes: the map of the reserved words with a beginning; Of.
-/
import Derived.Test.YtahmcjgehhfknaaDoorWd2
import Derived.RangeFuncWrites
import Derived.RangeFuncFrom
import Derived.Sort.MapsRangeIn
import Derived.Laws.EntriesVeiled
import Derived.Lib.SmallJoins
namespace Go.Proofs.YtahmcjgehhfknaaDoor
open Go.RowKit Go.Shelf
open Go.Maps (Keyed)
set_option linter.unusedVariables false
set_option linter.unusedSimpArgs false
attribute [local go_sem] Oper.semAt_some

theorem SM.kept {w w' : World} {e : TypeId} {q : IntKind} {b n : Nat} {m : Upd} {row : Option Nat} (h : SM w e q b n m) (hg : w.grownBy w' row) (hne : some b ≠ row) : SM w' e q b n m := by
  obtain ⟨D, h1, h2⟩ := h; exact ⟨D, h1.kept hg hne, h2⟩
theorem SM.mono {w : World} {e : TypeId} {q : IntKind} {b n n' : Nat} {m : Upd} (h : SM w e q b n m) (hn : n ≤ n') : SM w e q b n' m := by
  obtain ⟨D, h1, h2⟩ := h; exact ⟨D, h1.mono hn, h2⟩
theorem SM.block {w : World} {e : TypeId} {q : IntKind} {b n : Nat} {m : Upd} (h : SM w e q b n m) : ∃ o : Obj, w.heap[b]? = some o ∧ o.isCells = false := by
  obtain ⟨D, ⟨es, ck, hh, _⟩, _⟩ := h; exact ⟨_, hh, rfl⟩
/-- While words.classes runs: its boxes and its map. -/
structure St (s : ByteArray) (w : World) (n : Nat) (m : Upd) (W : World) : Prop where
  c1 : W.cell? ⟨w.heap.size, 0, none⟩ = some (.string s)
  c2 : W.cell? ⟨w.heap.size + 1 + 1, 0, none⟩ = some (.map (some (w.heap.size + 1)))
  c3 : W.cell? ⟨w.heap.size + 1 + 1 + 1, 0, none⟩ = some (.func (.func 39) #[] #[.pointer (some ⟨w.heap.size, 0, none⟩), .pointer (some ⟨w.heap.size + 1 + 1, 0, none⟩)])
  sm : SM W 26 .u8 (w.heap.size + 1) n m
  bel : Below w.heap.size w W
theorem St.kept {s : ByteArray} {w W W' : World} {n : Nat} {m : Upd} {row : Option Nat} (h : St s w n m W) (hg : W.grownBy W' row) (hr : ∀ r, row = some r → w.heap.size + 4 ≤ r ∧ ∃ o : Obj, W.heap[r]? = some o ∧ o.isCells = false) : St s w n m W' :=
  ⟨cell_kept h.c1 hg (fun r e => (hr r e).2), cell_kept h.c2 hg (fun r e => (hr r e).2), cell_kept h.c3 hg (fun r e => (hr r e).2),
   h.sm.kept hg (fun e => by have := (hr _ e.symm).1; omega), h.bel.grown hg h.bel.size (fun k e => by have := (hr k e).1; omega)⟩
theorem St.alloc {s : ByteArray} {w W : World} {n : Nat} {m : Upd} (h : St s w n m W) (o : Obj) : St s w n m (W.alloc o) := h.kept (World.grownBy_alloc W o none) (fun r e => by cases e)
theorem St.put {s : ByteArray} {w W W' : World} {n n' : Nat} {m m' : Upd} (h : St s w n m W) (hg : W.grownBy W' (some (w.heap.size + 1))) (hs : SM W' 26 .u8 (w.heap.size + 1) n' m') : St s w n' m' W' :=
  have hb : ∀ r, some (w.heap.size + 1) = some r → ∃ o : Obj, W.heap[r]? = some o ∧ o.isCells = false := fun r e => by cases e; exact h.sm.block
  ⟨cell_kept h.c1 hg hb, cell_kept h.c2 hg hb, cell_kept h.c3 hg hb, hs, h.bel.grown hg h.bel.size (fun k e => by cases e; omega)⟩
theorem St.own {α : Type} {s : ByteArray} {w : World} {B : Nat} (hB : w.heap.size + 4 ≤ B) (n : List α → Nat) (m : List α → Upd) : OwnFrom B (fun pre W => St s w (n pre) (m pre) W) :=
  fun pre A A' row hs hg hr => hs.kept hg (fun r e => ⟨Nat.le_trans hB (hr r e).1, (hr r e).2⟩)
theorem cntF_le2 : ∀ (l : List UInt8) (ws : Bool), Lib.cntF ws l ≤ l.length
  | [], _ => Nat.le_refl _
  | b :: t, ws => by
    have := cntF_le2 t (Lib.isSp b)
    simp only [Lib.cntF, List.length_cons]
    split <;> omega
theorem fields_le (s : ByteArray) : (Lib.fields s.data.toList).length ≤ s.size := by
  rw [Lib.fields_length, Lib.size_eq]; exact cntF_le2 _ _
def DK (D : Nat) (W : World) : Prop := W.heap[D]? = some (.deferred (some []))
theorem DK.lt {D : Nat} {W : World} (h : DK D W) : D < W.heap.size := (Array.getElem?_eq_some_iff.1 h).1
theorem DK.kept {D : Nat} {W W' : World} {row : Option Nat} (h : DK D W) (hg : W.grownBy W' row) (hr : some D ≠ row) : DK D W' := (hg.block D h.lt hr).trans h
theorem DK.alloc {D : Nat} {W : World} (h : DK D W) (o : Obj) : DK D (W.alloc o) := h.kept (World.grownBy_alloc W o none) (by simp)
theorem DK.own {α : Type} {D B : Nat} (hB : D < B) : OwnFrom B (fun (_ : List α) W => DK D W) :=
  fun pre A A' row hs hg hr => hs.kept hg (fun e => by have := (hr _ e.symm).1; omega)
theorem isCells_of_isWalk {o : Obj} (h : o.isWalk = true) : o.isCells = false := by cases o <;> first | rfl | cases h
theorem cellN (W : World) (v : Value) (t : TypeId) : (W.alloc (.cells #[v] t)).cell? ⟨W.heap.size, 0, none⟩ = some v := Joins.cell_of_block (World.alloc_heap_new W (.cells #[v] t)) 0
theorem cellA {W : World} {a : Addr} {v : Value} (o : Obj) (h : W.cell? a = some v) : (W.alloc o).cell? a = some v := cell_kept h (World.grownBy_alloc W o none) (fun r e => by cases e)
theorem St.mono {s : ByteArray} {w W : World} {n n' : Nat} {m : Upd} (h : St s w n m W) (hn : n ≤ n') : St s w n' m W := ⟨h.c1, h.c2, h.c3, h.sm.mono hn, h.bel⟩
theorem St.below {s : ByteArray} {w W W' : World} {n : Nat} {m : Upd} (h : St s w n m W) (hb : Below W.heap.size W W') : St s w n m W' :=
  h.kept (row := none) ⟨hb.os, hb.tape, hb.output, hb.size, fun i hi _ => hb.block i hi⟩ (fun r e => by cases e)
theorem DK.below {D : Nat} {W W' : World} (h : DK D W) (hb : Below W.heap.size W W') : DK D W' := (hb.block D h.lt).trans h
/-- The words of two lists, and the figurative constants that have come. -/
def finM (beg : List UInt8) (left : Lit → Bool) (m : Upd) : Upd := fun y => if isFig y && !left (.string y) && Lib.hasPrefix y beg then some 3 else m y
theorem finM_start (beg : List UInt8) (D : DataW Unit) (m : Upd) (h : KV D .u8 figM) : finM beg (Maps.has D) m = m := funext fun y => by
  unfold finM isFig
  rw [(h.2 y).1]
  cases (figM y).isSome <;> rfl
theorem finM_step (beg : List UInt8) (left : Lit → Bool) (m : Upd) (x : List UInt8) (hl : left (.string x) = true) (hx : isFig x = true) :
    finM beg (fun z => left z && !z.sameKey (.string x)) m = putM beg 3 (finM beg left m) x := funext fun y => by
  by_cases hy : y = x
  · subst hy
    have hs : (Lit.string y).sameKey (.string y) = true := WideAt.sameKey_self (str_key _)
    unfold finM putM upd
    by_cases hp : Lib.hasPrefix y beg = true
    · simp [hs, hx, hl, hp]
    · simp [hs, hx, hl, hp]
  · have hne : Lit.string y ≠ Lit.string x := fun e => hy (by injection e)
    unfold finM putM upd
    by_cases hp : Lib.hasPrefix x beg = true
    · simp [Maps.sameKey_ne hne, hp, hy]
    · simp [Maps.sameKey_ne hne, hp]
def putW (beg : List UInt8) (c : Int) (m : Upd) (pre : List Wrd) : Upd := pre.foldl (fun m x => putM beg c m x.l) m
theorem putW_snoc (beg : List UInt8) (c : Int) (m : Upd) (pre : List Wrd) (x : Wrd) : putW beg c m (pre ++ [x]) = putM beg c (putW beg c m pre) x.l := by simp [putW]
theorem SpTab.below {w W : World} (h : SpTab w) (hb : Below w.heap.size w W) : SpTab W := fun c hc => (hb.cell (World.block_lt_of_cell? _ _ (h c hc))).trans (h c hc)

/-! ### The words of the chapter's lists -/
def verbL : List UInt8 := [65, 67, 67, 69, 80, 84, 32, 65, 68, 68, 32, 65, 76, 84, 69, 82, 32, 67, 65, 76, 76, 32, 67, 65, 78, 67, 69, 76, 32, 67, 76, 79, 83, 69, 32, 67, 79, 77, 80, 85, 84, 69, 32, 67, 79, 78, 84, 73, 78, 85, 69, 32, 68, 69, 76, 69, 84, 69, 32, 68] ++ [73, 83, 80, 76, 65, 89, 32, 68, 73, 86, 73, 68, 69, 32, 69, 86, 65, 76, 85, 65, 84, 69, 32, 69, 88, 73, 84, 32, 71, 69, 78, 69, 82, 65, 84, 69, 32, 71, 79, 32, 73, 70, 32, 73, 78, 73, 84, 73, 65, 76, 73, 90, 69, 32, 73, 78, 73, 84, 73, 65] ++ [84, 69, 32, 73, 78, 83, 80, 69, 67, 84, 32, 77, 69, 82, 71, 69, 32, 77, 79, 86, 69, 32, 77, 85, 76, 84, 73, 80, 76, 89, 32, 79, 80, 69, 78, 32, 80, 69, 82, 70, 79, 82, 77, 32, 82, 69, 65, 68, 32, 82, 69, 76, 69, 65, 83, 69, 32, 82, 69, 84] ++ [85, 82, 78, 32, 82, 69, 87, 82, 73, 84, 69, 32, 83, 69, 65, 82, 67, 72, 32, 83, 69, 84, 32, 83, 79, 82, 84, 32, 83, 84, 65, 82, 84, 32, 83, 84, 79, 80, 32, 83, 84, 82, 73, 78, 71, 32, 83, 85, 66, 84, 82, 65, 67, 84, 32, 83, 85, 80, 80, 82] ++ [69, 83, 83, 32, 84, 69, 82, 77, 73, 78, 65, 84, 69, 32, 85, 78, 83, 84, 82, 73, 78, 71, 32, 85, 83, 69, 32, 87, 82, 73, 84, 69]
def keyL : List UInt8 := [65, 67, 67, 69, 83, 83, 32, 65, 68, 86, 65, 78, 67, 73, 78, 71, 32, 65, 70, 84, 69, 82, 32, 65, 76, 76, 32, 65, 76, 80, 72, 65, 66, 69, 84, 73, 67, 32, 65, 76, 83, 79, 32, 65, 76, 84, 69, 82, 78, 65, 84, 69, 32, 65, 78, 68, 32, 65, 78, 89] ++ [32, 65, 82, 69, 32, 65, 82, 69, 65, 32, 65, 82, 69, 65, 83, 32, 65, 83, 67, 69, 78, 68, 73, 78, 71, 32, 65, 83, 83, 73, 71, 78, 32, 65, 84, 32, 65, 87, 65, 89, 45, 70, 82, 79, 77, 45, 90, 69, 82, 79, 32, 66, 69, 70, 79, 82, 69, 32, 66, 73] ++ [78, 65, 82, 89, 32, 66, 76, 65, 78, 75, 32, 66, 76, 79, 67, 75, 32, 66, 89, 32, 67, 70, 32, 67, 72, 32, 67, 72, 65, 82, 65, 67, 84, 69, 82, 32, 67, 72, 65, 82, 65, 67, 84, 69, 82, 83, 32, 67, 76, 65, 83, 83, 32, 67, 79, 76, 85, 77, 78, 32] ++ [67, 79, 77, 80, 32, 67, 79, 77, 80, 45, 51, 32, 67, 79, 77, 80, 85, 84, 65, 84, 73, 79, 78, 65, 76, 32, 67, 79, 77, 80, 85, 84, 65, 84, 73, 79, 78, 65, 76, 45, 51, 32, 67, 79, 78, 70, 73, 71, 85, 82, 65, 84, 73, 79, 78, 32, 67, 79, 78, 84] ++ [65, 73, 78, 83, 32, 67, 79, 78, 84, 69, 78, 84, 32, 67, 79, 78, 84, 82, 79, 76, 32, 67, 79, 78, 84, 82, 79, 76, 83, 32, 67, 79, 78, 86, 69, 82, 84, 73, 78, 71, 32, 67, 79, 80, 89, 32, 67, 79, 82, 82, 32, 67, 79, 82, 82, 69, 83, 80, 79, 78] ++ [68, 73, 78, 71, 32, 67, 79, 85, 78, 84, 32, 68, 65, 84, 65, 32, 68, 69, 32, 68, 69, 67, 76, 65, 82, 65, 84, 73, 86, 69, 83, 32, 68, 69, 76, 73, 77, 73, 84, 69, 68, 32, 68, 69, 76, 73, 77, 73, 84, 69, 82, 32, 68, 69, 80, 69, 78, 68, 73, 78] ++ [71, 32, 68, 69, 83, 67, 69, 78, 68, 73, 78, 71, 32, 68, 69, 84, 65, 73, 76, 32, 68, 73, 86, 73, 83, 73, 79, 78, 32, 68, 79, 87, 78, 32, 68, 85, 80, 76, 73, 67, 65, 84, 69, 83, 32, 68, 89, 78, 65, 77, 73, 67, 32, 69, 76, 83, 69, 32, 69, 78] ++ [68, 32, 69, 78, 68, 45, 65, 68, 68, 32, 69, 78, 68, 45, 67, 65, 76, 76, 32, 69, 78, 68, 45, 67, 79, 77, 80, 85, 84, 69, 32, 69, 78, 68, 45, 68, 69, 76, 69, 84, 69, 32, 69, 78, 68, 45, 68, 73, 86, 73, 68, 69, 32, 69, 78, 68, 45, 69, 86, 65] ++ [76, 85, 65, 84, 69, 32, 69, 78, 68, 45, 73, 70, 32, 69, 78, 68, 45, 77, 85, 76, 84, 73, 80, 76, 89, 32, 69, 78, 68, 45, 80, 69, 82, 70, 79, 82, 77, 32, 69, 78, 68, 45, 82, 69, 65, 68, 32, 69, 78, 68, 45, 82, 69, 84, 85, 82, 78, 32, 69, 78] ++ [68, 45, 82, 69, 87, 82, 73, 84, 69, 32, 69, 78, 68, 45, 83, 69, 65, 82, 67, 72, 32, 69, 78, 68, 45, 83, 84, 65, 82, 84, 32, 69, 78, 68, 45, 83, 84, 82, 73, 78, 71, 32, 69, 78, 68, 45, 83, 85, 66, 84, 82, 65, 67, 84, 32, 69, 78, 68, 45, 85] ++ [78, 83, 84, 82, 73, 78, 71, 32, 69, 78, 68, 45, 87, 82, 73, 84, 69, 32, 69, 78, 86, 73, 82, 79, 78, 77, 69, 78, 84, 32, 69, 81, 85, 65, 76, 32, 69, 82, 82, 79, 82, 32, 69, 88, 67, 69, 80, 84, 73, 79, 78, 32, 69, 88, 84, 69, 78, 68, 32, 70] ++ [65, 76, 83, 69, 32, 70, 68, 32, 70, 73, 76, 69, 32, 70, 73, 76, 69, 45, 67, 79, 78, 84, 82, 79, 76, 32, 70, 73, 76, 76, 69, 82, 32, 70, 73, 78, 65, 76, 32, 70, 73, 82, 83, 84, 32, 70, 79, 79, 84, 73, 78, 71, 32, 70, 79, 82, 32, 70, 82, 79] ++ [77, 32, 71, 73, 86, 73, 78, 71, 32, 71, 82, 69, 65, 84, 69, 82, 32, 71, 82, 79, 85, 80, 32, 72, 69, 65, 68, 73, 78, 71, 32, 73, 45, 79, 32, 73, 45, 79, 45, 67, 79, 78, 84, 82, 79, 76, 32, 73, 68, 69, 78, 84, 73, 70, 73, 67, 65, 84, 73, 79] ++ [78, 32, 73, 78, 32, 73, 78, 68, 69, 88, 69, 68, 32, 73, 78, 68, 73, 67, 65, 84, 69, 32, 73, 78, 73, 84, 73, 65, 76, 32, 73, 78, 80, 85, 84, 32, 73, 78, 80, 85, 84, 45, 79, 85, 84, 80, 85, 84, 32, 73, 78, 84, 79, 32, 73, 78, 86, 65, 76, 73] ++ [68, 32, 73, 83, 32, 74, 85, 83, 84, 32, 74, 85, 83, 84, 73, 70, 73, 69, 68, 32, 75, 69, 89, 32, 76, 65, 66, 69, 76, 32, 76, 65, 83, 84, 32, 76, 69, 65, 68, 73, 78, 71, 32, 76, 69, 70, 84, 32, 76, 69, 83, 83, 32, 76, 73, 77, 73, 84, 32, 76] ++ [73, 77, 73, 84, 83, 32, 76, 73, 78, 69, 32, 76, 73, 78, 69, 83, 32, 76, 73, 78, 75, 65, 71, 69, 32, 77, 79, 68, 69, 32, 78, 69, 65, 82, 69, 83, 84, 45, 65, 87, 65, 89, 45, 70, 82, 79, 77, 45, 90, 69, 82, 79, 32, 78, 69, 65, 82, 69, 83, 84] ++ [45, 69, 86, 69, 78, 32, 78, 69, 65, 82, 69, 83, 84, 45, 84, 79, 87, 65, 82, 68, 45, 90, 69, 82, 79, 32, 78, 69, 71, 65, 84, 73, 86, 69, 32, 78, 69, 88, 84, 32, 78, 79, 32, 78, 79, 84, 32, 78, 85, 77, 66, 69, 82, 32, 78, 85, 77, 69, 82, 73] ++ [67, 32, 79, 67, 67, 85, 82, 83, 32, 79, 70, 32, 79, 70, 70, 32, 79, 77, 73, 84, 84, 69, 68, 32, 79, 78, 32, 79, 80, 84, 73, 79, 78, 65, 76, 32, 79, 82, 32, 79, 82, 68, 69, 82, 32, 79, 82, 71, 65, 78, 73, 90, 65, 84, 73, 79, 78, 32, 79, 84] ++ [72, 69, 82, 32, 79, 85, 84, 80, 85, 84, 32, 79, 86, 69, 82, 70, 76, 79, 87, 32, 80, 65, 67, 75, 69, 68, 45, 68, 69, 67, 73, 77, 65, 76, 32, 80, 65, 71, 69, 32, 80, 70, 32, 80, 72, 32, 80, 73, 67, 32, 80, 73, 67, 84, 85, 82, 69, 32, 80, 76] ++ [85, 83, 32, 80, 79, 73, 78, 84, 69, 82, 32, 80, 79, 83, 73, 84, 73, 86, 69, 32, 80, 82, 79, 67, 69, 68, 85, 82, 69, 32, 80, 82, 79, 67, 69, 69, 68, 32, 80, 82, 79, 71, 82, 65, 77, 32, 80, 82, 79, 71, 82, 65, 77, 45, 73, 68, 32, 80, 82, 79] ++ [72, 73, 66, 73, 84, 69, 68, 32, 82, 65, 78, 68, 79, 77, 32, 82, 68, 32, 82, 69, 67, 79, 82, 68, 32, 82, 69, 67, 79, 82, 68, 83, 32, 82, 69, 68, 69, 70, 73, 78, 69, 83, 32, 82, 69, 70, 69, 82, 69, 78, 67, 69, 32, 82, 69, 76, 65, 84, 73, 86] ++ [69, 32, 82, 69, 77, 65, 73, 78, 68, 69, 82, 32, 82, 69, 78, 65, 77, 69, 83, 32, 82, 69, 80, 76, 65, 67, 73, 78, 71, 32, 82, 69, 80, 79, 82, 84, 32, 82, 69, 80, 79, 82, 84, 73, 78, 71, 32, 82, 69, 80, 79, 82, 84, 83, 32, 82, 69, 83, 69, 84] ++ [32, 82, 70, 32, 82, 72, 32, 82, 73, 71, 72, 84, 32, 82, 79, 85, 78, 68, 69, 68, 32, 82, 85, 78, 32, 83, 67, 82, 69, 69, 78, 32, 83, 68, 32, 83, 69, 67, 84, 73, 79, 78, 32, 83, 69, 76, 69, 67, 84, 32, 83, 69, 78, 84, 69, 78, 67, 69, 32, 83] ++ [69, 80, 65, 82, 65, 84, 69, 32, 83, 69, 81, 85, 69, 78, 67, 69, 32, 83, 69, 81, 85, 69, 78, 84, 73, 65, 76, 32, 83, 73, 71, 78, 32, 83, 73, 90, 69, 32, 83, 79, 85, 82, 67, 69, 32, 83, 84, 65, 78, 68, 65, 82, 68, 32, 83, 84, 65, 84, 85, 83] ++ [32, 83, 85, 77, 32, 84, 65, 76, 76, 89, 73, 78, 71, 32, 84, 69, 83, 84, 32, 84, 72, 65, 78, 32, 84, 72, 69, 78, 32, 84, 72, 82, 79, 85, 71, 72, 32, 84, 72, 82, 85, 32, 84, 73, 77, 69, 83, 32, 84, 79, 32, 84, 79, 87, 65, 82, 68, 45, 71, 82] ++ [69, 65, 84, 69, 82, 32, 84, 79, 87, 65, 82, 68, 45, 76, 69, 83, 83, 69, 82, 32, 84, 82, 65, 73, 76, 73, 78, 71, 32, 84, 82, 85, 69, 32, 84, 82, 85, 78, 67, 65, 84, 73, 79, 78, 32, 84, 89, 80, 69, 32, 85, 78, 84, 73, 76, 32, 85, 80, 32, 85] ++ [80, 79, 78, 32, 85, 83, 65, 71, 69, 32, 85, 83, 73, 78, 71, 32, 86, 65, 76, 85, 69, 32, 86, 65, 76, 85, 69, 83, 32, 86, 65, 82, 89, 73, 78, 71, 32, 87, 72, 69, 78, 32, 87, 73, 84, 72, 32, 87, 79, 82, 75, 73, 78, 71, 45, 83, 84, 79, 82, 65] ++ [71, 69]
def verbW : List (List UInt8) := Lib.fields verbL
def keyW : List (List UInt8) := Lib.fields keyL
def putL (beg : List UInt8) (c : Int) (ws : List (List UInt8)) (m : Upd) : Upd := ws.foldl (fun m x => putM beg c m x) m
/-- The map of the words with a beginning. -/
def clsM (beg : List UInt8) : Upd := finM beg (fun _ => false) (putL beg 1 keyW (putL beg 2 verbW (fun _ => none)))
theorem putW_eq (beg : List UInt8) (c : Int) (m : Upd) (pre : List Wrd) : putW beg c m pre = putL beg c (pre.map Wrd.l) m := by
  unfold putW putL; rw [List.foldl_map]
set_option maxRecDepth 100000 in
set_option maxHeartbeats 4000000 in
theorem c_classes (s : ByteArray) (hs : s.size ≤ maxLen) (w : World) (hT : SpTab w) : Calls Tryd.prog 24 #[.string s] w fun e w' =>
    ∃ b n, e = .returned (.map (some b)) ∧ SM w' 26 .u8 b n (clsM s.data.toList) ∧ Below w.heap.size w w' := by
  refine (callsIn_wide (n := 8)).1 ?_
  refine callsIn_of_wp_marks Tryd.func24 rfl trivial ?_ rfl
  simp only [Tryd.ntmps24, List.size_toArray, List.length_cons, List.length_nil, Nat.reduceAdd, Nat.reduceSub, Array.replicate_succ, Array.replicate_zero, List.push_toArray, List.append_toArray, List.nil_append, List.cons_append]
  generalize hV1 : ByteArray.mk (List.toArray (List.append _ _)) = V1
  generalize hV2 : ByteArray.mk (List.toArray (List.append _ _)) = V2
  have h1s : V1.size ≤ 100000 := by rw [← hV1]; decide +kernel
  have h2s : V2.size ≤ 100000 := by rw [← hV2]; decide +kernel
  have hv1 : Lib.fields V1.data.toList = verbW := by rw [← hV1]; decide +kernel
  have hv2 : Lib.fields V2.data.toList = keyW := by rw [← hV2]; decide +kernel
  have HV1 := Lib.hid hv1
  have HV2 := Lib.hid hv2
  clear hv1 hv2
  have H1 := Lib.hid hV1
  have H3 := Lib.hid h1s
  have H4 := Lib.hid h2s
  have H2 := Lib.hid hV2
  clear hV1 hV2
  have a1 : ∀ (j : Nat) b, V1.data.toList[j]? = some b → b.toNat < 128 := fun j b h => (by rw [← H1.out]; decide +kernel : V1.data.toList.all (fun b => decide (b.toNat < 128)) = true) |> List.all_eq_true.1 |> fun k => by simpa using k b (List.mem_of_getElem? h)
  have a2 : ∀ (j : Nat) b, V2.data.toList[j]? = some b → b.toNat < 128 := fun j b h => (by rw [← H2.out]; decide +kernel : V2.data.toList.all (fun b => decide (b.toNat < 128)) = true) |> List.all_eq_true.1 |> fun k => by simpa using k b (List.mem_of_getElem? h)
  have A1 := Lib.hid a1
  have A2 := Lib.hid a2
  clear a1 a2
  have HT := Lib.hid hT
  clear hT
  have HS := Lib.hid hs
  clear hs
  have hmm := @run_makeMap Tryd.prog
  have hf40 : Fence.wide.fn 40 := trivial
  have hf39 : Fence.wide.fn 39 := trivial
  gi_wp2_with (gi_at_call 40; refine (seq_in Fence.wide _ trivial rfl _ _).mono ?_; rintro e w' ⟨rfl, rfl⟩)
  have S0 : St s w 0 (fun _ => none) ((((w.alloc (.cells #[.string s] 9)).alloc (.map #[] 0)).alloc (.cells #[.map (some (w.heap.size + 1))] 62)).alloc (.cells #[.func (.func 39) #[] #[.pointer (some ⟨w.heap.size, 0, none⟩), .pointer (some ⟨w.heap.size + 1 + 1, 0, none⟩)]] 89)) := by
    refine ⟨?_, ?_, ?_, ⟨.map [], ?_, KV.empty .u8⟩, ?_⟩
    · exact cellA _ (cellA _ (cellA _ (cellN w _ _)))
    · have h := cellN ((w.alloc (.cells #[.string s] 9)).alloc (.map #[] 0)) (.map (some (w.heap.size + 1))) 62
      rw [World.size_alloc, World.size_alloc] at h
      exact cellA _ h
    · have h := cellN (((w.alloc (.cells #[.string s] 9)).alloc (.map #[] 0)).alloc (.cells #[.map (some (w.heap.size + 1))] 62)) (.func (.func 39) #[] #[.pointer (some ⟨w.heap.size, 0, none⟩), .pointer (some ⟨w.heap.size + 1 + 1, 0, none⟩)]) 89
      rw [World.size_alloc, World.size_alloc, World.size_alloc] at h
      exact h
    · have h := World.ownsMap_made (w.alloc (.cells #[.string s] 9)) Tryd.prog 9 (plainElem (H := Unit) Tryd.prog 26)
      rw [World.size_alloc] at h
      exact (h.alloc _).alloc _
    · exact ((((Below.refl _ w).alloc (Nat.le_refl _) _).alloc (by simp) _).alloc (by simp; omega) _).alloc (by simp; omega) _
  generalize hW0 : ((((w.alloc (.cells #[.string s] 9)).alloc (.map #[] 0)).alloc (.cells #[.map (some (w.heap.size + 1))] 62)).alloc (.cells #[.func (.func 39) #[] #[.pointer (some ⟨w.heap.size, 0, none⟩), .pointer (some ⟨w.heap.size + 1 + 1, 0, none⟩)]] 89)) = W0 at *
  have hsz : W0.heap.size = w.heap.size + 4 := by rw [← hW0]; simp
  have HSZ := Lib.hid hsz
  clear hsz hW0
  have hc1 : (W0.alloc (.cells #[.string V1] 9)).cell? ⟨w.heap.size + 1 + 1 + 1 + 1, 0, none⟩ = some (.string V1) := by
    have h := World.alloc_heap_new W0 (.cells #[.string V1] 9)
    rw [HSZ.out] at h
    exact Joins.cell_of_block h 0
  have HC1 := Lib.hid hc1
  clear hc1
  have hN1 := Nat.le_trans (fields_le V1) h1s
  have hN2 := Nat.le_trans (fields_le V2) h2s
  have HN1 := Lib.hid hN1
  have HN2 := Lib.hid hN2
  clear hN1 hN2 h1s h2s
  refine wpIn_rangeFunc_ownG rfl (by omega) (gf := 61) (lb := #[.pointer (some ⟨w.heap.size + 1 + 1 + 1 + 1, 0, none⟩)]) rfl trivial (enters_of Tryd.func61 (by kernel_rfl) rfl)
    (seq_stops Fence.wide _ trivial rfl (by omega) (w.heap.size + 1 + 1 + 1 + 1) V1 H3.out A1.out _ HC1.out ((HT.out.below S0.bel).below ((Below.refl _ _).alloc (Nat.le_refl _) _))) KeepsCells.trans (fun W l o o' _ h ho _ => keepsCells_b W l o o' h ho) (Below.refl _ _) (fun _ => rfl)
    (fun pre W => St s w pre.length (putW s.data.toList 2 (fun _ => none) pre) W) (fun _ _ _ => False)
    (St.own (by simp; rw [HSZ.out]; omega) _ _) (fun _ _ _ _ _ hs _ _ => hs) (S0.alloc _)
    (fun x => { tmps := #[.string s, .pointer (some ⟨w.heap.size, 0, none⟩), .map none, .pointer (some ⟨w.heap.size + 1 + 1, 0, none⟩), .pointer (some ⟨w.heap.size + 1 + 1 + 1, 0, none⟩), .string x.1, undef, undef, .map (some (w.heap.size + 1)),
      .func (.func 39) #[] #[.pointer (some ⟨w.heap.size, 0, none⟩), .pointer (some ⟨w.heap.size + 1 + 1, 0, none⟩)], .func (.func 61) #[] #[.pointer (some ⟨w.heap.size + 1 + 1 + 1 + 1, 0, none⟩)], .string x.1,
      undef, undef, undef, undef, undef, undef, undef, undef, undef, undef, undef, undef, undef, undef, undef, undef, undef, undef], defers := [] }) ?assign ?body ?done ?stop
  case assign =>
    intro l x W K hK
    gi_wp2
    exact hK
  case stop =>
    rintro D c pre W _ _ h _
    exact h.elim
  case body =>
    rintro l pre x W hS hlt
    have hc3 := hS.c3
    have hlt2 : pre.length < maxLen := by have := HN1.out; unfold maxLen; omega
    gi_wp2_with (gi_at_call 39; refine (CallsIn.inRound l (callsIn_wide.2 (c_put x.1 s 2 (by decide) w.heap.size (w.heap.size + 1 + 1) (w.heap.size + 1) pre.length _ hlt2 x.2 _ hS.c1 hS.c2 hS.sm))).mono ?_; rintro e w' ⟨⟨v, rfl⟩, hsm, hg⟩)
    obtain ⟨o, ho, hoc⟩ := hS.sm.block
    exact ⟨KeepsFrom.of_grownBy hg (fun j e => by cases e; simp; rw [HSZ.out]; omega), keepsCells_grown hg ho hoc, hS.put hg (by rw [putW_snoc, List.length_append]; exact hsm)⟩
  case done =>
    rintro D ys W hD hy hS hK
    have hK : DK D W := hK
    rw [World.size_alloc, HSZ.out] at hD
    gi_wp2_with (gi_at_call 40; refine (seq_in Fence.wide _ trivial rfl _ _).mono ?_; rintro e w' ⟨rfl, rfl⟩)
    have hc2 : (W.alloc (.cells #[.string V2] 9)).cell? ⟨W.heap.size, 0, none⟩ = some (.string V2) := Joins.cell_of_block (World.alloc_heap_new W (.cells #[.string V2] 9)) 0
    have HC2 := Lib.hid hc2
    have HK := Lib.hid hK
    have HS1 := Lib.hid hS
    have HD := Lib.hid hD
    clear hc2 hK hS hD
    obtain ⟨m1, hm1⟩ : ∃ m1, m1 = putW s.data.toList 2 (fun _ => none) ys := ⟨_, rfl⟩
    have HS1 := HS1.out
    rw [← hm1] at HS1
    have HS1 := Lib.hid HS1
    have hy2 : ys.length ≤ 100000 := by have h := congrArg List.length hy; rw [List.length_map] at h; have := HN1.out; omega
    have HY := Lib.hid hy
    have HY2 := Lib.hid hy2
    have HM1 := Lib.hid hm1
    clear hy hy2 hm1
    obtain ⟨n1, hn1⟩ : ∃ n1, n1 = ys.length := ⟨_, rfl⟩
    rw [← hn1] at HS1 HY2
    clear hn1
    refine wpIn_rangeFunc_ownG rfl (by omega) (gf := 61) (lb := #[.pointer (some ⟨W.heap.size, 0, none⟩)]) rfl trivial (enters_of Tryd.func61 (by kernel_rfl) rfl)
      (seq_stops Fence.wide _ trivial rfl (by omega) W.heap.size V2 H4.out A2.out _ HC2.out ((HT.out.below HS1.out.bel).below ((Below.refl _ _).alloc (Nat.le_refl _) _))) KeepsCells.trans (fun W l o o' _ h ho _ => keepsCells_b W l o o' h ho) (Below.refl _ _) (fun _ => rfl)
      (fun pre W => St s w (n1 + pre.length) (putW s.data.toList 1 m1 pre) W ∧ DK D W) (fun _ _ _ => False)
      (OwnFrom.and (St.own (by have := HK.out.lt; have := HD.out; simp; omega) _ _) (DK.own (by have := HK.out.lt; simp; omega))) (fun _ _ _ _ _ hs _ _ => hs) ⟨HS1.out.alloc _, HK.out.alloc _⟩
      (fun x => { tmps := #[.string s, .pointer (some ⟨w.heap.size, 0, none⟩), .map none, .pointer (some ⟨w.heap.size + 1 + 1, 0, none⟩), .pointer (some ⟨w.heap.size + 1 + 1 + 1, 0, none⟩), undef, .string x.1, undef, .map (some (w.heap.size + 1)),
        .func (.func 39) #[] #[.pointer (some ⟨w.heap.size, 0, none⟩), .pointer (some ⟨w.heap.size + 1 + 1, 0, none⟩)], .func (.func 61) #[] #[.pointer (some ⟨w.heap.size + 1 + 1 + 1 + 1, 0, none⟩)], undef,
        undef, undef, undef, .func (.func 61) #[] #[.pointer (some ⟨W.heap.size, 0, none⟩)], .string x.1, undef, undef, undef, undef, undef, undef, undef, undef, undef, undef, undef, undef, undef], defers := [] }) ?assign2 ?body2 ?done2 ?stop2
    case assign2 =>
      intro l x W K hK
      gi_wp2
      exact hK
    case stop2 =>
      rintro D c pre W _ _ h _
      exact h.elim
    case body2 =>
      rintro l pre x W1 ⟨hS, hK⟩ hlt
      have hc3 := hS.c3
      have hlt2 : n1 + pre.length < maxLen := by have := HN2.out; have := HY2.out; unfold maxLen; omega
      have HKK := Lib.hid hK
      clear hK
      gi_wp2_with (gi_at_call 39; refine (CallsIn.inRound l (callsIn_wide.2 (c_put x.1 s 1 (by decide) w.heap.size (w.heap.size + 1 + 1) (w.heap.size + 1) (n1 + pre.length) _ hlt2 x.2 _ hS.c1 hS.c2 hS.sm))).mono ?_; rintro e w' ⟨⟨v, rfl⟩, hsm, hg⟩)
      obtain ⟨o, ho, hoc⟩ := hS.sm.block
      have hKD := HD.out
      exact ⟨KeepsFrom.of_grownBy hg (fun j e => by cases e; have := HK.out.lt; simp; omega), keepsCells_grown hg ho hoc, hS.put hg (by rw [putW_snoc, List.length_append]; exact hsm), HKK.out.kept hg (fun e => by injection e with e; omega)⟩
    case done2 =>
      rintro D2 ys2 W2 hD2 hy2 ⟨hS, hKa⟩ hKb
      have hKb : DK D2 W2 := hKb
      have hf23 : Fence.wide.fn 23 := trivial
      have hD2' : w.heap.size + 4 ≤ D2 := by have := HK.out.lt; have := HD.out; simp at hD2; omega
      have HNE : Hid (D ≠ D2) := Lib.hid (by have := HK.out.lt; simp at hD2; omega)
      have HS2 := Lib.hid hS
      have HKa := Lib.hid hKa
      have HKb := Lib.hid hKb
      have HD2 := Lib.hid hD2'
      clear hS hKa hKb hD2 hD2' hK
      obtain ⟨m2, hm2⟩ : ∃ m2, m2 = putW s.data.toList 1 m1 ys2 := ⟨_, rfl⟩
      have HS2 := HS2.out
      rw [← hm2] at HS2
      have HS2 := Lib.hid (HS2.mono (n' := 200000) (by have h := congrArg List.length hy2; rw [List.length_map] at h; have := HN2.out; have := HY2.out; omega))
      have HM2 := Lib.hid hm2
      have HYY := Lib.hid hy2
      clear hm2 hy2
      gi_wp2_with (first
        | (gi_at_call 23; refine (callsIn_wide.2 (c_figs _)).mono ?_; rintro e W3 ⟨rfl, ⟨D0, hown0, hkv0⟩, hb3⟩)
        | (gi_at_range; refine wpListIn_range_own _ rfl _ 60 rfl 9 5 keyedS Tryd.underlying60 _ _ _ D0 rfl hown0 ?_; intro W4 hrg4 hg4 hs4)
        | gi_in)
      go_frame
      have HS3 := Lib.hid (HS2.out.below hb3)
      have HKa3 := Lib.hid (HKa.out.below hb3)
      have HKb3 := Lib.hid (HKb.out.below hb3)
      have HB3 := Lib.hid hb3
      have HS4 := Lib.hid (HS3.out.kept hg4 (fun r e => by cases e))
      have HKa4 := Lib.hid (HKa3.out.kept hg4 (by simp))
      have HKb4 := Lib.hid (HKb3.out.kept hg4 (by simp))
      have HSZ3 : Hid (W3.heap.size + 1 = W4.heap.size) := Lib.hid hs4.symm
      clear hs4 hb3
      have hle : w.heap.size + 5 ≤ W2.heap.size := by have := HKb.out.lt; have := HD2.out; omega
      have hle3 : W2.heap.size < W3.heap.size := hown0.lt
      have HLE := Lib.hid hle
      have HLE3 := Lib.hid hle3
      clear hle hle3
      gi_loopw [7] (fun _ wr => ∃ (left : Lit → Bool) (cnt : Nat), wr.ranges Tryd.prog 9 (plainElem Tryd.prog 5) W2.heap.size W3.heap.size 11 D0 left cnt ∧ cnt ≤ 100 ∧ St s w (200000 + (100 - cnt)) (finM s.data.toList left m2) wr ∧ DK D wr ∧ DK D2 wr)
        (fun _ wr => wr.rangeLeft W2.heap.size W3.heap.size)
      case atStart =>
        exact ⟨_, _, hrg4, Nat.le_trans hown0.size_le (by omega), by rw [finM_start _ _ _ hkv0]; exact HS4.out.mono (by omega), HKa4.out, HKb4.out⟩
      case round =>
        obtain ⟨left, cnt, hrg, hcnt, hS, hKa, hKb⟩ := hrel
        have HSS := Lib.hid hS
        have HKA := Lib.hid hKa
        have HKB := Lib.hid hKb
        clear hS hKa hKb
        gi_wp2_with (first
          | (gi_at_next; refine wpListIn_next_ranges _ rfl _ rfl 9 keyedS (plainElem Tryd.prog 5) encStr (Value.int .u8) (fun key kl hk => by obtain ⟨x, hx, _⟩ := Maps.keyOf_str Tryd.underlying9 hk; exact ⟨x, hx⟩) (fun v y hv => by obtain ⟨c, rfl, _⟩ := plainElem_int_inv Tryd.underlying5 hv; exact ⟨c, rfl⟩) W2.heap.size W3.heap.size 11 _ _ _ rfl hrg ?_ ?_)
          | gi_in)
        · intro hc0 hl0
          have hc2 := HSS.out.c2
          gi_wp2
          have hS := HSS.out
          have hcl : finM s.data.toList left m2 = clsM s.data.toList := by
            rw [show left = fun _ => false from funext hl0, HM2.out, HM1.out, putW_eq, putW_eq, HYY.out, HY.out, HV1.out, HV2.out]; rfl
          rw [hcl] at hS
          have hS1 := hS.kept (grownBy_putObj' wr D2 (.deferred none)) (fun r e => by cases e; exact ⟨HD2.out, _, HKB.out, rfl⟩)
          have hKA := HKA.out.kept (grownBy_putObj' wr D2 (.deferred none)) (fun e => by injection e with e; exact HNE.out e)
          have hS2 := hS1.kept (grownBy_putObj' _ D (.deferred none)) (fun r e => by cases e; exact ⟨Nat.le_trans (by omega) HD.out, _, hKA, rfl⟩)
          refine ⟨by simp, .inl ⟨_, _, rfl, run_takeDeferred HKB.out, ⟨by simp, .inl ⟨_, _, rfl, run_takeDeferred hKA, ?_⟩⟩⟩⟩
          exact ⟨_, results_tmp rfl _ _ _, _, _, rfl, hS2.sm, hS2.bel⟩
        · intro x c kl yd yp w5 cnt2 hkey hlk hv hat hrg2 hlt hg2 hs2 hen
          obtain ⟨x', ex, rfl, hxl⟩ := Maps.keyOf_str Tryd.underlying9 hkey
          obtain rfl : x = x' := encStr_inj ex
          clear hs2
          have hfx : isFig x = true := by
            have h := (hkv0.2 x).1
            rw [Maps.has_true_of_atKey hat] at h
            exact h.symm
          have hne : w.heap.size + 4 ≤ W3.heap.size := by have := HLE.out; have := HLE3.out; omega
          have hS5 := HSS.out.kept hg2 (fun r e => by cases e; exact ⟨hne, hrg.iter_walk.imp fun o h => ⟨h.1, isCells_of_isWalk h.2⟩⟩)
          have hKa5 := HKA.out.kept hg2 (fun e => by injection e with e; have := HKa3.out.lt; omega)
          have hKb5 := HKB.out.kept hg2 (fun e => by injection e with e; have := HKb3.out.lt; omega)
          have hc3 := hS5.c3
          have hc1 := hS5.c1
          have hc2 := hS5.c2
          have hsm := hS5.sm
          have HS5 := Lib.hid hS5
          have HKa5 := Lib.hid hKa5
          have HKb5 := Lib.hid hKb5
          clear hS5 hKa5 hKb5
          have hlt2 : 200000 + (100 - cnt) < maxLen := by unfold maxLen; omega
          have hxs : (⟨x.toArray⟩ : ByteArray).size ≤ maxLen := by rw [Lib.size_eq]; exact hxl
          have HRG2 := Lib.hid hrg2
          have HRG := Lib.hid hrg
          have HHAT := Lib.hid hat
          have HLK := Lib.hid hlk
          clear hrg2 hrg hat hkey ex hlk
          gi_wp2_with (gi_at_call 39; refine (callsIn_wide.2 (c_put ⟨x.toArray⟩ s 3 (by decide) w.heap.size (w.heap.size + 1 + 1) (w.heap.size + 1) (200000 + (100 - cnt)) _ hlt2 hxs _ hc1 hc2 hsm)).mono ?_; rintro e w6 ⟨⟨v, rfl⟩, hsm6, hg6⟩)
          have hrg6 := HRG2.out.kept hg6 (fun e => by injection e with e; have := HLE.out; omega) (fun e => by injection e with e; have := HLE.out; have := HLE3.out; omega)
          have hst : finM s.data.toList (fun z => left z && !z.sameKey (.string x)) m2 = putM s.data.toList 3 (finM s.data.toList left m2) x := finM_step _ _ _ _ HLK.out hfx
          refine ⟨⟨_, cnt2, hrg6, by omega, ?_, HKa5.out.kept hg6 (fun e => by injection e with e; have := HD.out; omega), HKb5.out.kept hg6 (fun e => by injection e with e; have := HD2.out; omega)⟩, by rw [hrg6.left_eq, HRG.out.left_eq]; exact hlt⟩
          rw [hst]
          exact (HS5.out.put hg6 hsm6).mono (by omega)

/-- The class of a word. -/
def ofI (x : List UInt8) : Int := if isFig x = true then 3 else if x ∈ keyW then 1 else if x ∈ verbW then 2 else 0
theorem hasPrefix_self (x : List UInt8) : Lib.hasPrefix x x = true := by
  unfold Lib.hasPrefix; rw [List.isPrefixOf_iff_prefix]; exact List.prefix_rfl
theorem putL_at (beg : List UInt8) (c : Int) (y : List UInt8) (hp : Lib.hasPrefix y beg = true) : ∀ (ws : List (List UInt8)) (m : Upd), putL beg c ws m y = if y ∈ ws then some c else m y
  | [], m => by simp [putL]
  | x :: ws, m => by
    have ih := putL_at beg c y hp ws (putM beg c m x)
    show putL beg c ws (putM beg c m x) y = _
    rw [ih]
    by_cases hy : y ∈ ws
    · simp [hy]
    · by_cases hx : y = x
      · subst hx; simp [hy, putM, hp, upd]
      · by_cases hq : Lib.hasPrefix x beg = true
        · simp [hy, hx, putM, hq, upd]
        · simp [hy, hx, putM, hq]
theorem clsM_at (y beg : List UInt8) (hp : Lib.hasPrefix y beg = true) : (clsM beg y).getD 0 = ofI y := by
  unfold clsM finM ofI
  rw [putL_at _ _ _ hp, putL_at _ _ _ hp, hp]
  by_cases h1 : isFig y = true
  · simp [h1]
  · by_cases h2 : y ∈ keyW
    · simp [h1, h2]
    · by_cases h3 : y ∈ verbW
      · simp [h1, h2, h3]
      · simp [h1, h2, h3]
set_option maxRecDepth 100000 in
theorem c_of (s : ByteArray) (hs : s.size ≤ maxLen) (w : World) (hT : SpTab w) : Calls Tryd.prog 13 #[.string s] w fun e w' =>
    e = .returned (.int .u8 (ofI s.data.toList)) ∧ Below w.heap.size w w' := by
  have hk := Lib.hid hs
  clear hs
  have HT := Lib.hid hT
  clear hT
  go_enter Tryd.func13, Tryd.ntmps13
  go_wp2_with (first
    | (go_at_call 24; refine (c_classes s hk.out _ HT.out).mono ?_; rintro e w' ⟨b, n, rfl, ⟨D, hown, hkv⟩, hb⟩)
    | (at_lookup; refine wpList_lookup_own_int _ rfl _ _ 62 rfl 9 26 .u8 keyedS Tryd.underlying62 Tryd.underlying26 (Tryd.zeroValue26 _) _ _ D rfl hown _ _ rfl (keyS s hk.out) ?_; intro c hat hwc))
  have hv := hkv.at_ s.data.toList
  rw [hat, clsM_at _ _ (hasPrefix_self _)] at hv
  have hc : c = ofI s.data.toList := by injection hv with h; injection h
  go_ret
  exact ⟨by rw [hc]; rfl, hb⟩
end Go.Proofs.YtahmcjgehhfknaaDoor
