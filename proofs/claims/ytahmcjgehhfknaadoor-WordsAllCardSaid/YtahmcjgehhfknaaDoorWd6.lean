/-
  words.newField, alphanumeric, quote, number, figurative and Literal.
-/
import Derived.Test.YtahmcjgehhfknaaDoorWd5
import Derived.Deep.RegionWith
namespace Go.Proofs.YtahmcjgehhfknaaDoor
open Go.RowKit
set_option linter.unusedVariables false
set_option linter.unusedSimpArgs false

theorem c_clip (g l cap : Nat) (h : l ≤ cap) (w : World) : Calls Tryd.prog 70 #[.slice (some ⟨g, 0, none⟩) l cap] w fun e w' =>
    e = .returned (.slice (some ⟨g, 0, none⟩) l l) ∧ w' = w := by
  have h2 : (l : Int) ≤ (cap : Int) := by omega
  go_enter Tryd.func70, Tryd.ntmps70
  go_wp2
  go_ret
  exact ⟨rfl, rfl⟩

/-- The value of a shape, and of a field. -/
def shV (cat : Int) (p : ByteArray) (dg sc : Int) (sg : Bool) (size : Int) : Value := .agg #[.int .u8 cat, .int .u8 0, .string p, .int .i64 dg, .int .i64 sc, .bool sg, .bool false, .bool false, .bool false, .bool false, .int .i64 size]
def fdV (cat : Int) (p : ByteArray) (dg sc : Int) (sg : Bool) (size : Int) (b : Value) : Value := .agg #[.int .u8 cat, .int .u8 0, .string p, .int .i64 dg, .int .i64 sc, .bool sg, .bool false, .bool false, .bool false, .bool false, .int .i64 size, b]

set_option maxRecDepth 100000 in
set_option maxHeartbeats 4000000 in
theorem c_newField (cat : Int) (p : ByteArray) (dg sc : Int) (sg : Bool) (g l cap : Nat) (h : l ≤ cap) (w : World) :
    Calls Tryd.prog 51 #[shV cat p dg sc sg 0, .slice (some ⟨g, 0, none⟩) l cap] w fun e w' =>
      e = .returned (fdV cat p dg sc sg l (.slice (some ⟨g, 0, none⟩) l l)) ∧ Below w.heap.size w w' := by
  unfold shV
  go_enter Tryd.func51, Tryd.ntmps51
  go_upto_region 2 with fail
  go_region_with (go_at_call 70; refine (c_clip g l cap h _).mono ?_; rintro e w' ⟨rfl, rfl⟩)
  all_goals
    go_wp2
    refine bodyPost_ret (by simp [results, Tryd.results51, go_sem]; try rfl) rfl ?_
    exact ⟨rfl, (((Below.refl _ w).alloc (Nat.le_refl _) _).alloc (by simp) _).drew⟩
/-! ### A block that holds an empty field -/
def FB (w : World) (N : Nat) : Prop := w.heap[N]? = some (.cells #[.int .u8 0, .int .u8 0, .string ⟨#[]⟩, .int .i64 0, .int .i64 0, .bool false, .bool false, .bool false, .bool false, .bool false, .int .i64 0, .slice none 0 0] 43 (0, 0))
theorem FB.lt {w : World} {N : Nat} (h : FB w N) : N < w.heap.size := (Array.getElem?_eq_some_iff.1 h).1
theorem FB.new (w : World) : FB (w.alloc (.cells #[.int .u8 0, .int .u8 0, .string ⟨#[]⟩, .int .i64 0, .int .i64 0, .bool false, .bool false, .bool false, .bool false, .bool false, .int .i64 0, .slice none 0 0] 43)) w.heap.size := (MapKept.heap_alloc w _).1
theorem FB.kept {w w' : World} {N : Nat} (h : FB w N) (hb : Below w.heap.size w w') : FB w' N := (hb.block N h.lt).trans h
theorem FB.alloc {w : World} {N : Nat} (h : FB w N) (o : Obj) : FB (w.alloc o) N := h.kept ((Below.refl _ _).alloc (Nat.le_refl _) o)
theorem FB.cells {w : World} {N : Nat} (h : FB w N) : w.cell? ⟨N, 0, none⟩ = some (.int .u8 0) ∧ w.cell? ⟨N, 1, none⟩ = some (.int .u8 0) ∧ w.cell? ⟨N, 2, none⟩ = some (.string ⟨#[]⟩) ∧ w.cell? ⟨N, 3, none⟩ = some (.int .i64 0) ∧ w.cell? ⟨N, 4, none⟩ = some (.int .i64 0) ∧ w.cell? ⟨N, 5, none⟩ = some (.bool false) ∧ w.cell? ⟨N, 6, none⟩ = some (.bool false) ∧ w.cell? ⟨N, 7, none⟩ = some (.bool false) ∧ w.cell? ⟨N, 8, none⟩ = some (.bool false) ∧ w.cell? ⟨N, 9, none⟩ = some (.bool false) ∧ w.cell? ⟨N, 10, none⟩ = some (.int .i64 0) ∧ w.cell? ⟨N, 11, none⟩ = some (.slice none 0 0) :=
  ⟨Joins.cell_of_block h 0, Joins.cell_of_block h 1, Joins.cell_of_block h 2, Joins.cell_of_block h 3, Joins.cell_of_block h 4, Joins.cell_of_block h 5, Joins.cell_of_block h 6, Joins.cell_of_block h 7, Joins.cell_of_block h 8, Joins.cell_of_block h 9, Joins.cell_of_block h 10, Joins.cell_of_block h 11⟩
theorem FB.free {w : World} {N : Nat} (h : FB w N) : w.frozen? ⟨N, 0, none⟩ = false ∧ w.frozen? ⟨N, 1, none⟩ = false ∧ w.frozen? ⟨N, 2, none⟩ = false ∧ w.frozen? ⟨N, 3, none⟩ = false ∧ w.frozen? ⟨N, 4, none⟩ = false ∧ w.frozen? ⟨N, 5, none⟩ = false ∧ w.frozen? ⟨N, 6, none⟩ = false ∧ w.frozen? ⟨N, 7, none⟩ = false ∧ w.frozen? ⟨N, 8, none⟩ = false ∧ w.frozen? ⟨N, 9, none⟩ = false ∧ w.frozen? ⟨N, 10, none⟩ = false ∧ w.frozen? ⟨N, 11, none⟩ = false :=
  ⟨Joins.unfrozen_of_block h 0, Joins.unfrozen_of_block h 1, Joins.unfrozen_of_block h 2, Joins.unfrozen_of_block h 3, Joins.unfrozen_of_block h 4, Joins.unfrozen_of_block h 5, Joins.unfrozen_of_block h 6, Joins.unfrozen_of_block h 7, Joins.unfrozen_of_block h 8, Joins.unfrozen_of_block h 9, Joins.unfrozen_of_block h 10, Joins.unfrozen_of_block h 11⟩
theorem cell_at {w : World} {N k : Nat} {cs : Array Value} {t : TypeId} (h : w.heap[N]? = some (.cells cs t (0, 0))) : w.cell? ⟨N, k, none⟩ = cs[k]? := by
  simp [World.cell?, h]
/-- The world behind the store of a field's cells. -/
def setF (w : World) (N : Nat) : List Value → Nat → World
  | [], _ => w
  | a :: l, k => setF (w.setCell ⟨N, k, none⟩ a) N l (k + 1)
theorem setF_block (N : Nat) : ∀ (l : List Value) (k : Nat) (w : World) (cs : Array Value) (t : TypeId), w.heap[N]? = some (.cells cs t (0, 0)) → k + l.length ≤ cs.size →
    ∃ cs', (setF w N l k).heap[N]? = some (.cells cs' t (0, 0)) ∧ cs'.size = cs.size ∧ (∀ j, j < k → cs'[j]? = cs[j]?) ∧ ∀ j, j < l.length → cs'[k + j]? = l[j]?
  | [], k, w, cs, t, h, _ => ⟨cs, h, rfl, fun _ _ => rfl, fun j hj => by simp at hj⟩
  | a :: l, k, w, cs, t, h, hk => by
    simp only [List.length_cons] at hk
    have h1 := Joins.block_setCell (i := k) h a
    obtain ⟨cs', e1, e2, e3, e4⟩ := setF_block N l (k + 1) _ _ t h1 (by simp; omega)
    refine ⟨cs', e1, by rw [e2]; simp, fun j hj => ?_, fun j hj => ?_⟩
    · rw [e3 j (by omega)]; rw [Array.getElem?_setIfInBounds]; rw [if_neg (by omega)]
    · cases j with
      | zero => rw [Nat.add_zero, e3 k (by omega), Array.getElem?_setIfInBounds, if_pos rfl, if_pos (by omega)]; rfl
      | succ j =>
        have := e4 j (by simp at hj; omega)
        rw [show k + (j + 1) = k + 1 + j from by omega, this]; rfl
theorem setF_other (N : Nat) : ∀ (l : List Value) (k : Nat) (w : World) (b : Nat), b ≠ N → (setF w N l k).heap[b]? = w.heap[b]?
  | [], _, _, _, _ => rfl
  | a :: l, k, w, b, hb => (setF_other N l (k + 1) _ b hb).trans (Below.heap_setCell _ _ _ _ hb)
theorem setF_below {B N : Nat} {w0 : World} (hN : B ≤ N) : ∀ (l : List Value) (k : Nat) (w : World), Below B w0 w → Below B w0 (setF w N l k)
  | [], _, _, h => h
  | a :: l, k, w, h => setF_below hN l (k + 1) _ (h.setCell hN _)
theorem FB.named {B : Nat} {w0 w : World} {N : Nat} (h : FB w N) (hb : Below B w0 w) (hN : B ≤ N) (a0 a1 a2 a3 a4 a5 a6 a7 a8 a9 a10 a11 : Value) :
    ∃ w', w' = ((((((((((((w.setCell ⟨N, 0, none⟩ a0).setCell ⟨N, 1, none⟩ a1).setCell ⟨N, 2, none⟩ a2).setCell ⟨N, 3, none⟩ a3).setCell ⟨N, 4, none⟩ a4).setCell ⟨N, 5, none⟩ a5).setCell ⟨N, 6, none⟩ a6).setCell ⟨N, 7, none⟩ a7).setCell ⟨N, 8, none⟩ a8).setCell ⟨N, 9, none⟩ a9).setCell ⟨N, 10, none⟩ a10).setCell ⟨N, 11, none⟩ a11) ∧ Below B w0 w' ∧ (∀ b, b ≠ N → w'.heap[b]? = w.heap[b]?) ∧ w'.cell? ⟨N, 0, none⟩ = some a0 ∧ w'.cell? ⟨N, 1, none⟩ = some a1 ∧ w'.cell? ⟨N, 2, none⟩ = some a2 ∧ w'.cell? ⟨N, 3, none⟩ = some a3 ∧ w'.cell? ⟨N, 4, none⟩ = some a4 ∧ w'.cell? ⟨N, 5, none⟩ = some a5 ∧ w'.cell? ⟨N, 6, none⟩ = some a6 ∧ w'.cell? ⟨N, 7, none⟩ = some a7 ∧ w'.cell? ⟨N, 8, none⟩ = some a8 ∧ w'.cell? ⟨N, 9, none⟩ = some a9 ∧ w'.cell? ⟨N, 10, none⟩ = some a10 ∧ w'.cell? ⟨N, 11, none⟩ = some a11 := by
  obtain ⟨cs, e1, e2, _, e4⟩ := setF_block N [a0, a1, a2, a3, a4, a5, a6, a7, a8, a9, a10, a11] 0 w _ _ h (by simp)
  exact ⟨setF w N [a0, a1, a2, a3, a4, a5, a6, a7, a8, a9, a10, a11] 0, rfl, setF_below hN _ _ _ hb, fun b hne => setF_other N _ _ _ b hne, (cell_at e1).trans ((congrArg _ (Nat.zero_add 0).symm).trans (e4 0 (by simp))), (cell_at e1).trans ((congrArg _ (Nat.zero_add 1).symm).trans (e4 1 (by simp))), (cell_at e1).trans ((congrArg _ (Nat.zero_add 2).symm).trans (e4 2 (by simp))), (cell_at e1).trans ((congrArg _ (Nat.zero_add 3).symm).trans (e4 3 (by simp))), (cell_at e1).trans ((congrArg _ (Nat.zero_add 4).symm).trans (e4 4 (by simp))), (cell_at e1).trans ((congrArg _ (Nat.zero_add 5).symm).trans (e4 5 (by simp))), (cell_at e1).trans ((congrArg _ (Nat.zero_add 6).symm).trans (e4 6 (by simp))), (cell_at e1).trans ((congrArg _ (Nat.zero_add 7).symm).trans (e4 7 (by simp))), (cell_at e1).trans ((congrArg _ (Nat.zero_add 8).symm).trans (e4 8 (by simp))), (cell_at e1).trans ((congrArg _ (Nat.zero_add 9).symm).trans (e4 9 (by simp))), (cell_at e1).trans ((congrArg _ (Nat.zero_add 10).symm).trans (e4 10 (by simp))), (cell_at e1).trans ((congrArg _ (Nat.zero_add 11).symm).trans (e4 11 (by simp)))⟩



set_option maxRecDepth 100000 in
set_option maxHeartbeats 4000000 in
theorem c_alpha (g l cap : Nat) (h : l ≤ cap) (hl : l ≤ 1000000) (w : World) :
    Calls Tryd.prog 54 #[.slice (some ⟨g, 0, none⟩) l cap] w fun e w' =>
      e = .returned (fdV 2 (strB (List.replicate l 88)) 0 0 false l (.slice (some ⟨g, 0, none⟩) l l)) ∧ Below w.heap.size w w' := by
  obtain ⟨P, hP⟩ : ∃ P, P = strB (List.replicate l 88) := ⟨_, rfl⟩
  rw [← hP]
  have HREP : Hid (∀ W, Calls Tryd.prog 16 #[.string ⟨#[88]⟩, .int .i64 l] W fun e w' => e = .returned (.string P) ∧ Below W.heap.size W w') := fun W => by rw [hP]; exact c_rep 88 l hl W
  have HFB := Lib.hid (FB.new w)
  have HB := Lib.hid ((Below.refl w.heap.size w).alloc (Nat.le_refl _) (.cells #[.int .u8 0, .int .u8 0, .string ⟨#[]⟩, .int .i64 0, .int .i64 0, .bool false, .bool false, .bool false, .bool false, .bool false, .int .i64 0, .slice none 0 0] 43))
  clear hP
  go_enter Tryd.func54, Tryd.ntmps54
  go_wp2_with (first
    | (go_at_call 16; refine (HREP.out _).mono ?_; rintro e w1 ⟨rfl, hb1⟩; have HFB1 := Lib.hid (HFB.out.kept hb1); have HB1 := Lib.hid (HB.out.trans (hb1.mono HB.out.size)); clear hb1)
    | (go_at_call 51; refine (c_newField 2 P 0 0 false g l cap h _).mono ?_; rintro e w2 ⟨rfl, hb2⟩; dsimp only [fdV]; have HFB2 := Lib.hid (HFB1.out.kept hb2); have HB2 := Lib.hid (HB1.out.trans (hb2.mono HB1.out.size)); clear hb2; obtain ⟨c0, c1, c2, c3, c4, c5, c6, c7, c8, c9, c10, c11⟩ := HFB2.out.cells; obtain ⟨f0, f1, f2, f3, f4, f5, f6, f7, f8, f9, f10, f11⟩ := HFB2.out.free))
  obtain ⟨w5, hw5, hb5, ho5, d0, d1, d2, d3, d4, d5, d6, d7, d8, d9, d10, d11⟩ := HFB2.out.named HB2.out (Nat.le_refl _) (.int .u8 2) (.int .u8 0) (.string P) (.int .i64 0) (.int .i64 0) (.bool false) (.bool false) (.bool false) (.bool false) (.bool false) (.int .i64 l) (.slice (some ⟨g, 0, none⟩) l l)
  rw [← hw5]
  clear hw5
  refine bodyPost_ret (by simp [results, Tryd.results54, go_sem, d0, d1, d2, d3, d4, d5, d6, d7, d8, d9, d10, d11]; try rfl) rfl ?_
  exact ⟨rfl, hb5⟩
end Go.Proofs.YtahmcjgehhfknaaDoor
