/-
  The writer of package columns in memory, and appending a text to it. No walk here.
-/
import Derived.Test.YtpalfhfbgfnacaaGreatDoorGD
import Derived.Test.YtpalfhfbgfnacaaGreatDoorGA
import Derived.Lib.AppendStr
import Derived.Lib.ItoaMem
namespace Go.Proofs.YtpalfhfbgfnacaaGreatDoor
open Go.RowKit
set_option linter.unusedVariables false
set_option linter.unusedSimpArgs false

/-- append of which the run is known, as a step of a region that draws its order. -/
theorem step_append_run {P : Program} {ops : Array Oper} {o : Oper} {a : Act} {w : World} {K : Act → World → Prop} {Q : Exit → Act → World → Prop} {E : Prop} (hgd : o.guard = none) (s x : Operand) (ats : Array TypeId)
    (ho : o.op = .call { callee := .builtin .append, args := #[s, x], argTypes := ats }) (v y v' : Value) (w' : World) (hs : a.eval s = v) (hx : a.eval x = y) (hrun : (Builtin.append_ ats o.type #[v, y]).run P w = .ok v' w')
    (h : K (a.put o.dst v') w') : if Region.wanted o (yielded ops a.tmps) = true then Oper.wp P o a w K Q else E := by
  have hw : Region.wanted o (yielded ops a.tmps) = true := by simp [Region.wanted, hgd]
  rw [if_pos hw]
  unfold Oper.wp
  simp [execOp, ho, resolve, invoke, builtin, hs, hx, hrun, Result.andThen]
  exact h

/-- The writer: its block Wr holds the row of bytes and the number of lines. -/
structure WrAt (B Wr : Nat) (ov : Value) (o : List UInt8) (n : Nat) (w : World) : Prop where
  wr : w.heap[Wr]? = some (.cells #[ov, .int .i64 n] 95 (0, 0))
  out : w.ownsRow B 5 1 ov o.length (u8C o)
  bs : B ≤ w.heap.size
  bw : B ≤ Wr
theorem Tryz.infoByteW : (Tryz.prog.info? 5).map (fun i => (i.zero, i.size, i.bytes)) = some (some (.int .u8 0), 1, 1) := by kernel_rfl
section
variable {B Wr : Nat} {ov : Value} {o : List UInt8} {n : Nat} {w w' : World}
theorem WrAt.kept (h : WrAt B Wr ov o n w) (hs : w.heap.size ≤ w'.heap.size) (hk : ∀ k, k < w.heap.size → w'.heap[k]? = w.heap[k]?) : WrAt B Wr ov o n w' :=
  ⟨(hk _ (lt_of_block h.wr)).trans h.wr, own_kept h.out hk, Nat.le_trans h.bs hs, h.bw⟩
theorem WrAt.below (h : WrAt B Wr ov o n w) (hb : Below w.heap.size w w') : WrAt B Wr ov o n w' := h.kept hb.size hb.block
theorem WrAt.drew (h : WrAt B Wr ov o n w) : WrAt B Wr ov o n w.drew := h.kept (Nat.le_refl _) fun _ _ => rfl
theorem WrAt.turns (h : WrAt B Wr ov o n w) {e : TypeId} (ht : Turns e w w') (h1 : 95 ≠ e) (h2 : 5 ≠ e) : WrAt B Wr ov o n w' :=
  ⟨ht.block _ _ _ _ h.wr h1, own_turns h.out ht h2, Nat.le_trans h.bs ht.size, h.bw⟩
theorem WrAt.setLines (h : WrAt B Wr ov o n w) (m : Nat) : WrAt B Wr ov o m (w.setCell ⟨Wr, 1, none⟩ (.int .i64 m)) := by
  have hT := Turns.setCell h.wr 1 (.int .i64 m)
  exact ⟨Joins.block_setCell h.wr _, own_turns h.out hT (by decide), Nat.le_trans h.bs hT.size, h.bw⟩
theorem WrAt.cells (h : WrAt B Wr ov o n w) : w.cell? ⟨Wr, 0, none⟩ = some ov ∧ w.cell? ⟨Wr, 1, none⟩ = some (.int .i64 n) ∧ w.frozen? ⟨Wr, 0, none⟩ = false ∧ w.frozen? ⟨Wr, 1, none⟩ = false :=
  ⟨Joins.cell_of_block h.wr 0, Joins.cell_of_block h.wr 1, Joins.unfrozen_of_block h.wr 0, Joins.unfrozen_of_block h.wr 1⟩
/-- What an append to the writer's row leaves, and the store behind it. -/
structure Put (B Wr : Nat) (o : List UInt8) (n : Nat) (a : Option Addr) (m c : Nat) (w w' : World) : Prop where
  at_ : WrAt B Wr (.slice a m c) o n (w'.setCell ⟨Wr, 0, none⟩ (.slice a m c))
  below : Below B w w'
  cell : ∃ u, w'.cell? ⟨Wr, 0, none⟩ = some u
  free : w'.frozen? ⟨Wr, 0, none⟩ = false
  len : m = o.length
  two : Turns2 95 5 w (w'.setCell ⟨Wr, 0, none⟩ (.slice a m c))
theorem put_of (h : WrAt B Wr ov o n w) {a : Option Addr} {m c : Nat} {l : List UInt8} (hm : m = (o ++ l).length) (ho : w'.ownsRow B 5 1 (.slice a m c) (o ++ l).length (u8C (o ++ l))) (hg : w.grownBy w' ov.ownBlock) : Put B Wr (o ++ l) n a m c w w' := by
  have hT := Turns.grown hg (own_kind h.out)
  have hw := hT.block _ _ _ _ h.wr (by decide)
  have hT2 := Turns.setCell hw 0 (.slice a m c)
  refine ⟨⟨Joins.block_setCell hw _, own_turns ho hT2 (by decide), Nat.le_trans (Nat.le_trans h.bs hg.size) hT2.size, h.bw⟩, ?_, ⟨_, Joins.cell_of_block hw 0⟩, Joins.unfrozen_of_block hw 0, hm, hT.two2.trans hT2.two1⟩
  exact (Below.refl _ _).grown hg h.bs fun k hk => (h.out.lt k hk).1
/-- append of a string. -/
theorem WrAt.str (h : WrAt B Wr ov o n w) (u : ByteArray) (hl : o.length + u.size ≤ 140737488355328) :
    ∃ a c w', (Builtin.append_ #[66, 9] 66 #[ov, .string u]).run Tryz.prog w = .ok (.slice a (o.length + u.size) c) w' ∧ Put B Wr (o ++ u.data.toList) n a (o.length + u.size) c w w' := by
  obtain ⟨i1, hj, hy0, hy1, hy2⟩ := info_parts Tryz.infoByteW
  obtain ⟨v', w', hrun, ho, hg, _⟩ := Lib.run_append_own_string (P := Tryz.prog) w B 66 9 66 5 i1 Tryz.underlying66 Tryz.underlying9 hj hy0 hy1 hy2 _ _ _ h.out u (by unfold maxLen; omega) hl h.bs
  obtain ⟨a, c, rfl⟩ := own_sl ho
  have hle : o.length + u.size = (o ++ u.data.toList).length := by rw [List.length_append, size_data]
  have hsc : u8C o ++ Lib.strCells u = u8C (o ++ u.data.toList) := by rw [u8C_append]; rfl
  refine ⟨a, c, w', hrun, put_of h hle ?_ hg⟩
  rw [← hle, ← hsc]
  exact ho
/-- append of one byte that lies in a new block. -/
theorem WrAt.byte (h : WrAt B Wr ov o n w) (b : UInt8) (hl : o.length + 1 ≤ 140737488355328) :
    ∃ a c w', (Builtin.append_ #[66, 66] 66 #[ov, .slice (some ⟨w.heap.size, 0, none⟩) 1 1]).run Tryz.prog (w.alloc (.cells #[.int .u8 b.toNat] 5)) = .ok (.slice a (o.length + 1) c) w' ∧ Put B Wr (o ++ [b]) n a (o.length + 1) c w w' := by
  obtain ⟨i1, hj, hy0, hy1, hy2⟩ := info_parts Tryz.infoByteW
  have h' := h.kept (w' := w.alloc (.cells #[.int .u8 b.toNat] 5)) (by simp) (kept_alloc w _)
  obtain ⟨v', w', hrun, ho, hg, _, _⟩ := run_append_own_at (P := Tryz.prog) (w.alloc (.cells #[.int .u8 b.toNat] 5)) B 66 66 5 i1 _ 1 1 Tryz.underlying66 hj hy0 hy1 hy2 rfl (by decide) _ _ _ h'.out ⟨w.heap.size, 0, none⟩ 1 1 [.int .u8 b.toNat] rfl
    (fun j x hj => by
      match j, hj with
      | 0, hj => simp at hj; subst hj; simp [Addr.add])
    (fun x hx => by simp at hx; subst hx; rfl) (by unfold maxLen; omega) (by omega) (by simp; have := h.bs; omega)
  obtain ⟨a, c, rfl⟩ := own_sl ho
  have hle : o.length + 1 = (o ++ [b]).length := by simp
  have hP := put_of (l := [b]) h' hle (by rw [← hle, u8C_append]; exact ho) hg
  exact ⟨a, c, w', hrun, hP.at_, (((Below.refl _ _).alloc h.bs _).trans hP.below), hP.cell, hP.free, hP.len, (Turns.of_kept (e := 5) (by simp) (kept_alloc w _)).two2.trans hP.two⟩
end
end Go.Proofs.YtpalfhfbgfnacaaGreatDoor
