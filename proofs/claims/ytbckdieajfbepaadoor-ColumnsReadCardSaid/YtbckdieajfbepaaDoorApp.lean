/-
  append of one value onto a row of the call's own, as an equation on its run; and the law that takes such an equation in a walk, also under a guard that says yes. No program is named here.
-/
import Derived.Test.YtbckdieajfbepaaDoorBase
import Derived.Maps.AppendAt
namespace Go.Proofs.YtbckdieajfbepaaDoor
open Go.RowKit
set_option linter.unusedVariables false
set_option linter.unusedSimpArgs false

theorem append_one {P : Program} (t e : TypeId) (i : TypeInfo) (z : Value) (bytes : Nat) (ht : P.underlying t = some (.slice e)) (hi : P.info? e = some i) (hz : i.zero = some z) (hsize : i.size = 1) (hby : i.bytes = bytes) (hzs : z.cells.size = 1)
    (base : Nat) (v : Value) (n : Nat) (xs : List Value) (u : Value) (W : World) (hown : W.ownsRow base e 1 v n xs) (h1 : u.oneCell' = true) (h63 : n + 1 ≤ maxLen) (hb : (n + 1) * bytes ≤ 140737488355328) (hbase : base ≤ W.heap.size) :
    ∃ v' w', (Builtin.append_ #[t, t] t #[v, .slice (some ⟨W.heap.size, 0, none⟩) 1 1]).run P (W.alloc (.cells #[u] e)) = .ok v' w' ∧ w'.ownsRow base e 1 v' (n + 1) (xs ++ [u]) ∧ Below base W w' ∧ base ≤ w'.heap.size := by
  obtain ⟨v', w', hrun, hown', hgrow, _, _⟩ := run_append_own_at (P := P) (W.alloc (.cells #[u] e)) base t t e i z 1 bytes ht hi hz hsize hby hzs (by decide) v n xs (hown.alloc _) ⟨W.heap.size, 0, none⟩ 1 1 [u] rfl
    (fun j x hj => by
      match j, hj with
      | 0, hj =>
        simp at hj; subst hj
        simp [Addr.add])
    (fun x hx => by simp at hx; subst hx; exact h1) h63 hb (by simp; omega)
  refine ⟨v', w', hrun, hown', ((Below.refl _ _).alloc hbase _).trans ((Below.refl _ _).grown hgrow (by simp; omega) (fun k hk => (hown.lt k hk).1)), ?_⟩
  have := hgrow.size
  simp at this
  omega

/-- append of which the run is known. -/
theorem wp_append_run {P : Program} {ops : Array Oper} {rest : List Oper} {o : Oper} {a : Act} {w : World} {Q : Exit → Act → World → Prop} (hw : Region.wanted o (yielded ops a.tmps) = true) (s x : Operand) (ats : Array TypeId)
    (ho : o.op = .call { callee := .builtin .append, args := #[s, x], argTypes := ats }) (v y v' : Value) (w' : World) (hs : a.eval s = v) (hx : a.eval x = y) (hrun : (Builtin.append_ ats o.type #[v, y]).run P w = .ok v' w')
    (h : wpList P ops Q rest (a.put o.dst v') w') : wpList P ops Q (o :: rest) a w :=
  wpList_step fun K hK => by
    rw [if_pos hw]
    unfold Oper.wp
    simp [execOp, ho, resolve, invoke, builtin, hs, hx, hrun, Result.andThen]
    exact hK _ _ h
end Go.Proofs.YtbckdieajfbepaaDoor
