/-
  From a row's claim to a contract (layer 3): the wrap of layer 2, and the facts that the contracts of package tokens ask.
-/
import Derived.Test.YtpalfhfbgfnacaaGreatDoorRows
import Derived.Test.YtpalfhfbgfnacaaGreatDoorSc3
import Derived.HandedShaped
import Derived.Lib.LaidTab
import Derived.OpenShut
import Derived.LaidSub
import Derived.LaidMore
import Derived.ProofKit
namespace Go.Proofs.YtpalfhfbgfnacaaGreatDoor
open Go.RowKit
set_option linter.unusedVariables false

theorem returns_laid_shaped {H : Type} {enc : TypeId × Value → H} {a : Assume} {C : Checked} {os : Os} {f : FuncId} {fn : Func} {s : ChangeSpec} {conds : List PathCond} {apart fresh handsOn again : Bool} {X : World → Array Value → Prop}
    (hX : ∀ (w w' : World) (args : Array Value), w.heap = w'.heap → X w args → X w' args)
    (own : ownKnob C.prog.godebug = none) (started : os.Started) (noInit : C.prog.inits.idxOf? f = none) (hfn : C.prog.funcs[f]? = some fn)
    (witness : ∃ (w : World) (tape : Tape) (i : Input), w.os = os ∧ (w.forCall tape i).Shaped C.prog ∧ i.vars = [] ∧ Input.okWide C.prog (w.forCall tape i) .any w.heap.size f i ∧
      ((s.pre enc C.prog fn conds apart (w.forCall tape i).memory i.args ∧ X (w.forCall tape i).memory i.args) ∧ sizedMet enc C.prog fn (OpenSpec.ofChange s) apart (w.forCall tape i).memory i.args) ∧ a.holds C.prog (lone (Frame.enter C.prog f i.args .normal) [] (w.forCall tape i)))
    (contract : ∀ (W : World) (base : Nat) (args : Array Value) (ds gs : List (DataW H)) (before : List MemPlace),
      (∀ (j : Nat) t v, fn.params[j]? = some t → args[j]? = some v → Value.okWide C.prog W .any base t v) →
      DataW.Whole enc C.prog fn.params.toList s.vars apart W args.toList ds gs before →
      conds.all (PathCond.test C.prog ⟨fn.params.toList, ds, s.plain.varTypes C.prog, gs⟩) = true →
      X W args → W.ShapedOpen C.prog →
      Calls C.prog f args W fun e W' => ∃ v, e = .returned v ∧ s.post enc C.prog fn apart fresh handsOn again W args v W') :
    ReturnsInHanded a C os f .any (fun w args => (s.pre enc C.prog fn conds apart w args ∧ X w args) ∧ sizedMet enc C.prog fn (OpenSpec.ofChange s) apart w args) (s.post enc C.prog fn apart fresh handsOn again) := by
  refine returnsInHanded_of_calls own started noInit witness fun w tape i _ hsh _ hok hpre _ => ?_
  obtain ⟨_, _, _, fn', hfn', _, _, _, _, hval⟩ := hok
  obtain rfl : fn' = fn := Option.some.inj (hfn'.symm.trans hfn)
  obtain ⟨⟨⟨ds, gs, before, hw, hc⟩, hx⟩, _⟩ := hpre
  refine (contract (w.forCall tape i) w.heap.size i.args ds gs before hval (DataW.Whole.of_heap (w' := w.forCall tape i) (by rfl) hw) hc (hX _ _ _ (by rfl) hx) hsh).mono ?_
  rintro e W' ⟨v, rfl, hp⟩
  exact ChangeSpec.post_blind hp


/-- The tables that the rows of layer 3 list. -/
abbrev tabs3 : List (String × DataW Unit) := Rows.tokensScanRow.laid
theorem maxLen_of {W : World} (h : W.ShapedOpen Tryz.prog) : MaxLenAt W := Tryz.laysM146.s1_3 W h
open Go.ChangeShapes Go.WideShapes Go.ChangeAt in
/-- An array of strings that reads as a list holds the list, cell for cell. -/
theorem cells_of_strs {H : Type} {enc : TypeId × Value → H} {P : Program} {w : World} {base : Nat} {sp : Nat → Bool} {held : Bool} {fuel : Nat} {t e : TypeId} {n : Nat} {cs : List Value} {L : List (List UInt8)} {p : List MemPlace}
    (ht : P.underlying t = some (.array n e)) (he : P.underlying e = some .string) (hce : P.cellsOf e = 1) (hct : P.cellsOf t = n)
    (h : DataW.trod enc P w base sp held fuel t cs = some (.agg (L.map fun l => .lit (.string l)), p)) : cs = L.map fun l => Value.string (strL l) := by
  obtain ⟨xs, m, _, hx, hl, hxl, hall⟩ := DataW.trod_array ht h
  have hxs : xs.map (·.1) = L.map fun l => (DataW.lit (.string l) : DataW H) := by
    have := congrArg Prod.fst hx
    simpa using this.symm
  have hLl : L.length = n := by
    have := congrArg List.length hxs
    simp at this
    omega
  apply List.ext_getElem?
  intro i
  by_cases hi : i < n
  · have hf := hall i hi
    rw [hce, Nat.mul_one, List.getElem?_eq_getElem (by omega)] at hf
    obtain ⟨s, hc, hy, _⟩ := DataW.trod_string he hf
    have h1 : cs[i]? = some (.string s) := by
      have := congrArg (·[0]?) hc
      simpa [List.getElem?_take, List.getElem?_drop] using this
    have h2 : (xs.map (·.1))[i]? = some (DataW.lit (.string s.data.toList) : DataW H) := by
      rw [List.getElem?_map, List.getElem?_eq_getElem (by omega), hy]
      rfl
    rw [hxs] at h2
    simp only [List.getElem?_map, Option.map_eq_some_iff, DataW.lit.injEq, Lit.string.injEq] at h2
    obtain ⟨l', hl', hll⟩ := h2
    rw [h1, List.getElem?_map, hl', hll]
    show some (Value.string s) = some (.string (strL s.data.toList))
    rw [strL_of]
  · rw [List.getElem?_eq_none (by omega), List.getElem?_eq_none (by simp; omega)]
def signTab : List (List UInt8) := [[42, 42], [60, 61], [62, 61], [60, 62], [40], [41], [58], [43], [45], [42], [47], [61], [60], [62]]
theorem signsG : Tryz.prog.globalNamed "columnseven/tokens.signs" = some 0 := by kernel_rfl
theorem signs_of {W : World} (h : laidMetH Tryz.prog tabs3 W) : SignsAt W := by
  have h1 := h.filter fun x => x.1 == "columnseven/tokens.signs"
  have e : (tabs3.filter fun x => x.1 == "columnseven/tokens.signs") = [("columnseven/tokens.signs", .agg (signTab.map fun l => .lit (.string l)))] := by rfl
  rw [e] at h1
  rw [MakeChecks.laidMetH_plain _ _ _ (by kernel_rfl)] at h1
  obtain ⟨ps, ⟨g', t', cs, fuel, p, q, hg', ht', hvar, hd, _, _⟩, _⟩ := h1
  obtain rfl := Option.some.inj (signsG.symm.trans hg')
  obtain rfl : 143 = t' := Option.some.inj ((show (Tryz.prog.globals[0]?).map (·.type) = some 143 by kernel_rfl).symm.trans ht')
  have hcs := cells_of_strs Tryz.underlying143 Tryz.underlying9 (by kernel_rfl) (by kernel_rfl) hd
  have hcell : ∀ i l, signTab[i]? = some l → W.cell? ⟨0, i, none⟩ = some (.string (strL l)) := fun i l hi => by
    have := World.var?_cell signsG hvar i
    rw [this, ← Array.getElem?_toList, hcs, List.getElem?_map, hi]
    rfl
  exact ⟨hcell 0 _ rfl, hcell 1 _ rfl, hcell 2 _ rfl, hcell 3 _ rfl, hcell 4 _ rfl, hcell 5 _ rfl, hcell 6 _ rfl, hcell 7 _ rfl, hcell 8 _ rfl, hcell 9 _ rfl, hcell 10 _ rfl, hcell 11 _ rfl, hcell 12 _ rfl, hcell 13 _ rfl⟩
end Go.Proofs.YtpalfhfbgfnacaaGreatDoor
