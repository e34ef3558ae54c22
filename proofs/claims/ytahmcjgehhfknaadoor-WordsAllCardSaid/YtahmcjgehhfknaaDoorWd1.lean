/-
  Maps that are filled word by word: the law of a literal's entry (insert); a map of strings said key by key. The figurative constants and Byte.
-/
import Derived.Test.YtahmcjgehhfknaaDoorStr
import Derived.Maps.OwnIn
import Derived.Maps.OwnSet
import Derived.Maps.Views
import Derived.Maps.StringElems
import Derived.Sort.KeysCollected
import Derived.Lib.Hide
namespace Go.Proofs.YtahmcjgehhfknaaDoor
open Go.RowKit
open Go.Maps (Keyed)
set_option linter.unusedVariables false
set_option linter.unusedSimpArgs false

/-- An entry of a map's literal. -/
theorem wpList_insert_own {H : Type} {P : Program} (w : World) {ops : Array Oper} {rest : List Oper} {o : Oper} {a : Act} {Q : Exit → Act → World → Prop}
    (hg : o.guard = none) (m x v : Operand) (t : TypeId) (hop : o.op = Op.insert t m x v)
    (k e : TypeId) (K : Keyed P k) (ht : P.underlying t = some (.map k e)) (R : Value → Option (DataW H × List MemPlace)) (b n : Nat) (D : DataW H)
    (hm : a.eval m = .map (some b)) (hown : w.ownsMap P k R b n D) (hn : n < maxLen) (key val : Value) (kl : Lit) (hx : a.eval x = key) (hv : a.eval v = val) (hkey : keyOf P k key = some kl)
    (d : DataW H) (ps : List MemPlace) (hval : R val = some (d, ps))
    (hK : ∀ w', w'.ownsMap P k R b (n + 1) (D.put kl d) → w.grownBy w' (some b) → wpList P ops Q rest (a.put o.dst undef) w') :
    wpList P ops Q (o :: rest) a w := by
  refine wpList_plain hg fun K' hK' => ?_
  obtain ⟨w', hrun, r1, r2⟩ := hown.update K ht hn hkey hval
  unfold Oper.wp
  simp [execOp, hop, hm, hx, hv, hrun, Result.andThen]
  exact hK' _ _ (hK w' r1 r2)


/-! ### A map of strings, said key by key -/
abbrev Upd := List UInt8 → Option Int
def upd (m : Upd) (x : List UInt8) (c : Int) : Upd := fun y => if y = x then some c else m y
def KV (D : DataW Unit) (q : IntKind) (m : Upd) : Prop :=
  Maps.IsMap D ∧ ∀ x, Maps.has D (.string x) = (m x).isSome ∧ ∀ v, m x = some v → ∀ z, D.atKey (.string x) z = .lit (.int q v)
theorem KV.empty (q : IntKind) : KV (.map []) q (fun _ => none) := ⟨⟨[], rfl⟩, fun x => ⟨rfl, fun v h => by cases h⟩⟩
theorem str_key (x : List UInt8) : WideAt.IsKeyLit (.string x) := by trivial
theorem KV.put {D : DataW Unit} {q : IntKind} {m : Upd} (h : KV D q m) (x : List UInt8) (c : Int) : KV (D.put (.string x) (.lit (.int q c))) q (upd m x c) := by
  refine ⟨h.1.put _ _, fun y => ?_⟩
  by_cases hy : y = x
  · subst hy
    refine ⟨by rw [Maps.has_put_same h.1 (str_key _)]; simp [upd], fun v hv z => ?_⟩
    rw [Maps.atKey_put_same h.1 (str_key _)]
    simp [upd] at hv
    rw [hv]
  · have hne : Lit.string y ≠ Lit.string x := fun e => hy (by injection e)
    refine ⟨by rw [Maps.has_put_other hne]; simpa [upd, hy] using (h.2 y).1, fun v hv z => ?_⟩
    rw [Maps.atKey_put_other hne]
    simp [upd, hy] at hv
    exact (h.2 y).2 v hv z
theorem KV.congr {D : DataW Unit} {q : IntKind} {m m' : Upd} (h : KV D q m) (e : ∀ x, m' x = m x) : KV D q m' := by
  rw [show m' = m from funext e]; exact h
theorem KV.at_ {D : DataW Unit} {q : IntKind} {m : Upd} (h : KV D q m) (x : List UInt8) : D.atKey (.string x) (.lit (.int q 0)) = .lit (.int q ((m x).getD 0)) := by
  cases hm : m x with
  | none => rw [Maps.atKey_of_not_has (by rw [(h.2 x).1, hm]; rfl)]; rfl
  | some v => rw [(h.2 x).2 v hm]; rfl
/-- Block b is a map of strings that says m. -/
def SM (w : World) (e : TypeId) (q : IntKind) (b n : Nat) (m : Upd) : Prop := ∃ D : DataW Unit, w.ownsMap Tryd.prog 9 (plainElem Tryd.prog e) b n D ∧ KV D q m
theorem keyS (s : ByteArray) (h : s.size ≤ maxLen) : keyOf Tryd.prog 9 (.string s) = some (.string s.data.toList) := by
  simp [keyOf, Tryd.underlying9, mapKey, h]
theorem keyedS : Keyed Tryd.prog 9 := Maps.string_keyed Tryd.underlying9

/-! ### The figurative constants -/
def figL : List (List UInt8 × Int) := [([90, 69, 82, 79], 48), ([90, 69, 82, 79, 83], 48), ([90, 69, 82, 79, 69, 83], 48), ([83, 80, 65, 67, 69], 32), ([83, 80, 65, 67, 69, 83], 32), ([72, 73, 71, 72, 45, 86, 65, 76, 85, 69], 255), ([72, 73, 71, 72, 45, 86, 65, 76, 85, 69, 83], 255), ([76, 79, 87, 45, 86, 65, 76, 85, 69], 0), ([76, 79, 87, 45, 86, 65, 76, 85, 69, 83], 0), ([81, 85, 79, 84, 69], 34), ([81, 85, 79, 84, 69, 83], 34)]

def figM : Upd := figL.foldl (fun m p => upd m p.1 p.2) (fun _ => none)
set_option maxRecDepth 100000 in
set_option maxHeartbeats 2000000 in
theorem c_figs (w : World) : Calls Tryd.prog 23 #[] w fun e w' =>
    e = .returned (.map (some w.heap.size)) ∧ SM w' 5 .u8 w.heap.size 11 figM ∧ Below w.heap.size w w' := by
  have hmm := @run_makeMap Tryd.prog
  have hown := World.ownsMap_made w Tryd.prog 9 (plainElem (H := Unit) Tryd.prog 5)
  have hB : Below w.heap.size w (w.alloc (.map #[] 0)) := (Below.refl _ w).alloc (Nat.le_refl _) _
  go_enter Tryd.func23, Tryd.ntmps23
  go_wp2_with (refine wpList_insert_own _ rfl _ _ _ 60 rfl 9 5 keyedS Tryd.underlying60 _ _ _ _ rfl hown (by unfold maxLen; omega) _ _ _ rfl rfl (keyS _ (by decide)) _ [] (plainElem_int Tryd.underlying5 (by decide)) ?_; intro w1 hown1 hgrow1; have hB1 := hB.grown hgrow1 hB.size (fun k e => by cases e; exact Nat.le_refl _); clear hown hB hgrow1; have hown := hown1; have hB := hB1; clear hown1 hB1)
  go_ret
  exact ⟨rfl, ⟨_, hown, by
    refine ((((((((((((KV.empty .u8).put _ _).put _ _).put _ _).put _ _).put _ _).put _ _).put _ _).put _ _).put _ _).put _ _).put _ _).congr fun x => ?_
    rfl⟩, hB⟩

def byteI (x : List UInt8) : Int := (figM x).getD 0
def isFig (x : List UInt8) : Bool := (figM x).isSome
set_option maxRecDepth 100000 in
theorem c_byte (s : ByteArray) (hs : s.size ≤ maxLen) (w : World) : Calls Tryd.prog 12 #[.string s] w fun e w' =>
    e = .returned (.tuple #[.int .u8 (byteI s.data.toList), .bool (isFig s.data.toList)]) ∧ Below w.heap.size w w' := by
  have hk := Lib.hid hs
  go_enter Tryd.func12, Tryd.ntmps12
  go_wp2_with (first
    | (go_at_call 23; refine (c_figs _).mono ?_; rintro e w' ⟨rfl, ⟨D, hown, hkv⟩, hb⟩)
    | (at_lookup; refine wpList_lookup_own_ok_int _ rfl _ _ 60 rfl 9 5 .u8 keyedS Tryd.underlying60 Tryd.underlying5 (Tryd.zeroValue5 _) _ _ D rfl hown _ _ rfl (keyS s hk.out) ?_; intro c hat hwc))
  have hv := hkv.at_ s.data.toList
  rw [hat] at hv
  have hc : c = byteI s.data.toList := by injection hv with h; injection h
  go_ret2
  exact ⟨by rw [hc, (hkv.2 _).1]; rfl, hb⟩
end Go.Proofs.YtahmcjgehhfknaaDoor
