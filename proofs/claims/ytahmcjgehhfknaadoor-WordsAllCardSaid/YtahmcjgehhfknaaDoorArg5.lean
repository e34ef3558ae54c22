/-
  A token and a number as plain data that came in.
-/
import Derived.Test.YtahmcjgehhfknaaDoorWd11
import Derived.Lib.SmallJoins
import Derived.ChangeSame
import Derived.OpenShut
namespace Go.Proofs.YtahmcjgehhfknaaDoor
open Go.RowKit Go.ChangeShapes Go.WideShapes Go.ChangeAt Go.Deep
set_option linter.unusedVariables false

theorem u8wf5 {n : Int} (h : (Lit.int .u8 n).wf = true) : ∃ k : Nat, n = k ∧ k < 256 := by
  simp [Lit.wf, IntKind.min, IntKind.max, IntKind.signed, IntKind.bits] at h
  exact ⟨n.toNat, by omega, by omega⟩
theorem array5 {α : Type} {cs : Array α} (h : cs.size = 5) : ∃ c0 c1 c2 c3 c4, cs = #[c0, c1, c2, c3, c4] := by
  obtain ⟨l⟩ := cs
  match l, h with
  | [c0, c1, c2, c3, c4], _ => exact ⟨c0, c1, c2, c3, c4, rfl⟩
set_option maxRecDepth 100000 in
theorem token_in {H : Type} {enc : TypeId × Value → H} {W : World} {r : Reach} {b0 : Nat} {v : Value} {d : DataW H} {p : List MemPlace} {sp : Nat → Bool} {held : Bool} (hv : Value.okWide Tryd.prog W r b0 51 v) (h : DataW.Trod enc Tryd.prog W 0 sp held 51 v d p) :
    ∃ (k : Nat) (s : ByteArray) (l c : Int) (lf : Bool), v = tkV k s l c lf ∧ s.size ≤ maxLen := by
  obtain ⟨cs, rfl, hsz⟩ := okWide_struct Tryd.underlying51 hv
  obtain ⟨c0, c1, c2, c3, c4, rfl⟩ := array5 (hsz.trans (by kernel_rfl))
  obtain ⟨fuel, hf⟩ := h
  obtain ⟨y0, y1, y2, y3, q, _, _, e0, e1, e2, e3⟩ := Joins.trod_struct4 Tryd.underlying51 hf
  have f0 : Tryd.prog.cellsOf 47 = 1 := by kernel_rfl
  have f1 : Tryd.prog.cellsOf 9 = 1 := by kernel_rfl
  have f2 : Tryd.prog.cellsOf 49 = 2 := by kernel_rfl
  have f3 : Tryd.prog.cellsOf 4 = 1 := by kernel_rfl
  have f4 : Tryd.prog.cellsOf 3 = 1 := by kernel_rfl
  have e0' : DataW.trod enc Tryd.prog W 0 sp held q 47 [c0] = some y0 := by simpa [f0, Value.cells] using e0
  have e1' : DataW.trod enc Tryd.prog W 0 sp held q 9 [c1] = some y1 := by simpa [f1, Value.cells] using e1
  have e2' : DataW.trod enc Tryd.prog W 0 sp held q 49 [c2, c3] = some y2 := by simpa [f2, Value.cells] using e2
  have e3' : DataW.trod enc Tryd.prog W 0 sp held q 4 [c4] = some y3 := by simpa [f3, Value.cells] using e3
  obtain ⟨n0, hn0, _, w0⟩ := DataW.trod_int Tryd.underlying47 e0'
  obtain ⟨s, hs, _, hsl⟩ := DataW.trod_string Tryd.underlying9 e1'
  obtain ⟨b, hb, _⟩ := DataW.trod_bool Tryd.underlying4 e3'
  obtain ⟨z0, z1, q', _, _, g0, g1⟩ := trod_struct2 Tryd.underlying49 e2'
  have g0' : DataW.trod enc Tryd.prog W 0 sp held q' 3 [c2] = some z0 := by simpa [f4] using g0
  have g1' : DataW.trod enc Tryd.prog W 0 sp held q' 3 [c3] = some z1 := by simpa [f4] using g1
  obtain ⟨n1, hn1, _⟩ := DataW.trod_int Tryd.underlying3 g0'
  obtain ⟨n2, hn2, _⟩ := DataW.trod_int Tryd.underlying3 g1'
  injection hn0 with hn0; injection hn1 with hn1; injection hn2 with hn2; injection hs with hs; injection hb with hb
  obtain ⟨k, rfl, _⟩ := u8wf5 w0
  exact ⟨k, s, n1, n2, b, by rw [hn0, hs, hn1, hn2, hb]; rfl, hsl⟩
def nV (k : Nat) (a b : ByteArray) : Value := .agg #[.int .u8 k, .string a, .string b]
set_option maxRecDepth 100000 in
theorem number_in {H : Type} {enc : TypeId × Value → H} {W : World} {r : Reach} {b0 : Nat} {v : Value} {d : DataW H} {p : List MemPlace} {sp : Nat → Bool} {held : Bool} (hv : Value.okWide Tryd.prog W r b0 35 v) (h : DataW.Trod enc Tryd.prog W 0 sp held 35 v d p) :
    ∃ (k : Nat) (a b : ByteArray), v = nV k a b ∧ k < 256 ∧ a.size ≤ maxLen ∧ b.size ≤ maxLen := by
  obtain ⟨c0, c1, c2, y0, y1, y2, n, rfl, _, _, e0, e1, e2⟩ := Joins.open_agg3 Tryd.underlying35 (by kernel_rfl) (by kernel_rfl) hv h
  obtain ⟨n0, hn0, _, w0⟩ := DataW.trod_int Tryd.underlying5 e0
  obtain ⟨s, hs, _, hsl⟩ := DataW.trod_string Tryd.underlying9 e1
  obtain ⟨t, ht, _, htl⟩ := DataW.trod_string Tryd.underlying9 e2
  injection hn0 with hn0; injection hs with hs; injection ht with ht
  obtain ⟨k, rfl, hk⟩ := u8wf5 w0
  exact ⟨k, s, t, by rw [hn0, hs, ht]; rfl, hk, hsl, htl⟩
end Go.Proofs.YtahmcjgehhfknaaDoor
