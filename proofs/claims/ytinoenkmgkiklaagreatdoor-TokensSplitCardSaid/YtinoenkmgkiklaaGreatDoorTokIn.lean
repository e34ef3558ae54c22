/-
  Tokens that came in with a call read as a list.
-/
import Derived.Test.YtinoenkmgkiklaaGreatDoorGB
import Derived.Test.YtinoenkmgkiklaaGreatDoorRead
import Derived.WalkKit
import Derived.ProofKit
import Derived.OpenShut
import Derived.ShutString
import Derived.Below
import Derived.Carry
import Derived.Deep.Slices
import Derived.Lib.SmallJoins
namespace Go.Proofs.YtinoenkmgkiklaaGreatDoor
open Go.ChangeShapes Go.WideShapes Go.ChangeAt Go.RowKit Go.Deep
set_option linter.unusedVariables false

instance : Inhabited Tok := ⟨⟨0, [], 0, 0, false⟩⟩
theorem list5 {α : Type} {cs : List α} (h : cs.length = 5) : ∃ c0 c1 c2 c3 c4, cs = [c0, c1, c2, c3, c4] := by
  match cs, h with
  | [c0, c1, c2, c3, c4], _ => exact ⟨c0, c1, c2, c3, c4, rfl⟩
set_option maxRecDepth 100000 in
/-- Tokens that came in: a slice of them, not too long, reads as a list. -/
theorem toks_in {H : Type} {enc : TypeId × Value → H} {W : World} {n : Nat} {v2 : Value} {y2 : DataW H × List MemPlace} (h : DataW.trod enc Tryz.prog W 0 (fun _ => true) true n 31 [v2] = some y2) :
    ∃ (a : Option Addr) (len cap : Nat), v2 = .slice a len cap ∧ len ≤ maxLen ∧ (len ≤ 134217728 → ∃ L : List Tok, L.length = len ∧ ToksAt W v2 L ∧ ∀ t ∈ L, t.text.length ≤ maxLen) := by
  have cM : Tryz.prog.cellsOf 44 = 5 := by kernel_rfl
  rcases open_slice Tryz.underlying31 h with ⟨hc, _⟩ | ⟨a, len, cap, m, k, D, Pl, hc, _, hl, hm, hmm, _, hall⟩
  · injection hc with hc _
    exact ⟨none, 0, 0, hc, Nat.zero_le _, fun _ => ⟨[], rfl, by rw [hc]; exact ToksAt.nil W, by simp⟩⟩
  · injection hc with hc _
    refine ⟨some a, len, cap, hc, by omega, fun h20 => ?_⟩
    have hlm : len ≤ m := by rw [hmm]; simp; omega
    have each : ∀ i, i < len → ∃ x : Tok, x.kind < 256 ∧ x.text.length ≤ maxLen ∧ W.cell? (a.add (i * 5)) = some (.int .u8 x.kind) ∧ W.cell? ((a.add (i * 5)).add 1) = some (.string (strL x.text)) ∧ W.cell? ((a.add (i * 5)).add 2) = some (.int .i64 x.line) ∧ W.cell? ((a.add (i * 5)).add 3) = some (.int .i64 x.col) ∧ W.cell? ((a.add (i * 5)).add 4) = some (.bool x.left) := by
      intro i hi
      obtain ⟨cs, h1, h2⟩ := hall i (by omega)
      rw [cM] at h1
      obtain ⟨_, hlen, hcell⟩ := World.cells?_some h1
      have T4 := Joins.trod_struct4 Tryz.underlying44 h2
      obtain ⟨y0, y1, y2, y3, q, _, _, e0, e1, e2, e3⟩ := T4
      obtain ⟨c0, c1, c2, c3, c4, rfl⟩ := list5 hlen
      have f0 : Tryz.prog.cellsOf 42 = 1 := by kernel_rfl
      have f1 : Tryz.prog.cellsOf 9 = 1 := by kernel_rfl
      have f2 : Tryz.prog.cellsOf 26 = 2 := by kernel_rfl
      have f3 : Tryz.prog.cellsOf 4 = 1 := by kernel_rfl
      have f4 : Tryz.prog.cellsOf 3 = 1 := by kernel_rfl
      have e0' : DataW.trod enc Tryz.prog W 0 (fun _ => true) true q 42 [c0] = some y0 := by simpa [f0] using e0
      have e1' : DataW.trod enc Tryz.prog W 0 (fun _ => true) true q 9 [c1] = some y1 := by simpa [f1] using e1
      have e2' : DataW.trod enc Tryz.prog W 0 (fun _ => true) true q 26 [c2, c3] = some y2 := by simpa [f2] using e2
      have e3' : DataW.trod enc Tryz.prog W 0 (fun _ => true) true q 4 [c4] = some y3 := by simpa [f3] using e3
      obtain ⟨n0, hn0, _, w0⟩ := DataW.trod_int Tryz.underlying42 e0'
      obtain ⟨s, hs, _, hsl⟩ := DataW.trod_string Tryz.underlying9 e1'
      obtain ⟨b, hb, _⟩ := DataW.trod_bool Tryz.underlying4 e3'
      obtain ⟨z0, z1, q', _, _, g0, g1⟩ := trod_struct2 Tryz.underlying26 e2'
      have g0' : DataW.trod enc Tryz.prog W 0 (fun _ => true) true q' 3 [c2] = some z0 := by simpa [f4] using g0
      have g1' : DataW.trod enc Tryz.prog W 0 (fun _ => true) true q' 3 [c3] = some z1 := by simpa [f4] using g1
      obtain ⟨n1, hn1, _⟩ := DataW.trod_int Tryz.underlying3 g0'
      obtain ⟨n2, hn2, _⟩ := DataW.trod_int Tryz.underlying3 g1'
      injection hn0 with hn0; injection hn1 with hn1; injection hn2 with hn2; injection hs with hs; injection hb with hb
      have hk : 0 ≤ n0 ∧ n0 < 256 := by
        simp [Lit.wf, IntKind.min, IntKind.max, IntKind.signed, IntKind.bits] at w0
        omega
      refine ⟨⟨n0.toNat, s.data.toList, n1, n2, b⟩, by show n0.toNat < 256; omega, by show s.data.toList.length ≤ _; rw [← size_data]; exact hsl, ?_, ?_, ?_, ?_, ?_⟩
      · have := hcell 0 (by omega)
        have e : (a.add (i * 5)).add 0 = a.add (i * 5) := by unfold Addr.add; split <;> simp_all
        rw [e] at this; rw [this]; show some c0 = some (.int .u8 ((n0.toNat : Nat) : Int)); rw [Int.toNat_of_nonneg hk.1, hn0]
      · have := hcell 1 (by omega); rw [this]; show some c1 = some (.string (strL s.data.toList)); rw [strL_of, hs]
      · have := hcell 2 (by omega); rw [this]; simp [hn1]
      · have := hcell 3 (by omega); rw [this]; simp [hn2]
      · have := hcell 4 (by omega); rw [this]; simp [hb]
    obtain ⟨q, hq⟩ := choose_lt each
    refine ⟨(List.range len).map q, by simp, ?_, ?_⟩
    · refine ⟨some a, cap, by simpa using hc, by simp; omega, by simp; omega, fun h0 => ?_⟩
      have h0' : 0 < len := by simpa using h0
      obtain ⟨b, off, spot⟩ := a
      have hc0 := (hq 0 h0').2.2.1
      have hspot : spot = none := by simpa [Addr.add] using World.cell?_spot hc0
      subst hspot
      have hadd : ∀ (o i : Nat), (⟨b, o, none⟩ : Addr).add i = ⟨b, o + i, none⟩ := fun o i => by unfold Addr.add; split <;> simp_all
      refine ⟨b, off, rfl, ?_, fun j x hj => ?_⟩
      · have := hc0
        rw [hadd] at this
        exact lt_of_cellR this
      · have hjl : j < len := by
          rcases Nat.lt_or_ge j len with h' | h'
          · exact h'
          · rw [List.getElem?_eq_none (by simp; omega)] at hj; cases hj
        have hjx : q j = x := by
          rw [List.getElem?_map, List.getElem?_range hjl] at hj
          simpa using hj
        have := hq j hjl
        rw [hadd, hadd, hadd, hadd, hadd, hjx] at this
        exact ⟨this.1, this.2.2⟩
    · intro t ht
      obtain ⟨j, hj, rfl⟩ := List.mem_map.1 ht
      exact (hq j (List.mem_range.1 hj)).2.1
end Go.Proofs.YtinoenkmgkiklaaGreatDoor
