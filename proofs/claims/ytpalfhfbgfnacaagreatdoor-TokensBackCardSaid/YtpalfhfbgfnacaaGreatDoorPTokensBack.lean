/-
  For all tokens of S, every text and either Left the law TokensBack returns true, and the arguments read behind the call as before. Condition: the listed tables read as the text lays them (the card ties them).
-/
import Derived.Test.YtpalfhfbgfnacaaGreatDoorLBack
import Derived.Test.YtpalfhfbgfnacaaGreatDoorWrap3b
import Derived.Test.YtpalfhfbgfnacaaGreatDoorTie
import Derived.Test.YtpalfhfbgfnacaaGreatDoorCards
import Derived.WalkKit
import Derived.ProofKit
import Derived.OpenShut
import Derived.ShutString
import Derived.LaidMore
import Derived.Lay
import Derived.SevenTiedAt
import Derived.Stop.Joined
import Derived.Below
import Derived.Carry
import Derived.Deep.Slices
import Derived.Lib.SmallJoins
namespace Go.Proofs.YtpalfhfbgfnacaaGreatDoor.tokensBack
open Go.ChangeShapes Go.WideShapes Go.ChangeAt Go.RowKit Go.Deep
open Go.ChangeMaps (open_string shut_string)
set_option linter.unusedVariables false

theorem own : ownKnob Tryz.prog.godebug = none := by kernel_rfl
theorem laidOut2 : laidOutB Tryz.prog = true := by kernel_rfl
theorem okWide_one {P : Program} {w : World} {r : Reach} {b : Nat} {t e : TypeId} {v : Value} (ht : P.underlying t = some (.slice e)) (h : Value.okWide P w r b t v) : v.cells.toList = [v] := by
  cases v with
  | agg cs => simp [Value.okWide, Cell.okWide, Cell.ok, ht] at h
  | _ => rfl
theorem list2 {α : Type} {cs : List α} (h : cs.length = 2) : ∃ c0 c1, cs = [c0, c1] := by
  match cs, h with
  | [c0, c1], _ => exact ⟨c0, c1, rfl⟩
set_option maxRecDepth 100000 in
/-- Pieces that came in. -/
theorem pieces_in {H : Type} {enc : TypeId × Value → H} {W : World} {n : Nat} {v2 : Value} {y2 : DataW H × List MemPlace} (h : DataW.trod enc Tryz.prog W 0 (fun _ => true) true n 38 [v2] = some y2) :
    ∃ S : List (Nat × Nat), PsIn W.heap.size W v2 S := by
  have cM : Tryz.prog.cellsOf 89 = 2 := by kernel_rfl
  rcases open_slice Tryz.underlying38 h with ⟨hc, _⟩ | ⟨a, len, cap, m, k, D, Pl, hc, _, hl, hm, hmm, _, hall⟩
  · injection hc with hc _
    exact ⟨[], none, 0, hc, Nat.zero_le _, fun h0 => absurd h0 (by decide)⟩
  · injection hc with hc _
    have hlm : len ≤ m := by rw [hmm]; simp; omega
    have each : ∀ i, i < len → ∃ x : Nat × Nat, x.1 < 256 ∧ x.2 < 65536 ∧ W.cell? (a.add (i * 2)) = some (.int .u8 x.1) ∧ W.cell? ((a.add (i * 2)).add 1) = some (.int .u16 x.2) := by
      intro i hi
      obtain ⟨cs, h1, h2⟩ := hall i (by omega)
      rw [cM] at h1
      obtain ⟨_, hlen, hcell⟩ := World.cells?_some h1
      obtain ⟨y0, y1, q, _, _, e0, e1⟩ := trod_struct2 Tryz.underlying89 h2
      obtain ⟨c0, c1, rfl⟩ := list2 hlen
      have f0 : Tryz.prog.cellsOf 5 = 1 := by kernel_rfl
      have f1 : Tryz.prog.cellsOf 87 = 1 := by kernel_rfl
      have e0' : DataW.trod enc Tryz.prog W 0 (fun _ => true) true q 5 [c0] = some y0 := by simpa [f0] using e0
      have e1' : DataW.trod enc Tryz.prog W 0 (fun _ => true) true q 87 [c1] = some y1 := by simpa [f1] using e1
      obtain ⟨n0, hn0, _, w0⟩ := DataW.trod_int Tryz.underlying5 e0'
      obtain ⟨n1, hn1, _, w1⟩ := DataW.trod_int Tryz.underlying87 e1'
      injection hn0 with hn0; injection hn1 with hn1
      have hk0 : 0 ≤ n0 ∧ n0 < 256 := by
        simp [Lit.wf, IntKind.min, IntKind.max, IntKind.signed, IntKind.bits] at w0
        omega
      have hk1 : 0 ≤ n1 ∧ n1 < 65536 := by
        simp [Lit.wf, IntKind.min, IntKind.max, IntKind.signed, IntKind.bits] at w1
        omega
      refine ⟨(n0.toNat, n1.toNat), by show n0.toNat < 256; omega, by show n1.toNat < 65536; omega, ?_, ?_⟩
      · have := hcell 0 (by omega)
        have e : (a.add (i * 2)).add 0 = a.add (i * 2) := by unfold Addr.add; split <;> simp_all
        rw [e] at this; rw [this]; show some c0 = some (.int .u8 ((n0.toNat : Nat) : Int)); rw [Int.toNat_of_nonneg hk0.1, hn0]
      · have := hcell 1 (by omega); rw [this]; show some c1 = some (.int .u16 ((n1.toNat : Nat) : Int)); rw [Int.toNat_of_nonneg hk1.1, hn1]
    obtain ⟨q, hq⟩ := choose_lt each
    refine ⟨(List.range len).map q, some a, cap, by simpa using hc, by simp; unfold maxLen at hm; omega, fun h0 => ?_⟩
    have h0' : 0 < len := by simpa using h0
    obtain ⟨b, off, spot⟩ := a
    have hc0 := (hq 0 h0').2.2.1
    have hspot : spot = none := by simpa [Addr.add] using World.cell?_spot hc0
    subst hspot
    have hadd : ∀ (o i : Nat), (⟨b, o, none⟩ : Addr).add i = ⟨b, o + i, none⟩ := fun o i => by unfold Addr.add; split <;> simp_all
    refine ⟨b, off, rfl, ?_, fun j x _ hj => ?_⟩
    · have := hc0
      rw [hadd] at this
      exact lt_of_cellR this
    · have hjl : j < len := by
        rcases Nat.lt_or_ge j len with h' | h'
        · exact h'
        · rw [List.getElem?_eq_none (by simp; omega)] at hj; cases hj
      have hjx : q j = x := by
        rw [List.getElem?_map, List.getElem?_range hjl] at hj
        simpa using hj
      have := hq j hjl
      rw [hadd, hadd, hjx] at this
      exact this
set_option maxRecDepth 100000 in
theorem lifted (os : Os) (started : os.Started) (H : Type) (enc : TypeId × Value → H) :
    ReturnsInHanded {} Tryz.checked os 4 .any (fun w args => (Rows.tokensBackSpec.pre enc Tryz.prog Tryz.f4 Rows.tokensBackRow.domain false w args ∧ laidMetH Tryz.prog Rows.tokensBackRow.laid w) ∧ sizedMet enc Tryz.prog Tryz.f4 (OpenSpec.ofChange Rows.tokensBackSpec) false w args)
      (Rows.tokensBackSpec.post enc Tryz.prog Tryz.f4 false true false false) := by
  refine returns_laid_shaped (C := Tryz.checked) (X := fun w _ => laidMetH Tryz.prog Rows.tokensBackRow.laid w) (fun _ _ _ hh h => h.of_heap hh) own started (by kernel_rfl) Tryz.func4
    (ChangeSpec.witness_shaped (enc := enc) (C := Tryz.checked) (os := os) (X := fun w _ => laidMetH Tryz.prog Rows.tokensBackRow.laid w) false (World.laidAll Tryz.prog os Rows.tokensBackRow.laid) #[.slice none 0 0, .string ByteArray.empty, .bool false] 8 (World.laidAll_os _ _ _)
      (World.shaped_of_ZipB (by kernel_rfl) (by kernel_rfl)) (by kernel_rfl) (by kernel_rfl) (by kernel_rfl)
      (by rw [MakeChecks.laidMetH_plain _ _ _ (by kernel_rfl)]; exact laidMet_laidAll _ (by kernel_rfl) (by kernel_rfl))) ?_
  intro W base args ds gs before hval0 hW hcnd hL hsh
  have hW' := hW
  obtain ⟨p, q, hA0, hV, rfl, hfz, hnd⟩ := hW
  have hval : ∀ (j : Nat) t v, Tryz.f4.params[j]? = some t → args[j]? = some v → Value.okWide Tryz.prog W .any base t v := hval0
  have hA : DataW.TrodAll enc Tryz.prog W 0 (fun _ => true) true Tryz.f4.params.toList args.toList ds p := hA0
  rw [Tryz.params4] at hA hval
  obtain ⟨v0, vs0, d0, ds0, p0, q0, hargs, rfl, rfl, h0, r0⟩ := trodAll_cons hA
  obtain ⟨v1, vs1, d1, ds1, p1, q1, rfl, rfl, rfl, h1, r1⟩ := trodAll_cons r0
  obtain ⟨v2, vs2, d2, ds2, p2, q2, rfl, rfl, rfl, h2, r2⟩ := trodAll_cons r1
  obtain ⟨rfl, rfl, rfl⟩ := trodAll_nil r2
  obtain rfl : args = #[v0, v1, v2] := by cases args; simp_all
  obtain ⟨rfl, rfl⟩ := trodVars_none hV
  simp only [List.append_nil] at hW'
  have hlt0 : ∀ x ∈ p0, x.block < W.heap.size := fun x hx => by simpa using hW'.lt x (by simp [hx])
  have hback0 : ∀ W', Below W.heap.size W W' → DataW.Trod enc Tryz.prog W' 0 (fun b => decide (b < W.heap.size)) true 38 v0 d0 p0 :=
    fun W' hn => Below.trod laidOut2 (by kernel_rfl) (of_decide_eq_true (by kernel_rfl)) h0 hn hlt0
  have hone := okWide_one Tryz.underlying38 (hval 0 38 v0 rfl rfl)
  obtain ⟨S, hS⟩ : ∃ S : List (Nat × Nat), PsIn W.heap.size W v0 S := by
    obtain ⟨fuel, hf⟩ := h0
    rw [hone] at hf
    exact pieces_in hf
  obtain ⟨a1, rfl, rfl, rfl, w1⟩ := open_string Tryz.underlying9 (hval 1 9 v1 rfl rfl) h1
  obtain ⟨a2, rfl, rfl, rfl⟩ := open_bool Tryz.underlying4 (hval 2 4 v2 rfl rfl) h2
  clear hA0 hval0
  refine (l3back v0 S a1 a2 (by unfold maxLen at w1; omega) W hS (maxLen_of hsh) (signs_ofB hL) (tab_ofB hL)).mono fun e W' ⟨he, hb⟩ => ?_
  subst he
  exact ⟨_, rfl, _, _, _, [], _, [], hW', trodAll_mk1 (shut_bool Tryz.underlying4 _), (trodAll_cons_mk (hback0 W' hb) (trodAll_cons_mk (shut_string Tryz.underlying9 w1) (trodAll_cons_mk (shut_bool Tryz.underlying4 _) trodAll_mk0))), rfl, hb.frame _, fun h => by cases h⟩

theorem over : Rows.TokensBackSaid :=
  OpenClaim.holds_of_wide 4 Tryz.f4 rfl rfl rfl rfl rfl rfl rfl ⟨rfl, rfl, rfl, rfl, rfl⟩ rfl rfl rfl rfl rfl (by kernel_rfl) Tryz.func4 (by kernel_rfl)
    (of_decide_eq_true (by kernel_rfl)) (by unfold Func.isWrapper; first | (rw [if_pos (by decide +kernel)]; kernel_rfl) | (rw [if_neg (by decide +kernel)]; exact ⟨rfl, rfl⟩))
    (fun os started H enc _ => lifted os started H enc)
/-- The given statement: the tied card. -/
theorem proved : Rows.TokensBackCardSaid :=
  Claim7.holds_tied_plain_at .later [] [.data, .data, .data, .data, .data, .pinned] true (true, "161fdb3e27a73e9d529196105fbeff577542fbbae17e7d7ff9566a8eac363df8") false
    over (fun _ h => by cases h) (by kernel_rfl) (fun _ h => by cases h) tokensBack_row_tie rfl ⟨rfl, rfl⟩ (by kernel_rfl) rfl
    (fun f fn hf hfn => by
      obtain rfl : f = 4 := Option.some.inj ((show Tryz.prog.funcNamed "columnseven/columnsevenlaw03.TokensBack" = some 4 by kernel_rfl).symm.trans hf) |>.symm
      obtain rfl : fn = Tryz.f4 := (Option.some.inj (Tryz.func4.symm.trans hfn)).symm
      exact ⟨by kernel_rfl, fun j t ht => by
        rw [Tryz.params4] at ht
        have hm : t ∈ [38, 9, 4] := by simpa using Array.mem_of_getElem? ht
        have hall : ([38, 9, 4].all fun u => !Tryz.prog.wantsStandIn u) = true := by kernel_rfl
        exact (show Tryz.prog.wantsStandIn t = false by simpa using List.all_eq_true.1 hall t hm)⟩)
    (by kernel_rfl)
#print axioms proved
end Go.Proofs.YtpalfhfbgfnacaaGreatDoor.tokensBack
