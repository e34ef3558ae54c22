/-
  For every card and every two lengths the law TokensErrors returns true, and the arguments read behind the call as before. Condition: the listed tables read as the text lays them (the card ties them).
-/
import Derived.Test.YtpalfhfbgfnacaaGreatDoorLErr
import Derived.Test.YtpalfhfbgfnacaaGreatDoorWrap3
import Derived.Test.YtpalfhfbgfnacaaGreatDoorTie
import Derived.Test.YtpalfhfbgfnacaaGreatDoorCards
import Derived.WalkKit
import Derived.ProofKit
import Derived.OpenShut
import Derived.ShutString
import Derived.LaidMore
import Derived.Lay
import Derived.SevenTiedAt
import Derived.Stop.Joined
import Derived.Below
import Derived.Carry
import Derived.Deep.Slices
import Derived.Lib.SmallJoins
namespace Go.Proofs.YtpalfhfbgfnacaaGreatDoor.tokensErrors
open Go.ChangeShapes Go.WideShapes Go.ChangeAt Go.RowKit Go.Deep
open Go.ChangeMaps (open_string shut_string)
set_option linter.unusedVariables false

theorem own : ownKnob Tryz.prog.godebug = none := by kernel_rfl
theorem laidOut2 : laidOutB Tryz.prog = true := by kernel_rfl
theorem list3 {α : Type} {cs : List α} (h : cs.length = 3) : ∃ c0 c1 c2, cs = [c0, c1, c2] := by
  match cs, h with
  | [c0, c1, c2], _ => exact ⟨c0, c1, c2, rfl⟩
set_option maxRecDepth 100000 in
/-- Marks that came in: a slice of them, not too long, reads as a list. -/
theorem marks_in {H : Type} {enc : TypeId × Value → H} {W : World} {n : Nat} {v2 : Value} {y2 : DataW H × List MemPlace} (h : DataW.trod enc Tryz.prog W 0 (fun _ => true) true n 53 [v2] = some y2) :
    ∃ (a : Option Addr) (len cap : Nat), v2 = .slice a len cap ∧ len ≤ maxLen ∧ (len ≤ 10 → ∃ ms : IMarks, ms.length = len ∧ MkIn W.heap.size W v2 ms) := by
  have cM : Tryz.prog.cellsOf 52 = 3 := by kernel_rfl
  rcases open_slice Tryz.underlying53 h with ⟨hc, _⟩ | ⟨a, len, cap, m, k, D, Pl, hc, _, hl, hm, hmm, _, hall⟩
  · injection hc with hc _
    exact ⟨none, 0, 0, hc, Nat.zero_le _, fun _ => ⟨[], rfl, none, 0, hc, Nat.le_refl _, Nat.zero_le _, fun h0 => absurd h0 (by decide)⟩⟩
  · injection hc with hc _
    refine ⟨some a, len, cap, hc, by omega, fun h20 => ?_⟩
    have hlm : len ≤ m := by rw [hmm]; simp; omega
    have each : ∀ i, i < len → ∃ x : Int × Int × Int, W.cell? (a.add (i * 3)) = some (.int .i64 x.1) ∧ W.cell? ((a.add (i * 3)).add 1) = some (.int .i64 x.2.1) ∧ W.cell? ((a.add (i * 3)).add 2) = some (.int .i64 x.2.2) := by
      intro i hi
      obtain ⟨cs, h1, h2⟩ := hall i (by omega)
      rw [cM] at h1
      obtain ⟨_, hlen, hcell⟩ := World.cells?_some h1
      obtain ⟨y0, y1, q, _, _, e0, e1⟩ := trod_struct2 Tryz.underlying52 h2
      obtain ⟨c0, c1, c2, rfl⟩ := list3 hlen
      have f0 : Tryz.prog.cellsOf 3 = 1 := by kernel_rfl
      have f1 : Tryz.prog.cellsOf 26 = 2 := by kernel_rfl
      have e0' : DataW.trod enc Tryz.prog W 0 (fun _ => true) true q 3 [c0] = some y0 := by simpa [f0] using e0
      have e1' : DataW.trod enc Tryz.prog W 0 (fun _ => true) true q 26 [c1, c2] = some y1 := by simpa [f1] using e1
      obtain ⟨n0, hn0, _⟩ := DataW.trod_int Tryz.underlying3 e0'
      obtain ⟨z0, z1, q', _, _, g0, g1⟩ := trod_struct2 Tryz.underlying26 e1'
      have g0' : DataW.trod enc Tryz.prog W 0 (fun _ => true) true q' 3 [c1] = some z0 := by simpa [f0] using g0
      have g1' : DataW.trod enc Tryz.prog W 0 (fun _ => true) true q' 3 [c2] = some z1 := by simpa [f0] using g1
      obtain ⟨n1, hn1, _⟩ := DataW.trod_int Tryz.underlying3 g0'
      obtain ⟨n2, hn2, _⟩ := DataW.trod_int Tryz.underlying3 g1'
      injection hn0 with hn0; injection hn1 with hn1; injection hn2 with hn2
      refine ⟨(n0, n1, n2), ?_, ?_, ?_⟩
      · have := hcell 0 (by omega)
        have e : (a.add (i * 3)).add 0 = a.add (i * 3) := by unfold Addr.add; split <;> simp_all
        rw [e] at this; rw [this]; simp [hn0]
      · have := hcell 1 (by omega); rw [this]; simp [hn1]
      · have := hcell 2 (by omega); rw [this]; simp [hn2]
    obtain ⟨q, hq⟩ := choose_lt each
    refine ⟨(List.range len).map q, by simp, ?_⟩
    refine ⟨some a, cap, by simpa using hc, by simp; omega, by simp; omega, fun h0 => ?_⟩
    have h0' : 0 < len := by simpa using h0
    obtain ⟨b, off, spot⟩ := a
    have hc0 := (hq 0 h0').1
    have hspot : spot = none := by simpa [Addr.add] using World.cell?_spot hc0
    subst hspot
    have hadd : ∀ (o i : Nat), (⟨b, o, none⟩ : Addr).add i = ⟨b, o + i, none⟩ := fun o i => by unfold Addr.add; split <;> simp_all
    refine ⟨b, off, rfl, ?_, fun j x hj => ?_⟩
    · have := hc0
      rw [hadd] at this
      exact lt_of_cellR this
    · have hjl : j < len := by
        rcases Nat.lt_or_ge j len with h' | h'
        · exact h'
        · rw [List.getElem?_eq_none (by simp; omega)] at hj; cases hj
      have hjx : q j = x := by
        rw [List.getElem?_map, List.getElem?_range hjl] at hj
        simpa using hj
      have := hq j hjl
      rw [hadd, hadd, hadd, hjx] at this
      exact this
theorem u8wf {n : Int} (h : (Lit.int .u8 n).wf = true) : ∃ k : Nat, n = k ∧ k < 256 := by
  simp [Lit.wf, IntKind.min, IntKind.max, IntKind.signed, IntKind.bits] at h
  exact ⟨n.toNat, by omega, by omega⟩
set_option maxRecDepth 100000 in
/-- An array of two bytes that came in. -/
theorem pair_in {H : Type} {enc : TypeId × Value → H} {W : World} {r : Reach} {b0 : Nat} {v : Value} {d : DataW H} {p : List MemPlace} (hv : Value.okWide Tryz.prog W r b0 57 v) (h : DataW.Trod enc Tryz.prog W 0 (fun _ => true) true 57 v d p) :
    ∃ x0 x1 : Nat, v = .agg #[.int .u8 x0, .int .u8 x1] ∧ x0 < 256 ∧ x1 < 256 := by
  obtain ⟨cs, rfl, hsz⟩ : ∃ cs, v = .agg cs ∧ cs.size = 2 := by
    simp only [Value.okWide, Tryz.underlying57] at hv
    obtain ⟨cs, h1, h2, _⟩ := hv
    exact ⟨cs, h1, h2.trans (by kernel_rfl)⟩
  obtain ⟨c0, c1, rfl⟩ := Joins.array2 hsz
  obtain ⟨fuel, hf⟩ := h
  obtain ⟨xs, m, _, _, _, hl, hx⟩ := DataW.trod_array Tryz.underlying57 hf
  have f1 : Tryz.prog.cellsOf 5 = 1 := by kernel_rfl
  have g0 := hx 0 (by omega)
  have g1 := hx 1 (by omega)
  rw [List.getElem?_eq_getElem (by omega)] at g0 g1
  simp [f1, Value.cells] at g0 g1
  obtain ⟨n0, hn0, _, hw0⟩ := DataW.trod_int Tryz.underlying5 g0
  obtain ⟨n1, hn1, _, hw1⟩ := DataW.trod_int Tryz.underlying5 g1
  injection hn0 with hn0; injection hn1 with hn1
  obtain ⟨k0, rfl, hk0⟩ := u8wf hw0
  obtain ⟨k1, rfl, hk1⟩ := u8wf hw1
  exact ⟨k0, k1, by rw [hn0, hn1], hk0, hk1⟩
set_option maxRecDepth 100000 in
theorem errors_big (l : Bool) (t : ByteArray) (a : Option Addr) (len cap z0 z1 : Nat) (hbig : (60 : Int) < t.size ∨ (¬ (60 : Int) < t.size ∧ (10 : Int) < len)) (w : World) (hx : MaxLenAt w) (hg : SignsAt w) :
    Calls Tryz.prog 6 #[.agg #[.bool l, .string t, .slice a len cap], .agg #[.int .u8 z0, .int .u8 z1]] w fun e w' => e = .returned (.bool true) ∧ Below w.heap.size w w' := by
  have hml : 1 < w.heap.size := by obtain ⟨m, hm⟩ := hx; exact lt_of_cellR hm
  have HLIVE : Hid (∀ w1, Below w.heap.size w w1 → Calls Tryz.prog 7 #[] w1 fun e w' => e = .returned (.bool true) ∧ Below w.heap.size w w') := fun w1 hb =>
    (l3lives w1 (hx.bel hml hb) (hg.below hg.lt hb)).mono fun e w' h => ⟨h.1, hb.trans (h.2.mono hb.size)⟩
  clear hx hg hml
  rcases hbig with h1 | ⟨h1, h2⟩
  all_goals
    go_enter Tryz.func6, Tryz.ntmps6
    go_wp2_with (go_at_call 7; refine (HLIVE.out _ (((Below.refl _ _).alloc (Nat.le_refl _) _).alloc (by simp) _)).mono ?_; rintro e w1 ⟨rfl, hb⟩)
    go_ret
    exact ⟨rfl, hb⟩
theorem errors_any (l : Bool) (t : ByteArray) (v2 : Value) (z0 z1 : Nat) (h0 : z0 < 256) (h1 : z1 < 256) (w : World) (hm : ∃ (a : Option Addr) (len cap : Nat), v2 = .slice a len cap ∧ len ≤ maxLen ∧ (len ≤ 10 → ∃ ms : IMarks, ms.length = len ∧ MkIn w.heap.size w v2 ms)) (hx : MaxLenAt w) (hg : SignsAt w) :
    Calls Tryz.prog 6 #[.agg #[.bool l, .string t, v2], .agg #[.int .u8 z0, .int .u8 z1]] w fun e w' => e = .returned (.bool true) ∧ Below w.heap.size w w' := by
  obtain ⟨a, len, cap, rfl, hlm, h⟩ := hm
  by_cases hb : (60 : Int) < t.size
  · exact errors_big l t a len cap z0 z1 (.inl hb) w hx hg
  by_cases h10 : len ≤ 10
  · obtain ⟨ms, rfl, hms⟩ := h h10
    exact l3errors l t a cap ms z0 z1 w hms h10 (by omega) h0 h1 hx hg
  · exact errors_big l t a len cap z0 z1 (.inr ⟨hb, by omega⟩) w hx hg
set_option maxRecDepth 100000 in
theorem lifted (os : Os) (started : os.Started) (H : Type) (enc : TypeId × Value → H) :
    ReturnsInHanded {} Tryz.checked os 6 .any (fun w args => (Rows.tokensErrorsSpec.pre enc Tryz.prog Tryz.f6 Rows.tokensErrorsRow.domain false w args ∧ laidMetH Tryz.prog Rows.tokensErrorsRow.laid w) ∧ sizedMet enc Tryz.prog Tryz.f6 (OpenSpec.ofChange Rows.tokensErrorsSpec) false w args)
      (Rows.tokensErrorsSpec.post enc Tryz.prog Tryz.f6 false true false false) := by
  refine returns_laid_shaped (C := Tryz.checked) (X := fun w _ => laidMetH Tryz.prog Rows.tokensErrorsRow.laid w) (fun _ _ _ hh h => h.of_heap hh) own started (by kernel_rfl) Tryz.func6
    (ChangeSpec.witness_shaped (enc := enc) (C := Tryz.checked) (os := os) (X := fun w _ => laidMetH Tryz.prog Rows.tokensErrorsRow.laid w) false (World.laidAll Tryz.prog os Rows.tokensErrorsRow.laid) #[.agg #[.bool false, .string ByteArray.empty, .slice none 0 0], .agg #[.int .u8 0, .int .u8 0]] 8 (World.laidAll_os _ _ _)
      (World.shaped_of_ZipB (by kernel_rfl) (by kernel_rfl)) (by kernel_rfl) (by kernel_rfl) (by kernel_rfl)
      (by rw [MakeChecks.laidMetH_plain _ _ _ (by kernel_rfl)]; exact laidMet_laidAll _ (by kernel_rfl) (by kernel_rfl))) ?_
  intro W base args ds gs before hval0 hW hcnd hL hsh
  have hW' := hW
  obtain ⟨p, q, hA0, hV, rfl, hfz, hnd⟩ := hW
  have hval : ∀ (j : Nat) t v, Tryz.f6.params[j]? = some t → args[j]? = some v → Value.okWide Tryz.prog W .any base t v := hval0
  have hA : DataW.TrodAll enc Tryz.prog W 0 (fun _ => true) true Tryz.f6.params.toList args.toList ds p := hA0
  rw [Tryz.params6] at hA hval
  obtain ⟨v0, vs0, d0, ds0, p0, q0, hargs, rfl, rfl, h0, r0⟩ := trodAll_cons hA
  obtain ⟨v1, vs1, d1, ds1, p1, q1, rfl, rfl, rfl, h1, r1⟩ := trodAll_cons r0
  obtain ⟨rfl, rfl, rfl⟩ := trodAll_nil r1
  obtain rfl : args = #[v0, v1] := by cases args; simp_all
  obtain ⟨rfl, rfl⟩ := trodVars_none hV
  simp only [List.append_nil] at hW'
  have hlt0 : ∀ x ∈ p0, x.block < W.heap.size := fun x hx => by simpa using hW'.lt x (by simp [hx])
  have hback0 : ∀ W', Below W.heap.size W W' → DataW.Trod enc Tryz.prog W' 0 (fun b => decide (b < W.heap.size)) true 55 v0 d0 p0 :=
    fun W' hn => Below.trod laidOut2 (by kernel_rfl) (of_decide_eq_true (by kernel_rfl)) h0 hn hlt0
  have hlt1 : ∀ x ∈ p1, x.block < W.heap.size := fun x hx => by simpa using hW'.lt x (by simp [hx])
  have hback1 : ∀ W', Below W.heap.size W W' → DataW.Trod enc Tryz.prog W' 0 (fun b => decide (b < W.heap.size)) true 57 v1 d1 p1 :=
    fun W' hn => Below.trod laidOut2 (by kernel_rfl) (of_decide_eq_true (by kernel_rfl)) h1 hn hlt1
  obtain ⟨c0, c1, c2, y0, y1, y2, n, rfl, _, _, e0, e1, e2⟩ := Joins.open_agg3 Tryz.underlying55 (by kernel_rfl) (by kernel_rfl) (hval 0 55 v0 rfl rfl) h0
  obtain ⟨l, hl0, _⟩ := DataW.trod_bool Tryz.underlying4 e0
  obtain ⟨t, ht0, _, htl⟩ := DataW.trod_string Tryz.underlying9 e1
  injection hl0 with hl0; injection ht0 with ht0
  subst hl0; subst ht0
  have hM := marks_in e2
  obtain ⟨x0, x1, rfl, hx0, hx1⟩ := pair_in (hval 1 57 v1 rfl rfl) h1
  clear hA0 hval0
  refine (errors_any l t c2 x0 x1 hx0 hx1 W hM (maxLen_of hsh) (signs_of hL)).mono fun e W' ⟨he, hb⟩ => ?_
  subst he
  exact ⟨_, rfl, _, _, _, [], _, [], hW', trodAll_mk1 (shut_bool Tryz.underlying4 _), trodAll_cons_mk (hback0 W' hb) (trodAll_cons_mk (hback1 W' hb) trodAll_mk0), rfl, hb.frame _, fun h => by cases h⟩

theorem over : Rows.TokensErrorsSaid :=
  OpenClaim.holds_of_wide 6 Tryz.f6 rfl rfl rfl rfl rfl rfl rfl ⟨rfl, rfl, rfl, rfl, rfl⟩ rfl rfl rfl rfl rfl (by kernel_rfl) Tryz.func6 (by kernel_rfl)
    (of_decide_eq_true (by kernel_rfl)) (by unfold Func.isWrapper; first | (rw [if_pos (by decide +kernel)]; kernel_rfl) | (rw [if_neg (by decide +kernel)]; exact ⟨rfl, rfl⟩))
    (fun os started H enc _ => lifted os started H enc)
/-- The given statement: the tied card. -/
theorem proved : Rows.TokensErrorsCardSaid :=
  Claim7.holds_tied_plain_at .later [] [.data, .data, .pinned] true (true, "161fdb3e27a73e9d529196105fbeff577542fbbae17e7d7ff9566a8eac363df8") false
    over (fun _ h => by cases h) (by kernel_rfl) (fun _ h => by cases h) tokensErrors_row_tie rfl ⟨rfl, rfl⟩ (by kernel_rfl) rfl
    (fun f fn hf hfn => by
      obtain rfl : f = 6 := Option.some.inj ((show Tryz.prog.funcNamed "columnseven/columnsevenlaw03.TokensErrors" = some 6 by kernel_rfl).symm.trans hf) |>.symm
      obtain rfl : fn = Tryz.f6 := (Option.some.inj (Tryz.func6.symm.trans hfn)).symm
      exact ⟨by kernel_rfl, fun j t ht => by
        rw [Tryz.params6] at ht
        have hm : t ∈ [55, 57] := by simpa using Array.mem_of_getElem? ht
        have hall : ([55, 57].all fun u => !Tryz.prog.wantsStandIn u) = true := by kernel_rfl
        exact (show Tryz.prog.wantsStandIn t = false by simpa using List.all_eq_true.1 hall t hm)⟩)
    (by kernel_rfl)
#print axioms proved
end Go.Proofs.YtpalfhfbgfnacaaGreatDoor.tokensErrors
