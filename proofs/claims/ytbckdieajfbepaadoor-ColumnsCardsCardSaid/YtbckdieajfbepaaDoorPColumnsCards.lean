/-
  For every card and every index the law ColumnsCards returns true, and the arguments read behind the call as before. Condition: the listed tables of the library read as the text lays them (the card ties them).
-/
import Derived.Test.YtbckdieajfbepaaDoorLCards
import Derived.Test.YtbckdieajfbepaaDoorWrap
import Derived.Test.YtbckdieajfbepaaDoorTie
import Derived.Test.YtbckdieajfbepaaDoorCards
import Derived.WalkKit
import Derived.ProofKit
import Derived.OpenShut
import Derived.ShutString
import Derived.LaidMore
import Derived.Lay
import Derived.SevenTiedAt
import Derived.Stop.Joined
import Derived.Below
import Derived.Carry
import Derived.Deep.Slices
import Derived.Lib.SmallJoins
namespace Go.Proofs.YtbckdieajfbepaaDoor.columnsCards
open Go.ChangeShapes Go.WideShapes Go.ChangeAt Go.RowKit Go.Deep
open Go.ChangeMaps (open_string shut_string)
set_option linter.unusedVariables false

theorem own : ownKnob Tryd.prog.godebug = none := by kernel_rfl
theorem laidOut2 : laidOutB Tryd.prog = true := by kernel_rfl
theorem list3 {α : Type} {cs : List α} (h : cs.length = 3) : ∃ c0 c1 c2, cs = [c0, c1, c2] := by
  match cs, h with
  | [c0, c1, c2], _ => exact ⟨c0, c1, c2, rfl⟩
set_option maxRecDepth 100000 in
/-- Marks that came in: a slice of them, not too long, reads as a list. -/
theorem marks_in {H : Type} {enc : TypeId × Value → H} {W : World} {n : Nat} {v2 : Value} {y2 : DataW H × List MemPlace} (h : DataW.trod enc Tryd.prog W 0 (fun _ => true) true n 32 [v2] = some y2) :
    ∃ (a : Option Addr) (len cap : Nat), v2 = .slice a len cap ∧ len ≤ maxLen ∧ (len ≤ 20 → ∃ ms : List (Int × Int × Int), ms.length = len ∧ MarksIn W v2 ms) := by
  have cM : Tryd.prog.cellsOf 58 = 3 := by kernel_rfl
  rcases open_slice Tryd.underlying32 h with ⟨hc, _⟩ | ⟨a, len, cap, m, k, D, Pl, hc, _, hl, hm, hmm, _, hall⟩
  · injection hc with hc _
    exact ⟨none, 0, 0, hc, Nat.zero_le _, fun _ => ⟨[], rfl, none, 0, hc, Nat.zero_le _, fun h0 => absurd h0 (by decide)⟩⟩
  · injection hc with hc _
    refine ⟨some a, len, cap, hc, by omega, fun h20 => ?_⟩
    have hlm : len ≤ m := by rw [hmm]; simp; omega
    have each : ∀ i, i < len → ∃ x : Int × Int × Int, W.cell? (a.add (i * 3)) = some (.int .i64 x.1) ∧ W.cell? ((a.add (i * 3)).add 1) = some (.int .i64 x.2.1) ∧ W.cell? ((a.add (i * 3)).add 2) = some (.int .i64 x.2.2) := by
      intro i hi
      obtain ⟨cs, h1, h2⟩ := hall i (by omega)
      rw [cM] at h1
      obtain ⟨_, hlen, hcell⟩ := World.cells?_some h1
      obtain ⟨y0, y1, q, _, _, e0, e1⟩ := trod_struct2 Tryd.underlying58 h2
      obtain ⟨c0, c1, c2, rfl⟩ := list3 hlen
      have f0 : Tryd.prog.cellsOf 3 = 1 := by kernel_rfl
      have f1 : Tryd.prog.cellsOf 26 = 2 := by kernel_rfl
      have e0' : DataW.trod enc Tryd.prog W 0 (fun _ => true) true q 3 [c0] = some y0 := by simpa [f0] using e0
      have e1' : DataW.trod enc Tryd.prog W 0 (fun _ => true) true q 26 [c1, c2] = some y1 := by simpa [f1] using e1
      obtain ⟨n0, hn0, _⟩ := DataW.trod_int Tryd.underlying3 e0'
      obtain ⟨z0, z1, q', _, _, g0, g1⟩ := trod_struct2 Tryd.underlying26 e1'
      have g0' : DataW.trod enc Tryd.prog W 0 (fun _ => true) true q' 3 [c1] = some z0 := by simpa [f0] using g0
      have g1' : DataW.trod enc Tryd.prog W 0 (fun _ => true) true q' 3 [c2] = some z1 := by simpa [f0] using g1
      obtain ⟨n1, hn1, _⟩ := DataW.trod_int Tryd.underlying3 g0'
      obtain ⟨n2, hn2, _⟩ := DataW.trod_int Tryd.underlying3 g1'
      injection hn0 with hn0; injection hn1 with hn1; injection hn2 with hn2
      refine ⟨(n0, n1, n2), ?_, ?_, ?_⟩
      · have := hcell 0 (by omega)
        have e : (a.add (i * 3)).add 0 = a.add (i * 3) := by unfold Addr.add; split <;> simp_all
        rw [e] at this; rw [this]; simp [hn0]
      · have := hcell 1 (by omega); rw [this]; simp [hn1]
      · have := hcell 2 (by omega); rw [this]; simp [hn2]
    obtain ⟨q, hq⟩ := choose_lt each
    refine ⟨(List.range len).map q, by simp, ?_⟩
    refine ⟨some a, cap, by simpa using hc, by simp; omega, fun h0 => ?_⟩
    have h0' : 0 < len := by simpa using h0
    obtain ⟨b, off, spot⟩ := a
    have hc0 := (hq 0 h0').1
    have hspot : spot = none := by simpa [Addr.add] using World.cell?_spot hc0
    subst hspot
    have hadd : ∀ (o i : Nat), (⟨b, o, none⟩ : Addr).add i = ⟨b, o + i, none⟩ := fun o i => by unfold Addr.add; split <;> simp_all
    refine ⟨b, off, rfl, ?_, fun j x hj => ?_⟩
    · have := hc0
      rw [hadd] at this
      exact lt_of_cell this
    · have hjl : j < len := by
        rcases Nat.lt_or_ge j len with h' | h'
        · exact h'
        · rw [List.getElem?_eq_none (by simp; omega)] at hj; cases hj
      have hjx : q j = x := by
        rw [List.getElem?_map, List.getElem?_range hjl] at hj
        simpa using hj
      have := hq j hjl
      rw [hadd, hadd, hadd, hjx] at this
      exact this
set_option maxRecDepth 100000 in
theorem cards_big (l : Bool) (t : ByteArray) (a : Option Addr) (len cap : Nat) (i : Int) (hbig : (20 : Int) < len) (w : World) (ht : t.size ≤ 9223372036854775807) (hml : MaxLenAt w)
    (htab : Lib.TabBelow Tryd.prog w.heap.size w "internal/strconv.uint64pow10" .u64 Lib.pow10Tab) :
    Calls Tryd.prog 8 #[.agg #[.bool l, .string t, .slice a len cap], .int .i64 i] w fun e w' => e = .returned (.bool true) ∧ Below w.heap.size w w' := by
  have HLIVE : Hid (∀ w1, Below w.heap.size w w1 → Calls Tryd.prog 9 #[] w1 fun e w' => e = .returned (.bool true) ∧ Below w.heap.size w w') := fun w1 hb =>
    (l2lives w1 (hml.below hb) (tabUp htab hb)).mono fun e w' h => ⟨h.1, hb.trans (h.2.mono hb.size)⟩
  clear htab hml
  by_cases hb2 : (100 : Int) < t.size
  · go_enter Tryd.func8, Tryd.ntmps8
    go_wp2_with fail
    refine (HLIVE.out _ ((Below.refl _ _).alloc (Nat.le_refl _) _)).mono ?_; rintro e w1 ⟨rfl, hb⟩
    go_wp2
    go_ret
    exact ⟨rfl, hb⟩
  · go_enter Tryd.func8, Tryd.ntmps8
    go_wp2_with fail
    refine (HLIVE.out _ ((Below.refl _ _).alloc (Nat.le_refl _) _)).mono ?_; rintro e w1 ⟨rfl, hb⟩
    go_wp2
    go_ret
    exact ⟨rfl, hb⟩
theorem cards_any (l : Bool) (t : ByteArray) (v2 : Value) (i : Int) (hi1 : -9223372036854775808 ≤ i) (hi2 : i ≤ 9223372036854775807) (w : World) (ht : t.size ≤ 9223372036854775807)
    (hm : ∃ (a : Option Addr) (len cap : Nat), v2 = .slice a len cap ∧ len ≤ maxLen ∧ (len ≤ 20 → ∃ ms : List (Int × Int × Int), ms.length = len ∧ MarksIn w v2 ms)) (hml : MaxLenAt w)
    (htab : Lib.TabBelow Tryd.prog w.heap.size w "internal/strconv.uint64pow10" .u64 Lib.pow10Tab) :
    Calls Tryd.prog 8 #[.agg #[.bool l, .string t, v2], .int .i64 i] w fun e w' => e = .returned (.bool true) ∧ Below w.heap.size w w' := by
  obtain ⟨a, len, cap, rfl, hlm, h⟩ := hm
  by_cases h20 : len ≤ 20
  · obtain ⟨ms, _, hms⟩ := h h20
    exact l2cards l t _ ms i hi1 hi2 w hms ht hml htab
  · exact cards_big l t a len cap i (by omega) w ht hml htab
theorem i64wf {n : Int} (h : (Lit.int .i64 n).wf = true) : -9223372036854775808 ≤ n ∧ n ≤ 9223372036854775807 := by
  simp [Lit.wf, IntKind.min, IntKind.max, IntKind.signed, IntKind.bits] at h
  omega
set_option maxRecDepth 100000 in
theorem lifted (os : Os) (started : os.Started) (H : Type) (enc : TypeId × Value → H) :
    ReturnsInHanded {} Tryd.checked os 8 .any (fun w args => (Rows.columnsCardsSpec.pre enc Tryd.prog Tryd.f8 Rows.columnsCardsRow.domain false w args ∧ laidMetH Tryd.prog Rows.columnsCardsRow.laid w) ∧ sizedMet enc Tryd.prog Tryd.f8 (OpenSpec.ofChange Rows.columnsCardsSpec) false w args)
      (Rows.columnsCardsSpec.post enc Tryd.prog Tryd.f8 false true false false) := by
  refine returns_laid_shaped (C := Tryd.checked) (X := fun w _ => laidMetH Tryd.prog Rows.columnsCardsRow.laid w) (fun _ _ _ hh h => h.of_heap hh) own started (by kernel_rfl) Tryd.func8
    (ChangeSpec.witness_shaped (enc := enc) (C := Tryd.checked) (os := os) (X := fun w _ => laidMetH Tryd.prog Rows.columnsCardsRow.laid w) false (World.laidAll Tryd.prog os Rows.columnsCardsRow.laid) #[.agg #[.bool false, .string ByteArray.empty, .slice none 0 0], .int .i64 0] 8 (World.laidAll_os _ _ _)
      (World.shaped_of_ZipB (by kernel_rfl) (by kernel_rfl)) (by kernel_rfl) (by kernel_rfl) (by kernel_rfl)
      (by rw [MakeChecks.laidMetH_plain _ _ _ (by kernel_rfl)]; exact laidMet_laidAll _ (by kernel_rfl) (by kernel_rfl))) ?_
  intro W base args ds gs before hval0 hW hcnd hL hsh
  have hval : ∀ (j : Nat) t v, Tryd.f8.params[j]? = some t → args[j]? = some v → Value.okWide Tryd.prog W .any base t v := hval0
  have hW' := hW
  obtain ⟨p, q, hA0, hV, rfl, hfz, hnd⟩ := hW
  have hA : DataW.TrodAll enc Tryd.prog W 0 (fun _ => true) true Tryd.f8.params.toList args.toList ds p := hA0
  rw [Tryd.params8] at hA hval
  obtain ⟨v0, vs0, d0, ds0, p0, q0, hargs, rfl, rfl, h0, r0⟩ := trodAll_cons hA
  obtain ⟨v1, vs1, d1, ds1, p1, q1, rfl, rfl, rfl, h1, r1⟩ := trodAll_cons r0
  obtain ⟨rfl, rfl, rfl⟩ := trodAll_nil r1
  obtain rfl : args = #[v0, v1] := by cases args; simp_all
  obtain ⟨rfl, rfl⟩ := trodVars_none hV
  obtain ⟨a1, rfl, rfl, rfl, w1⟩ := open_int Tryd.underlying3 (hval 1 3 v1 rfl rfl) h1
  simp only [List.append_nil] at hW'
  have hlt : ∀ x ∈ p0, x.block < W.heap.size := fun x hx => by simpa using hW'.lt x (by simpa using hx)
  have hback : ∀ W', Below W.heap.size W W' → DataW.Trod enc Tryd.prog W' 0 (fun b => decide (b < W.heap.size)) true 34 v0 d0 p0 :=
    fun W' hn => Below.trod laidOut2 (by kernel_rfl) (of_decide_eq_true (by kernel_rfl)) h0 hn hlt
  obtain ⟨c0, c1, c2, y0, y1, y2, n, rfl, _, _, e0, e1, e2⟩ := Joins.open_agg3 Tryd.underlying34 (by kernel_rfl) (by kernel_rfl) (hval 0 34 v0 rfl rfl) h0
  obtain ⟨l, hl0, _⟩ := DataW.trod_bool Tryd.underlying4 e0
  obtain ⟨t, ht0, _, htl⟩ := DataW.trod_string Tryd.underlying9 e1
  injection hl0 with hl0; injection ht0 with ht0
  subst hl0; subst ht0
  have hM := marks_in e2
  clear hA0 hval0
  refine (cards_any l t c2 a1 (i64wf w1).1 (i64wf w1).2 W (by unfold maxLen at htl; omega) hM (maxLen_of hsh) (tab_of hL)).mono fun e W' ⟨he, hb⟩ => ?_
  subst he
  exact ⟨_, rfl, _, _, _, [], _, [], hW', trodAll_mk1 (shut_bool Tryd.underlying4 _), trodAll_cons_mk (hback W' hb) (trodAll_cons_mk (shut_int Tryd.underlying3 w1) trodAll_mk0), rfl, hb.frame _, fun h => by cases h⟩

theorem over : Rows.ColumnsCardsSaid :=
  OpenClaim.holds_of_wide 8 Tryd.f8 rfl rfl rfl rfl rfl rfl rfl ⟨rfl, rfl, rfl, rfl, rfl⟩ rfl rfl rfl rfl rfl (by kernel_rfl) Tryd.func8 (by kernel_rfl)
    (of_decide_eq_true (by kernel_rfl)) (by unfold Func.isWrapper; first | (rw [if_pos (by decide +kernel)]; kernel_rfl) | (rw [if_neg (by decide +kernel)]; exact ⟨rfl, rfl⟩))
    (fun os started H enc _ => lifted os started H enc)
/-- The given statement: the tied card. -/
theorem proved : Rows.ColumnsCardsCardSaid :=
  Claim7.holds_tied_plain_at .later [] [.data, .data, .data, .data, .pinned] true (true, "8afc0cec68ec49b70588f4c31ae66966ff752ff9bf57f3d445d6629efb397bb5") false
    over (fun _ h => by cases h) (by kernel_rfl) (fun _ h => by cases h) columnsCards_row_tie rfl ⟨rfl, rfl⟩ (by kernel_rfl) rfl
    (fun f fn hf hfn => by
      obtain rfl : f = 8 := Option.some.inj ((show Tryd.prog.funcNamed "columnseven/columnsevenlaw02.ColumnsCards" = some 8 by kernel_rfl).symm.trans hf) |>.symm
      obtain rfl : fn = Tryd.f8 := (Option.some.inj (Tryd.func8.symm.trans hfn)).symm
      exact ⟨by kernel_rfl, fun j t ht => by
        rw [Tryd.params8] at ht
        have hm : t ∈ [34, 3] := by simpa using Array.mem_of_getElem? ht
        have hall : ([34, 3].all fun u => !Tryd.prog.wantsStandIn u) = true := by kernel_rfl
        exact (show Tryd.prog.wantsStandIn t = false by simpa using List.all_eq_true.1 hall t hm)⟩)
    (by kernel_rfl)
#print axioms proved
end Go.Proofs.YtbckdieajfbepaaDoor.columnsCards
