/-
  The law TokensErrors (columnsevenlaw03), walked.
-/
import Derived.Test.YtpalfhfbgfnacaaGreatDoorGL
import Derived.Test.YtpalfhfbgfnacaaGreatDoorLScan
import Derived.Test.YtpalfhfbgfnacaaGreatDoorEqT
import Derived.Test.YtpalfhfbgfnacaaGreatDoorErrL
namespace Go.Proofs.YtpalfhfbgfnacaaGreatDoor
open Go.RowKit
set_option linter.unusedVariables false
set_option linter.unusedSimpArgs false
attribute [local go_sem] eqFault guardFault neqFault eqlFault

/-- A result of Scan, laid open. -/
def ResV (r : (Nat × Int × Int) ⊕ List Tok) (v : Value) (f1 f2 f3 : Int) (w : World) : Prop := match r with
  | .inl f => v = .slice none 0 0 ∧ f1 = f.1 ∧ f2 = f.2.1 ∧ f3 = f.2.2 ∧ f.1 ≠ 0
  | .inr acc => f1 = 0 ∧ f2 = 0 ∧ f3 = 0 ∧ ToksAt w v acc
theorem ResV.below {r : (Nat × Int × Int) ⊕ List Tok} {v : Value} {f1 f2 f3 : Int} {w w' : World} (h : ResV r v f1 f2 f3 w) (hb : Below w.heap.size w w') : ResV r v f1 f2 f3 w' := by
  cases r with
  | inl f => exact h
  | inr acc => exact ⟨h.1, h.2.1, h.2.2.1, h.2.2.2.below hb⟩
theorem toks_nil (W : World) : ToksAt W (.slice none 0 0) [] := ⟨none, 0, rfl, Nat.le_refl _, by simp, fun h => absurd h (by simp)⟩
/-- The list of a result. -/
def listR : (Nat × Int × Int) ⊕ List Tok → List Tok | .inl _ => [] | .inr acc => acc
theorem ResV.toks {r : (Nat × Int × Int) ⊕ List Tok} {v : Value} {f1 f2 f3 : Int} {w : World} (h : ResV r v f1 f2 f3 w) : ToksAt w v (listR r) := by
  cases r with
  | inl f => rw [h.1]; exact toks_nil w
  | inr acc => exact h.2.2.2
theorem ResV.same {r : (Nat × Int × Int) ⊕ List Tok} {v v' : Value} {f1 f2 f3 g1 g2 g3 : Int} {w w' : World} (h : ResV r v f1 f2 f3 w) (g : ResV r v' g1 g2 g3 w') : f1 = g1 ∧ f2 = g2 ∧ f3 = g3 := by
  cases r with
  | inl f => obtain ⟨_, rfl, rfl, rfl, _⟩ := h; obtain ⟨_, rfl, rfl, rfl, _⟩ := g; exact ⟨rfl, rfl, rfl⟩
  | inr acc => obtain ⟨rfl, rfl, rfl, _⟩ := h; obtain ⟨rfl, rfl, rfl, _⟩ := g; exact ⟨rfl, rfl, rfl⟩
theorem resV_all {r : (Nat × Int × Int) ⊕ List Tok} {w w' : World} {e : Ending} (h : ScanAll r w e w') : Below w.heap.size w w' ∧ ∃ (a : Option Addr) (n cap : Nat) (f1 f2 f3 : Int), e = .returned (.tuple #[.slice a n cap, .agg #[.int .i64 f1, .int .i64 f2, .int .i64 f3]]) ∧ ResV r (.slice a n cap) f1 f2 f3 w' ∧ n = (listR r).length := by
  refine ⟨h.1, ?_⟩
  cases r with
  | inl f => obtain ⟨rfl, h0⟩ := h.2; exact ⟨none, 0, 0, _, _, _, rfl, ⟨rfl, rfl, rfl, rfl, h0⟩, rfl⟩
  | inr acc => obtain ⟨v, rfl, h1⟩ := h.2; obtain ⟨a, rfl, h2, _⟩ := h1; exact ⟨a, _, _, _, _, _, rfl, ⟨rfl, rfl, rfl, h2⟩, rfl⟩
theorem e_card {w : World} {B b : Nat} {l : Bool} {t : ByteArray} {a : Option Addr} {cap : Nat} {ms : IMarks} {ty : TypeId} {fr : Nat × Nat} (hm : MkIn B w (.slice a ms.length cap) ms) (h : w.heap[b]? = some (.cells #[.bool l, .string t, .slice a ms.length cap] ty fr)) (hb : b < B) (ht : t.size ≤ 134217728) :
    CardsIn B w (.slice (some ⟨b, 0, none⟩) 1 1) [⟨l, t.data.toList, ms⟩] := by
  refine ⟨some ⟨b, 0, none⟩, 1, rfl, by simp, fun _ => ⟨b, 0, rfl, hb, fun k c hc => ?_⟩⟩
  match k, hc with
  | 0, hc =>
    injection hc with hc
    subst hc
    exact ⟨by show t.data.toList.length ≤ _; rw [← size_data]; exact ht, Joins.cell_of_block h 0, Joins.cell_of_block h 1, _, Joins.cell_of_block h 2, hm⟩
  | k + 1, hc => simp at hc
theorem e_marks {w : World} {B mb : Nat} {x y z : Int} {ty : TypeId} {fr : Nat × Nat} (h : w.heap[mb]? = some (.cells #[.int .i64 x, .int .i64 y, .int .i64 z] ty fr)) (hb : mb < B) : MkIn B w (.slice (some ⟨mb, 0, none⟩) ([(x, y, z)] : IMarks).length 1) [(x, y, z)] :=
  ⟨some ⟨mb, 0, none⟩, 1, rfl, by simp, by simp, fun _ => ⟨mb, 0, rfl, hb, fun j u hu => by
    match j, hu with
    | 0, hu =>
      injection hu with hu
      subst hu
      exact ⟨Joins.cell_of_block h 0, Joins.cell_of_block h 1, Joins.cell_of_block h 2⟩
    | j + 1, hu => simp at hu⟩⟩
set_option maxHeartbeats 8000000 in
set_option maxRecDepth 100000 in
theorem l3errors (l : Bool) (t : ByteArray) (a : Option Addr) (cap : Nat) (ms : IMarks) (z0 z1 : Nat) (w : World) (hm : MkIn w.heap.size w (.slice a ms.length cap) ms) (hms : ms.length ≤ 10) (hts : t.size ≤ 60) (hz0 : z0 < 256) (hz1 : z1 < 256) (hx : MaxLenAt w) (hg : SignsAt w) :
    Calls Tryz.prog 6 #[.agg #[.bool l, .string t, .slice a ms.length cap], .agg #[.int .u8 z0, .int .u8 z1]] w fun e w' => e = .returned (.bool true) ∧ Below w.heap.size w w' := by
  have hml : 1 < w.heap.size := by obtain ⟨m, hm⟩ := hx; exact lt_of_cellR hm
  have HML := Lib.hid hml
  have HLIVE : Hid (∀ w1, Below w.heap.size w w1 → Calls Tryz.prog 7 #[] w1 fun e w' => e = .returned (.bool true) ∧ Below w.heap.size w w') := fun w1 hb =>
    (l3lives w1 (hx.bel hml hb) (hg.below hg.lt hb)).mono fun e w' h => ⟨h.1, hb.trans (h.2.mono hb.size)⟩
  have HX := Lib.hid hx
  have HG := Lib.hid hg
  clear hx hg hml
  obtain ⟨C, hC⟩ : ∃ C : ICard, C = ⟨l, t.data.toList, ms⟩ := ⟨_, rfl⟩
  obtain ⟨ok, hok⟩ : ∃ b, b = C.ok := ⟨_, rfl⟩
  have HOKC := Lib.hid hok
  have HCC := Lib.hid hC
  -- the two parameters in boxes
  obtain ⟨W0, hW0⟩ : ∃ W, W = (w.alloc (.cells #[.bool l, .string t, .slice a ms.length cap] 55)).alloc (.cells #[.int .u8 z0, .int .u8 z1] 57) := ⟨_, rfl⟩
  have HB0 : Hid (Below w.heap.size w W0) := by show Below _ _ _; rw [hW0]; exact ((Below.refl _ _).alloc (Nat.le_refl _) _).alloc (by simp) _
  have HC0 : Hid (W0.heap[w.heap.size]? = some (.cells #[.bool l, .string t, .slice a ms.length cap] 55 (0, 0))) := by
    show _ = _; rw [hW0]; exact (Below.heap_alloc _ _ _ (by simp)).trans (heap_alloc_new _ _)
  have HZ0 : Hid (W0.heap[w.heap.size + 1]? = some (.cells #[.int .u8 z0, .int .u8 z1] 57 (0, 0))) := by
    have h0 := heap_alloc_new (w.alloc (.cells #[.bool l, .string t, .slice a ms.length cap] 55)) (.cells #[.int .u8 z0, .int .u8 z1] 57)
    have e0 : (w.alloc (.cells #[.bool l, .string t, .slice a ms.length cap] 55)).heap.size = w.heap.size + 1 := by simp
    rw [e0] at h0
    show _ = _
    rw [hW0]; exact h0
  have hn0 : w.heap.size + 2 ≤ W0.heap.size := by rw [hW0]; simp
  have HM0 : Hid (MkIn w.heap.size W0 (.slice a ms.length cap) ms) := hm.below HB0.out
  have HCELL : Hid (∀ W, Below W0.heap.size W0 W → W.cell? ⟨w.heap.size, 0, none⟩ = some (.bool l) ∧ W.cell? ⟨w.heap.size, 1, none⟩ = some (.string t) ∧ W.cell? ⟨w.heap.size, 2, none⟩ = some (.slice a ms.length cap) ∧ W.cell? ⟨w.heap.size + 1, 0, none⟩ = some (.int .u8 z0) ∧ W.cell? ⟨w.heap.size + 1, 1, none⟩ = some (.int .u8 z1) ∧ MkIn w.heap.size W (.slice a ms.length cap) ms) := fun W hW =>
    ⟨(hW.cell (by show w.heap.size < _; omega)).trans (Joins.cell_of_block HC0.out 0), (hW.cell (by show w.heap.size < _; omega)).trans (Joins.cell_of_block HC0.out 1), (hW.cell (by show w.heap.size < _; omega)).trans (Joins.cell_of_block HC0.out 2),
     (hW.cell (by show w.heap.size + 1 < _; omega)).trans (Joins.cell_of_block HZ0.out 0), (hW.cell (by show w.heap.size + 1 < _; omega)).trans (Joins.cell_of_block HZ0.out 1), HM0.out.below (hW.mono (by omega))⟩
  have HUP : Hid (∀ W, Below W0.heap.size W0 W → Below w.heap.size w W) := fun W hW => up2 HB0.out hW
  have HAT : Hid (Calls Tryz.prog 17 #[.agg #[.bool l, .string t, .slice a ms.length cap], .int .i64 0] W0 fun e w' => ∃ pl pc ev : Int, e = .returned (.tuple #[.agg #[.int .i64 pl, .int .i64 pc], .int .i64 ev]) ∧ Below W0.heap.size W0 w' ∧ Hid (ev = if ok = true then 0 else 1)) := by
    refine (c_At l t _ ms 0 (by omega) (by omega) W0 (HM0.out.marksIn (by omega)) (by omega)).mono ?_
    rintro e w' ⟨hb, h | h⟩
    · obtain ⟨hv, _, _, m0, _, rfl⟩ := h
      have : C.ok = true := (ok_valid C).2 (by rw [hC]; exact hv)
      exact ⟨_, _, _, rfl, hb, by show _ = _; rw [hok, if_pos this]⟩
    · have : ¬ C.ok = true := fun h2 => h.1 ⟨by have := (ok_valid C).1 h2; rw [hC] at this; exact this, by omega, by omega⟩
      exact ⟨_, _, _, h.2, hb, by show _ = _; rw [hok, if_neg this]⟩
  obtain ⟨r, hr⟩ : ∃ r, r = scanB true [C] [] := ⟨_, rfl⟩
  have HR := Lib.hid hr
  have HCIN : Hid (∀ W b, Below W0.heap.size W0 W → W.heap[b]? = some (.cells #[.bool l, .string t, .slice a ms.length cap] 55 (0, 0)) → CardsIn W.heap.size W (.slice (some ⟨b, 0, none⟩) 1 1) [C]) := fun W b hW hb => by
    rw [hC]
    have hs := hW.size
    exact e_card ((HCELL.out W hW).2.2.2.2.2.more (by omega)) hb (lt_of_block hb) (by omega)
  have HSCN : Hid (∀ W b, Below W0.heap.size W0 W → W.heap[b]? = some (.cells #[.bool l, .string t, .slice a ms.length cap] 55 (0, 0)) → Calls Tryz.prog 11 #[.slice (some ⟨b, 0, none⟩) 1 1] W (ScanAll r W)) := fun W b hW hb => by
    have hw := HUP.out W hW
    have := c_Scan _ [C] W (HCIN.out W b hW hb) (HX.out.bel HML.out hw) (HG.out.below HG.out.lt hw)
    rw [← hr] at this
    exact this
  have htot : totI [C] ≤ 60 := by
    rw [hC]; simp [totI]; have := size_data t; simp at this; omega
  have HREF : Hid (∀ W b, Below W0.heap.size W0 W → W.heap[b]? = some (.cells #[.bool l, .string t, .slice a ms.length cap] 55 (0, 0)) → Calls Tryz.prog 10 #[.slice (some ⟨b, 0, none⟩) 1 1] W fun e w' => Below W.heap.size W w' ∧ ∃ (v : Value) (f1 f2 f3 : Int), e = .returned (.tuple #[v, .agg #[.int .i64 f1, .int .i64 f2, .int .i64 f3]]) ∧ Hid (ok = true → ResV r v f1 f2 f3 w')) := fun W b hW hb => by
    refine (r3scanG ok _ [C] W (HCIN.out W b hW hb) (fun h c hc => by rw [List.mem_singleton] at hc; rw [hc, ← hok]; exact h) (by omega)).mono ?_
    rintro e w' ⟨hb2, v, f1, f2, f3, rfl, h⟩
    refine ⟨hb2, v, f1, f2, f3, rfl, fun h2 => ?_⟩
    have h3 := h h2
    rw [← scanB_free [C] [] (by simp; omega), ← hr] at h3
    cases r with
    | inl f => exact h3
    | inr acc => obtain ⟨h4, h5, h6, h7, _⟩ := h3; exact ⟨h4, h5, h6, h7⟩
  have hbad : ok = false → r = .inl (1, 0, 0) := fun h => by
    rw [hr]
    show (if C.ok = true then _ else _) = _
    rw [← hok, h]; rfl
  have HBAD := Lib.hid hbad
  have HEQ : Hid (∀ (u v : Value) (T : List Tok) (W : World), ToksAt W u T → ToksAt W v T → Calls Tryz.prog 12 #[u, v] W fun e w' => e = .returned (.int .i64 0) ∧ Below W.heap.size W w') := fun u v T W h1 h2 => l3equal u v T T 0 (by simp) W h1 h2
  have HTS := Lib.hid hts
  have hms2 : (ms.length : Int) ≤ 10 := by omega
  have hts2 : (t.size : Int) ≤ 60 := by omega
  clear hbad hr hok hC hm hms htot HM0 hts
  go_enter Tryz.func6, Tryz.ntmps6
  go_upto_region 1 with fail
  rw [← hW0]
  clear hW0 HC0 HZ0
  have HR0 : Hid (Below W0.heap.size W0 W0) := Below.refl _ _
  obtain ⟨c0, c1, c2, y0, y1, _⟩ := HCELL.out W0 HR0.out
  go_upto_region 3 with fail
  go_cut [5, 6] (fun s5 s6 wx => ∃ (P : Nat) (ev : Int), s5 = .pointer (some ⟨P, 0, none⟩) ∧ s6 = .int .i64 ev ∧ Hid (Below W0.heap.size W0 wx) ∧ Hid (ev = if ok = true then 0 else 1))
  case first =>
    go_wp2_with (go_at_call 17; refine HAT.out.mono ?_; rintro e w5 ⟨pl, pc, ev, rfl, hb5, HEV⟩)
    go_meet
    exact ⟨_, ev, rfl, rfl, up2 hb5 ((Below.refl _ _).alloc (Nat.le_refl _) _), HEV⟩
  case rest =>
  obtain ⟨P, ev, rfl, rfl, HB1, HEV⟩ := hcut
  clear c0 c1 c2 y0 y1 HAT
  obtain ⟨c0, c1, c2, _, _, _⟩ := HCELL.out wc HB1.out
  go_upto_region 4 with fail
  go_cut [7, 8] (fun s7 s8 wx => ∃ (va : Option Addr) (n vcap F : Nat) (f1 f2 f3 : Int), s7 = .slice va n vcap ∧ s8 = .pointer (some ⟨F, 0, none⟩) ∧ Hid (Below W0.heap.size W0 wx) ∧ Hid (FB F f1 f2 f3 wx) ∧ Hid (ResV r (.slice va n vcap) f1 f2 f3 wx) ∧ Hid (n = (listR r).length))
  case first =>
    have hbA : Below wc.heap.size wc (wc.alloc (.cells #[.bool l, .string t, .slice a ms.length cap] 55)) := (Below.refl _ _).alloc (Nat.le_refl _) _
    have HS := Lib.hid (HSCN.out (wc.alloc (.cells #[.bool l, .string t, .slice a ms.length cap] 55)) wc.heap.size (up2 HB1.out hbA) (heap_alloc_new wc _))
    have HBA := Lib.hid (up2 HB1.out hbA)
    clear hbA
    go_wp2_with (go_at_call 11; refine HS.out.mono ?_; rintro e w5 hp; obtain ⟨hb5, va, n, vcap, f1, f2, f3, rfl, hrv, hn⟩ := resV_all hp; have HN := Lib.hid hn; clear hn)
    go_meet
    exact ⟨va, n, vcap, w5.heap.size, f1, f2, f3, rfl, rfl, up2 (up2 HBA.out hb5) (fb_bel w5 _ _ _), fb_new w5 _ _ _, hrv.below (fb_bel w5 _ _ _), HN⟩
  case rest =>
  clear c0 c1 c2 HB1
  obtain ⟨va, n, vcap, F, f1, f2, f3, rfl, rfl, HB2, HF2, HV2, HN2⟩ := hcut
  obtain ⟨d0, d1, d2⟩ := HF2.out.cells
  go_upto_region 5 with fail
  go_cut [56] (fun b wx => b = .bool false ∧ wc = wx)
  case first =>
    cases ok
    · have hv := HV2.out
      rw [HBAD.out rfl] at hv
      obtain ⟨e1, e2, e3, e4, _⟩ := hv
      injection e1 with e1 e5 e6
      have e7 : ev = 1 := HEV.out
      subst e1; subst e5; subst e6; subst e7; subst e2; subst e3; subst e4
      clear HN2 HV2
      go_wp2
      go_meet
      exact ⟨rfl, rfl⟩
    · have e7 : ev = 0 := HEV.out
      subst e7
      go_wp2
      go_meet
      exact ⟨rfl, rfl⟩
  case rest =>
  obtain ⟨rfl, rfl⟩ := hcut
  clear d0 d1 d2
  obtain ⟨c0, c1, c2, _, _, _⟩ := HCELL.out wc HB2.out
  go_upto_region 7 with fail
  go_cut [9, 10] (fun s9 s10 wx => ∃ (v9 : Value) (G : Nat) (g1 g2 g3 : Int), s9 = v9 ∧ s10 = .pointer (some ⟨G, 0, none⟩) ∧ Hid (Below W0.heap.size W0 wx) ∧ Hid (FB F f1 f2 f3 wx) ∧ Hid (ResV r (.slice va n vcap) f1 f2 f3 wx) ∧ Hid (FB G g1 g2 g3 wx) ∧ Hid (ok = true → ResV r v9 g1 g2 g3 wx))
  case first =>
    have hbA : Below wc.heap.size wc (wc.alloc (.cells #[.bool l, .string t, .slice a ms.length cap] 55)) := (Below.refl _ _).alloc (Nat.le_refl _) _
    have HS := Lib.hid (HREF.out (wc.alloc (.cells #[.bool l, .string t, .slice a ms.length cap] 55)) wc.heap.size (up2 HB2.out hbA) (heap_alloc_new wc _))
    have HBA := Lib.hid (up2 HB2.out hbA)
    have HFA := Lib.hid (HF2.out.below hbA)
    have HVA := Lib.hid (HV2.out.below hbA)
    clear hbA
    go_wp2_with (go_at_call 10; refine HS.out.mono ?_; rintro e w5 ⟨hb5, v9, g1, g2, g3, rfl, hrv⟩)
    go_meet
    exact ⟨v9, w5.heap.size, g1, g2, g3, rfl, rfl, up2 (up2 HBA.out hb5) (fb_bel w5 _ _ _), (HFA.out.below hb5).below (fb_bel w5 _ _ _), (HVA.out.below hb5).below (fb_bel w5 _ _ _), fb_new w5 _ _ _, fun h => (hrv.out h).below (fb_bel w5 _ _ _)⟩
  case rest =>
  clear c0 c1 c2 HB2 HF2 HV2
  obtain ⟨v9, G, g1, g2, g3, rfl, rfl, HB3, HF3, HV3, HG3, HW3⟩ := hcut
  obtain ⟨d0, d1, d2⟩ := HF3.out.cells
  obtain ⟨k0, k1, k2⟩ := HG3.out.cells
  go_upto_region 8 with fail
  go_cut [75] (fun b wx => b = .bool false ∧ Hid (Below W0.heap.size W0 wx))
  case first =>
    cases ok
    · have e7 : ev = 1 := HEV.out
      subst e7
      go_wp2
      go_meet
      exact ⟨rfl, HB3.out⟩
    · have e7 : ev = 0 := HEV.out
      subst e7
      obtain ⟨e1, e2, e3⟩ := HV3.out.same (HW3.out rfl)
      subst e1; subst e2; subst e3
      have HE := Lib.hid (HEQ.out _ _ (listR r) wc HV3.out.toks (HW3.out rfl).toks)
      go_wp2_with (go_at_call 12; refine HE.out.mono ?_; rintro e w6 ⟨rfl, hb6⟩)
      go_meet
      exact ⟨rfl, up2 HB3.out hb6⟩
  case rest =>
  obtain ⟨rfl, HB4⟩ := hcut
  clear d0 d1 d2 k0 k1 k2 HB3 HF3 HV3 HG3 HW3 HN2 HEV HEQ HREF HSCN HCIN HBAD HR HOKC HCC
  obtain ⟨_, _, _, y0, y1, _⟩ := HCELL.out wc HB4.out
  clear HCELL
  -- a word and a number
  obtain ⟨ka, hka⟩ : ∃ k, k = z0 % 40 := ⟨_, rfl⟩
  obtain ⟨kb, hkb⟩ : ∃ k, k = z1 % 30 := ⟨_, rfl⟩
  have hka2 : ka < 40 := by omega
  have hkb2 : kb < 30 := by omega
  obtain ⟨WD, hWD⟩ : ∃ s, s = strL (List.replicate (ka + 1) 65) := ⟨_, rfl⟩
  obtain ⟨NB, hNB⟩ : ∃ s, s = strL (List.replicate (kb + 1) 55) := ⟨_, rfl⟩
  have hWs : WD.size = ka + 1 := by rw [hWD, strL_size]; simp
  have hNs : NB.size = kb + 1 := by rw [hNB, strL_size]; simp
  have HRA : Hid (∀ W : World, Calls Tryz.prog 18 #[.string ⟨#[65]⟩, .int .i64 ((ka + 1 : Nat) : Int)] W fun e w' => e = .returned (.string WD) ∧ Below W.heap.size W w') := fun W => by
    have := Tryz.strings_Repeat ⟨#[65]⟩ (ka + 1) W (by omega) (by show 1 * (ka + 1) ≤ _; omega)
    have e : (⟨(Lib.repeatL (⟨#[65]⟩ : ByteArray).data.toList (ka + 1)).toArray⟩ : ByteArray) = WD := by
      show (⟨(Lib.repeatL [65] (ka + 1)).toArray⟩ : ByteArray) = WD
      rw [repeat_one, hWD]; rfl
    rw [e] at this
    exact this
  have HRB : Hid (∀ W : World, Calls Tryz.prog 18 #[.string ⟨#[55]⟩, .int .i64 ((kb + 1 : Nat) : Int)] W fun e w' => e = .returned (.string NB) ∧ Below W.heap.size W w') := fun W => by
    have := Tryz.strings_Repeat ⟨#[55]⟩ (kb + 1) W (by omega) (by show 1 * (kb + 1) ≤ _; omega)
    have e : (⟨(Lib.repeatL (⟨#[55]⟩ : ByteArray).data.toList (kb + 1)).toArray⟩ : ByteArray) = NB := by
      show (⟨(Lib.repeatL [55] (kb + 1)).toArray⟩ : ByteArray) = NB
      rw [repeat_one, hNB]; rfl
    rw [e] at this
    exact this
  obtain ⟨h1, h2, h3, hF⟩ : ∃ h1 h2 h3 : Int, ((h1, h2, h3) : Int × Int × Int) = if 30 < ka + 1 then (5, 1, 14) else (0, 0, 0) := ⟨_, _, _, rfl⟩
  obtain ⟨i1, i2, i3, hI⟩ : ∃ i1 i2 i3 : Int, ((i1, i2, i3) : Int × Int × Int) = if 17 < kb + 1 then (5, 1, 14) else (0, 0, 0) := ⟨_, _, _, rfl⟩
  have HSA : Hid (∃ str, showV ((⟨#[88, 32]⟩ : ByteArray) ++ WD).data.toList = .tuple #[.string str, .agg #[.int .i64 h1, .int .i64 h2, .int .i64 h3]]) := by
    have e : ((⟨#[88, 32]⟩ : ByteArray) ++ WD).data.toList = 88 :: 32 :: List.replicate (ka + 1) 65 := by rw [append_data, hWD]; rfl
    show ∃ _, _
    rw [e]
    obtain ⟨str, h⟩ := showV_fault _ _ (errWords ka hka2)
    refine ⟨str, h.trans ?_⟩
    by_cases hc : 30 < ka + 1
    · rw [if_pos hc] at hF ⊢
      injection hF with e1 e2; injection e2 with e2 e3
      rw [e1, e2, e3]; rfl
    · rw [if_neg hc] at hF ⊢
      injection hF with e1 e2; injection e2 with e2 e3
      rw [e1, e2, e3]; rfl
  have HSB : Hid (∃ str, showV (((⟨#[88, 32]⟩ : ByteArray) ++ NB) ++ ⟨#[46, 53]⟩).data.toList = .tuple #[.string str, .agg #[.int .i64 i1, .int .i64 i2, .int .i64 i3]]) := by
    have e : (((⟨#[88, 32]⟩ : ByteArray) ++ NB) ++ ⟨#[46, 53]⟩).data.toList = 88 :: 32 :: (List.replicate (kb + 1) 55 ++ [46, 53]) := by rw [append_data, append_data, hNB]; rfl
    show ∃ _, _
    rw [e]
    obtain ⟨str, h⟩ := showV_fault _ _ (errNums kb hkb2)
    refine ⟨str, h.trans ?_⟩
    by_cases hc : 17 < kb + 1
    · rw [if_pos hc] at hI ⊢
      injection hI with e1 e2; injection e2 with e2 e3
      rw [e1, e2, e3]; rfl
    · rw [if_neg hc] at hI ⊢
      injection hI with e1 e2; injection e2 with e2 e3
      rw [e1, e2, e3]; rfl
  have HSHA : Hid (∀ W, Below w.heap.size w W → Calls Tryz.prog 19 #[.string ((⟨#[88, 32]⟩ : ByteArray) ++ WD)] W fun e w' => (∃ str, e = .returned (.tuple #[.string str, .agg #[.int .i64 h1, .int .i64 h2, .int .i64 h3]])) ∧ Below W.heap.size W w') := fun W hW => by
    obtain ⟨str, h⟩ := HSA.out
    have := c_show ((⟨#[88, 32]⟩ : ByteArray) ++ WD) (by rw [ByteArray.size_append, hWs]; show 2 + _ ≤ _; omega) W (HX.out.bel HML.out hW) (HG.out.below HG.out.lt hW)
    rw [h] at this
    exact this.mono fun e w' hh => ⟨⟨str, hh.1⟩, hh.2⟩
  have HSHB : Hid (∀ W, Below w.heap.size w W → Calls Tryz.prog 19 #[.string (((⟨#[88, 32]⟩ : ByteArray) ++ NB) ++ ⟨#[46, 53]⟩)] W fun e w' => (∃ str, e = .returned (.tuple #[.string str, .agg #[.int .i64 i1, .int .i64 i2, .int .i64 i3]])) ∧ Below W.heap.size W w') := fun W hW => by
    obtain ⟨str, h⟩ := HSB.out
    have := c_show (((⟨#[88, 32]⟩ : ByteArray) ++ NB) ++ ⟨#[46, 53]⟩) (by rw [ByteArray.size_append, ByteArray.size_append, hNs]; show 2 + _ + 2 ≤ _; omega) W (HX.out.bel HML.out hW) (HG.out.below HG.out.lt hW)
    rw [h] at this
    exact this.mono fun e w' hh => ⟨⟨str, hh.1⟩, hh.2⟩
  have HHF := Lib.hid hF
  have HHI := Lib.hid hI
  have HWS := Lib.hid hWs
  have HNS := Lib.hid hNs
  have HKA := Lib.hid hka
  have HKB := Lib.hid hkb
  clear hF hI hWs hNs hWD hNB hka hkb HSA HSB
  have HB5 := Lib.hid (HUP.out wc HB4.out)
  have hwc : w.heap.size + 2 ≤ wc.heap.size := by have := HB4.out.size; omega
  have hw40 : WD.size ≤ 40 := by have := HWS.out; omega
  have hn40 : NB.size ≤ 40 := by have := HNS.out; omega
  clear HB4 HUP
  go_upto_region 10 with fail
  go_wp2_with fail
  rw [show (1 + (z0 : Int) % 40) = ((ka + 1 : Nat) : Int) from by have := HKA.out; omega]
  refine (HRA.out _).mono ?_
  rintro e w6 ⟨rfl, hb6⟩
  have y1' := (hb6.cell (p := ⟨w.heap.size + 1, 1, none⟩) (by show w.heap.size + 1 < _; omega)).trans y1
  have HB6 := Lib.hid (up2 HB5.out hb6)
  clear y0 y1 hb6 HB5 HRA hwc
  go_wp2_with fail
  rw [show (1 + (z1 : Int) % 30) = ((kb + 1 : Nat) : Int) from by have := HKB.out; omega]
  refine (HRB.out _).mono ?_
  rintro e w7 ⟨rfl, hb7⟩
  have HB7 := Lib.hid (up2 HB6.out hb7)
  clear y1' hb7 HB6 HRB HKA HKB
  go_wp2_with fail
  refine (HSHA.out _ HB7.out).mono ?_
  rintro e w8 ⟨⟨sa, rfl⟩, hb8⟩
  have HB9 := Lib.hid (up2 (up2 HB7.out hb8) (fb_bel w8 h1 h2 h3))
  have HH9 := Lib.hid (fb_new w8 h1 h2 h3)
  clear hb8 HB7 HSHA
  go_upto_region 13 with fail
  obtain ⟨H, hH⟩ : ∃ F, F = w8.heap.size := ⟨_, rfl⟩
  rw [← hH] at HH9 ⊢
  clear hH
  generalize w8.alloc (.cells #[.int .i64 h1, .int .i64 h2, .int .i64 h3] 28) = w9 at *
  go_wp2_with fail
  refine (HSHB.out _ HB9.out).mono ?_
  rintro e w10 ⟨⟨sb, rfl⟩, hb10⟩
  have HB11 := Lib.hid (up2 (up2 HB9.out hb10) (fb_bel w10 i1 i2 i3))
  have HH11 := Lib.hid ((HH9.out.below hb10).below (fb_bel w10 i1 i2 i3))
  have HI11 := Lib.hid (fb_new w10 i1 i2 i3)
  clear hb10 HB9 HH9 HSHB
  go_upto_region 14 with fail
  obtain ⟨I, hI⟩ : ∃ F, F = w10.heap.size := ⟨_, rfl⟩
  rw [← hI] at HI11 ⊢
  clear hI
  generalize w10.alloc (.cells #[.int .i64 i1, .int .i64 i2, .int .i64 i3] 28) = w11 at *
  go_upto_region 15 with fail
  have hbP : Below w11.heap.size w11 (w11.alloc (.cells #[.int .i64 1, .int .i64 14] 26)) := (Below.refl _ _).alloc (Nat.le_refl _) _
  have HB12 := Lib.hid (up2 HB11.out hbP)
  obtain ⟨j0, j1, j2⟩ := (HH11.out.below hbP).cells
  obtain ⟨k0, k1, k2⟩ := (HI11.out.below hbP).cells
  obtain ⟨p0, p1⟩ : (w11.alloc (.cells #[.int .i64 1, .int .i64 14] 26)).cell? ⟨w11.heap.size, 0, none⟩ = some (.int .i64 1) ∧ (w11.alloc (.cells #[.int .i64 1, .int .i64 14] 26)).cell? ⟨w11.heap.size, 1, none⟩ = some (.int .i64 14) := ⟨Joins.cell_of_block (heap_alloc_new w11 _) 0, Joins.cell_of_block (heap_alloc_new w11 _) 1⟩
  obtain ⟨Q, hQ⟩ : ∃ F, F = w11.heap.size := ⟨_, rfl⟩
  rw [← hQ] at p0 p1 ⊢
  clear hQ hbP HB11 HH11 HI11
  generalize w11.alloc (.cells #[.int .i64 1, .int .i64 14] 26) = w12 at *
  go_cut [119] (fun b wx => b = .bool false ∧ w12 = wx)
  case first =>
    have hF := HHF.out
    have hI := HHI.out
    have hWs := HWS.out
    have hNs := HNS.out
    by_cases ca : 30 < ka + 1
    · rw [if_pos ca] at hF
      injection hF with e1 e2; injection e2 with e2 e3
      subst e1; subst e2; subst e3
      have q1 : (30 : Int) < WD.size := by omega
      by_cases cb : 17 < kb + 1
      · rw [if_pos cb] at hI
        injection hI with e1 e2; injection e2 with e2 e3
        subst e1; subst e2; subst e3
        have q2 : (17 : Int) < NB.size := by omega
        clear hWs hNs ca cb
        go_wp2
        go_meet
        exact ⟨rfl, rfl⟩
      · rw [if_neg cb] at hI
        injection hI with e1 e2; injection e2 with e2 e3
        subst e1; subst e2; subst e3
        have q2 : ¬ (17 : Int) < NB.size := by omega
        clear hWs hNs ca cb
        go_wp2
        go_meet
        exact ⟨rfl, rfl⟩
    · rw [if_neg ca] at hF
      injection hF with e1 e2; injection e2 with e2 e3
      subst e1; subst e2; subst e3
      have q1 : ¬ (30 : Int) < WD.size := by omega
      by_cases cb : 17 < kb + 1
      · rw [if_pos cb] at hI
        injection hI with e1 e2; injection e2 with e2 e3
        subst e1; subst e2; subst e3
        have q2 : (17 : Int) < NB.size := by omega
        clear hWs hNs ca cb
        go_wp2
        go_meet
        exact ⟨rfl, rfl⟩
      · rw [if_neg cb] at hI
        injection hI with e1 e2; injection e2 with e2 e3
        subst e1; subst e2; subst e3
        have q2 : ¬ (17 : Int) < NB.size := by omega
        clear hWs hNs ca cb
        go_wp2
        go_meet
        exact ⟨rfl, rfl⟩
  case rest =>
  obtain ⟨rfl, rfl⟩ := hcut
  clear j0 j1 j2 k0 k1 k2 p0 p1 HHF HHI HWS HNS
  -- very many tokens
  obtain ⟨n16, hn16⟩ : ∃ n : Nat, n = 65536 := ⟨_, rfl⟩
  obtain ⟨RP, hRP⟩ : ∃ s, s = strL (Lib.repeatL [65, 32] n16) := ⟨_, rfl⟩
  have hMd : (RP ++ (⟨#[65]⟩ : ByteArray)).data.toList = abL n16 := by rw [append_data, hRP]; exact abL_repeat n16
  have hMs : (RP ++ (⟨#[65]⟩ : ByteArray)).size = 2 * n16 + 1 := by rw [size_data, hMd, abL_len]
  have hRs : RP.size ≤ 131072 := by rw [ByteArray.size_append] at hMs; have : (⟨#[65]⟩ : ByteArray).size = 1 := rfl; omega
  have HREP : Hid (∀ W : World, Calls Tryz.prog 18 #[.string ⟨#[65, 32]⟩, .int .i64 65536] W fun e w' => e = .returned (.string RP) ∧ Below W.heap.size W w') := fun W => by
    have := Tryz.strings_Repeat ⟨#[65, 32]⟩ n16 W (by omega) (by show 2 * n16 ≤ _; omega)
    rw [show ((n16 : Nat) : Int) = 65536 from by omega] at this
    have e : (⟨(Lib.repeatL (⟨#[65, 32]⟩ : ByteArray).data.toList n16).toArray⟩ : ByteArray) = RP := by rw [hRP]; rfl
    rw [e] at this
    exact this
  obtain ⟨MN, hMN⟩ : ∃ s, s = RP ++ (⟨#[65]⟩ : ByteArray) := ⟨_, rfl⟩
  rw [← hMN] at hMd hMs
  have hm1 : MN.size ≤ 131073 := by omega
  have hm2 : (131071 : Int) ≤ MN.size := by omega
  have HSC1 : Hid (scanB true [⟨false, MN.data.toList, [(0, 3, 8)]⟩] [] = .inl (3, 3, 131080)) := by
    show _ = _
    rw [hMd, many_scan n16 (by omega), if_pos hn16]
  have HSC2 : Hid (∃ T, scanB true [⟨false, (MN.extract 0 131071).data.toList, [(0, 3, 8)]⟩] [] = .inr T ∧ T.length = 65536) := by
    obtain ⟨m, hm⟩ : ∃ m, n16 = m + 1 := ⟨n16 - 1, by omega⟩
    have e : (MN.extract 0 131071).data.toList = abL m := by
      rw [extract_data, hMd, List.drop_zero, hm, show 131071 = 2 * m + 1 from by omega]
      exact abL_take m
    refine ⟨accA [(0, 3, 8)] (m + 1), ?_, by rw [accA_len]; omega⟩
    rw [e, many_scan m (by omega), if_neg (by omega)]
  have HMN := Lib.hid hMN
  clear hMd hMs hRP hn16 hMN
  go_upto_region 17 with fail
  go_wp2_with fail
  refine (HREP.out _).mono ?_
  rintro e w13 ⟨rfl, hb13⟩
  have HB13 := Lib.hid (up2 HB12.out hb13)
  clear hb13 HB12 HREP
  go_upto_region 18 with fail
  rw [← HMN.out]
  have HB14 : Hid (Below w.heap.size w ((w13.alloc (.cells #[.int .i64 0, .int .i64 3, .int .i64 8] 52)).alloc (.cells #[.bool false, .string MN, .slice (some ⟨w13.heap.size, 0, none⟩) 1 1] 55))) := (HB13.out.alloc HB13.out.size _).alloc (by have := HB13.out.size; simp; omega) _
  have HM14 : Hid (((w13.alloc (.cells #[.int .i64 0, .int .i64 3, .int .i64 8] 52)).alloc (.cells #[.bool false, .string MN, .slice (some ⟨w13.heap.size, 0, none⟩) 1 1] 55)).heap[w13.heap.size]? = some (.cells #[.int .i64 0, .int .i64 3, .int .i64 8] 52 (0, 0))) := (Below.heap_alloc _ _ _ (by simp)).trans (heap_alloc_new _ _)
  have HC14 : Hid (((w13.alloc (.cells #[.int .i64 0, .int .i64 3, .int .i64 8] 52)).alloc (.cells #[.bool false, .string MN, .slice (some ⟨w13.heap.size, 0, none⟩) 1 1] 55)).heap[w13.heap.size + 1]? = some (.cells #[.bool false, .string MN, .slice (some ⟨w13.heap.size, 0, none⟩) 1 1] 55 (0, 0))) := by
    have h0 := heap_alloc_new (w13.alloc (.cells #[.int .i64 0, .int .i64 3, .int .i64 8] 52)) (.cells #[.bool false, .string MN, .slice (some ⟨w13.heap.size, 0, none⟩) 1 1] 55)
    have e0 : (w13.alloc (.cells #[.int .i64 0, .int .i64 3, .int .i64 8] 52)).heap.size = w13.heap.size + 1 := by simp
    rw [e0] at h0
    exact h0
  have hwb : w.heap.size ≤ w13.heap.size := HB13.out.size
  obtain ⟨MB, hMB⟩ : ∃ n, n = w13.heap.size := ⟨_, rfl⟩
  rw [← hMB] at HB14 HM14 HC14 hwb ⊢
  generalize (w13.alloc (.cells #[.int .i64 0, .int .i64 3, .int .i64 8] 52)).alloc (.cells #[.bool false, .string MN, .slice (some ⟨MB, 0, none⟩) 1 1] 55) = w14 at *
  have hc14 : MB + 1 < w14.heap.size := lt_of_block HC14.out
  clear hMB HB13
  obtain ⟨c0, c1, c2⟩ : w14.cell? ⟨MB + 1, 0, none⟩ = some (.bool false) ∧ w14.cell? ⟨MB + 1, 1, none⟩ = some (.string MN) ∧ w14.cell? ⟨MB + 1, 2, none⟩ = some (.slice (some ⟨MB, 0, none⟩) 1 1) := ⟨Joins.cell_of_block HC14.out 0, Joins.cell_of_block HC14.out 1, Joins.cell_of_block HC14.out 2⟩
  have hbA : Below w14.heap.size w14 (w14.alloc (.cells #[.bool false, .string MN, .slice (some ⟨MB, 0, none⟩) 1 1] 55)) := (Below.refl _ _).alloc (Nat.le_refl _) _
  have HBA := Lib.hid (up2 HB14.out hbA)
  have HMA := Lib.hid ((hbA.block MB (by omega)).trans HM14.out)
  have HCA := Lib.hid ((hbA.block (MB + 1) hc14).trans HC14.out)
  have HS1 : Hid (Calls Tryz.prog 11 #[.slice (some ⟨w14.heap.size, 0, none⟩) 1 1] (w14.alloc (.cells #[.bool false, .string MN, .slice (some ⟨MB, 0, none⟩) 1 1] 55)) (ScanAll (.inl (3, 3, 131080)) (w14.alloc (.cells #[.bool false, .string MN, .slice (some ⟨MB, 0, none⟩) 1 1] 55)))) := by
    have := c_Scan _ [⟨false, MN.data.toList, [(0, 3, 8)]⟩] (w14.alloc (.cells #[.bool false, .string MN, .slice (some ⟨MB, 0, none⟩) 1 1] 55)) (e_card (e_marks HMA.out (by simp; omega)) (heap_alloc_new w14 _) (by simp) (by omega)) (HX.out.bel HML.out HBA.out) (HG.out.below HG.out.lt HBA.out)
    rw [HSC1.out] at this
    exact this
  clear hbA HM14 HC14 HB14 HSC1
  go_wp2_with fail
  refine HS1.out.mono ?_
  rintro e w15 ⟨hb15, rfl, _⟩
  have HB16 := Lib.hid (up2 (up2 HBA.out hb15) (fb_bel w15 3 3 131080))
  have HM16 : Hid ((w15.alloc (.cells #[.int .i64 3, .int .i64 3, .int .i64 131080] 28)).heap[MB]? = some (.cells #[.int .i64 0, .int .i64 3, .int .i64 8] 52 (0, 0))) := ((fb_bel w15 3 3 131080).block MB (lt_of_block ((hb15.block MB (lt_of_block HMA.out)).trans HMA.out))).trans ((hb15.block MB (lt_of_block HMA.out)).trans HMA.out)
  have HC16 : Hid ((w15.alloc (.cells #[.int .i64 3, .int .i64 3, .int .i64 131080] 28)).heap[MB + 1]? = some (.cells #[.bool false, .string MN, .slice (some ⟨MB, 0, none⟩) 1 1] 55 (0, 0))) := ((fb_bel w15 3 3 131080).block (MB + 1) (lt_of_block ((hb15.block (MB + 1) (lt_of_block HCA.out)).trans HCA.out))).trans ((hb15.block (MB + 1) (lt_of_block HCA.out)).trans HCA.out)
  have HF16 := Lib.hid (fb_new w15 3 3 131080)
  have hmb15 : MB + 1 < w15.heap.size := lt_of_block ((hb15.block (MB + 1) (lt_of_block HCA.out)).trans HCA.out)
  go_upto_region 19 with fail
  obtain ⟨F1, hF1⟩ : ∃ F, F = w15.heap.size := ⟨_, rfl⟩
  rw [← hF1] at HF16 hmb15 ⊢
  clear hF1 hb15 HBA HMA HCA HS1 c0 c1 c2 hc14
  generalize w15.alloc (.cells #[.int .i64 3, .int .i64 3, .int .i64 131080] 28) = w16 at *
  have c1 : w16.cell? ⟨MB + 1, 1, none⟩ = some (.string MN) := Joins.cell_of_block HC16.out 1
  have z1 : w16.frozen? ⟨MB + 1, 1, none⟩ = false := Joins.unfrozen_of_block HC16.out 1
  obtain ⟨X2, hX2⟩ : ∃ s, s = MN.extract 0 131071 := ⟨_, rfl⟩
  rw [← hX2] at HSC2
  have hx2 : X2.size ≤ 131073 := by rw [hX2, ByteArray.size_extract]; omega
  have HX2 := Lib.hid hX2
  have HB17 : Hid (Below w.heap.size w (w16.setCell ⟨MB + 1, 1, none⟩ (.string X2))) := HB16.out.setCell (p := ⟨MB + 1, 1, none⟩) (by show w.heap.size ≤ MB + 1; omega) _
  have HC17 : Hid ((w16.setCell ⟨MB + 1, 1, none⟩ (.string X2)).heap[MB + 1]? = some (.cells #[.bool false, .string X2, .slice (some ⟨MB, 0, none⟩) 1 1] 55 (0, 0))) := Joins.block_setCell (i := 1) HC16.out _
  have HM17 : Hid ((w16.setCell ⟨MB + 1, 1, none⟩ (.string X2)).heap[MB]? = some (.cells #[.int .i64 0, .int .i64 3, .int .i64 8] 52 (0, 0))) := (Below.heap_setCell _ ⟨MB + 1, 1, none⟩ _ MB (by show MB ≠ MB + 1; omega)).trans HM16.out
  have HF17 : Hid (FB F1 3 3 131080 (w16.setCell ⟨MB + 1, 1, none⟩ (.string X2))) := (Below.heap_setCell _ ⟨MB + 1, 1, none⟩ _ F1 (by show F1 ≠ MB + 1; omega)).trans HF16.out
  clear hX2
  go_upto_region 20 with fail
  rw [← HX2.out]
  clear c1 z1 HB16 HC16 HM16 HF16 HX2
  generalize w16.setCell ⟨MB + 1, 1, none⟩ (.string X2) = w17 at *
  obtain ⟨c0, c1, c2⟩ : w17.cell? ⟨MB + 1, 0, none⟩ = some (.bool false) ∧ w17.cell? ⟨MB + 1, 1, none⟩ = some (.string X2) ∧ w17.cell? ⟨MB + 1, 2, none⟩ = some (.slice (some ⟨MB, 0, none⟩) 1 1) := ⟨Joins.cell_of_block HC17.out 0, Joins.cell_of_block HC17.out 1, Joins.cell_of_block HC17.out 2⟩
  have hbA : Below w17.heap.size w17 (w17.alloc (.cells #[.bool false, .string X2, .slice (some ⟨MB, 0, none⟩) 1 1] 55)) := (Below.refl _ _).alloc (Nat.le_refl _) _
  have HBA := Lib.hid (up2 HB17.out hbA)
  have hmA : (w17.alloc (.cells #[.bool false, .string X2, .slice (some ⟨MB, 0, none⟩) 1 1] 55)).heap[MB]? = some (.cells #[.int .i64 0, .int .i64 3, .int .i64 8] 52 (0, 0)) := (hbA.block MB (lt_of_block HM17.out)).trans HM17.out
  have HFA := Lib.hid (HF17.out.below hbA)
  obtain ⟨T, hT1, hT2⟩ := HSC2.out
  have HS2 : Hid (Calls Tryz.prog 11 #[.slice (some ⟨w17.heap.size, 0, none⟩) 1 1] (w17.alloc (.cells #[.bool false, .string X2, .slice (some ⟨MB, 0, none⟩) 1 1] 55)) fun e w' => Below (w17.alloc (.cells #[.bool false, .string X2, .slice (some ⟨MB, 0, none⟩) 1 1] 55)).heap.size (w17.alloc (.cells #[.bool false, .string X2, .slice (some ⟨MB, 0, none⟩) 1 1] 55)) w' ∧ ∃ aa, e = .returned (.tuple #[.slice aa 65536 65536, .agg #[.int .i64 0, .int .i64 0, .int .i64 0]])) := by
    have := c_Scan _ [⟨false, X2.data.toList, [(0, 3, 8)]⟩] (w17.alloc (.cells #[.bool false, .string X2, .slice (some ⟨MB, 0, none⟩) 1 1] 55)) (e_card (e_marks hmA (by have := lt_of_block hmA; omega)) (heap_alloc_new w17 _) (by simp) (by omega)) (HX.out.bel HML.out HBA.out) (HG.out.below HG.out.lt HBA.out)
    rw [hT1] at this
    refine this.mono ?_
    rintro e w' ⟨hb, v, rfl, hv⟩
    obtain ⟨aa, rfl, _⟩ := hv
    rw [hT2]
    exact ⟨hb, aa, rfl⟩
  clear hbA HM17 HC17 HB17 HSC2 hmA hT1 hT2 HF17
  go_wp2_with fail
  refine HS2.out.mono ?_
  rintro e w18 ⟨hb18, aa, rfl⟩
  have HB19 := Lib.hid (up2 (up2 HBA.out hb18) (fb_bel w18 0 0 0))
  have HF19 := Lib.hid ((HFA.out.below hb18).below (fb_bel w18 0 0 0))
  have HO19 := Lib.hid (fb_new w18 0 0 0)
  go_upto_region 21 with fail
  obtain ⟨F2, hF2⟩ : ∃ F, F = w18.heap.size := ⟨_, rfl⟩
  rw [← hF2] at HO19 ⊢
  clear hF2 hb18 HBA HFA HS2 c0 c1 c2
  generalize w18.alloc (.cells #[.int .i64 0, .int .i64 0, .int .i64 0] 28) = w19 at *
  obtain ⟨j0, j1, j2⟩ := HF19.out.cells
  obtain ⟨k0, k1, k2⟩ := HO19.out.cells
  go_wp2_with (go_at_call 7; refine (HLIVE.out _ HB19.out).mono ?_; rintro e w20 ⟨rfl, hb⟩)
  go_ret
  exact ⟨rfl, hb⟩
end Go.Proofs.YtpalfhfbgfnacaaGreatDoor
