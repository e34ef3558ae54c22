/-
  The contract of the scanner's method here.
-/
import Derived.Test.YtpalfhfbgfnacaaGreatDoorSc3
import Derived.Test.YtpalfhfbgfnacaaGreatDoorGA
import Derived.Deep.RegionWith
namespace Go.Proofs.YtpalfhfbgfnacaaGreatDoor
open Go.RowKit
set_option linter.unusedVariables false
set_option linter.unusedSimpArgs false

/-- The slice m reads as the marks ms, in a block below B. -/
def MkAt (B : Nat) (w : World) (m : Value) (ms : IMarks) : Prop :=
  ms.length ≤ 4194304 ∧ ∃ b o cap, m = .slice (some ⟨b, o, none⟩) ms.length cap ∧ ms.length ≤ cap ∧ b < B ∧
    ∀ (k : Nat) (x : Int × Int × Int), ms[k]? = some x → w.cell? ⟨b, o + k * 3, none⟩ = some (.int .i64 x.1) ∧ w.cell? ⟨b, o + k * 3 + 1, none⟩ = some (.int .i64 x.2.1) ∧ w.cell? ⟨b, o + k * 3 + 2, none⟩ = some (.int .i64 x.2.2)
theorem MkAt.below {B : Nat} {w w' : World} {m : Value} {ms : IMarks} (h : MkAt B w m ms) (hb : Below B w w') : MkAt B w' m ms := by
  obtain ⟨h1, b, o, cap, h2, h3, h4, h5⟩ := h
  exact ⟨h1, b, o, cap, h2, h3, h4, fun k x hx => ⟨(hb.cell h4).trans (h5 k x hx).1, (hb.cell h4).trans (h5 k x hx).2.1, (hb.cell h4).trans (h5 k x hx).2.2⟩⟩
theorem MkAt.tail {B : Nat} {w : World} {b o cap : Nat} {x : Int × Int × Int} {ms : IMarks} (h : MkAt B w (.slice (some ⟨b, o, none⟩) (ms.length + 1) cap) (x :: ms)) : MkAt B w (.slice (some ⟨b, o + 3, none⟩) ms.length (cap - 1)) ms := by
  obtain ⟨h1, b', o', cap', h2, h3, h4, h5⟩ := h
  injection h2 with e1 e2 e3
  injection e1 with e1
  injection e1 with e1 e4
  subst e1; subst e4; subst e3
  simp only [List.length_cons] at h1 h3
  refine ⟨by omega, b, o + 3, cap - 1, rfl, by omega, h4, fun k y hy => ?_⟩
  have := h5 (k + 1) y (by simpa using hy)
  rw [show o + (k + 1) * 3 = o + 3 + k * 3 from by omega] at this
  exact this
/-- Only the scanner's block has turned, or blocks are new. -/
def Sc (S : Nat) (w w' : World) : Prop := Below S w w' ∧ Turns 85 w w'
theorem Sc.refl (S : Nat) (w : World) : Sc S w w := ⟨Below.refl _ _, Turns.refl _ _⟩
theorem Sc.trans {S : Nat} {a b c : World} (h : Sc S a b) (k : Sc S b c) : Sc S a c := ⟨h.1.trans k.1, h.2.trans k.2⟩
theorem Sc.of_below {S : Nat} {w w' : World} (h : Below w.heap.size w w') (hS : S ≤ w.heap.size) : Sc S w w' := ⟨h.mono hS, Turns.of_below h⟩
theorem Sc.drewN {S : Nat} (w : World) (n : Nat) : Sc S w (w.drewN n) := ⟨bdrewN n (Below.refl _ _), ⟨Nat.le_refl _, fun _ _ _ _ h _ => h⟩⟩
theorem Sc.set {S : Nat} {l : Bool} {t : ByteArray} {mv : Value} {i : Nat} {tv : Value} {w : World} (h : ScAt S l t mv i tv w) (j : Nat) (u : Value) : Sc S w (w.setCell ⟨S, j, none⟩ u) :=
  ⟨(Below.refl S w).setCell (p := ⟨S, j, none⟩) (Nat.le_refl S) u, Turns.setCell h j u⟩
def lenAt (S : Nat) (w : World) : Nat := match w.cell? ⟨S, 2, none⟩ with | some (.slice _ n _) => n | _ => 0
theorem lenAt_of {S : Nat} {w : World} {a : Option Addr} {n cap : Nat} (h : w.cell? ⟨S, 2, none⟩ = some (.slice a n cap)) : lenAt S w = n := by unfold lenAt; rw [h]
/-- A block that holds a position. -/
def PosBlk (w : World) (N : Nat) (a b : Value) : Prop := w.heap[N]? = some (.cells #[a, b] 26 (0, 0))
def HerePost (B S : Nat) (l : Bool) (t : ByteArray) (i : Nat) (tv : Value) (ms0 : IMarks) (w : World) (e : Ending) (w' : World) : Prop :=
  e = .returned (.agg #[.int .i64 (posT ms0 i).1, .int .i64 (posT ms0 i).2]) ∧ Sc S w w' ∧ ∃ mv' ms', ScAt S l t mv' i tv w' ∧ MkAt B w' mv' ms' ∧ Left ms0 ms' i
/-- What here leaves behind its last store. -/
def HereEnd (B S : Nat) (l : Bool) (t : ByteArray) (i : Nat) (tv : Value) (ms0 : IMarks) (x : Int × Int × Int) (w w' : World) : Prop :=
  (w'.cell? ⟨w.heap.size, 0, none⟩ = some (.int .i64 (posOf x i).1) ∧ w'.cell? ⟨w.heap.size, 1, none⟩ = some (.int .i64 (posOf x i).2)) ∧ Sc S w w' ∧ ∃ mv' ms', ScAt S l t mv' i tv w' ∧ MkAt B w' mv' ms' ∧ Left ms0 ms' i
theorem here_end {B S : Nat} {l : Bool} {t : ByteArray} {mv : Value} {i : Nat} {tv : Value} {ms0 : IMarks} {x : Int × Int × Int} {w w6 : World} (hBS : B ≤ S) (hSw : S < w.heap.size) (hx : x.1 ≤ i) (hi : i ≤ 134217728) (hx0 : 0 ≤ x.1) (hx1 : x.1 ≤ 134217728) (hx2 : 8 ≤ x.2.2) (hx3 : x.2.2 ≤ 72)
    (hp : PosBlk w6 w.heap.size (.int .i64 0) (.int .i64 0)) (hs : ScAt S l t mv i tv w6) (hm : ∃ ms', MkAt B w6 mv ms' ∧ Left ms0 ms' i) (hc : Sc S w w6) :
    HereEnd B S l t i tv ms0 x w ((w6.setCell ⟨w.heap.size, 0, none⟩ (.int .i64 x.2.1)).setCell ⟨w.heap.size, 1, none⟩ (.int .i64 (IntKind.i64.wrap (IntKind.i64.wrap (x.2.2 + i) - x.1)))).drew := by
  have e : IntKind.i64.wrap (IntKind.i64.wrap (x.2.2 + i) - x.1) = (posOf x i).2 := by
    rw [IntWalk.i64_in (x.2.2 + i) (by omega), IntWalk.i64_in _ (by omega)]; rfl
  rw [e]
  have b1 := Joins.block_setCell (i := 0) hp (.int .i64 x.2.1)
  have b2 := Joins.block_setCell (i := 1) b1 (.int .i64 (posOf x i).2)
  have hk : ∀ k, k ≠ w.heap.size → ((w6.setCell ⟨w.heap.size, 0, none⟩ (.int .i64 x.2.1)).setCell ⟨w.heap.size, 1, none⟩ (.int .i64 (posOf x i).2)).heap[k]? = w6.heap[k]? := fun k hk =>
    (Below.heap_setCell _ ⟨w.heap.size, 1, none⟩ _ k hk).trans (Below.heap_setCell _ ⟨w.heap.size, 0, none⟩ _ k hk)
  have hb : Below w.heap.size w6 ((w6.setCell ⟨w.heap.size, 0, none⟩ (.int .i64 x.2.1)).setCell ⟨w.heap.size, 1, none⟩ (.int .i64 (posOf x i).2)) :=
    ((Below.refl w.heap.size w6).setCell (p := ⟨w.heap.size, 0, none⟩) (Nat.le_refl w.heap.size) _).setCell (p := ⟨w.heap.size, 1, none⟩) (Nat.le_refl w.heap.size) _
  obtain ⟨ms', h1, h2⟩ := hm
  refine ⟨⟨Joins.cell_of_block b2 0, Joins.cell_of_block b2 1⟩, ⟨?_, ?_⟩, mv, ms', (hk S (by omega)).trans hs, h1.below (hb.mono (Nat.le_trans hBS (Nat.le_of_lt hSw))).drew, h2⟩
  · have := hc.1.trans (hb.mono (Nat.le_of_lt hSw))
    exact ⟨this.os, this.tape, this.output, this.size, this.block⟩
  · refine ⟨Nat.le_trans hc.2.size hb.size, fun k cs ty fr h hne => ?_⟩
    have hkl := lt_of_block h
    exact (hk k (by omega)).trans (hc.2.block k cs ty fr h hne)
set_option maxHeartbeats 4000000 in
set_option maxRecDepth 100000 in
theorem here_any {B S : Nat} {l : Bool} {t : ByteArray} {mv : Value} {i : Nat} {tv : Value} {ms0 ms : IMarks} (w : World) (h : ScAt S l t mv i tv w) (hm : MkAt B w mv ms) (hBS : B ≤ S) (hl : Left ms0 ms i) (hi : i ≤ 134217728) :
    Calls Tryz.prog 64 #[.pointer (some ⟨S, 0, none⟩)] w (HerePost B S l t i tv ms0 w) := by
  have hSw : S < w.heap.size := lt_of_block h
  obtain ⟨W, hW⟩ : ∃ W, W = w.alloc (.cells #[.int .i64 0, .int .i64 0] 26) := ⟨_, rfl⟩
  have hWB : Below w.heap.size w W := by rw [hW]; exact (Below.refl _ _).alloc (Nat.le_refl _) _
  have HSC := Lib.hid (h.below hWB)
  have HMK := Lib.hid (hm.below (hWB.mono (Nat.le_trans hBS (Nat.le_of_lt hSw))))
  have HP : Hid (PosBlk W w.heap.size (.int .i64 0) (.int .i64 0)) := by show PosBlk _ _ _ _; rw [hW]; exact heap_alloc_new w _
  have HSCC := Lib.hid (Sc.of_below hWB (Nat.le_of_lt hSw))
  have HL := Lib.hid hl
  clear h hm hl hWB
  go_enter Tryz.func64, Tryz.ntmps64
  go_wp2
  rw [← hW]
  clear hW
  go_loopw [25] (fun _ wr => ∃ mv' ms', Hid (ScAt S l t mv' i tv wr) ∧ Hid (MkAt B wr mv' ms') ∧ Hid (Left ms0 ms' i) ∧ Hid (PosBlk wr w.heap.size (.int .i64 0) (.int .i64 0)) ∧ Hid (Sc S w wr)) (fun _ wr => lenAt S wr)
  case atStart => exact ⟨mv, ms, HSC, HMK, HL, HP, HSCC⟩
  case round =>
    obtain ⟨mv', ms', HSC', HMK', HL', HP', HSCC'⟩ := hrel
    clear HSC HMK HL HP HSCC
    obtain ⟨x, r, rfl, hx⟩ := HL'.out.ne
    obtain ⟨hlen, b, o, cap, rfl, hcap, hbB, hcells⟩ := HMK'.out
    obtain ⟨k0, k1, k2⟩ := hcells 0 x rfl
    obtain ⟨c1, c2, c3, c4⟩ := HSC'.out.cells
    have hxx := HL'.out.ok x List.mem_cons_self
    simp only [List.length_cons] at hlen hcap c2
    have j0 : wr.cell? ⟨b, o, none⟩ = some (.int .i64 x.1) := by simpa using k0
    have j1 : wr.cell? ⟨b, o + 1, none⟩ = some (.int .i64 x.2.1) := by simpa using k1
    have j2 : wr.cell? ⟨b, o + 2, none⟩ = some (.int .i64 x.2.2) := by simpa using k2
    have HCC := Lib.hid hcells
    clear hcells k0 k1 k2
    have HJ : Hid (∀ (y : Int × Int × Int) (r' : IMarks), r = y :: r' → wr.cell? ⟨b, o + 3, none⟩ = some (.int .i64 y.1)) := fun y r' e => by
      have := (HCC.out 1 y (by rw [e]; rfl)).1
      simpa using this
    clear HCC
    have hfin : ∀ (u1 : Value), Hid ((∀ (y : Int × Int × Int) (r' : IMarks), r = y :: r' → (i : Int) < y.1)) → True := fun _ _ => trivial
    clear hfin
    by_cases hgo : ∃ y r', r = y :: r' ∧ y.1 ≤ i
    · obtain ⟨y, r', rfl, hy⟩ := hgo
      have j3 := HJ.out y r' rfl
      obtain ⟨hy0, hy1, _, _⟩ := HL'.out.ok y (List.mem_cons_of_mem _ List.mem_cons_self)
      simp only [List.length_cons] at hlen hcap c2
      obtain ⟨n, hn⟩ : ∃ n, n = r'.length + 1 + 1 := ⟨_, rfl⟩
      rw [← hn] at hlen hcap c2
      have hn2 : 2 ≤ n := by omega
      have e0 : decide ((1 : Int) < n) = true := by simp; omega
      have e1 : decide (y.1 ≤ (i : Int)) = true := by simpa using hy
      have HTL : Hid (MkAt B wr (.slice (some ⟨b, o + 3, none⟩) (n - 1) (cap - 1)) (y :: r')) := by
        have := MkAt.tail (x := x) (ms := y :: r') (b := b) (o := o) (cap := cap) HMK'.out
        rw [show n - 1 = (y :: r').length from by rw [hn]; rfl]
        exact this
      have HN := Lib.hid hn
      have HLN := Lib.hid (lenAt_of c2)
      clear HJ j0 j1 j2 hn HMK'
      go_wp2
      go_quiet (fail)
      have HSC5 := Lib.hid (HSC'.out.below (bdrewN nq (Below.refl _ _)))
      have HTL5 := Lib.hid (HTL.out.below (bdrewN nq (Below.refl _ _)))
      have HP5 : Hid (PosBlk (wr.drewN nq) w.heap.size (.int .i64 0) (.int .i64 0)) := HP'.out
      have HSS5 := Lib.hid (HSCC'.out.trans (Sc.drewN wr nq))
      clear c1 c2 c3 c4 j3 HSC' HTL HP' HSCC'
      generalize wr.drewN nq = w5 at *
      obtain ⟨c1, c2, c3, c4⟩ := HSC5.out.cells
      have f2 := HSC5.out.free 2
      go_wp2
      have hne : w.heap.size ≠ S := by omega
      go_roundw
      case rel =>
        have e : r'.length + 1 = n - 1 := by rw [HN.out]; rfl
        rw [e]
        refine ⟨_, _, HSC5.out.marks _, HTL5.out.below ((Below.refl B w5).setCell (p := ⟨S, 2, none⟩) hBS _), HL'.out.pass hy, (Below.heap_setCell w5 ⟨S, 2, none⟩ _ w.heap.size hne).trans HP5.out, HSS5.out.trans (Sc.set HSC5.out 2 _)⟩
      case measure =>
        have e := (HSC5.out.marks (.slice (some ⟨b, o + 3, none⟩) (r'.length + 1) (cap - 1))).cells.2.1
        rw [lenAt_of e, HLN.out, HN.out]
        omega
    · have HPOS : Hid (posT ms0 i = posOf x i) := HL'.out.pos (fun y r' e => by
        by_cases hy : y.1 ≤ i
        · exact absurd ⟨y, r', e, hy⟩ hgo
        · omega)
      have HST : Hid (∃ ms', MkAt B wr (.slice (some ⟨b, o, none⟩) (r.length + 1) cap) ms' ∧ Left ms0 ms' i) := ⟨_, HMK'.out, HL'.out⟩
      obtain ⟨n, hn⟩ : ∃ n, n = r.length + 1 := ⟨_, rfl⟩
      have HSC6 : Hid (ScAt S l t (.slice (some ⟨b, o, none⟩) (r.length + 1) cap) i tv wr) := HSC'.out
      rw [← hn] at hlen hcap c2 HST HSC6
      clear HSC' HMK'
      go_upto_region 1 with fail
      go_cut [25] (fun s25 wx => s25 = .bool false ∧ Hid (ScAt S l t (.slice (some ⟨b, o, none⟩) n cap) i tv wx) ∧ Hid (∃ ms', MkAt B wx (.slice (some ⟨b, o, none⟩) n cap) ms' ∧ Left ms0 ms' i) ∧ Hid (PosBlk wx w.heap.size (.int .i64 0) (.int .i64 0)) ∧ Hid (Sc S w wx) ∧ wx.cell? ⟨b, o, none⟩ = some (.int .i64 x.1) ∧ wx.cell? ⟨b, o + 1, none⟩ = some (.int .i64 x.2.1) ∧ wx.cell? ⟨b, o + 2, none⟩ = some (.int .i64 x.2.2))
      case first =>
        by_cases h2 : 2 ≤ n
        · obtain ⟨y, r', rfl⟩ : ∃ y r', r = y :: r' := by
            cases r with
            | nil => simp at hn; omega
            | cons y r' => exact ⟨y, r', rfl⟩
          have hy : ¬ y.1 ≤ i := fun hy => hgo ⟨y, r', rfl, hy⟩
          have j3 := HJ.out y r' rfl
          obtain ⟨hy0, hy1, _, _⟩ := HL'.out.ok y (List.mem_cons_of_mem _ List.mem_cons_self)
          have e0 : decide ((1 : Int) < n) = true := by simp; omega
          have e1 : decide (y.1 ≤ (i : Int)) = false := by simpa using hy
          clear HJ hn hgo HL'
          go_wp2
          go_quiet (fail)
          have HSC5 := Lib.hid (HSC6.out.below (bdrewN nq (Below.refl _ _)))
          have HST5 : Hid (∃ ms', MkAt B (wr.drewN nq) (.slice (some ⟨b, o, none⟩) n cap) ms' ∧ Left ms0 ms' i) := HST.out
          have HP5 : Hid (PosBlk (wr.drewN nq) w.heap.size (.int .i64 0) (.int .i64 0)) := HP'.out
          have HSS5 := Lib.hid (HSCC'.out.trans (Sc.drewN wr nq))
          go_wp2_with fail
          go_meet
          exact ⟨rfl, HSC5, HST5, HP5, HSS5, j0, j1, j2⟩
        · have e0 : decide ((1 : Int) < n) = false := by simp; omega
          clear HJ hn hgo HL'
          go_wp2
          go_quiet (fail)
          have HSC5 := Lib.hid (HSC6.out.below (bdrewN nq (Below.refl _ _)))
          have HST5 : Hid (∃ ms', MkAt B (wr.drewN nq) (.slice (some ⟨b, o, none⟩) n cap) ms' ∧ Left ms0 ms' i) := HST.out
          have HP5 : Hid (PosBlk (wr.drewN nq) w.heap.size (.int .i64 0) (.int .i64 0)) := HP'.out
          have HSS5 := Lib.hid (HSCC'.out.trans (Sc.drewN wr nq))
          go_wp2_with fail
          go_meet
          exact ⟨rfl, HSC5, HST5, HP5, HSS5, j0, j1, j2⟩
      case rest =>
      obtain ⟨rfl, HSC5, HST5, HP5, HSS5, i0, i1, i2⟩ := hcut
      have hn1 : 1 ≤ n := by omega
      clear c1 c2 c3 c4 HSC6 HST HP' HSCC' HJ hn hgo HL' j0 j1 j2
      obtain ⟨c1, c2, c3, c4⟩ := HSC5.out.cells
      go_upto_region 4 with fail
      have HP6 : Hid (PosBlk (wc.alloc (.cells #[.int .i64 x.1, .int .i64 x.2.1, .int .i64 x.2.2] 52)) w.heap.size (.int .i64 0) (.int .i64 0)) := (Below.heap_alloc wc _ _ (lt_of_block HP5.out)).trans HP5.out
      have HM6 : Hid ((wc.alloc (.cells #[.int .i64 x.1, .int .i64 x.2.1, .int .i64 x.2.2] 52)).heap[wc.heap.size]? = some (.cells #[.int .i64 x.1, .int .i64 x.2.1, .int .i64 x.2.2] 52 (0, 0))) := heap_alloc_new wc _
      have HB6 : Hid (Below wc.heap.size wc (wc.alloc (.cells #[.int .i64 x.1, .int .i64 x.2.1, .int .i64 x.2.2] 52))) := (Below.refl _ _).alloc (Nat.le_refl _) _
      have HSC6 := Lib.hid (HSC5.out.below HB6.out)
      have hS5 : S < wc.heap.size := lt_of_block HSC5.out
      have HST6 : Hid (∃ ms', MkAt B (wc.alloc (.cells #[.int .i64 x.1, .int .i64 x.2.1, .int .i64 x.2.2] 52)) (.slice (some ⟨b, o, none⟩) n cap) ms' ∧ Left ms0 ms' i) := by
        obtain ⟨ms', h1, h2⟩ := HST5.out
        exact ⟨ms', h1.below (HB6.out.mono (by omega)), h2⟩
      have HSS6 := Lib.hid (HSS5.out.trans (Sc.of_below HB6.out (by omega)))
      obtain ⟨M, hM⟩ : ∃ M, M = wc.heap.size := ⟨_, rfl⟩
      have hNM : w.heap.size < M := by rw [hM]; exact lt_of_block HP5.out
      have hM6 : M < (wc.alloc (.cells #[.int .i64 x.1, .int .i64 x.2.1, .int .i64 x.2.2] 52)).heap.size := by rw [hM]; simp
      rw [← hM] at HM6 hS5 ⊢
      clear c1 c2 c3 c4 i0 i1 i2 HSC5 HST5 HP5 HSS5 hM HB6
      generalize wc.alloc (.cells #[.int .i64 x.1, .int .i64 x.2.1, .int .i64 x.2.2] 52) = w6 at *
      obtain ⟨_, _, c3, _⟩ := HSC6.out.cells
      have p0 : w6.cell? ⟨w.heap.size, 0, none⟩ = some (.int .i64 0) := Joins.cell_of_block HP6.out 0
      have p1 : w6.cell? ⟨w.heap.size, 1, none⟩ = some (.int .i64 0) := Joins.cell_of_block HP6.out 1
      have q0 : w6.frozen? ⟨w.heap.size, 0, none⟩ = false := Joins.unfrozen_of_block HP6.out 0
      have q1 : w6.frozen? ⟨w.heap.size, 1, none⟩ = false := Joins.unfrozen_of_block HP6.out 1
      have m0 : w6.cell? ⟨M, 0, none⟩ = some (.int .i64 x.1) := Joins.cell_of_block HM6.out 0
      have m1 : w6.cell? ⟨M, 1, none⟩ = some (.int .i64 x.2.1) := Joins.cell_of_block HM6.out 1
      have m2 : w6.cell? ⟨M, 2, none⟩ = some (.int .i64 x.2.2) := Joins.cell_of_block HM6.out 2
      obtain ⟨hx0, hx1, hx2, hx3⟩ := hxx
      have HFIN := Lib.hid (here_end (x := x) hBS hSw hx hi hx0 hx1 hx2 hx3 HP6.out HSC6.out HST6.out HSS6.out)
      go_cut [2] (fun s2 wx => s2 = .pointer (some ⟨w.heap.size, 0, none⟩) ∧ Hid (HereEnd B S l t i tv ms0 x w wx))
      case first =>
        go_region_law (fail)
        all_goals
          go_wp2_with fail
          go_meet
          exact ⟨rfl, HFIN.out⟩
      case rest =>
        obtain ⟨rfl, HE⟩ := hcut
        obtain ⟨d0, d1⟩ := HE.out.1
        go_wp2
        refine bodyPost_ret (by simp [results, Tryz.results64, go_sem, d0, d1]; try rfl) rfl ?_
        rw [HerePost, HPOS.out]
        exact ⟨rfl, HE.out.2⟩
end Go.Proofs.YtpalfhfbgfnacaaGreatDoor
