/-
  Cards in memory, of whatever marks; the contract of package tokens' Scan.
-/
import Derived.Test.YtpalfhfbgfnacaaGreatDoorSc6
import Derived.Test.YtpalfhfbgfnacaaGreatDoorAtK
namespace Go.Proofs.YtpalfhfbgfnacaaGreatDoor
open Go.RowKit
set_option linter.unusedVariables false
set_option linter.unusedSimpArgs false
attribute [local go_sem] eqFault guardFault neqFault

/-- The slice m reads as the marks ms, in a block below B, if there are any. -/
def MkIn (B : Nat) (w : World) (m : Value) (ms : IMarks) : Prop :=
  ∃ (a : Option Addr) (cap : Nat), m = .slice a ms.length cap ∧ ms.length ≤ cap ∧ ms.length ≤ 4194304 ∧ (0 < ms.length → ∃ b o, a = some ⟨b, o, none⟩ ∧ b < B ∧
    ∀ (k : Nat) (x : Int × Int × Int), ms[k]? = some x → w.cell? ⟨b, o + k * 3, none⟩ = some (.int .i64 x.1) ∧ w.cell? ⟨b, o + k * 3 + 1, none⟩ = some (.int .i64 x.2.1) ∧ w.cell? ⟨b, o + k * 3 + 2, none⟩ = some (.int .i64 x.2.2))
theorem MkIn.below {B : Nat} {w w' : World} {m : Value} {ms : IMarks} (h : MkIn B w m ms) (hb : Below B w w') : MkIn B w' m ms := by
  obtain ⟨a, cap, h1, h2, h3, h4⟩ := h
  refine ⟨a, cap, h1, h2, h3, fun hl => ?_⟩
  obtain ⟨b, o, e, hlt, hc⟩ := h4 hl
  exact ⟨b, o, e, hlt, fun k x hx => ⟨(hb.cell hlt).trans (hc k x hx).1, (hb.cell hlt).trans (hc k x hx).2.1, (hb.cell hlt).trans (hc k x hx).2.2⟩⟩
theorem MkIn.more {B B' : Nat} {w : World} {m : Value} {ms : IMarks} (h : MkIn B w m ms) (hB : B ≤ B') : MkIn B' w m ms := by
  obtain ⟨a, cap, h1, h2, h3, h4⟩ := h
  refine ⟨a, cap, h1, h2, h3, fun hl => ?_⟩
  obtain ⟨b, o, e, hlt, hc⟩ := h4 hl
  exact ⟨b, o, e, by omega, hc⟩
theorem MkIn.marksIn {B : Nat} {w : World} {m : Value} {ms : IMarks} (h : MkIn B w m ms) (hB : B ≤ w.heap.size) : MarksIn w m ms := by
  obtain ⟨a, cap, h1, h2, h3, h4⟩ := h
  refine ⟨a, cap, h1, h3, fun hl => ?_⟩
  obtain ⟨b, o, e, hlt, hc⟩ := h4 hl
  exact ⟨b, o, e, by omega, hc⟩
theorem MkIn.mkAt {B : Nat} {w : World} {m : Value} {ms : IMarks} (h : MkIn B w m ms) (hl : 0 < ms.length) : MkAt B w m ms := by
  obtain ⟨a, cap, h1, h2, h3, h4⟩ := h
  obtain ⟨b, o, e, hlt, hc⟩ := h4 hl
  subst e
  exact ⟨h3, b, o, cap, h1, h2, hlt, hc⟩
/-- The slice v reads as the cards L, in blocks below B. -/
def CardsIn (B : Nat) (w : World) (v : Value) (L : List ICard) : Prop :=
  ∃ a cap, v = .slice a L.length cap ∧ L.length ≤ 1048576 ∧ (0 < L.length → ∃ b o, a = some ⟨b, o, none⟩ ∧ b < B ∧
    ∀ k c, L[k]? = some c → c.text.length ≤ 134217728 ∧ w.cell? ⟨b, o + k * 3, none⟩ = some (.bool c.left) ∧ w.cell? ⟨b, o + k * 3 + 1, none⟩ = some (.string (strL c.text)) ∧ ∃ m, w.cell? ⟨b, o + k * 3 + 2, none⟩ = some m ∧ MkIn B w m c.marks)
theorem ok_valid (c : ICard) : c.ok = true ↔ ValidP c.text.length c.marks := by
  unfold ICard.ok ValidP
  rw [Bool.and_eq_true, Bool.and_eq_true, List.all_eq_true]
  have hgd : ∀ (k : Nat) (x : Int × Int × Int), c.marks[k]? = some x → c.marks.getD k (0, 0, 0) = x := fun k x hx => by simp [List.getD, hx]
  constructor
  · rintro ⟨⟨h1, h2⟩, h3⟩
    have hk : ∀ (k : Nat) (x : Int × Int × Int), c.marks[k]? = some x → okMk c.text.length c.marks k x = true := fun k x hx => by
      have := h3 k (List.mem_range.2 (lt_of_get hx))
      rwa [hgd k x hx] at this
    refine ⟨?_, ?_, ?_⟩
    · intro e
      rw [List.length_eq_zero_iff] at e
      rw [e] at h1; simp at h1
    · cases hm : c.marks with
      | nil => rw [hm] at h2; simp at h2
      | cons x r =>
        refine ⟨x, rfl, ?_⟩
        have := hk 0 x (by rw [hm]; rfl)
        unfold okMk at this
        simp only [Bool.and_eq_true, decide_eq_true_eq] at this
        exact this.2
    · intro k x hx
      have := hk k x hx
      unfold okMk at this
      simp only [Bool.and_eq_true, decide_eq_true_eq] at this
      refine ⟨this.1.1.1, this.1.1.2, this.1.2, ?_⟩
      rintro j y rfl hy
      have h4 := this.2
      simp only [Bool.and_eq_true, decide_eq_true_eq] at h4
      rw [hgd j y hy] at h4
      exact h4
  · rintro ⟨h1, ⟨x0, hx0, h2⟩, h3⟩
    refine ⟨⟨?_, ?_⟩, ?_⟩
    · cases ht : c.text with
      | nil => rw [ht] at h1; exact absurd rfl h1
      | cons a l => rfl
    · cases hm : c.marks with
      | nil => rw [hm] at hx0; cases hx0
      | cons a l => rfl
    · intro k hk
      have hkl := List.mem_range.1 hk
      have hx : c.marks[k]? = some c.marks[k] := List.getElem?_eq_getElem hkl
      rw [hgd k _ hx]
      obtain ⟨a1, a2, a3, a4⟩ := h3 k _ hx
      unfold okMk
      simp only [Bool.and_eq_true, decide_eq_true_eq]
      refine ⟨⟨⟨a1, a2⟩, a3⟩, ?_⟩
      cases k with
      | zero =>
        rw [hx0] at hx; injection hx with hx
        simp only [decide_eq_true_eq]
        rw [← hx]; exact h2
      | succ j =>
        have hy : c.marks[j]? = some c.marks[j] := List.getElem?_eq_getElem (by omega)
        simp only [Bool.and_eq_true, decide_eq_true_eq]
        rw [hgd j _ hy]
        exact a4 j _ rfl hy
theorem c_clipToks (v : Value) (a : Option Addr) (n cap : Nat) (hv : v = .slice a n cap) (hn : n ≤ cap) (w : World) :
    Calls Tryz.prog 34 #[v] w fun e w' => e = .returned (.slice a n n) ∧ w = w' := by
  subst hv
  go_enter Tryz.func34, Tryz.ntmps34
  go_wp2
  go_ret
  exact ⟨rfl, rfl⟩
/-- The tokens that Scan returns: a slice without room behind it. -/
def TkOut (w : World) (v : Value) (L : List Tok) : Prop := ∃ a, v = .slice a L.length L.length ∧ ToksAt w v L ∧ L.length ≤ 65536
theorem TkOwn.out {B : Nat} {w : World} {a : Option Addr} {cap : Nat} {L : List Tok} (h : TkOwn B w (.slice a L.length cap) L) : TkOut w (.slice a L.length L.length) L := by
  obtain ⟨a', cap', e, h1, h2, h3⟩ := h.at_
  injection e with e1 e2 e3
  subst e1
  exact ⟨a, rfl, ⟨a, L.length, rfl, Nat.le_refl _, h2, h3⟩, h.2.1⟩
theorem TkOut.below {w w' : World} {v : Value} {L : List Tok} (h : TkOut w v L) (hb : Below w.heap.size w w') : TkOut w' v L := by
  obtain ⟨a, h1, h2, h3⟩ := h
  exact ⟨a, h1, h2.below hb, h3⟩
theorem FltBlk.named {B F : Nat} {w0 w : World} (h : FltBlk w F) (hb : Below B w0 w) (hF : B ≤ F) (a b c : Value) :
    ∃ w', w' = (((w.setCell ⟨F, 0, none⟩ a).setCell ⟨F, 1, none⟩ b).setCell ⟨F, 2, none⟩ c) ∧ Below B w0 w' ∧ Turns 28 w w' ∧
      w'.cell? ⟨F, 0, none⟩ = some a ∧ w'.cell? ⟨F, 1, none⟩ = some b ∧ w'.cell? ⟨F, 2, none⟩ = some c := by
  have b1 := Joins.block_setCell (i := 0) h a
  have b2 := Joins.block_setCell (i := 1) b1 b
  have b3 := Joins.block_setCell (i := 2) b2 c
  exact ⟨_, rfl, ((hb.setCell (p := ⟨F, 0, none⟩) hF _).setCell (p := ⟨F, 1, none⟩) hF _).setCell (p := ⟨F, 2, none⟩) hF _, ((Turns.setCell h 0 a).trans (Turns.setCell b1 1 b)).trans (Turns.setCell b2 2 c), Joins.cell_of_block b3 0, Joins.cell_of_block b3 1, Joins.cell_of_block b3 2⟩
theorem FltBlk.cells {F : Nat} {w : World} (h : FltBlk w F) : (w.cell? ⟨F, 0, none⟩ = some (.int .i64 0) ∧ w.cell? ⟨F, 1, none⟩ = some (.int .i64 0) ∧ w.cell? ⟨F, 2, none⟩ = some (.int .i64 0)) ∧ w.frozen? ⟨F, 0, none⟩ = false ∧ w.frozen? ⟨F, 1, none⟩ = false ∧ w.frozen? ⟨F, 2, none⟩ = false :=
  ⟨⟨Joins.cell_of_block h 0, Joins.cell_of_block h 1, Joins.cell_of_block h 2⟩, Joins.unfrozen_of_block h 0, Joins.unfrozen_of_block h 1, Joins.unfrozen_of_block h 2⟩
theorem tk_le {B : Nat} {w : World} {a : Option Addr} {n cap : Nat} {L : List Tok} (h : TkOwn B w (.slice a n cap) L) : n = L.length ∧ n ≤ cap := by
  have h1 := h.1
  have : n = L.length := by
    rcases h1.2 with ⟨e, h0⟩ | ⟨g, c, cur, e, _⟩
    · injection e with e1 e2 e3; omega
    · injection e with e1 e2 e3
  subst this
  exact ⟨rfl, own_le h1⟩
/-- Behind a store of a fault. -/
def FltEnd (w0 : World) (F : Nat) (a b c : Value) (w : World) : Prop :=
  Below F w0 w ∧ w.cell? ⟨F, 0, none⟩ = some a ∧ w.cell? ⟨F, 1, none⟩ = some b ∧ w.cell? ⟨F, 2, none⟩ = some c
theorem flt_end {F : Nat} {w0 w : World} (h : FltBlk w F) (hb : Below F w0 w) (a b c : Value) : FltEnd w0 F a b c (((w.setCell ⟨F, 0, none⟩ a).setCell ⟨F, 1, none⟩ b).setCell ⟨F, 2, none⟩ c).drew := by
  obtain ⟨w', rfl, h1, _, h2, h3, h4⟩ := h.named hb (Nat.le_refl F) a b c
  exact ⟨h1.drew, h2, h3, h4⟩
def ScanAll (r : (Nat × Int × Int) ⊕ List Tok) (w : World) (e : Ending) (w' : World) : Prop :=
  Below w.heap.size w w' ∧ match r with
    | .inl f => e = .returned (.tuple #[.slice none 0 0, .agg #[.int .i64 f.1, .int .i64 f.2.1, .int .i64 f.2.2]]) ∧ f.1 ≠ 0
    | .inr acc => ∃ v, e = .returned (.tuple #[v, .agg #[.int .i64 0, .int .i64 0, .int .i64 0]]) ∧ TkOut w' v acc
theorem scanB_step (u : Bool) (L : List ICard) (k : Nat) (c : ICard) (h : L[k]? = some c) (acc : List Tok) :
    scanB u (L.drop k) acc = if c.ok = true then (match scanC u c.text c.marks acc with | .inl f => .inl f | .inr acc' => scanB u (L.drop (k + 1)) acc') else .inl (1, 0, 0) := by
  rw [drop_get h]; rfl
/-- What Scan knows between two cards. -/
structure SRel (R : (Nat × Int × Int) ⊕ List Tok) (L : List ICard) (w0 : World) (B : Nat) (k : Nat) (acc : List Tok) (ov : Value) (wr : World) : Prop where
  eq : R = scanB true (L.drop k) acc
  own : TkOwn B wr ov acc
  bel : Below B w0 wr
  size : B ≤ wr.heap.size
set_option maxHeartbeats 4000000 in
set_option maxRecDepth 100000 in
theorem c_Scan (v : Value) (L : List ICard) (w : World) (h : CardsIn w.heap.size w v L) (hx : MaxLenAt w) (hg : SignsAt w) :
    Calls Tryz.prog 11 #[v] w (ScanAll (scanB true L []) w) := by
  obtain ⟨R, hR⟩ : ∃ R, R = scanB true L [] := ⟨_, rfl⟩
  rw [← hR]
  obtain ⟨W, hW⟩ : ∃ W, W = w.alloc (.cells #[.int .i64 0, .int .i64 0, .int .i64 0] 28) := ⟨_, rfl⟩
  have hWB : Below w.heap.size w W := by rw [hW]; exact (Below.refl _ _).alloc (Nat.le_refl _) _
  have hWs : W.heap.size = w.heap.size + 1 := by rw [hW]; simp
  have hWF : FltBlk W w.heap.size := by rw [hW]; exact heap_alloc_new w _
  have hml : 1 < w.heap.size := by obtain ⟨m, hm⟩ := hx; exact lt_of_cellR hm
  have hgl := hg.lt
  obtain ⟨B, hB⟩ : ∃ B, B = w.heap.size + 1 := ⟨_, rfl⟩
  have HX := Lib.hid (hx.bel hml hWB)
  have HG := Lib.hid (hg.below hgl hWB)
  have HWF := Lib.hid hWF
  have HWB := Lib.hid hWB
  obtain ⟨a, cap, rfl, hLl, hcs⟩ := h
  have HS : Hid (SRel R L W B 0 [] (.slice none 0 0) W) := by
    refine ⟨by rw [List.drop_zero]; exact hR, ⟨World.ownsRow_nil _ _ _ _, by simp, by simp⟩, Below.refl _ _, by omega⟩
  have HCS := Lib.hid hcs
  clear hR hWF hx hg hWB hcs
  go_enter Tryz.func11, Tryz.ntmps11
  go_upto_region 2 with fail
  rw [← hW]
  clear hW
  go_wp2
  go_loopw [4, 13] (fun ov iv wr => ∃ (k : Nat) (acc : List Tok), k ≤ L.length ∧ iv = .int .i64 k ∧ Hid (SRel R L W B k acc ov wr)) (fun _ iv _ => L.length - (intOf iv).toNat)
  case atStart => exact ⟨0, [], Nat.zero_le _, rfl, HS⟩
  case round =>
    obtain ⟨k, acc, hk, rfl, HR⟩ := hrel
    clear HS
    by_cases hlt : k < L.length
    · have hc0 : L[k]? = some L[k] := List.getElem?_eq_getElem hlt
      obtain ⟨c, hc⟩ : ∃ c, L[k]? = some c := ⟨_, hc0⟩
      clear hc0
      obtain ⟨b, o, rfl, hbB, hcards⟩ := HCS.out (by omega)
      obtain ⟨htl, k0, k1, m, k2, hmk⟩ := hcards k c hc
      have hWr : Below w.heap.size w wr := HWB.out.trans (HR.out.bel.mono (by omega))
      have c0 := (hWr.cell (p := ⟨b, o + k * 3, none⟩) hbB).trans k0
      have c1 := (hWr.cell (p := ⟨b, o + k * 3 + 1, none⟩) hbB).trans k1
      have c2 := (hWr.cell (p := ⟨b, o + k * 3 + 2, none⟩) hbB).trans k2
      have HMK := Lib.hid (hmk.below hWr)
      have hbr : b < wr.heap.size := by have := HR.out.size; omega
      obtain ⟨cl, hcl⟩ : ∃ x, x = c.left := ⟨_, rfl⟩
      obtain ⟨ct, hct⟩ : ∃ x, x = strL c.text := ⟨_, rfl⟩
      rw [← hcl] at c0
      rw [← hct] at c1
      have hcts : ct.size ≤ 134217728 := by rw [hct, strL_size]; exact htl
      have HCT : Hid (ct.data.toList = c.text) := by show _ = _; rw [hct]; rfl
      have HSTEP : Hid (R = if c.ok = true then (match scanC true c.text c.marks acc with | .inl f => .inl f | .inr acc' => scanB true (L.drop (k + 1)) acc') else .inl (1, 0, 0)) := by
        show _ = _
        rw [HR.out.eq, scanB_step true L k c hc acc]
      obtain ⟨ma, mcap, rfl, _⟩ := HMK.out
      obtain ⟨mn, hmn⟩ : ∃ n, n = c.marks.length := ⟨_, rfl⟩
      rw [← hmn] at c2 HMK
      clear k0 k1 k2 hmk hcards hc hcl hct hWr hmn
      go_upto_region 5 with fail
      have HW1 : Hid (Below w.heap.size w wr) := HWB.out.trans (HR.out.bel.mono (by omega))
      have hB1 : Below wr.heap.size wr (wr.alloc (.cells #[.bool cl, .string ct, .slice ma mn mcap] 55)) := (Below.refl _ _).alloc (Nat.le_refl _) _
      have HC1 : Hid ((wr.alloc (.cells #[.bool cl, .string ct, .slice ma mn mcap] 55)).heap[wr.heap.size]? = some (.cells #[.bool cl, .string ct, .slice ma mn mcap] 55 (0, 0))) := heap_alloc_new wr _
      obtain ⟨C, hC⟩ : ∃ C, C = wr.heap.size := ⟨_, rfl⟩
      have hBC : B ≤ C := by rw [hC]; exact HR.out.size
      have HR1 : Hid (SRel R L W B k acc u4 (wr.alloc (.cells #[.bool cl, .string ct, .slice ma mn mcap] 55))) :=
        ⟨HR.out.eq, HR.out.own.below hB1, HR.out.bel.trans (hB1.mono HR.out.size), Nat.le_trans HR.out.size hB1.size⟩
      have HMK1 := Lib.hid (HMK.out.below (hB1.mono (by have := HR.out.size; omega)))
      rw [← hC] at HC1 ⊢
      clear c0 c1 c2 HR HMK HW1 hB1 hC hbr
      generalize wr.alloc (.cells #[.bool cl, .string ct, .slice ma mn mcap] 55) = w1 at *
      obtain ⟨c0, c1, c2⟩ : w1.cell? ⟨C, 0, none⟩ = some (.bool cl) ∧ w1.cell? ⟨C, 1, none⟩ = some (.string ct) ∧ w1.cell? ⟨C, 2, none⟩ = some (.slice ma mn mcap) := ⟨Joins.cell_of_block HC1.out 0, Joins.cell_of_block HC1.out 1, Joins.cell_of_block HC1.out 2⟩
      have hBs := HR1.out.size
      by_cases hok : c.ok = true
      · have HAT : Hid (Calls Tryz.prog 17 #[.agg #[.bool cl, .string ct, .slice ma mn mcap], .int .i64 0] w1 fun e w' => (∃ p1 p2 : Int, e = .returned (.tuple #[.agg #[.int .i64 p1, .int .i64 p2], .int .i64 0])) ∧ Below w1.heap.size w1 w') := by
          refine (c_At cl ct _ c.marks 0 (by omega) (by omega) w1 (HMK1.out.marksIn (by omega)) hcts).mono ?_
          rintro e w' ⟨hb, ⟨_, _, _, m0, _, he⟩ | ⟨hn, _⟩⟩
          · exact ⟨⟨_, _, he⟩, hb⟩
          · exact absurd ⟨by rw [HCT.out]; exact (ok_valid c).1 hok, Int.le_refl _, by omega⟩ hn
        have HS2 : Hid (R = match scanC true c.text c.marks acc with | .inl f => .inl f | .inr acc' => scanB true (L.drop (k + 1)) acc') := by
          show _ = _
          rw [HSTEP.out, if_pos hok]
        have HOK := Lib.hid hok
        clear HSTEP hok
        obtain ⟨ta, tcap, rfl⟩ := own_sl HR1.out.own.1
        go_upto_region 8 with (go_at_call 17; refine HAT.out.mono ?_; rintro e w2 ⟨⟨p1, p2, rfl⟩, hb2⟩)
        have hB3 : Below w1.heap.size w1 (w2.alloc (.cells #[.int .i64 p1, .int .i64 p2] 26)) := hb2.alloc hb2.size _
        have HR3 : Hid (SRel R L W B k acc (.slice ta acc.length tcap) (w2.alloc (.cells #[.int .i64 p1, .int .i64 p2] 26))) :=
          ⟨HR1.out.eq, HR1.out.own.below hB3, HR1.out.bel.trans (hB3.mono hBs), Nat.le_trans hBs hB3.size⟩
        have HC3 : Hid ((w2.alloc (.cells #[.int .i64 p1, .int .i64 p2] 26)).heap[C]? = some (.cells #[.bool cl, .string ct, .slice ma mn mcap] 55 (0, 0))) := (hB3.block C (lt_of_block HC1.out)).trans HC1.out
        have HMK3 := Lib.hid (HMK1.out.below (hB3.mono (by omega)))
        clear c0 c1 c2 hB3 hb2 HAT HR1 HC1 HMK1 hBs
        generalize w2.alloc (.cells #[.int .i64 p1, .int .i64 p2] 26) = w3 at *
        obtain ⟨c0, c1, c2⟩ : w3.cell? ⟨C, 0, none⟩ = some (.bool cl) ∧ w3.cell? ⟨C, 1, none⟩ = some (.string ct) ∧ w3.cell? ⟨C, 2, none⟩ = some (.slice ma mn mcap) := ⟨Joins.cell_of_block HC3.out 0, Joins.cell_of_block HC3.out 1, Joins.cell_of_block HC3.out 2⟩
        have hBs := HR3.out.size
        go_upto_region 9 with fail
        have hB4 : Below w3.heap.size w3 (w3.alloc (.cells #[.bool cl, .string ct, .slice ma mn mcap, .int .i64 0, .slice ta acc.length tcap] 85)) := (Below.refl _ _).alloc (Nat.le_refl _) _
        have HSC4 : Hid (ScAt w3.heap.size cl ct (.slice ma mn mcap) ((0 : Nat)) (.slice ta acc.length tcap) (w3.alloc (.cells #[.bool cl, .string ct, .slice ma mn mcap, .int .i64 0, .slice ta acc.length tcap] 85))) := heap_alloc_new w3 _
        have HR4 : Hid (SRel R L W B k acc (.slice ta acc.length tcap) (w3.alloc (.cells #[.bool cl, .string ct, .slice ma mn mcap, .int .i64 0, .slice ta acc.length tcap] 85))) :=
          ⟨HR3.out.eq, HR3.out.own.below hB4, HR3.out.bel.trans (hB4.mono hBs), Nat.le_trans hBs hB4.size⟩
        have HMK4 := Lib.hid (HMK3.out.below (hB4.mono (by omega)))
        obtain ⟨S, hS⟩ : ∃ S, S = w3.heap.size := ⟨_, rfl⟩
        have hBS : B ≤ S := by rw [hS]; exact hBs
        rw [← hS] at HSC4 ⊢
        clear c0 c1 c2 hB4 HR3 HC3 HMK3 hBs hS
        generalize w3.alloc (.cells #[.bool cl, .string ct, .slice ma mn mcap, .int .i64 0, .slice ta acc.length tcap] 85) = w4 at *
        have hmpos : 0 < c.marks.length := by
          obtain ⟨x, hx, _⟩ := ((ok_valid c).1 HOK.out).2.1
          exact lt_of_get hx
        have hgB : 0 < B := by omega
        have hmB : 1 < B := by omega
        have HSCAN : Hid (Calls Tryz.prog 33 #[.pointer (some ⟨S, 0, none⟩)] w4 (ScanPost B S cl ct c.marks (scanC true c.text c.marks acc) w4)) := by
          have := scan_any (B := B) (S := S) (l := cl) (t := ct) (mv := .slice ma mn mcap) (tv := .slice ta acc.length tcap) (acc := acc) c.marks w4 HSC4.out ((HMK4.out.more (by omega)).mkAt hmpos) (left_of_ok HOK.out htl) HR4.out.own hBS (HX.out.bel hmB HR4.out.bel) (HG.out.below hgB HR4.out.bel) hgB hmB hcts
          rw [HCT.out] at this
          exact this
        clear HSC4 HMK4
        cases hres : scanC true c.text c.marks acc with
        | inl f =>
          rw [hres] at HSCAN HS2
          go_upto_region 10 with (go_at_call 33; refine HSCAN.out.mono ?_; rintro e w5 ⟨hb5, rfl, hf0⟩)
          obtain ⟨f1, f2, f3⟩ := f
          have e0 : ((f1 : Int) == 0) = false := by rw [beq_eq_false_iff_ne]; have : f1 ≠ 0 := hf0; omega
          have hB5 : Below B W w5 := HR4.out.bel.trans hb5
          have hF5 : FltBlk w5 w.heap.size := (hB5.block _ (by omega)).trans HWF.out
          have hwF : w.heap.size < w5.heap.size := lt_of_block hF5
          have hB6 : Below w5.heap.size w5 (w5.alloc (.cells #[.int .i64 f1, .int .i64 f2, .int .i64 f3] 28)) := (Below.refl _ _).alloc (Nat.le_refl _) _
          have HB6 : Hid (Below w.heap.size w (w5.alloc (.cells #[.int .i64 f1, .int .i64 f2, .int .i64 f3] 28))) := (HWB.out.trans (hB5.mono (by omega))).trans (hB6.mono (Nat.le_of_lt hwF))
          have HF6 : Hid (FltBlk (w5.alloc (.cells #[.int .i64 f1, .int .i64 f2, .int .i64 f3] 28)) w.heap.size) := (hB6.block _ hwF).trans hF5
          have HD6 : Hid ((w5.alloc (.cells #[.int .i64 f1, .int .i64 f2, .int .i64 f3] 28)).heap[w5.heap.size]? = some (.cells #[.int .i64 f1, .int .i64 f2, .int .i64 f3] 28 (0, 0))) := heap_alloc_new w5 _
          obtain ⟨D, hD⟩ : ∃ D, D = w5.heap.size := ⟨_, rfl⟩
          have hFD : w.heap.size < D := by rw [hD]; exact hwF
          rw [← hD] at HD6 ⊢
          have HS3 : Hid (R = .inl (f1, f2, f3)) := HS2.out
          clear hB5 hF5 hwF hB6 hD hb5 HSCAN HR4 hB hWs HS2 hres
          generalize w5.alloc (.cells #[.int .i64 f1, .int .i64 f2, .int .i64 f3] 28) = w6 at *
          obtain ⟨k0, k1, k2⟩ : w6.cell? ⟨D, 0, none⟩ = some (.int .i64 f1) ∧ w6.cell? ⟨D, 1, none⟩ = some (.int .i64 f2) ∧ w6.cell? ⟨D, 2, none⟩ = some (.int .i64 f3) := ⟨Joins.cell_of_block HD6.out 0, Joins.cell_of_block HD6.out 1, Joins.cell_of_block HD6.out 2⟩
          obtain ⟨⟨y0, y1, y2⟩, q0, q1, q2⟩ := HF6.out.cells
          go_upto_region 11 with fail
          clear e0
          have hDne : D ≠ w.heap.size := by omega
          have HEND := Lib.hid (flt_end HF6.out HB6.out (.int .i64 f1) (.int .i64 f2) (.int .i64 f3))
          go_cut [2] (fun s2 wx => s2 = .slice none 0 0 ∧ Hid (FltEnd w w.heap.size (.int .i64 f1) (.int .i64 f2) (.int .i64 f3) wx))
          case first =>
            --A<
            go_region_law (fail)
            all_goals
              go_wp2_with fail
              go_meet
              exact ⟨rfl, HEND.out⟩
            --A>
          case rest =>
            obtain ⟨rfl, HE⟩ := hcut
            obtain ⟨hb9, d0, d1, d2⟩ := HE.out
            go_wp2
            refine bodyPost_ret (by simp [results, Tryz.results11, go_sem, d0, d1, d2]; try rfl) rfl ?_
            rw [HS3.out]
            exact ⟨hb9, rfl, hf0⟩
        | inr acc' =>
          rw [hres] at HSCAN HS2
          go_upto_region 10 with (go_at_call 33; refine HSCAN.out.mono ?_; rintro e w5 ⟨hb5, rfl, mv', j', tv', hsc5, hown5⟩)
          have hB5 : Below B W w5 := HR4.out.bel.trans hb5
          have hB6 : Below w5.heap.size w5 (w5.alloc (.cells #[.int .i64 0, .int .i64 0, .int .i64 0] 28)) := (Below.refl _ _).alloc (Nat.le_refl _) _
          have hBw5 : B ≤ w5.heap.size := Nat.le_trans HR4.out.size hb5.size
          have HR6 : Hid (SRel R L W B (k + 1) acc' tv' (w5.alloc (.cells #[.int .i64 0, .int .i64 0, .int .i64 0] 28))) :=
            ⟨HS2.out, hown5.below hB6, hB5.trans (hB6.mono hBw5), Nat.le_trans hBw5 hB6.size⟩
          have HSC6 := Lib.hid (hsc5.below hB6)
          have HD6 : FltBlk (w5.alloc (.cells #[.int .i64 0, .int .i64 0, .int .i64 0] 28)) w5.heap.size := heap_alloc_new w5 _
          obtain ⟨D, hD⟩ : ∃ D, D = w5.heap.size := ⟨_, rfl⟩
          rw [← hD] at HD6 ⊢
          clear hB5 hB6 hBw5 hb5 hsc5 hown5 HSCAN HR4 HS2 hres hD
          generalize w5.alloc (.cells #[.int .i64 0, .int .i64 0, .int .i64 0] 28) = w6 at *
          obtain ⟨_, _, _, c4⟩ := HSC6.out.cells
          obtain ⟨⟨k0, k1, k2⟩, _, _, _⟩ := HD6.cells
          clear HD6
          obtain ⟨ta2, tcap2, rfl⟩ := own_sl HR6.out.own.1
          go_wp2
          go_roundw
          case rel => exact ⟨k + 1, acc', by omega, by go_num, HR6⟩
          case measure => simp [intOf]; omega
      · have HAT : Hid (Calls Tryz.prog 17 #[.agg #[.bool cl, .string ct, .slice ma mn mcap], .int .i64 0] w1 fun e w' => e = .returned (.tuple #[.agg #[.int .i64 0, .int .i64 0], .int .i64 1]) ∧ Below w1.heap.size w1 w') := by
          refine (c_At cl ct _ c.marks 0 (by omega) (by omega) w1 (HMK1.out.marksIn (by omega)) hcts).mono ?_
          rintro e w' ⟨hb, ⟨hv, _⟩ | ⟨_, he⟩⟩
          · exact absurd ((ok_valid c).2 (by rw [HCT.out] at hv; exact hv)) hok
          · exact ⟨he, hb⟩
        have HZ : Hid (R = .inl (1, 0, 0)) := by
          show _ = _
          rw [HSTEP.out, if_neg hok]
        clear HSTEP hok
        go_upto_region 7 with (go_at_call 17; refine HAT.out.mono ?_; rintro e w2 ⟨rfl, hb2⟩)
        have hB2 : Below B W w2 := HR1.out.bel.trans (hb2.mono hBs)
        have hF2 : FltBlk w2 w.heap.size := (hB2.block _ (by omega)).trans HWF.out
        have hwF : w.heap.size < w2.heap.size := lt_of_block hF2
        have HB3 : Hid (Below w.heap.size w (w2.alloc (.cells #[.int .i64 0, .int .i64 0] 26))) := (HWB.out.trans (hB2.mono (by omega))).alloc (Nat.le_of_lt hwF) _
        have HF3 : Hid (FltBlk (w2.alloc (.cells #[.int .i64 0, .int .i64 0] 26)) w.heap.size) := (Below.heap_alloc w2 _ _ hwF).trans hF2
        clear hB2 hF2 hb2 hB hWs hBs hBC
        generalize w2.alloc (.cells #[.int .i64 0, .int .i64 0] 26) = w3 at *
        obtain ⟨⟨y0, y1, y2⟩, q0, q1, q2⟩ := HF3.out.cells
        go_wp2
        obtain ⟨w5, hw5, hb5, ht5, d0, d1, d2⟩ := HF3.out.named HB3.out (Nat.le_refl _) (.int .i64 1) (.int .i64 0) (.int .i64 0)
        rw [← hw5]
        clear hw5
        refine bodyPost_ret (by simp [results, Tryz.results11, go_sem, d0, d1, d2]; try rfl) rfl ?_
        rw [HZ.out]
        exact ⟨hb5, rfl, show (1 : Nat) ≠ 0 by decide⟩
    · have HZ : Hid (R = .inr acc) := by
        show _ = _
        rw [HR.out.eq, List.drop_of_length_le (by omega)]; rfl
      obtain ⟨ta, tcap, rfl⟩ := own_sl HR.out.own.1
      have hcap := (tk_le HR.out.own).2
      have hFr : FltBlk wr w.heap.size := (HR.out.bel.block _ (by omega)).trans HWF.out
      obtain ⟨⟨y0, y1, y2⟩, q0, q1, q2⟩ := hFr.cells
      have HFr := Lib.hid hFr
      have HWr : Hid (Below w.heap.size w wr) := HWB.out.trans (HR.out.bel.mono (by omega))
      have hwF : w.heap.size < wr.heap.size := lt_of_block hFr
      clear hFr hB hWs
      obtain ⟨F, hF⟩ : ∃ F, F = w.heap.size := ⟨_, rfl⟩
      go_wp2_with (go_at_call 34; refine (c_clipToks _ ta acc.length tcap rfl hcap _).mono ?_; rintro e w' ⟨rfl, rfl⟩)
      obtain ⟨w5, hw5, hb5, ht5, d0, d1, d2⟩ := HFr.out.named HWr.out (Nat.le_refl _) (.int .i64 0) (.int .i64 0) (.int .i64 0)
      rw [← hw5]
      clear hw5
      refine bodyPost_ret (by simp [results, Tryz.results11, go_sem, d0, d1, d2]; try rfl) rfl ?_
      rw [HZ.out]
      have ho5 : TkOwn B w5 (.slice ta acc.length tcap) acc := ⟨own_turns HR.out.own.1 ht5 (by decide), HR.out.own.2⟩
      exact ⟨hb5, _, rfl, ho5.out⟩
end Go.Proofs.YtpalfhfbgfnacaaGreatDoor
