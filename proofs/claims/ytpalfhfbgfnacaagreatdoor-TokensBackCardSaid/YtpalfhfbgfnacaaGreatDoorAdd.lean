/-
  The contract of the reader's method add.
-/
import Derived.Test.YtpalfhfbgfnacaaGreatDoorGD
import Derived.Test.YtpalfhfbgfnacaaGreatDoorGA
import Derived.Deep.DeepCutAuto
import Derived.Deep.AppendLies
import Derived.Lib.AppendStr
import Derived.IntWalk
namespace Go.Proofs.YtpalfhfbgfnacaaGreatDoor
open Go.RowKit
set_option linter.unusedVariables false
set_option linter.unusedSimpArgs false

/-- The box of a row that came in by value. -/
def BoxAt (N : Nat) (n : Nat) (s : ByteArray) (w : World) : Prop := w.heap[N]? = some (.cells #[.int .i64 n, .string s] 72 (0, 0))
theorem BoxAt.kept {N n : Nat} {s : ByteArray} {w w' : World} (h : BoxAt N n s w) (hk : ∀ k, k < w.heap.size → w'.heap[k]? = w.heap[k]?) : BoxAt N n s w' := (hk _ (lt_of_block h)).trans h
theorem BoxAt.turns {N n : Nat} {s : ByteArray} {w w' : World} (h : BoxAt N n s w) {e : TypeId} (ht : Turns e w w') (hne : 72 ≠ e) : BoxAt N n s w' := ht.block _ _ _ _ h hne
theorem BoxAt.cells {N n : Nat} {s : ByteArray} {w : World} (h : BoxAt N n s w) : w.cell? ⟨N, 0, none⟩ = some (.int .i64 n) ∧ w.cell? ⟨N, 1, none⟩ = some (.string s) :=
  ⟨Joins.cell_of_block h 0, Joins.cell_of_block h 1⟩

theorem repeat_oneA (c : UInt8) : ∀ n, Lib.repeatL [c] n = List.replicate n c
  | 0 => rfl
  | n + 1 => by simp [Lib.repeatL, repeat_oneA c n, List.replicate_succ]
theorem alloc_new_at (w : World) (o : Obj) (n : Nat) (hn : n = w.heap.size) : (w.alloc o).heap[n]? = some o := by subst hn; exact heap_alloc_new w o
theorem farCell {w W w6 : World} {row : Option Nat} {g j : Nat} {v : Value} (hb : Below w.heap.size w W) (hg : W.grownBy w6 row) (hne : some g ≠ row) (hlt : g < w.heap.size) (h : w.cell? ⟨g, j, none⟩ = some v) (hf : w.frozen? ⟨g, j, none⟩ = false) :
    w6.cell? ⟨g, j, none⟩ = some v ∧ w6.frozen? ⟨g, j, none⟩ = false := by
  have e : w6.heap[g]? = w.heap[g]? := (hg.block g (Nat.lt_of_lt_of_le hlt hb.size) hne).trans (hb.block g hlt)
  exact ⟨(World.cell?_of_block (a := ⟨g, j, none⟩) e).trans h, (World.frozen?_of_block (a := ⟨g, j, none⟩) e).trans hf⟩
/-- A mark has been appended to the row of the card under way, and the card's cell has been set. -/
theorem addMark {B R O Wm g cap : Nat} {ap : Nat × Nat} {tc tv mv : Value} {xc : List UInt8} {D : List (Kard × Value)} {c : Kard} {b1 b2 : Bool} {w W w6 : World} {mv' : Value} {m : Nat × Nat × Nat}
    (h : RdC B R O Wm ap (.slice (some ⟨g, 0, none⟩) (D.length + 1) cap) tc tv mv mv xc D c b1 b2 w) (hb : Below w.heap.size w W)
    (ho : w6.ownsRow Wm 52 3 mv' (c.marks.length + 1) (marksC c.marks ++ [.int .i64 m.1, .int .i64 m.2.1, .int .i64 m.2.2])) (hg : W.grownBy w6 mv.ownBlock) :
    RdC B R O Wm ap (.slice (some ⟨g, 0, none⟩) (D.length + 1) cap) tc tv mv' mv' xc D { c with marks := c.marks ++ [m] } b1 b2 (w6.setCell ⟨g, D.length * 3 + 2, none⟩ mv') :=
  ((h.below hb).grownMarks (by rw [marksC_snoc]; exact ho) hg).setMarks mv'
theorem addBelow {B R O Wm g cap : Nat} {ap : Nat × Nat} {tc tv mv : Value} {xc : List UInt8} {D : List (Kard × Value)} {c : Kard} {b1 b2 : Bool} {w0 w W w6 : World} {mv' : Value} {j : Nat}
    (h : RdC B R O Wm ap (.slice (some ⟨g, 0, none⟩) (D.length + 1) cap) tc tv mv mv xc D c b1 b2 w) (h0 : Below B w0 w) (hb : Below w.heap.size w W) (hg : W.grownBy w6 mv.ownBlock) (hgB : B ≤ g) : Below B w0 (w6.setCell ⟨g, j, none⟩ mv') := by
  have hBs : B ≤ W.heap.size := Nat.le_trans h.bs hb.size
  have h1 : Below B w0 W := h0.trans (hb.mono h.bs)
  have h2 : Below B w0 w6 := h1.grown hg hBs fun k hk => Nat.le_trans h.bw ((h.marks.lt k hk).1)
  exact h2.setCell hgB _
theorem addFr {B R O Wm g cap : Nat} {ap : Nat × Nat} {tc tv mv : Value} {xc : List UInt8} {D : List (Kard × Value)} {c : Kard} {b1 b2 : Bool} {w0 w W w6 : World} {mv' : Value} {j : Nat}
    (h : RdC B R O Wm ap (.slice (some ⟨g, 0, none⟩) (D.length + 1) cap) tc tv mv mv xc D c b1 b2 w) (h0 : Fr w0 w) (hb : Below w.heap.size w W) (hg : W.grownBy w6 mv.ownBlock) (hlt : g < w.heap.size) : Fr w0 (w6.setCell ⟨g, j, none⟩ mv') := by
  have hW := h.below hb
  have hT := Turns.grown hg (own_kind hW.marks)
  obtain ⟨cs, fz, hgg⟩ := own_kind hW.cards g rfl
  exact ((h0.trans (Fr.of_below hb)).trans (Fr.of_turns hT (by decide) (by decide) (by decide))).trans (Fr.of_turns (Turns.setCell (hT.block _ _ _ _ hgg (by decide)) j mv') (by decide) (by decide) (by decide))
theorem Tryz.infoMark : (Tryz.prog.info? 52).map (fun i => (i.zero, i.size, i.bytes)) = some (some (.agg #[.int .i64 0, .int .i64 0, .int .i64 0]), 3, 24) := by kernel_rfl
theorem Tryz.infoByte : (Tryz.prog.info? 5).map (fun i => (i.zero, i.size, i.bytes)) = some (some (.int .u8 0), 1, 1) := by kernel_rfl
theorem rpartLe (s text : List UInt8) (k : Nat) : (tailB ((textOf s).drop k) text).length ≤ 72 := by
  have h1 := textOf_length s
  unfold tailB
  split
  · rw [List.length_drop]; omega
  · rw [trimB_length]; have := trimN_le ((textOf s).drop k); rw [List.length_drop] at this; omega
/-- What add leaves. -/
def AddPost (B R O Wm : Nat) (cv : Value) (xc : List UInt8) (D : List (Kard × Value)) (c : Kard) (P : List UInt8) (n col : Nat) (w : World) (e : Ending) (w' : World) : Prop :=
  e = .returned (.tuple #[]) ∧ Below B w w' ∧ Fr w w' ∧ ∃ tv mv, RdC B R O Wm (n, col) cv tv tv mv mv xc D (c.plus P n col) (openB (c.text ++ P)) (openB (c.text ++ P)) w'
/-- The reader's open and last have been set, and the position's boxes made. -/
theorem addLast {B R O Wm N n : Nat} {ap : Nat × Nat} {cv tc tv mc mv : Value} {xc : List UInt8} {D : List (Kard × Value)} {c : Kard} {b1 b2 : Bool} {s : ByteArray} {w0 w : World}
    (h : RdC B R O Wm ap cv tc tv mc mv xc D c b1 b2 w) (hx : BoxAt N n s w) (hb : Below B w0 w) (hF : Fr w0 w) (ob : Bool) (l k : Nat) (X Y : Obj) :
    Hid (RdC B R O Wm (l, k) cv tc tv mc mv xc D c ob b2 (((((w.setCell ⟨R, 2, none⟩ (.bool ob)).setCell ⟨R, 3, none⟩ (.int .i64 l)).setCell ⟨R, 4, none⟩ (.int .i64 k)).alloc X).alloc Y)) ∧
    Hid (BoxAt N n s (((((w.setCell ⟨R, 2, none⟩ (.bool ob)).setCell ⟨R, 3, none⟩ (.int .i64 l)).setCell ⟨R, 4, none⟩ (.int .i64 k)).alloc X).alloc Y)) ∧
    Hid (Below B w0 (((((w.setCell ⟨R, 2, none⟩ (.bool ob)).setCell ⟨R, 3, none⟩ (.int .i64 l)).setCell ⟨R, 4, none⟩ (.int .i64 k)).alloc X).alloc Y)) ∧
    N < (((((w.setCell ⟨R, 2, none⟩ (.bool ob)).setCell ⟨R, 3, none⟩ (.int .i64 l)).setCell ⟨R, 4, none⟩ (.int .i64 k)).alloc X).alloc Y).heap.size ∧
    Hid (Fr w0 (((((w.setCell ⟨R, 2, none⟩ (.bool ob)).setCell ⟨R, 3, none⟩ (.int .i64 l)).setCell ⟨R, 4, none⟩ (.int .i64 k)).alloc X).alloc Y)) := by
  have hT1 := Turns.setCell h.rd 2 (.bool ob)
  have r1 := Joins.block_setCell (i := 2) h.rd (.bool ob)
  have hT2 := hT1.trans (Turns.setCell r1 3 (.int .i64 l))
  have r2 := Joins.block_setCell (i := 3) r1 (.int .i64 l)
  have hT := hT2.trans (Turns.setCell r2 4 (.int .i64 k))
  have h2 := (h.setOpen ob).setLast l k
  have hx2 := hx.turns hT (by decide)
  have hb2 : Below B w0 (((w.setCell ⟨R, 2, none⟩ (.bool ob)).setCell ⟨R, 3, none⟩ (.int .i64 l)).setCell ⟨R, 4, none⟩ (.int .i64 k)) := ((hb.setCell h.br _).setCell h.br _).setCell h.br _
  have hF2 := hF.trans (Fr.of_turns hT (by decide) (by decide) (by decide))
  have hbs := h2.bs
  have hx3 := (hx2.kept (kept_alloc _ X)).kept (kept_alloc _ Y)
  refine ⟨(h2.alloc X).alloc Y, hx3, (hb2.alloc hbs X).alloc (h2.alloc X).bs Y, lt_of_block hx3, ?_⟩
  exact (hF2.trans (Fr.of_below ((Below.refl _ _).alloc (Nat.le_refl _) X))).trans (Fr.of_below ((Below.refl _ _).alloc (Nat.le_refl _) Y))
theorem plus_nil (c : Kard) (n col : Nat) : c.plus [] n col = c := by simp [Kard.plus]
theorem plus_some (c : Kard) (P : List UInt8) (n col : Nat) (h : P ≠ []) : c.plus P n col = { c with text := c.text ++ P, marks := c.marks ++ [(c.text.length, n, col)] } := by simp [Kard.plus, h]
set_option maxHeartbeats 2000000 in
set_option maxRecDepth 100000 in
theorem c_add {B R O Wm : Nat} {ap : Nat × Nat} {cv tv mv : Value} {xc : List UInt8} {D : List (Kard × Value)} {c : Kard} (n col : Nat) (s : ByteArray) (w : World) (h : RdC B R O Wm ap cv tv tv mv mv xc D c (openB c.text) (openB c.text) w)
    (hs : s.size ≤ 80) (h1 : 8 ≤ col) (h2 : col ≤ 73) (hk : col - 8 ≤ (areasB s.data.toList).length) (hct : c.text.length ≤ 134217728) (hcm : c.marks.length ≤ 4194304) (hcd : D.length ≤ 4194304) :
    Calls Tryz.prog 53 #[.pointer (some ⟨R, 0, none⟩), rowC n s, .int .i64 col] w (AddPost B R O Wm cv xc D c (tailB ((textOf s.data.toList).drop (col - 8)) c.text) n col w) := by
  obtain ⟨g, cap, rfl, hgc, hgB, hgw⟩ := h.form
  have hRlt : R < w.heap.size := lt_of_block h.rd
  have HR := Lib.hid h; clear h
  have hen := opens_enter
  obtain ⟨hc0, hc1, hc2, hc3, hc4, hc5⟩ := HR.out.cells
  obtain ⟨hf0, hf1, hf2, hf3, hf4, hf5⟩ := HR.out.free
  go_enter Tryz.func53, Tryz.ntmps53
  go_wp2_with fail
  refine (c_from n s (by omega) col h1 h2 _).mono ?_; rintro e w1 ⟨rfl, hb1⟩
  have hF : fromB s.data.toList col = (areasB s.data.toList).drop (col - 8) := by
    have := from_areas s.data.toList (col - 8)
    rw [show col - 8 + 8 = col from by omega] at this
    exact this
  rw [hF]; clear hF
  obtain ⟨t, ht, hts, HTS⟩ := strVar ((areasB s.data.toList).drop (col - 8))
  rw [← ht]
  have HTD : Hid (t.data.toList = (areasB s.data.toList).drop (col - 8)) := by rw [ht]; rfl
  have htl : t.size ≤ 73 - col := by
    have := areasB_length s.data.toList
    rw [List.length_drop] at hts
    omega
  clear ht hts
  have hb1' : Below w.heap.size w w1 := ((Below.refl _ _).alloc (Nat.le_refl _) _).trans (hb1.mono (by simp))
  have HB1 : Hid (BoxAt w.heap.size n s w1) := by
    show BoxAt w.heap.size n s w1
    exact (hb1.block w.heap.size (by simp)).trans (heap_alloc_new w _)
  have hN1 : w.heap.size < w1.heap.size := by have := hb1.size; simp at this; omega
  have HR1 := Lib.hid (HR.out.below hb1')
  clear hb1 hc0 hc1 hc2 hc3 hc4 hc5 hf0 hf1 hf2 hf3 hf4 hf5
  obtain ⟨hc0, hc1, hc2, hc3, hc4, hc5⟩ := HR1.out.cells
  obtain ⟨hf0, hf1, hf2, hf3, hf4, hf5⟩ := HR1.out.free
  unfold opener at hc3
  have hta := tail_areas s.data.toList c.text (col - 8) hk
  obtain ⟨P, hP⟩ : ∃ P, P = tailB ((textOf s.data.toList).drop (col - 8)) c.text := ⟨_, rfl⟩
  have HPD := Lib.hid hP
  rw [hta.2] at hP
  obtain ⟨ob, hob⟩ : ∃ ob, ob = openB (c.text ++ (areasB s.data.toList).drop (col - 8)) := ⟨_, rfl⟩
  rw [← hob] at hP
  have HOB : Hid (ob = openB (c.text ++ P)) := by
    show _ = _
    rw [hob, HPD.out, openB_tail, hta.1]
  have HOX : Hid ((openB c.text ^^ openB t.data.toList) = ob) := by
    show _ = _
    rw [HTD.out, ← openB_xor, hob]
  have HP := Lib.hid hP
  have HOP : Hid (∀ W : World, W.heap[O]? = some (.cells #[.bool (openB c.text)] 4 (0, 0)) → Calls Tryz.prog 47 #[.string t, .pointer (some ⟨O, 0, none⟩)] W fun e w' => e = .returned (.bool ob) ∧ OneTurn O 4 (.bool ob) W w') := fun W hW => by
    have := c_opens t (by omega) O _ W hW
    rw [HOX.out] at this
    exact this
  have HR1d := Lib.hid HR1.out.drew
  have HB1d : Hid (BoxAt w.heap.size n s w1.drew) := HB1.out
  obtain ⟨hx0, hx1⟩ := HB1.out.cells
  have hR1 : R < w1.heap.size := lt_of_block HR1.out.rd
  clear hta hob hP
  go_wp2_with fail
  go_upto_region 2 with fail
  go_cut [6] (fun s6 wx => s6 = .string t ∧ Hid (RdC B R O Wm (n, col) (.slice (some ⟨g, 0, none⟩) (D.length + 1) cap) tv tv mv mv xc D c ob ob wx) ∧ Hid (BoxAt w.heap.size n s wx) ∧ Hid (Below B w wx) ∧ w.heap.size < wx.heap.size ∧ Hid (Fr w wx))
  case first =>
    go_region_law (first
      | (go_simp; go_at_call 47; refine (HOP.out _ HR1d.out.op).mono ?_; rintro e w2 ⟨rfl, hot⟩; have HR2 := Lib.hid (HR1d.out.turnO hot); obtain ⟨hc0, hc1, hc2, hc3, hc4, hc5⟩ := HR2.out.cells; obtain ⟨hf0, hf1, hf2, hf3, hf4, hf5⟩ := HR2.out.free; have HB2 := Lib.hid (HB1d.out.turns (hot.turns HR1d.out.op) (by decide)); obtain ⟨hx0, hx1⟩ := HB2.out.cells; have hN2 : w.heap.size < w2.heap.size := lt_of_block HB2.out; have hR2 : R < w2.heap.size := lt_of_block HR2.out.rd)
      | (go_simp; go_at_call 79; refine (c_at n s col _).mono ?_; rintro e w' ⟨rfl, rfl⟩))
    all_goals
      go_wp2_with fail
      go_meet
      refine ⟨rfl, ?_⟩
      refine addLast HR2.out HB2.out ?_ ?_ ob n col _ _
      · exact ((hb1'.mono HR.out.bs).drew).trans (hot.below HR.out.bo)
      · exact (Fr.trans (a := w) (b := w1.drew) ⟨(Fr.of_below hb1').size, (Fr.of_below hb1').block⟩ (Fr.of_turns (hot.turns HR1d.out.op) (by decide) (by decide) (by decide)))
  case rest =>
  obtain ⟨rfl, HR3, HB3, hb3', hN3, hF3⟩ := hcut
  have hb3 := hb3'.out
  clear hb3' hc0 hc1 hc2 hc3 hc4 hc5 hf0 hf1 hf2 hf3 hf4 hf5 hx0 hx1
  obtain ⟨hc0, hc1, hc2, hc3, hc4, hc5⟩ := HR3.out.cells
  go_upto_if 29 with fail
  clear hc0 hc1 hc2 hc3 hc4 hc5
  go_cut [6] (fun s6 wx => ∃ u : ByteArray, s6 = .string u ∧ Hid (u.data.toList = P) ∧ Hid (RdC B R O Wm (n, col) (.slice (some ⟨g, 0, none⟩) (D.length + 1) cap) tv tv mv mv xc D c ob ob wx) ∧ Hid (BoxAt w.heap.size n s wx) ∧ Hid (Below B w wx) ∧ w.heap.size < wx.heap.size ∧ Hid (Fr w wx))
  case first =>
    cases ob
    · go_wp2_with fail
      refine (Tryz.strings_TrimRight_one t 32 (by decide) _ (by omega)).mono ?_; rintro e w4 ⟨rfl, rfl⟩
      go_wp2
      go_meet
      refine ⟨_, rfl, ?_, HR3, HB3, hb3, hN3, hF3⟩
      show Lib.trimRightB t.data.toList 32 = P
      rw [HTD.out, trimRight_trimB]
      exact (HP.out.trans (if_neg (by decide))).symm
    · have hq1 : (73 : Int) - col - t.size = ((73 - col - t.size : Nat) : Int) := by omega
      have HQ := Lib.hid hq1; clear hq1
      go_wp2_with fail
      rw [HQ.out]
      have hm : 73 - col - t.size ≤ 65 := by omega
      refine (Tryz.strings_Repeat ⟨#[32]⟩ (73 - col - t.size) _ (by omega) (by show 1 * _ ≤ _; omega)).mono ?_; rintro e w4 ⟨rfl, hb4⟩
      have hRP : (⟨(Lib.repeatL (⟨#[32]⟩ : ByteArray).data.toList (73 - col - t.size)).toArray⟩ : ByteArray) = strL (List.replicate (73 - col - t.size) 32) := by
        show strL (Lib.repeatL [32] (73 - col - t.size)) = _
        rw [repeat_oneA]
      rw [hRP]; clear hRP
      obtain ⟨v, hv, hvs, HVS⟩ := strVar (List.replicate (73 - col - t.size) 32)
      rw [← hv]
      have HVD : Hid (v.data.toList = List.replicate (73 - col - t.size) 32) := by rw [hv]; rfl
      rw [List.length_replicate] at hvs
      clear hv
      go_wp2
      go_meet
      refine ⟨_, rfl, ?_, HR3.out.below hb4, HB3.out.kept hb4.block, hb3.trans (hb4.mono HR3.out.bs), Nat.lt_of_lt_of_le hN3 hb4.size, hF3.out.trans (Fr.of_below hb4)⟩
      rw [append_data, HTD.out, HVD.out]
      refine Eq.trans ?_ (HP.out.trans (if_pos trivial)).symm
      congr 2
      have e1 := HTS.out
      rw [List.length_drop] at e1
      omega
  case rest =>
    obtain ⟨u, rfl, HU, HR4, HB4, HB, hN4, HF4⟩ := hcut
    by_cases hemp : u.toList = []
    · have hq1 : u.toList.isEmpty = true := by rw [hemp]; rfl
      have HE : Hid (P = []) := by show _ = _; rw [← HU.out, ← ByteArray.toList_eq]; exact hemp
      clear hemp
      go_wp2
      go_returns
      refine ⟨rfl, HB.out, HF4.out, tv, mv, ?_⟩
      rw [← HPD.out, ← HOB.out, HE.out, plus_nil]
      exact HR4.out
    · have hq1 : u.toList.isEmpty = false := by
        cases hh : u.toList.isEmpty
        · rfl
        · exact absurd (List.isEmpty_iff.1 hh) hemp
      have HE : Hid (P ≠ []) := by show _ ≠ _; rw [← HU.out, ← ByteArray.toList_eq]; exact hemp
      clear hemp
      obtain ⟨hc0, hc1, hc2, hc3, hc4, hc5⟩ := HR4.out.cells
      obtain ⟨hf0, hf1, hf2, hf3, hf4, hf5⟩ := HR4.out.free
      have hi0 : IntKind.i64.wrap (((D.length + 1 : Nat) : Int) - 1) = (D.length : Int) := by
        rw [IntWalk.i64_in _ (by omega)]; omega
      obtain ⟨ta, tcap, rfl⟩ := own_sl HR4.out.text
      go_wp2
      go_quiet (fail)
      have HR5 := Lib.hid (HR4.out.drewN nq)
      have HB5 := Lib.hid (HB4.out.kept (w' := wc.drewN nq) fun _ _ => rfl)
      have HF5 : Hid (Fr w (wc.drewN nq)) := ⟨HF4.out.size, HF4.out.block⟩
      have hb5 : Hid (Below B w (wc.drewN nq)) := ⟨HB.out.os, HB.out.tape, HB.out.output, HB.out.size, HB.out.block⟩
      have hN5 : w.heap.size < (wc.drewN nq).heap.size := hN4
      clear hc0 hc1 hc2 hc3 hc4 hc5 hf0 hf1 hf2 hf3 hf4 hf5 hi0 hq1
      generalize wc.drewN nq = w5 at *
      obtain ⟨hc0, hc1, hc2, hc3, hc4, hc5⟩ := HR5.out.cells
      obtain ⟨hf0, hf1, hf2, hf3, hf4, hf5⟩ := HR5.out.free
      obtain ⟨hk0, hk1, hk2⟩ := HR5.out.card
      have hkf := HR5.out.cardFree (D.length * 3 + 2)
      obtain ⟨hx0, hx1⟩ := HB5.out.cells
      obtain ⟨hgR, hgO, hRO⟩ := HR5.out.ne
      have hgN : g ≠ w.heap.size := by omega
      have hRN : R ≠ w.heap.size := by omega
      go_wp2
      obtain ⟨i0, hi, hz0, hz1, hz2⟩ := info_parts Tryz.infoMark
      have hml : Hid (c.marks.length + 1 ≤ maxLen) := by show _ ≤ maxLen; unfold maxLen; omega
      have hg5 : g < w5.heap.size := by
        obtain ⟨_, _, hh⟩ := own_kind HR5.out.cards g rfl
        exact lt_of_block hh
      have hmg : some g ≠ mv.ownBlock := fun e => by
        obtain ⟨c1, f1, hh⟩ := own_kind HR5.out.marks g e.symm
        obtain ⟨c2, f2, hh2⟩ := own_kind HR5.out.cards g rfl
        rw [hh2] at hh; injection hh with hh; injection hh with h1 h2; exact absurd h2 (by decide)
      have hR5 : R < w5.heap.size := lt_of_block HR5.out.rd
      have hR6 : R < w5.heap.size + 1 := by omega
      have hR7 : R < w5.heap.size + 2 := by omega
      have hN6 : w.heap.size < w5.heap.size + 1 := by omega
      have hN7 : w.heap.size < w5.heap.size + 2 := by omega
      have hg6 : g < w5.heap.size + 1 := by omega
      have hg7 : g < w5.heap.size + 2 := by omega
      go_upto_region 8 with fail
      go_cut [6] (fun s6 wx => s6 = .string u ∧ ∃ mv', Hid (RdC B R O Wm (n, col) (.slice (some ⟨g, 0, none⟩) (D.length + 1) cap) (.slice ta c.text.length tcap) (.slice ta c.text.length tcap) mv' mv' xc D { c with marks := c.marks ++ [(c.text.length, n, col)] } ob ob wx) ∧ Hid (Below B w wx) ∧ Hid (Fr w wx))
      case first =>
        go_region_law (first
          | (refine step_append_lies _ (by rfl) (.tmp 57) (.tmp 68) 53 (by rfl) Wm 52 i0 _ 3 24 Tryz.underlying53 hi hz0 hz1 hz2 rfl (by omega) mv c.marks.length (marksC c.marks) (by rfl) (own_kept HR5.out.marks (Below.block (B := w5.heap.size) (w := w5) (by go_grown)))
              ⟨w5.heap.size, 0, none⟩ 1 1 [.int .i64 c.text.length, .int .i64 n, .int .i64 col] (by rfl) (by rfl) (World.news_of_block (cs := #[.int .i64 c.text.length, .int .i64 n, .int .i64 col]) (t := 52) (fr := (0, 0)) (alloc_new_at _ _ _ (by simp))) (by simp [Value.oneCell'])
              (by omega) hml.out (by omega) (Nat.le_trans HR5.out.ws (Below.size (B := w5.heap.size) (w := w5) (by go_grown))) (w5.heap.size + 1) (by simp) ?_; intro gg cap' w6 hown6 hgrow hat hlt; obtain ⟨hk6, hkf6⟩ := farCell (w := w5) (by go_grown) hgrow hmg hg5 hk2 hkf)
          | (go_simp; go_at_call 79; refine (c_at n s col _).mono ?_; rintro e w' ⟨rfl, rfl⟩))
        all_goals
          go_wp2_with fail
          go_meet
          exact ⟨rfl, _, addMark HR5.out (by go_grown) hown6 hgrow, addBelow HR5.out hb5.out (by go_grown) hgrow hgB, addFr HR5.out HF5.out (by go_grown) hgrow hg5⟩
      case rest =>
        obtain ⟨rfl, mv', HR6, HB6, HF6⟩ := hcut
        clear HR HR1 HR3 HR4 HR5 HB1 HB3 HB4 HB5 HR1d HB1d HOP HOX hc0 hc1 hc2 hc3 hc4 hc5 hf0 hf1 hf2 hf3 hf4 hf5 hk0 hk1 hk2 hkf hx0 hx1
        obtain ⟨hc0, hc1, hc2, hc3, hc4, hc5⟩ := HR6.out.cells
        obtain ⟨hf0, hf1, hf2, hf3, hf4, hf5⟩ := HR6.out.free
        obtain ⟨i1, hj, hy0, hy1, hy2⟩ := info_parts Tryz.infoByte
        have hup : u.size ≤ 72 := by
          have := rpartLe s.data.toList c.text (col - 8)
          rw [size_data, HU.out, HPD.out]; exact this
        obtain ⟨tv', w7, hrun, ho7, hg7, _⟩ := Lib.run_append_own_string (P := Tryz.prog) _ B 66 9 66 5 i1 Tryz.underlying66 Tryz.underlying9 hj hy0 hy1 hy2 _ _ _ HR6.out.text u (by unfold maxLen; simp; omega) (by simp; omega) HR6.out.bs
        obtain ⟨ta', tcap', rfl⟩ := own_sl ho7
        have HRUN := Lib.hid hrun
        have HSC : Hid (Lib.strCells u = u8C P) := by
          show _ = _
          rw [← HU.out]; rfl
        have hle : c.text.length + u.size = (c.text ++ P).length := by rw [List.length_append, ← HU.out, size_data]
        rw [HSC.out, ← u8C_append] at ho7
        have ho8 : w7.ownsRow B 5 1 (.slice ta' (c.text.length + u.size) tcap') (c.text ++ P).length (u8C (c.text ++ P)) := by rw [← hle]; exact ho7
        have HR7 := Lib.hid (HR6.out.grownText ho8 hg7)
        have hb7 : Below B w w7 := HB6.out.grown hg7 HR6.out.bs fun k hk => (HR6.out.text.lt k hk).1
        have HF7 : Hid (Fr w w7) := HF6.out.trans (Fr.of_turns (Turns.grown hg7 (own_kind HR6.out.text)) (by decide) (by decide) (by decide))
        have HF8 := Lib.hid (HF7.out.trans (Fr.of_turns (Turns.setCell HR7.out.rd 1 (.slice ta' (c.text.length + u.size) tcap')) (by decide) (by decide) (by decide)))
        have HR8 := Lib.hid (HR7.out.setText (.slice ta' (c.text.length + u.size) tcap'))
        obtain ⟨_, hd1, _, _⟩ := HR7.out.cells
        obtain ⟨_, he1, _, _⟩ := HR7.out.free
        clear hrun ho7 ho8 hg7 hle
        go_wp2_with (at_builtin; refine wp_append_run rfl (.tmp 76) (.tmp 77) _ rfl _ _ _ _ rfl rfl HRUN.out ?_)
        go_returns
        refine ⟨rfl, hb7.setCell HR7.out.br _, HF8.out, .slice ta' (c.text.length + u.size) tcap', mv', ?_⟩
        rw [← HPD.out, ← HOB.out, plus_some _ _ _ _ HE.out]
        exact HR8.out
end Go.Proofs.YtpalfhfbgfnacaaGreatDoor
