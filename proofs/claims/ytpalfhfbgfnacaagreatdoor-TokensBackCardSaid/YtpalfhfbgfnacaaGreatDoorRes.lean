/-
  The contracts of the reader's methods begin and resume, for every state.
-/
import Derived.Test.YtpalfhfbgfnacaaGreatDoorBeg
namespace Go.Proofs.YtpalfhfbgfnacaaGreatDoor
open Go.RowKit
set_option linter.unusedVariables false
set_option linter.unusedSimpArgs false
attribute [local go_sem] eqFault guardFault neqFault

theorem faultStores {B N : Nat} {w w1 : World} {a b c : Value} (hb : Below B w w1) (hN : B ≤ N) : Below B w (((w1.setCell ⟨N, 0, none⟩ a).setCell ⟨N, 1, none⟩ b).setCell ⟨N, 2, none⟩ c) :=
  ((hb.setCell hN _).setCell hN _).setCell hN _
theorem faultFr {N : Nat} {w w1 : World} {a b c : Value} (hf : Fr w w1) (hN : w.heap.size ≤ N) : Fr w (((w1.setCell ⟨N, 0, none⟩ a).setCell ⟨N, 1, none⟩ b).setCell ⟨N, 2, none⟩ c) :=
  ((hf.newCell hN _ _).newCell hN _ _).newCell hN _ _
set_option maxHeartbeats 4000000 in
set_option maxRecDepth 100000 in
theorem c_begin_open {B R O Wm : Nat} {ap : Nat × Nat} {cv tv mv : Value} {D : List (Kard × Value)} {c : Kard} (n : Nat) (s : ByteArray) (w : World)
    (h : RdC B R O Wm ap cv tv tv mv mv [] D c true true w) (hcd : D.length ≤ 4194304) :
    Calls Tryz.prog 23 #[.pointer (some ⟨R, 0, none⟩), rowC n s] w (StepPost B R O (.inl (4, ap.1, ap.2)) w) := by
  have H := Lib.hid h
  have hbs := h.bs
  clear h
  go_enter Tryz.func23, Tryz.ntmps23
  go_wp2_with fail
  refine (c_finish_open _ ((H.out.alloc _).alloc _) hcd).mono ?_; rintro e w1 ⟨rfl, hb1⟩
  have hz := hb1.size
  simp at hz
  have hlt : w.heap.size + 1 < w1.heap.size := by omega
  have k1 : w1.heap[w.heap.size + 1]? = some (.cells #[.int .i64 0, .int .i64 0, .int .i64 0] 28 (0, 0)) := (hb1.block (w.heap.size + 1) (by simp)).trans (alloc_at5 _ _ _ (by simp))
  have HB1 : Hid (Below w.heap.size w w1) := (((Below.refl _ _).alloc (Nat.le_refl _) _).alloc (by simp) _).trans (hb1.mono (by simp; omega))
  clear hb1
  have c0 : w1.cell? ⟨w.heap.size + 1, 0, none⟩ = some (.int .i64 0) := Joins.cell_of_block k1 0
  have c1 : w1.cell? ⟨w.heap.size + 1, 1, none⟩ = some (.int .i64 0) := Joins.cell_of_block k1 1
  have c2 : w1.cell? ⟨w.heap.size + 1, 2, none⟩ = some (.int .i64 0) := Joins.cell_of_block k1 2
  have f0 := Joins.unfrozen_of_block k1 0
  have f1 := Joins.unfrozen_of_block k1 1
  have f2 := Joins.unfrozen_of_block k1 2
  obtain ⟨r0, r1, r2⟩ := faultCells (u := .int .i64 4) (v := .int .i64 ap.1) (x := .int .i64 ap.2) k1
  unfold faultN
  clear k1
  go_wp2
  refine bodyPost_ret (v := faultN 4 ap.1 ap.2) (by simp [results, Tryz.results23, go_sem, r0, r1, r2, faultN, hlt]) rfl ⟨?_, ?_, rfl, by show (4 : Nat) ≠ 0; decide⟩
  · exact (faultStores (HB1.out.mono hbs) (by omega)).alloc (by simp; omega) _
  · exact (faultFr (Fr.of_below HB1.out) (by omega)).trans (Fr.of_below ((Below.refl _ _).alloc (Nat.le_refl _) _))

theorem row_spec_begin (r : ReadAt) (s : List UInt8) (n : Nat) (hk : fstN (areasB s) < (areasB s).length) (done : List Kard) (a : Nat × Nat) :
    putRowU true a done ⟨decide (fstN (textOf s) < 4), [], []⟩ (textOf s) n true = .inr ⟨done, some ((⟨decide (fstN (textOf s) < 4), [], []⟩ : Kard).plus (tailB ((textOf s).drop (fstN (textOf s))) []) n (fstN (textOf s) + 8)), (n, fstN (textOf s) + 8)⟩ := by
  obtain ⟨c, rr, h1, h2⟩ := drop_head (textOf s) (by
    rw [textOf_length]; exact ((fst_textOf s).1 hk).2)
  have hne := tail_ne _ [] c rr h1 h2
  unfold putRowU
  have hr : rpart (textOf s) (⟨decide (fstN (textOf s) < 4), [], []⟩ : Kard).text true = .inl (tailB ((textOf s).drop (fstN (textOf s))) [], fstN (textOf s) + 8) := by
    unfold rpart; rw [if_pos rfl]
  rw [hr]
  simp only [hne, ne_eq, not_false_eq_true, or_true, if_true]
theorem readRowU_b (u : Bool) (r : ReadAt) (m : UInt8) (t : List UInt8) (n : Nat) (hm : m.toNat = 32) : readRowU u r m t n = (match r.cur with | none => putRowU u r.at_ r.done ⟨decide (fstN t < 4), [], []⟩ t n true | some c => if openB c.text = true then .inl (4, r.at_) else putRowU u r.at_ (r.done ++ [c]) ⟨decide (fstN t < 4), [], []⟩ t n true) := if_pos hm
theorem readRowU_c (u : Bool) (r : ReadAt) (m : UInt8) (t : List UInt8) (n : Nat) (hm : ¬ m.toNat = 32) : readRowU u r m t n = (match r.cur with | none => .inl (6, n, 7) | some c => putRowU u r.at_ r.done c t n false) := if_neg hm
theorem c_begin {B R O : Nat} (r : ReadAt) (n : Nat) (s : ByteArray) (w : World) (hbs : B ≤ w.heap.size) (hBR : B ≤ R) (h : StAt B R O r w) (hsm : Small r) (hs : s.size ≤ 80) (hk : fstN (areasB s.data.toList) < (areasB s.data.toList).length) (hn : n ≤ 4194304) :
    Calls Tryz.prog 23 #[.pointer (some ⟨R, 0, none⟩), rowC n s] w (StepPost B R O (readRowU true r 32 (textOf s.data.toList) n) w) := by
  rcases h with ⟨h1, h2, ap, cv, tv, h3⟩ | ⟨c, Wm, cv, tv, mv, D, h1, h2, h5⟩
  · have e : readRowU true r 32 (textOf s.data.toList) n = putRowU true r.at_ r.done ⟨decide (fstN (textOf s.data.toList) < 4), [], []⟩ (textOf s.data.toList) n true := by
      rw [readRowU_b _ _ _ _ _ (by decide), h1]
    rw [e, row_spec_begin r s.data.toList n hk, h2]
    exact c_begin_ok n s w hbs hBR (finOk_none h3) hs hk (by simp) hn
  · have hdl : D.length = r.done.length := by rw [← h2]; simp
    have hd := hsm.done
    cases ho : openB c.text
    · have e : readRowU true r 32 (textOf s.data.toList) n = putRowU true r.at_ (r.done ++ [c]) ⟨decide (fstN (textOf s.data.toList) < 4), [], []⟩ (textOf s.data.toList) n true := by
        rw [readRowU_b _ _ _ _ _ (by decide), h1]; simp only [ho]; rfl
      rw [e, row_spec_begin r s.data.toList n hk, ← h2]
      rw [ho] at h5
      exact c_begin_ok n s w hbs hBR (finOk_some h5 (hsm.text c h1) (hsm.marks c h1) (by omega)) hs hk (by rw [List.length_append, List.length_map, List.length_singleton]; omega) hn
    · have e : readRowU true r 32 (textOf s.data.toList) n = .inl (4, r.at_) := by
        rw [readRowU_b _ _ _ _ _ (by decide), h1]; simp only [ho]; rw [if_pos trivial]
      rw [e]
      rw [ho] at h5
      exact c_begin_open n s w h5 (by omega)

theorem textOf_get (s : List UInt8) (F : Nat) (h : F < (areasB s).length) : (textOf s).getD F 0 = s.getD (F + 7) 0 := by
  have hl := areasB_length s
  have h7 : F + 7 = 7 + F := Nat.add_comm _ _
  have e1 : (textOf s)[F]? = s[F + 7]? := by
    rw [textOf_areas, List.getElem?_append_left h, h7]
    unfold areasB
    rw [List.getElem?_drop, List.getElem?_take, if_pos (by omega)]
  simp [List.getD, e1]
theorem st_put {B R O Wm : Nat} {cv tv mv : Value} {D : List (Kard × Value)} {c : Kard} {a : Nat × Nat} {P : List UInt8} {n col : Nat} {done : List Kard} {w : World}
    (hD : D.map Prod.fst = done) (h : RdC B R O Wm (n, col) cv tv tv mv mv [] D (c.plus P n col) (openB (c.text ++ P)) (openB (c.text ++ P)) w) :
    StAt B R O ⟨done, some (c.plus P n col), if true = true ∨ P ≠ [] then (n, col) else a⟩ w := by
  rw [if_pos (.inl rfl)]
  exact .inr ⟨_, Wm, cv, tv, mv, D, rfl, hD, h⟩
set_option maxHeartbeats 4000000 in
set_option maxRecDepth 100000 in
theorem c_resume_none {B R O : Nat} {ap : Nat × Nat} {cv tv : Value} (n : Nat) (s : ByteArray) (w : World) (h : RdN B R O ap cv tv [] w) :
    Calls Tryz.prog 25 #[.pointer (some ⟨R, 0, none⟩), rowC n s] w (StepPost B R O (.inl (6, n, 7)) w) := by
  have hlt : R < w.heap.size := lt_of_block h.rd
  obtain ⟨a, cap, rfl⟩ := own_sl h.cards
  have hc0 : w.cell? ⟨R, 0, none⟩ = some (.slice a 0 cap) := Joins.cell_of_block h.rd 0
  have hbs := h.bs
  clear h
  go_enter Tryz.func25, Tryz.ntmps25
  go_wp2
  go_returns
  refine ⟨by go_grown, ?_, rfl, by show (6 : Nat) ≠ 0; decide⟩
  exact Fr.of_below (by go_grown)
set_option maxHeartbeats 4000000 in
set_option maxRecDepth 100000 in
theorem c_resume_some {B R O Wm : Nat} {ap : Nat × Nat} {cv tv mv : Value} {D : List (Kard × Value)} {c : Kard} {a : Nat × Nat} (n : Nat) (s : ByteArray) (w : World)
    (h : RdC B R O Wm ap cv tv tv mv mv [] D c (openB c.text) (openB c.text) w) (hct : c.text.length ≤ 134217728) (hcm : c.marks.length ≤ 4194304) (hcd : D.length ≤ 4194304) (hs : s.size ≤ 80) (hk : fstN (areasB s.data.toList) < (areasB s.data.toList).length) (hn : n ≤ 4194304) :
    Calls Tryz.prog 25 #[.pointer (some ⟨R, 0, none⟩), rowC n s] w (StepPost B R O (putRowU true a (D.map Prod.fst) c (textOf s.data.toList) n false) w) := by
  have hft := ((fst_textOf s.data.toList).1 hk)
  have HFT := Lib.hid hft.1
  have hf65 : fstN (areasB s.data.toList) < 65 := by rw [← hft.1]; exact hft.2
  have hal := areasB_length s.data.toList
  rw [← size_data] at hal
  have hgT := textOf_get s.data.toList _ hk
  obtain ⟨F, hF⟩ : ∃ F, F = fstN (areasB s.data.toList) := ⟨_, rfl⟩
  have HF := Lib.hid hF
  rw [← hF] at hf65 hgT
  have hF7 : F + 7 < s.size := by rw [hF]; omega
  have hgs : s.data.toList.getD (F + 7) 0 = s[F + 7] := by simp [List.getD, get_data s _ hF7]
  have HG : Hid ((textOf s.data.toList).getD (fstN (textOf s.data.toList)) 0 = s[F + 7]) := by
    show _ = _
    rw [hft.1, ← hF, hgT, hgs]
  have HK : Hid (F < (areasB s.data.toList).length) := by show _ < _; rw [hF]; exact hk
  obtain ⟨g, cap, rfl, hgc, hgB, hgw⟩ := h.form
  have hbs := h.bs
  have hR : R < w.heap.size := lt_of_block h.rd
  obtain ⟨hc0, hc1, hc2, hc3, hc4, hc5⟩ := h.cells
  have H := Lib.hid h
  clear hft hF hk hal hgT hgs h
  go_enter Tryz.func25, Tryz.ntmps25
  go_wp2_with fail
  refine (c_first n s (by omega) _).mono ?_; rintro e w1 ⟨rfl, hb1⟩
  rw [← HF.out]
  have hz := hb1.size
  simp at hz
  have hlt : w.heap.size + 1 < w1.heap.size := by omega
  have k0 : BoxAt w.heap.size n s w1 := (hb1.block w.heap.size (by simp; omega)).trans ((Below.heap_alloc _ _ _ (by simp)).trans (heap_alloc_new w _))
  have k1 : w1.heap[w.heap.size + 1]? = some (.cells #[.int .i64 0, .int .i64 0, .int .i64 0] 28 (0, 0)) := (hb1.block (w.heap.size + 1) (by simp)).trans (alloc_at5 _ _ _ (by simp))
  have hB1 : Below w.heap.size w w1 := (((Below.refl _ _).alloc (Nat.le_refl _) _).alloc (by simp) _).trans (hb1.mono (by simp; omega))
  have HB1 := Lib.hid hB1
  have HR1 := Lib.hid (H.out.below hB1)
  have HK0 := Lib.hid k0; have HK1 := Lib.hid k1
  clear hb1 hz hB1 hc0 hc1 hc2 hc3 hc4 hc5
  obtain ⟨x0, x1⟩ := k0.cells
  obtain ⟨hc0, hc1, hc2, hc3, hc4, hc5⟩ := HR1.out.cells
  clear k0
  obtain ⟨p, hp⟩ : ∃ p, p = F + 7 := ⟨_, rfl⟩
  have hq : 8 + F = p + 1 := by omega
  rw [hq]
  have hps : p < s.size := by omega
  have hpF : F = p - 7 := by omega
  have hp7 : 7 ≤ p := by omega
  have hp72 : p < 72 := by omega
  have HG2 : Hid ((textOf s.data.toList).getD (fstN (textOf s.data.toList)) 0 = s[p]'hps) := by
    show _ = _
    rw [HG.out]; congr 1; exact hp.symm
  have HFp : Hid (fstN (textOf s.data.toList) = p - 7) := by show _ = _; rw [HFT.out, ← HF.out]; omega
  have HKp : Hid (p - 7 < (areasB s.data.toList).length) := by rw [← hpF]; exact HK.out
  clear HG
  clear hp hq hpF hF7 hf65
  by_cases g4 : p + 1 < 12
  · have HS : Hid (putRowU true a (D.map Prod.fst) c (textOf s.data.toList) n false = .inl (4, n, p + 1)) := by
      show _ = _
      unfold putRowU rpart
      rw [if_neg (by decide), HFp.out, if_pos (.inl (by omega))]
      show Sum.inl (4, n, p - 7 + 8) = _
      rw [show p - 7 + 8 = p + 1 from by omega]
    have g4' : (p : Int) + 1 < 12 := by omega
    clear k1
    have HP1 : Hid ((p : Int) + 1 = ((p + 1 : Nat) : Int)) := by show _ = _; omega
    go_wp2_with fail
    rw [HP1.out]
    refine (c_fault n s 4 (p + 1) _).mono ?_; rintro e w2 ⟨rfl, hb2⟩
    have k2 := (hb2.block _ (lt_of_block HK1.out)).trans HK1.out
    have hlt2 : w.heap.size + 1 < w2.heap.size := lt_of_block k2
    have HB2 : Hid (Below w.heap.size w w2) := HB1.out.trans (hb2.mono HB1.out.size)
    have c0 : w2.cell? ⟨w.heap.size + 1, 0, none⟩ = some (.int .i64 0) := Joins.cell_of_block k2 0
    have c1 : w2.cell? ⟨w.heap.size + 1, 1, none⟩ = some (.int .i64 0) := Joins.cell_of_block k2 1
    have c2 : w2.cell? ⟨w.heap.size + 1, 2, none⟩ = some (.int .i64 0) := Joins.cell_of_block k2 2
    have f0 := Joins.unfrozen_of_block k2 0
    have f1 := Joins.unfrozen_of_block k2 1
    have f2 := Joins.unfrozen_of_block k2 2
    obtain ⟨r0, r1, r2⟩ := faultCells (u := .int .i64 4) (v := .int .i64 n) (x := .int .i64 ((p : Int) + 1)) k2
    clear hb2 k2
    go_wp2
    refine bodyPost_ret (v := .agg #[.int .i64 4, .int .i64 n, .int .i64 ((p : Int) + 1)]) (by simp [results, Tryz.results25, go_sem, r0, r1, r2, faultN, zeroF, hlt2]) rfl ⟨faultStores (HB2.out.mono hbs) (by omega), faultFr (Fr.of_below HB2.out) (by omega), ?_⟩
    rw [HS.out]
    exact ⟨rfl, by show (4 : Nat) ≠ 0; decide⟩
  · have g4' : ¬ (p : Int) + 1 < 12 := by omega
    have g4d : decide ((p : Int) + 1 < 12) = false := by simpa using g4'
    cases ho : openB c.text
    · rw [ho] at HR1 hc2
      have HO := Lib.hid ho
      have HS : Hid (putRowU true a (D.map Prod.fst) c (textOf s.data.toList) n false = .inr ⟨D.map Prod.fst, some (c.plus (tailB ((textOf s.data.toList).drop (p + 1 - 8)) c.text) n (p + 1)), if true = true ∨ tailB ((textOf s.data.toList).drop (p + 1 - 8)) c.text ≠ [] then (n, p + 1) else a⟩) := by
        show _ = _
        unfold putRowU rpart
        rw [if_neg (by decide), HFp.out, if_neg (by rw [ho]; simp; omega), if_neg (by rw [ho]; simp), show p - 7 + 8 = p + 1 from by omega, show p + 1 - 8 = p - 7 from by omega]
      clear k1 ho
      have HP1 : Hid ((p : Int) + 1 = ((p + 1 : Nat) : Int)) := by show _ = _; omega
      rw [← HO.out] at HR1
      go_wp2_with fail
      rw [HP1.out]
      refine (c_add (c := c) n (p + 1) s w1 HR1.out hs (by omega) (by omega) (by have := HKp.out; omega) hct hcm hcd).mono ?_
      rintro e w2 ⟨rfl, hb2, hf2, tv2, mv2, hr2⟩
      have k2 := hf2.block _ _ _ _ HK1.out (.inr (.inl rfl))
      have hlt2 : w.heap.size + 1 < w2.heap.size := lt_of_block k2
      have HB2 : Hid (Below B w w2) := (HB1.out.mono hbs).trans hb2
      have HF2 : Hid (Fr w w2) := (Fr.of_below HB1.out).trans hf2
      have HR2 := Lib.hid hr2; have HK2 := Lib.hid k2
      have c0 : w2.cell? ⟨w.heap.size + 1, 0, none⟩ = some (.int .i64 0) := Joins.cell_of_block k2 0
      have c1 : w2.cell? ⟨w.heap.size + 1, 1, none⟩ = some (.int .i64 0) := Joins.cell_of_block k2 1
      have c2 : w2.cell? ⟨w.heap.size + 1, 2, none⟩ = some (.int .i64 0) := Joins.cell_of_block k2 2
      have f0 := Joins.unfrozen_of_block k2 0
      have f1 := Joins.unfrozen_of_block k2 1
      have f2 := Joins.unfrozen_of_block k2 2
      obtain ⟨r0, r1, r2⟩ := faultCells (u := .int .i64 0) (v := .int .i64 0) (x := .int .i64 0) k2
      clear hb2 hf2 hr2 k2
      go_wp2
      refine bodyPost_ret (v := zeroF) (by simp [results, Tryz.results25, go_sem, r0, r1, r2, faultN, zeroF, hlt2]) rfl ⟨faultStores HB2.out (by omega), faultFr HF2.out (by omega), ?_⟩
      rw [HS.out]
      have hT0 := HR2.out.turnsF (Turns.setCell HK2.out 0 (.int .i64 0))
      have b1 := Joins.block_setCell (i := 0) HK2.out (.int .i64 0)
      have hT1 := hT0.turnsF (Turns.setCell b1 1 (.int .i64 0))
      have b2 := Joins.block_setCell (i := 1) b1 (.int .i64 0)
      exact ⟨rfl, st_put (a := a) rfl (hT1.turnsF (Turns.setCell b2 2 (.int .i64 0)))⟩
    · rw [ho] at hc2
      have HO := Lib.hid ho
      by_cases h34 : (s[p]'hps).toNat = 34
      · have hq34 : (((s[p]'hps).toNat : Int) != 34) = false := by simp; omega
        have HS : Hid (putRowU true a (D.map Prod.fst) c (textOf s.data.toList) n false = .inr ⟨D.map Prod.fst, some (c.plus (tailB ((textOf s.data.toList).drop (p + 2 - 8)) c.text) n (p + 2)), if true = true ∨ tailB ((textOf s.data.toList).drop (p + 2 - 8)) c.text ≠ [] then (n, p + 2) else a⟩) := by
          show _ = _
          have hg := HG2.out
          rw [HFp.out] at hg
          unfold putRowU rpart
          rw [if_neg (by decide), HFp.out, if_neg (by rw [ho, hg]; simp [h34]; omega), if_pos ho, show p - 7 + 1 + 8 = p + 2 from by omega, show p + 2 - 8 = p - 7 + 1 from by omega]
        clear k1 ho h34
        have HP1 : Hid ((p : Int) + 1 + 1 = ((p + 2 : Nat) : Int)) := by show _ = _; omega
        go_wp2_with fail
        rw [HP1.out]
        refine (c_add (c := c) n (p + 2) s w1 HR1.out hs (by omega) (by omega) (by have := HKp.out; omega) hct hcm hcd).mono ?_
        rintro e w2 ⟨rfl, hb2, hf2, tv2, mv2, hr2⟩
        have k2 := hf2.block _ _ _ _ HK1.out (.inr (.inl rfl))
        have hlt2 : w.heap.size + 1 < w2.heap.size := lt_of_block k2
        have HB2 : Hid (Below B w w2) := (HB1.out.mono hbs).trans hb2
        have HF2 : Hid (Fr w w2) := (Fr.of_below HB1.out).trans hf2
        have HR2 := Lib.hid hr2; have HK2 := Lib.hid k2
        have c0 : w2.cell? ⟨w.heap.size + 1, 0, none⟩ = some (.int .i64 0) := Joins.cell_of_block k2 0
        have c1 : w2.cell? ⟨w.heap.size + 1, 1, none⟩ = some (.int .i64 0) := Joins.cell_of_block k2 1
        have c2 : w2.cell? ⟨w.heap.size + 1, 2, none⟩ = some (.int .i64 0) := Joins.cell_of_block k2 2
        have f0 := Joins.unfrozen_of_block k2 0
        have f1 := Joins.unfrozen_of_block k2 1
        have f2 := Joins.unfrozen_of_block k2 2
        obtain ⟨r0, r1, r2⟩ := faultCells (u := .int .i64 0) (v := .int .i64 0) (x := .int .i64 0) k2
        clear hb2 hf2 hr2 k2
        go_wp2
        refine bodyPost_ret (v := zeroF) (by simp [results, Tryz.results25, go_sem, r0, r1, r2, faultN, zeroF, hlt2]) rfl ⟨faultStores HB2.out (by omega), faultFr HF2.out (by omega), ?_⟩
        rw [HS.out]
        have hT0 := HR2.out.turnsF (Turns.setCell HK2.out 0 (.int .i64 0))
        have b1 := Joins.block_setCell (i := 0) HK2.out (.int .i64 0)
        have hT1 := hT0.turnsF (Turns.setCell b1 1 (.int .i64 0))
        have b2 := Joins.block_setCell (i := 1) b1 (.int .i64 0)
        exact ⟨rfl, st_put (a := a) rfl (hT1.turnsF (Turns.setCell b2 2 (.int .i64 0)))⟩
      · have hq34 : (((s[p]'hps).toNat : Int) != 34) = true := by simp; omega
        have HS : Hid (putRowU true a (D.map Prod.fst) c (textOf s.data.toList) n false = .inl (4, n, p + 1)) := by
          show _ = _
          have hg := HG2.out
          rw [HFp.out] at hg
          unfold putRowU rpart
          rw [if_neg (by decide), HFp.out, if_pos (.inr ⟨ho, by rw [hg]; exact h34⟩)]
          show Sum.inl (4, n, p - 7 + 8) = _
          rw [show p - 7 + 8 = p + 1 from by omega]
        clear k1 ho h34
        have HP1 : Hid ((p : Int) + 1 = ((p + 1 : Nat) : Int)) := by show _ = _; omega
        go_wp2_with fail
        rw [HP1.out]
        refine (c_fault n s 4 (p + 1) _).mono ?_; rintro e w2 ⟨rfl, hb2⟩
        have k2 := (hb2.block _ (lt_of_block HK1.out)).trans HK1.out
        have hlt2 : w.heap.size + 1 < w2.heap.size := lt_of_block k2
        have HB2 : Hid (Below w.heap.size w w2) := HB1.out.trans (hb2.mono HB1.out.size)
        have c0 : w2.cell? ⟨w.heap.size + 1, 0, none⟩ = some (.int .i64 0) := Joins.cell_of_block k2 0
        have c1 : w2.cell? ⟨w.heap.size + 1, 1, none⟩ = some (.int .i64 0) := Joins.cell_of_block k2 1
        have c2 : w2.cell? ⟨w.heap.size + 1, 2, none⟩ = some (.int .i64 0) := Joins.cell_of_block k2 2
        have f0 := Joins.unfrozen_of_block k2 0
        have f1 := Joins.unfrozen_of_block k2 1
        have f2 := Joins.unfrozen_of_block k2 2
        obtain ⟨r0, r1, r2⟩ := faultCells (u := .int .i64 4) (v := .int .i64 n) (x := .int .i64 ((p : Int) + 1)) k2
        clear hb2 k2
        go_wp2
        refine bodyPost_ret (v := .agg #[.int .i64 4, .int .i64 n, .int .i64 ((p : Int) + 1)]) (by simp [results, Tryz.results25, go_sem, r0, r1, r2, faultN, zeroF, hlt2]) rfl ⟨faultStores (HB2.out.mono hbs) (by omega), faultFr (Fr.of_below HB2.out) (by omega), ?_⟩
        rw [HS.out]
        exact ⟨rfl, by show (4 : Nat) ≠ 0; decide⟩
theorem c_resume {B R O : Nat} (r : ReadAt) (n : Nat) (s : ByteArray) (w : World) (h : StAt B R O r w) (hsm : Small r) (hs : s.size ≤ 80) (hk : fstN (areasB s.data.toList) < (areasB s.data.toList).length) (hn : n ≤ 4194304) :
    Calls Tryz.prog 25 #[.pointer (some ⟨R, 0, none⟩), rowC n s] w (StepPost B R O (readRowU true r 45 (textOf s.data.toList) n) w) := by
  rcases h with ⟨h1, h2, ap, cv, tv, h3⟩ | ⟨c, Wm, cv, tv, mv, D, h1, h2, h5⟩
  · have e : readRowU true r 45 (textOf s.data.toList) n = .inl (6, n, 7) := by
      rw [readRowU_c _ _ _ _ _ (by decide), h1]
    rw [e]
    exact c_resume_none n s w h3
  · have hdl : D.length = r.done.length := by rw [← h2]; simp
    have hd := hsm.done
    have e : readRowU true r 45 (textOf s.data.toList) n = putRowU true r.at_ (D.map Prod.fst) c (textOf s.data.toList) n false := by
      rw [readRowU_c _ _ _ _ _ (by decide), h1, h2]
    rw [e]
    exact c_resume_some n s w h5 (hsm.text c h1) (hsm.marks c h1) (by omega) hs hk hn
end Go.Proofs.YtpalfhfbgfnacaaGreatDoor
