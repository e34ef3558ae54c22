/-
  The contracts of the reader's methods begin and resume.
-/
import Derived.Test.YtpalfhfbgfnacaaGreatDoorRun
namespace Go.Proofs.YtpalfhfbgfnacaaGreatDoor
open Go.RowKit
set_option linter.unusedVariables false
set_option linter.unusedSimpArgs false
attribute [local go_sem] eqFault guardFault neqFault

theorem faultCells {w : World} {N : Nat} {a b c u v x : Value} {t : TypeId} (h : w.heap[N]? = some (.cells #[a, b, c] t (0, 0))) :
    (w.setCell ⟨N, 0, none⟩ u).cell? ⟨N, 0, none⟩ = some u ∧ ((w.setCell ⟨N, 0, none⟩ u).setCell ⟨N, 1, none⟩ v).cell? ⟨N, 1, none⟩ = some v ∧
      (((w.setCell ⟨N, 0, none⟩ u).setCell ⟨N, 1, none⟩ v).setCell ⟨N, 2, none⟩ x).cell? ⟨N, 2, none⟩ = some x := by
  have b1 := Joins.block_setCell (i := 0) h u
  have b2 := Joins.block_setCell (i := 1) b1 v
  exact ⟨World.cell?_setCell_same _ _ _ (Joins.cell_of_block h 0), World.cell?_setCell_same _ _ _ (Joins.cell_of_block b1 1), World.cell?_setCell_same _ _ _ (Joins.cell_of_block b2 2)⟩
theorem RdC.turnsF {B R O Wm : Nat} {ap : Nat × Nat} {cv tc tv mc mv : Value} {xc : List UInt8} {D : List (Kard × Value)} {c : Kard} {b1 b2 : Bool} {w w' : World} (h : RdC B R O Wm ap cv tc tv mc mv xc D c b1 b2 w) (ht : Turns 28 w w') : RdC B R O Wm ap cv tc tv mc mv xc D c b1 b2 w' :=
  ⟨ht.block _ _ _ _ h.rd (by decide), ht.block _ _ _ _ h.op (by decide), own_turns h.cards ht (by decide), own_turns h.text ht (by decide), own_turns h.marks ht (by decide),
    fun x hx => (h.fin x hx).turns ht (by decide), h.bw, Nat.le_trans h.ws ht.size, h.br, h.bo⟩
theorem alloc_at5 (w : World) (o : Obj) (n : Nat) (hn : n = w.heap.size) : (w.alloc o).heap[n]? = some o := by subst hn; exact heap_alloc_new w o
theorem tail_ne (rest text : List UInt8) (c : UInt8) (l : List UInt8) (h : rest = c :: l) (hc : c.toNat ≠ 32) : tailB rest text ≠ [] := by
  subst h
  unfold tailB
  split
  · simp
  · intro e
    have hr := trim_rest (c :: l)
    rw [e] at hr
    have h0 : (c :: l)[0]? = (List.replicate ((c :: l).length - trimN (c :: l)) (32 : UInt8))[0]? := congrArg (fun x : List UInt8 => x[0]?) hr
    rw [List.getElem?_replicate] at h0
    split at h0
    · simp at h0; subst h0; exact hc rfl
    · cases h0
theorem drop_head (l : List UInt8) (h : fstN l < l.length) : ∃ c r, l.drop (fstN l) = c :: r ∧ c.toNat ≠ 32 := by
  refine ⟨l[fstN l], l.drop (fstN l + 1), List.drop_eq_getElem_cons h, ?_⟩
  have := fst_not l h
  simpa [List.getD, List.getElem?_eq_getElem h] using this

set_option maxHeartbeats 4000000 in
set_option maxRecDepth 100000 in
theorem c_begin_ok {B R O : Nat} {cv : Value} {ks : List Kard} (n : Nat) (s : ByteArray) (w : World) (hbs : B ≤ w.heap.size) (hBR : B ≤ R) (hfin : FinOk B R O cv ks w) (hs : s.size ≤ 80) (hk : fstN (areasB s.data.toList) < (areasB s.data.toList).length) (hks : ks.length ≤ 4194303) (hn : n ≤ 4194304) :
    Calls Tryz.prog 23 #[.pointer (some ⟨R, 0, none⟩), rowC n s] w
      (StepPost B R O (.inr ⟨ks, some ((⟨decide (fstN (textOf s.data.toList) < 4), [], []⟩ : Kard).plus (tailB ((textOf s.data.toList).drop (fstN (textOf s.data.toList))) []) n (fstN (textOf s.data.toList) + 8)), (n, fstN (textOf s.data.toList) + 8)⟩) w) := by
  have hft := ((fst_textOf s.data.toList).1 hk)
  have HFT := Lib.hid hft.1
  have hf65 : fstN (areasB s.data.toList) < 65 := by rw [← hft.1]; exact hft.2
  obtain ⟨F, hF⟩ : ∃ F, F = fstN (areasB s.data.toList) := ⟨_, rfl⟩
  have HF := Lib.hid hF
  rw [← hF] at hf65
  have HK := Lib.hid hk
  have HFIN := Lib.hid hfin
  clear hft hF hk hfin
  go_enter Tryz.func23, Tryz.ntmps23
  go_wp2_with fail
  refine (HFIN.out _ (by simp; omega) (fun k hk => (Below.heap_alloc _ _ k (by simp; omega)).trans (Below.heap_alloc _ _ k hk))).mono ?_
  rintro e w1 ⟨rfl, hb1, hf1, ap, tv, D, hD, hN⟩
  have hz1 := hf1.size
  simp at hz1
  have k0 : BoxAt w.heap.size n s w1 := hf1.block _ _ _ _ ((Below.heap_alloc _ _ _ (by simp)).trans (heap_alloc_new w _)) (.inl rfl)
  have k1 : w1.heap[w.heap.size + 1]? = some (.cells #[.int .i64 0, .int .i64 0, .int .i64 0] 28 (0, 0)) := hf1.block _ _ _ _ (alloc_at5 _ _ _ (by simp)) (.inr (.inl rfl))
  have HB1 : Hid (Below B w w1) := (((Below.refl _ _).alloc hbs _).alloc (by simp; omega) _).trans hb1
  have HF1 : Hid (Fr w w1) := ((Fr.of_below ((Below.refl _ _).alloc (Nat.le_refl _) _)).trans (Fr.of_below ((Below.refl _ _).alloc (Nat.le_refl _) _))).trans hf1
  have hlt1 : w.heap.size < w1.heap.size := by omega
  obtain ⟨x0, x1⟩ := k0.cells
  have HN := Lib.hid hN; have HD := Lib.hid hD; have HK0 := Lib.hid k0; have HK1 := Lib.hid k1
  clear hb1 hf1 hN hD k0 k1
  unfold zeroF
  go_wp2_with fail
  refine (c_first n s (by omega) _).mono ?_; rintro e w3 ⟨rfl, hb3⟩
  rw [← HF.out]
  have HB3 : Hid (Below B w w3) := by
    have h1 := HB1.out.size
    exact (HB1.out.alloc (by omega) _).trans (hb3.mono (by simp; omega))
  have hbw : Below w1.heap.size w1 w3 := ((Below.refl _ _).alloc (Nat.le_refl _) _).trans (hb3.mono (by simp))
  have HF3 : Hid (Fr w w3) := HF1.out.trans (Fr.of_below hbw)
  have HK03 := Lib.hid (HK0.out.kept hbw.block)
  have HK13 := Lib.hid ((hbw.block _ (lt_of_block HK1.out)).trans HK1.out)
  have HN3 := Lib.hid (HN.out.kept hbw.size hbw.block)
  have hlt3 : w.heap.size < w3.heap.size := by have := hbw.size; omega
  clear hb3 hbw x0 x1
  obtain ⟨i0, hi, hy0, hy1, hy2⟩ := info_parts Tryz.infoCard
  have hDl : D.length ≤ 4194303 := by have : D.length = ks.length := by rw [← HD.out]; simp
                                      omega
  obtain ⟨ca, ccap, rfl⟩ := own_sl HN3.out.cards
  have hR3 : R < w3.heap.size := lt_of_block HN3.out.rd
  have y0 : w3.cell? ⟨R, 0, none⟩ = some (.slice ca D.length ccap) := Joins.cell_of_block HN3.out.rd 0
  have HW3 := Lib.hid ((Below.refl w3.heap.size w3).alloc (Nat.le_refl _) (.cells #[.bool (decide ((8 : Int) + F < 12)), .string ⟨#[]⟩, .slice none 0 0] 55))
  have hN3' := HN3.out.kept HW3.out.size HW3.out.block
  obtain ⟨v', w4, hrun, ho, hg, _, _⟩ := run_append_own_at (P := Tryz.prog) (w3.alloc (.cells #[.bool (decide ((8 : Int) + F < 12)), .string ⟨#[]⟩, .slice none 0 0] 55)) B 23 23 55 i0 _ 3 48 Tryz.underlying23 hi hy0 hy1 hy2 rfl (by decide) _ _ _ hN3'.cards ⟨w3.heap.size, 0, none⟩ 1 1 [.bool (decide ((8 : Int) + F < 12)), .string ⟨#[]⟩, .slice none 0 0] rfl
    (fun j x hj => by
      match j, hj with
      | 0, hj => simp at hj; subst hj; simp [Addr.add]
      | 1, hj => simp at hj; subst hj; simp [Addr.add]
      | 2, hj => simp at hj; subst hj; simp [Addr.add])
    (fun x hx => by simp at hx; rcases hx with rfl | rfl | rfl <;> rfl) (by unfold maxLen; omega) (by omega) (by simp; have := HN3.out.bs; omega)
  obtain ⟨da, dcap, rfl⟩ := own_sl ho
  have HRUN := Lib.hid hrun
  have HRD := Lib.hid (HN3.out.begin HW3.out ho hg)
  have HFRa := Lib.hid (HN3.out.beginFr (cv' := .slice da (D.length + 1) dcap) (Fr.refl w3) HW3.out hg)
  have HFR := Lib.hid (HN3.out.beginFr (cv' := .slice da (D.length + 1) dcap) HF3.out HW3.out hg)
  have HBR := Lib.hid (HN3.out.beginBelow (cv' := .slice da (D.length + 1) dcap) HB3.out HW3.out hg)
  have hT := Turns.grown hg (own_kind hN3'.cards)
  have hr4 := hT.block _ _ _ _ hN3'.rd (by decide)
  have z0 : w4.cell? ⟨R, 0, none⟩ = some (.slice ca D.length ccap) := Joins.cell_of_block hr4 0
  have z1 := Joins.unfrozen_of_block hr4 0
  clear hrun ho hg hN3' hT hr4 hy0 hy1 hy2 hi
  go_upto_region 6 with (at_builtin; refine wp_append_run rfl (.tmp 19) (.tmp 23) _ rfl _ _ _ _ rfl rfl HRUN.out ?_)
  obtain ⟨w5, hw5⟩ : ∃ w5, w5 = w4.setCell ⟨R, 0, none⟩ (.slice da (D.length + 1) dcap) := ⟨_, rfl⟩
  rw [← hw5] at HRD HFR HBR HFRa ⊢
  clear hw5 y0 z0 z1 HRUN
  have k5 : BoxAt w.heap.size n s w5 := HFRa.out.block _ _ _ _ HK03.out (.inl rfl)
  have k51 : w5.heap[w.heap.size + 1]? = some (.cells #[.int .i64 0, .int .i64 0, .int .i64 0] 28 (0, 0)) := HFRa.out.block _ _ _ _ HK13.out (.inr (.inl rfl))
  obtain ⟨x0, x1⟩ := k5.cells
  have HK51 := Lib.hid k51
  have hlt5 : w.heap.size < w5.heap.size := lt_of_block k5
  clear k5 k51
  have hcol : (8 : Int) + F = ((F + 8 : Nat) : Int) := by omega
  have HCOL := Lib.hid hcol; clear hcol
  have hdec : decide ((8 : Int) + F < 12) = decide (fstN (textOf s.data.toList) < 4) := by
    rw [HFT.out, ← HF.out, decide_eq_decide]; omega
  have HDEC := Lib.hid hdec; clear hdec
  rw [HDEC.out] at HRD
  have HALEN : Hid (F + 8 - 8 ≤ (areasB s.data.toList).length) := by
    have := HK.out
    rw [← HF.out] at this
    show _ ≤ _; omega
  go_wp2_with fail
  rw [HCOL.out]
  refine (c_add (c := ⟨decide (fstN (textOf s.data.toList) < 4), [], []⟩) n (F + 8) s w5 HRD.out hs (by omega) (by omega) HALEN.out (by simp) (by simp) (by omega)).mono ?_
  rintro e w6 ⟨rfl, hb6, hf6, tv6, mv6, hr6⟩
  have k61 : w6.heap[w.heap.size + 1]? = some (.cells #[.int .i64 0, .int .i64 0, .int .i64 0] 28 (0, 0)) := hf6.block _ _ _ _ HK51.out (.inr (.inl rfl))
  have HB6 : Hid (Below B w w6) := HBR.out.trans hb6
  have HF6 : Hid (Fr w w6) := HFR.out.trans hf6
  have HR6 := Lib.hid hr6
  have HK61 := Lib.hid k61
  have c0 : w6.cell? ⟨w.heap.size + 1, 0, none⟩ = some (.int .i64 0) := Joins.cell_of_block k61 0
  have c1 : w6.cell? ⟨w.heap.size + 1, 1, none⟩ = some (.int .i64 0) := Joins.cell_of_block k61 1
  have c2 : w6.cell? ⟨w.heap.size + 1, 2, none⟩ = some (.int .i64 0) := Joins.cell_of_block k61 2
  have f0 := Joins.unfrozen_of_block k61 0
  have f1 := Joins.unfrozen_of_block k61 1
  have f2 := Joins.unfrozen_of_block k61 2
  obtain ⟨r0, r1, r2⟩ := faultCells (u := .int .i64 0) (v := .int .i64 0) (x := .int .i64 0) k61
  clear hb6 hf6 hr6 k61 x0 x1
  go_wp2
  refine bodyPost_ret (v := zeroF) (by simp [results, Tryz.results23, go_sem, r0, r1, r2, zeroF]) rfl ⟨((HB6.out.setCell (by simp; omega) _).setCell (by simp; omega) _).setCell (by simp; omega) _, ((HF6.out.newCell (by omega) _ _).newCell (by omega) _ _).newCell (by omega) _ _, rfl, .inr ⟨_, w5.heap.size, .slice da (D.length + 1) dcap, tv6, mv6, D, rfl, HD.out, ?_⟩⟩
  · have hT0 := HR6.out.turnsF (Turns.setCell HK61.out 0 (.int .i64 0))
    have b1 := Joins.block_setCell (i := 0) HK61.out (.int .i64 0)
    have hT1 := hT0.turnsF (Turns.setCell b1 1 (.int .i64 0))
    have b2 := Joins.block_setCell (i := 1) b1 (.int .i64 0)
    have hT2 := hT1.turnsF (Turns.setCell b2 2 (.int .i64 0))
    rw [HFT.out, ← HF.out]
    have e : F + 8 - 8 = F := by omega
    rw [e] at hT2
    have e2 : openB ((⟨decide (fstN (textOf s.data.toList) < 4), [], []⟩ : Kard).plus (tailB ((textOf s.data.toList).drop F) []) n (F + 8)).text = openB ((⟨decide (fstN (textOf s.data.toList) < 4), [], []⟩ : Kard).text ++ tailB ((textOf s.data.toList).drop F) []) := rfl
    rw [HFT.out, ← HF.out] at hT2 e2
    rw [e2]
    exact hT2
end Go.Proofs.YtpalfhfbgfnacaaGreatDoor
