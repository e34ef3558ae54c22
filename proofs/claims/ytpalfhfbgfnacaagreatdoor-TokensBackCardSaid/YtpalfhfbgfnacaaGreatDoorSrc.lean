/-
  The contract of package tokens' Source.
-/
import Derived.Test.YtpalfhfbgfnacaaGreatDoorSc7
namespace Go.Proofs.YtpalfhfbgfnacaaGreatDoor
open Go.RowKit
set_option linter.unusedVariables false
set_option linter.unusedSimpArgs false
attribute [local go_sem] eqFault guardFault neqFault

def Kard.toI (c : Kard) : ICard := ⟨c.left, c.text, c.marks.map fun m => ((m.1 : Int), (m.2.1 : Int), (m.2.2 : Int))⟩
theorem mkIn_of {w : World} {m : Value} {ms : List (Nat × Nat × Nat)} (h : MarksAt w m ms) : MkIn w.heap.size w m (ms.map fun m => ((m.1 : Int), (m.2.1 : Int), (m.2.2 : Int))) := by
  rcases h with ⟨rfl, rfl⟩ | ⟨b, o, cap, rfl, h1, h2, h3⟩
  · exact ⟨none, 0, rfl, Nat.le_refl _, by simp, fun h => absurd h (by simp)⟩
  · refine ⟨some ⟨b, o, none⟩, cap, by rw [List.length_map], by rw [List.length_map]; exact h1, by rw [List.length_map]; omega, fun hl => ?_⟩
    rw [List.length_map] at hl
    have h0 := (h3 0 _ (List.getElem?_eq_getElem hl)).1
    refine ⟨b, o, rfl, lt_of_cellR h0, fun k x hx => ?_⟩
    rw [List.getElem?_map] at hx
    cases hk : ms[k]? with
    | none => rw [hk] at hx; cases hx
    | some y =>
      rw [hk] at hx
      injection hx with hx
      subst hx
      exact h3 k y hk
theorem cardsIn_of {w : World} {v : Value} {ks : List Kard} (h : KardsAt w v ks) (ht : ∀ c ∈ ks, c.text.length ≤ 134217728) : CardsIn w.heap.size w v (ks.map Kard.toI) := by
  rcases h with ⟨rfl, rfl⟩ | ⟨b, o, cap, rfl, h1, h2, h3⟩
  · exact ⟨none, 0, rfl, by simp, fun h => absurd h (by simp)⟩
  · refine ⟨some ⟨b, o, none⟩, cap, by rw [List.length_map], by rw [List.length_map]; exact h2, fun hl => ?_⟩
    rw [List.length_map] at hl
    have h0 := (h3 0 _ (List.getElem?_eq_getElem hl)).1
    refine ⟨b, o, rfl, lt_of_cellR h0, fun k x hx => ?_⟩
    rw [List.getElem?_map] at hx
    cases hk : ks[k]? with
    | none => rw [hk] at hx; cases hx
    | some c =>
      rw [hk] at hx
      injection hx with hx
      subst hx
      obtain ⟨a1, a2, m, a3, a4⟩ := h3 k c hk
      exact ⟨ht c (List.mem_of_getElem? hk), a1, a2, m, a3, mkIn_of a4⟩
theorem CardsIn.lift {w w' : World} {v : Value} {L : List ICard} (h : CardsIn w.heap.size w v L) (hb : Below w.heap.size w w') : CardsIn w'.heap.size w' v L := by
  obtain ⟨a, cap, h1, h2, h3⟩ := h
  refine ⟨a, cap, h1, h2, fun hl => ?_⟩
  obtain ⟨b, o, e, hlt, hc⟩ := h3 hl
  refine ⟨b, o, e, Nat.lt_of_lt_of_le hlt hb.size, fun k c hk => ?_⟩
  obtain ⟨a0, a1, a2, m, a3, a4⟩ := hc k c hk
  exact ⟨a0, (hb.cell hlt).trans a1, (hb.cell hlt).trans a2, m, (hb.cell hlt).trans a3, (a4.below hb).more hb.size⟩
/-- A fault's block turns: tokens elsewhere read as before. -/
theorem TkOut.turnsF {w w' : World} {F : Nat} {v : Value} {L : List Tok} {a b c : Value} (h : TkOut w v L) (hw : w' = (((w.setCell ⟨F, 0, none⟩ a).setCell ⟨F, 1, none⟩ b).setCell ⟨F, 2, none⟩ c)) (hF : FltBlk w F) : TkOut w' v L := by
  subst hw
  obtain ⟨a', h1, h2, h3⟩ := h
  refine ⟨a', h1, ?_, h3⟩
  obtain ⟨x, cap, e1, e2, e3, e4⟩ := h2
  refine ⟨x, cap, e1, e2, e3, fun hl => ?_⟩
  obtain ⟨b', o, e, hlt, hc⟩ := e4 hl
  have hne : b' ≠ F := by
    intro e5
    subst e5
    have hk0 : L[0]? = some L[0] := List.getElem?_eq_getElem hl
    have hcell : ∀ j u, w.cell? ⟨b', j, none⟩ = some u → j < 3 ∧ u = .int .i64 0 := fun j u hu => by
      rw [Joins.cell_of_block hF j] at hu
      match j, hu with
      | 0, hu => exact ⟨by decide, by injection hu with hu; exact hu.symm⟩
      | 1, hu => exact ⟨by decide, by injection hu with hu; exact hu.symm⟩
      | 2, hu => exact ⟨by decide, by injection hu with hu; exact hu.symm⟩
      | j + 3, hu => simp at hu
    have := (hcell _ _ (hc 0 _ hk0).2.2.2.2.2).2
    cases this
  have hkeep : ∀ j, (((w.setCell ⟨F, 0, none⟩ a).setCell ⟨F, 1, none⟩ b).setCell ⟨F, 2, none⟩ c).cell? ⟨b', j, none⟩ = w.cell? ⟨b', j, none⟩ := fun j => by
    have hb : (((w.setCell ⟨F, 0, none⟩ a).setCell ⟨F, 1, none⟩ b).setCell ⟨F, 2, none⟩ c).heap[b']? = w.heap[b']? :=
      (Below.heap_setCell _ ⟨F, 2, none⟩ _ b' hne).trans ((Below.heap_setCell _ ⟨F, 1, none⟩ _ b' hne).trans (Below.heap_setCell _ ⟨F, 0, none⟩ _ b' hne))
    unfold World.cell?
    rw [hb]
  refine ⟨b', o, e, by simpa using hlt, fun k t hk => ?_⟩
  obtain ⟨a0, a1, a2, a3, a4, a5⟩ := hc k t hk
  exact ⟨a0, (hkeep _).trans a1, (hkeep _).trans a2, (hkeep _).trans a3, (hkeep _).trans a4, (hkeep _).trans a5⟩
/-- What Source returns. -/
def sourceB (text : List UInt8) (debug : Bool) : (Nat × Int × Int) ⊕ List Tok :=
  match readBU true text debug with
  | .inl f => .inl (f.1, f.2.1, f.2.2)
  | .inr ks => scanB true (ks.map Kard.toI) []
set_option maxHeartbeats 2000000 in
set_option maxRecDepth 100000 in
theorem c_Source (s : ByteArray) (debug : Bool) (w : World) (hx : MaxLenAt w) (hg : SignsAt w) :
    Calls Tryz.prog 9 #[.string s, .bool debug] w (ScanAll (sourceB s.data.toList debug) w) := by
  obtain ⟨W, hW⟩ : ∃ W, W = w.alloc (.cells #[.int .i64 0, .int .i64 0, .int .i64 0] 28) := ⟨_, rfl⟩
  have hWB : Below w.heap.size w W := by rw [hW]; exact (Below.refl _ _).alloc (Nat.le_refl _) _
  have hWF : FltBlk W w.heap.size := by rw [hW]; exact heap_alloc_new w _
  have hml : 1 < w.heap.size := by obtain ⟨m, hm⟩ := hx; exact lt_of_cellR hm
  have hgl := hg.lt
  have hwW : w.heap.size < W.heap.size := lt_of_block hWF
  have HX := Lib.hid (hx.bel hml hWB)
  have HG := Lib.hid (hg.below hgl hWB)
  have HREAD := Lib.hid (c_Read s debug W HX.out)
  have HWB := Lib.hid hWB
  have HWF := Lib.hid hWF
  clear hx hg hWB hWF
  go_enter Tryz.func9, Tryz.ntmps9
  go_upto_region 1 with fail
  rw [← hW]
  clear hW
  cases hres : readBU true s.data.toList debug with
  | inl f =>
    obtain ⟨f1, f2, f3⟩ := f
    have HSRC : Hid (sourceB s.data.toList debug = .inl (f1, f2, f3)) := by show _ = _; unfold sourceB; rw [hres]
    go_upto_region 2 with (go_at_call 8; refine HREAD.out.mono ?_; rintro e w5 hp; unfold ReadPost at hp; rw [hres] at hp; unfold faultN at hp; obtain ⟨hb5, rfl, hf0⟩ := hp)
    have e0 : ((f1 : Int) == 0) = false := by rw [beq_eq_false_iff_ne]; have : f1 ≠ 0 := hf0; omega
    have hF5 : FltBlk w5 w.heap.size := (hb5.block _ hwW).trans HWF.out
    have hwF : w.heap.size < w5.heap.size := lt_of_block hF5
    have hB6 : Below w5.heap.size w5 (w5.alloc (.cells #[.int .i64 f1, .int .i64 f2, .int .i64 f3] 28)) := (Below.refl _ _).alloc (Nat.le_refl _) _
    have HB6 : Hid (Below w.heap.size w (w5.alloc (.cells #[.int .i64 f1, .int .i64 f2, .int .i64 f3] 28))) := (HWB.out.trans (hb5.mono (by omega))).trans (hB6.mono (Nat.le_of_lt hwF))
    have HF6 : Hid (FltBlk (w5.alloc (.cells #[.int .i64 f1, .int .i64 f2, .int .i64 f3] 28)) w.heap.size) := (hB6.block _ hwF).trans hF5
    have HD6 : Hid ((w5.alloc (.cells #[.int .i64 f1, .int .i64 f2, .int .i64 f3] 28)).heap[w5.heap.size]? = some (.cells #[.int .i64 f1, .int .i64 f2, .int .i64 f3] 28 (0, 0))) := heap_alloc_new w5 _
    obtain ⟨D, hD⟩ : ∃ D, D = w5.heap.size := ⟨_, rfl⟩
    have hFD : w.heap.size < D := by rw [hD]; exact hwF
    rw [← hD] at HD6 ⊢
    clear hF5 hwF hB6 hD hb5 HREAD hres
    generalize w5.alloc (.cells #[.int .i64 f1, .int .i64 f2, .int .i64 f3] 28) = w6 at *
    obtain ⟨k0, k1, k2⟩ : w6.cell? ⟨D, 0, none⟩ = some (.int .i64 f1) ∧ w6.cell? ⟨D, 1, none⟩ = some (.int .i64 f2) ∧ w6.cell? ⟨D, 2, none⟩ = some (.int .i64 f3) := ⟨Joins.cell_of_block HD6.out 0, Joins.cell_of_block HD6.out 1, Joins.cell_of_block HD6.out 2⟩
    obtain ⟨⟨y0, y1, y2⟩, q0, q1, q2⟩ := HF6.out.cells
    go_upto_region 3 with fail
    clear e0
    have hDne : D ≠ w.heap.size := by omega
    have HEND := Lib.hid (flt_end HF6.out HB6.out (.int .i64 f1) (.int .i64 f2) (.int .i64 f3))
    go_cut [4] (fun s2 wx => s2 = .slice none 0 0 ∧ Hid (FltEnd w w.heap.size (.int .i64 f1) (.int .i64 f2) (.int .i64 f3) wx))
    case first =>
      go_region_law (fail)
      all_goals
        go_wp2_with fail
        go_meet
        exact ⟨rfl, HEND.out⟩
    case rest =>
      obtain ⟨rfl, HE⟩ := hcut
      obtain ⟨hb9, d0, d1, d2⟩ := HE.out
      go_wp2
      refine bodyPost_ret (by simp [results, Tryz.results9, go_sem, d0, d1, d2]; try rfl) rfl ?_
      refine ⟨hb9, ?_⟩
      rw [HSRC.out]
      exact ⟨rfl, hf0⟩
  | inr ks =>
    have HSRC0 : Hid (sourceB s.data.toList debug = scanB true (ks.map Kard.toI) []) := by show _ = _; unfold sourceB; rw [hres]
    go_upto_region 2 with (go_at_call 8; refine HREAD.out.mono ?_; rintro e w5 hp; unfold ReadPost at hp; rw [hres] at hp; unfold zeroF at hp; obtain ⟨hb5, v, rfl, hka, _⟩ := hp; have hvs : ∃ a n c, v = .slice a n c := (by rcases hka with ⟨e, _⟩ | ⟨b, o, cap, e, _⟩ <;> exact ⟨_, _, _, e⟩))
    have hF5 : FltBlk w5 w.heap.size := (hb5.block _ hwW).trans HWF.out
    have hwF : w.heap.size < w5.heap.size := lt_of_block hF5
    have hB6 : Below w5.heap.size w5 (w5.alloc (.cells #[.int .i64 0, .int .i64 0, .int .i64 0] 28)) := (Below.refl _ _).alloc (Nat.le_refl _) _
    have HB6 : Hid (Below w.heap.size w (w5.alloc (.cells #[.int .i64 0, .int .i64 0, .int .i64 0] 28))) := (HWB.out.trans (hb5.mono (by omega))).trans (hB6.mono (Nat.le_of_lt hwF))
    have HF6 : Hid (FltBlk (w5.alloc (.cells #[.int .i64 0, .int .i64 0, .int .i64 0] 28)) w.heap.size) := (hB6.block _ hwF).trans hF5
    have HD6 : FltBlk (w5.alloc (.cells #[.int .i64 0, .int .i64 0, .int .i64 0] 28)) w5.heap.size := heap_alloc_new w5 _
    have HSCAN : Hid (Calls Tryz.prog 11 #[v] (w5.alloc (.cells #[.int .i64 0, .int .i64 0, .int .i64 0] 28)) (ScanAll (scanB true (ks.map Kard.toI) []) (w5.alloc (.cells #[.int .i64 0, .int .i64 0, .int .i64 0] 28)))) := by
      have hk6 := (cardsIn_of hka (fun c hc => by
        have := (readBU_bnd true debug _ ks hres)
        have h2 := this.2.2 c hc
        omega))
      have hm5 : 1 < w5.heap.size := by omega
      have hg5 : 0 < w5.heap.size := by omega
      exact c_Scan v _ _ (hk6.lift hB6) ((HX.out.bel (by omega) hb5).bel hm5 hB6) ((HG.out.below (by omega) hb5).below hg5 hB6)
    obtain ⟨D, hD⟩ : ∃ D, D = w5.heap.size := ⟨_, rfl⟩
    have hFD : w.heap.size < D := by rw [hD]; exact hwF
    rw [← hD] at HD6 ⊢
    clear hF5 hwF hB6 hD hb5 HREAD hres hka
    obtain ⟨va, vn, vcap, rfl⟩ : ∃ a n c, v = .slice a n c := hvs
    generalize w5.alloc (.cells #[.int .i64 0, .int .i64 0, .int .i64 0] 28) = w6 at *
    obtain ⟨⟨k0, k1, k2⟩, _, _, _⟩ := HD6.cells
    clear HD6
    have hw6 : w.heap.size < w6.heap.size := lt_of_block HF6.out
    cases hres2 : scanB true (ks.map Kard.toI) [] with
    | inl f =>
      obtain ⟨f1, f2, f3⟩ := f
      rw [hres2] at HSCAN
      go_upto_region 4 with fail
      go_wp2_with (go_at_call 11; refine HSCAN.out.mono ?_; rintro e w7 ⟨hb7, rfl, hf0⟩; have HF7 : Hid (FltBlk w7 w.heap.size) := (hb7.block _ hw6).trans HF6.out; have HB7 : Hid (Below w.heap.size w w7) := HB6.out.trans (hb7.mono (Nat.le_of_lt hw6)); obtain ⟨⟨y0, y1, y2⟩, q0, q1, q2⟩ := HF7.out.cells)
      obtain ⟨w9, hw9, hb9, ht9, d0, d1, d2⟩ := HF7.out.named HB7.out (Nat.le_refl _) (.int .i64 f1) (.int .i64 f2) (.int .i64 f3)
      rw [← hw9]
      clear hw9
      refine bodyPost_ret (by simp [results, Tryz.results9, go_sem, d0, d1, d2]; try rfl) rfl ?_
      refine ⟨hb9, ?_⟩
      rw [HSRC0.out, hres2]
      exact ⟨rfl, hf0⟩
    | inr acc =>
      rw [hres2] at HSCAN
      go_upto_region 4 with fail
      go_wp2_with (go_at_call 11; refine HSCAN.out.mono ?_; rintro e w7 ⟨hb7, v7, rfl, ho7⟩; have HF7 : Hid (FltBlk w7 w.heap.size) := (hb7.block _ hw6).trans HF6.out; have HB7 : Hid (Below w.heap.size w w7) := HB6.out.trans (hb7.mono (Nat.le_of_lt hw6)); obtain ⟨⟨y0, y1, y2⟩, q0, q1, q2⟩ := HF7.out.cells)
      obtain ⟨w9, hw9, hb9, ht9, d0, d1, d2⟩ := HF7.out.named HB7.out (Nat.le_refl _) (.int .i64 0) (.int .i64 0) (.int .i64 0)
      have ho9 := ho7.turnsF hw9 HF7.out
      rw [← hw9]
      clear hw9
      refine bodyPost_ret (by simp [results, Tryz.results9, go_sem, d0, d1, d2]; try rfl) rfl ?_
      refine ⟨hb9, ?_⟩
      rw [HSRC0.out, hres2]
      exact ⟨v7, rfl, ho9⟩
end Go.Proofs.YtpalfhfbgfnacaaGreatDoor
