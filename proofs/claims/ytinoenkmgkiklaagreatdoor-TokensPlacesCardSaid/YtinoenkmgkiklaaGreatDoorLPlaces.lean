/-
  The law TokensPlaces (columnsevenlaw03), walked.
-/
import Derived.Test.YtinoenkmgkiklaaGreatDoorLives3
import Derived.Test.YtinoenkmgkiklaaGreatDoorPlcL
import Derived.Deep.QuietTactic
import Derived.BigQuiet
namespace Go.Proofs.YtinoenkmgkiklaaGreatDoor
open Go.RowKit
set_option linter.unusedVariables false
set_option linter.unusedSimpArgs false
attribute [local go_sem] eqFault guardFault neqFault

/-- What the law's before holds in front of token i. -/
def BefT (T : List Tok) (i bl bc : Nat) : Prop := (i = 0 ∧ bl = 0 ∧ bc = 0) ∨ ∃ j t, i = j + 1 ∧ T[j]? = some t ∧ t.line = (bl : Int) ∧ t.col = (bc : Int)
theorem BefT.up {Lns : List (List UInt8)} {T : List Tok} {i bl bc : Nat} {t : Tok} {l c : Nat} (h : BefT T i bl bc) (hp : PlAll Lns T) (ht : T[i]? = some t) (hl : t.line = l) (hc : t.col = c) (h1 : 1 ≤ l) : bl < l ∨ (bl = l ∧ bc < c) := by
  rcases h with ⟨_, h2, _⟩ | ⟨j, u, rfl, hu, h2, h3⟩
  · left; omega
  · have := hp.2 j u t hu ht
    rcases this with h4 | ⟨h4, h5⟩
    · left; omega
    · right; omega
set_option maxHeartbeats 8000000 in
set_option maxRecDepth 100000 in
theorem l3places (text : ByteArray) (ht : text.size ≤ 9223372036854775807) (w : World) (hx : MaxLenAt w) (hg : SignsAt w) :
    Calls Tryz.prog 6 #[.string text] w fun e w' => e = .returned (.bool true) ∧ Below w.heap.size w w' := by
  have hml : 1 < w.heap.size := by obtain ⟨m, hm⟩ := hx; exact lt_of_cellR hm
  have HML := Lib.hid hml
  have HLIVE : Hid (∀ w1, Below w.heap.size w w1 → Calls Tryz.prog 10 #[] w1 fun e w' => e = .returned (.bool true) ∧ Below w.heap.size w w') := fun w1 hb =>
    (l3lives w1 (hx.bel hml hb) (hg.below hg.lt hb)).mono fun e w' h => ⟨h.1, hb.trans (h.2.mono hb.size)⟩
  have HSRC := Lib.hid (c_Source text false w hx hg)
  obtain ⟨m0, hm0⟩ := hx
  have HM0 : Hid (∀ w1, Below w.heap.size w w1 → w1.cell? ⟨1, 0, none⟩ = some (.int .i64 m0)) := fun w1 hb => (hb.cell (p := ⟨1, 0, none⟩) HML.out).trans hm0
  clear hg hml hm0
  by_cases hbig : (2000 : Int) < text.size
  · go_enter Tryz.func6, Tryz.ntmps6
    go_wp2_with (go_at_call 10; refine (HLIVE.out _ (Below.refl _ _)).mono ?_; rintro e w1 ⟨rfl, hb⟩)
    go_ret
    exact ⟨rfl, hb⟩
  have hT : text.size ≤ 2000 := by omega
  have HTS := Lib.hid (size_data text)
  clear hbig ht
  cases hres : sourceB text.data.toList false with
  | inl f =>
    obtain ⟨f1, f2, f3⟩ := f
    rw [hres] at HSRC
    go_enter Tryz.func6, Tryz.ntmps6
    go_upto_region 4 with (go_at_call 12; refine HSRC.out.mono ?_; rintro e w5 ⟨hb5, rfl, hf0⟩)
    have e0 : ((f1 : Int) == 0) = false := by rw [beq_eq_false_iff_ne]; have : f1 ≠ 0 := hf0; omega
    have HB6 : Hid (Below w.heap.size w (w5.alloc (.cells #[.int .i64 f1, .int .i64 f2, .int .i64 f3] 28))) := hb5.alloc hb5.size _
    have HD6 : Hid ((w5.alloc (.cells #[.int .i64 f1, .int .i64 f2, .int .i64 f3] 28)).heap[w5.heap.size]? = some (.cells #[.int .i64 f1, .int .i64 f2, .int .i64 f3] 28 (0, 0))) := heap_alloc_new w5 _
    obtain ⟨D, hD⟩ : ∃ D, D = w5.heap.size := ⟨_, rfl⟩
    rw [← hD] at HD6 ⊢
    clear hD hb5 HSRC hres hf0
    generalize w5.alloc (.cells #[.int .i64 f1, .int .i64 f2, .int .i64 f3] 28) = w6 at *
    obtain ⟨k0, k1, k2⟩ : w6.cell? ⟨D, 0, none⟩ = some (.int .i64 f1) ∧ w6.cell? ⟨D, 1, none⟩ = some (.int .i64 f2) ∧ w6.cell? ⟨D, 2, none⟩ = some (.int .i64 f3) := ⟨Joins.cell_of_block HD6.out 0, Joins.cell_of_block HD6.out 1, Joins.cell_of_block HD6.out 2⟩
    go_wp2_with (go_at_call 10; refine (HLIVE.out _ HB6.out).mono ?_; rintro e w7 ⟨rfl, hb⟩)
    go_ret
    exact ⟨rfl, hb⟩
  | inr T =>
    rw [hres] at HSRC
    have HPL := Lib.hid (source_places (by rw [← size_data]; omega) hres)
    clear hres
    obtain ⟨PN, hPN⟩ : ∃ n, n = (piecesA text).length := ⟨_, rfl⟩
    have HPN := Lib.hid hPN
    clear hPN
    go_enter Tryz.func6, Tryz.ntmps6
    go_upto_region 4 with (go_at_call 12; refine HSRC.out.mono ?_; rintro e w5 ⟨hb5, v, rfl, ho5⟩)
    have HB6 : Hid (Below w.heap.size w (w5.alloc (.cells #[.int .i64 0, .int .i64 0, .int .i64 0] 28))) := hb5.alloc hb5.size _
    have hD6 : FltBlk (w5.alloc (.cells #[.int .i64 0, .int .i64 0, .int .i64 0] 28)) w5.heap.size := heap_alloc_new w5 _
    have ho6 := ho5.below ((Below.refl w5.heap.size w5).alloc (Nat.le_refl _) (.cells #[.int .i64 0, .int .i64 0, .int .i64 0] 28))
    obtain ⟨D, hD⟩ : ∃ D, D = w5.heap.size := ⟨_, rfl⟩
    rw [← hD] at hD6 ⊢
    obtain ⟨a, rfl, ⟨a', cap', ev, hcap, hlen, hcells⟩, hT6⟩ := ho6
    injection ev with ea en ec
    subst ea; subst ec
    have HC := Lib.hid hcells
    clear hD hb5 HSRC ho5 hcells en
    generalize w5.alloc (.cells #[.int .i64 0, .int .i64 0, .int .i64 0] 28) = w6 at *
    obtain ⟨⟨k0, k1, k2⟩, _, _, _⟩ := hD6.cells
    go_upto_region 6 with fail
    clear k0 k1 k2 hD6
    go_upto_region 7 with (go_at_call 20; refine (c_split text m0 _ (HM0.out _ HB6.out) (by omega) w6.heap.size PN rfl HPN.out).mono ?_; rintro e w7 ⟨rfl, rfl⟩)
    have HP7 : Hid ((w6.alloc (.cells ((piecesA text).map Value.string).toArray 9)).heap[w6.heap.size]? = some (.cells ((piecesA text).map Value.string).toArray 9 (0, 0))) := heap_alloc_new w6 _
    have HB67 : Hid (Below w6.heap.size w6 (w6.alloc (.cells ((piecesA text).map Value.string).toArray 9))) := (Below.refl _ _).alloc (Nat.le_refl _) _
    obtain ⟨LB, hLB⟩ : ∃ n, n = w6.heap.size := ⟨_, rfl⟩
    have HLB := Lib.hid hLB
    rw [← hLB] at HP7 ⊢
    clear hLB
    generalize w6.alloc (.cells ((piecesA text).map Value.string).toArray 9) = w7 at *
    have hlb7 : LB < w7.heap.size := lt_of_block HP7.out
    go_upto_region 8 with fail
    have HN8 : Hid ((w7.alloc (.cells #[.int .i64 0, .int .i64 0] 26)).heap[w7.heap.size]? = some (.cells #[.int .i64 ((0 : Nat) : Int), .int .i64 ((0 : Nat) : Int)] 26 (0, 0))) := heap_alloc_new w7 _
    have HB78 : Hid (Below w7.heap.size w7 (w7.alloc (.cells #[.int .i64 0, .int .i64 0] 26))) := (Below.refl _ _).alloc (Nat.le_refl _) _
    obtain ⟨NB, hNB⟩ : ∃ n, n = w7.heap.size := ⟨_, rfl⟩
    have HNB := Lib.hid hNB
    rw [← hNB] at HN8 hlb7 ⊢
    clear hNB
    generalize w7.alloc (.cells #[.int .i64 0, .int .i64 0] 26) = w8 at *
    have HB8 : Hid (Below w.heap.size w w8) := by
      have h67 := HB67.out.size
      have h6 := HB6.out.size
      exact (HB6.out.trans (HB67.out.mono h6)).trans (HB78.out.mono (by omega))
    have HNBw : Hid (w.heap.size ≤ NB) := by
      have h67 := HB67.out.size
      have h6 := HB6.out.size
      show _ ≤ _
      rw [HNB.out]; omega
    have HCELL : Hid (∀ W, Below NB w8 W → (∀ k p, (piecesA text)[k]? = some p → W.cell? ⟨LB, k, none⟩ = some (.string p)) ∧ ∀ p : Addr, p.block < w6.heap.size → W.cell? p = w6.cell? p) := fun W hW => by
      have h67 := HB67.out.size
      have h78 : Below NB w7 w8 := by rw [HNB.out]; exact HB78.out
      refine ⟨fun k p hp => ?_, fun p hp => ?_⟩
      · rw [hW.cell (p := ⟨LB, k, none⟩) hlb7, h78.cell (p := ⟨LB, k, none⟩) hlb7, Joins.cell_of_block HP7.out k, List.getElem?_toArray, List.getElem?_map, hp]
        rfl
      · rw [hW.cell (by rw [HNB.out]; omega), h78.cell (by rw [HNB.out]; omega), HB67.out.cell hp]
    have HPD := Lib.hid (piecesA_data text)
    clear HB67 HB78 HP7
    go_wp2_with fail
    go_loopw [7] (fun iv wr => ∃ (i bl bc : Nat), i ≤ T.length ∧ iv = .int .i64 i ∧ Hid (wr.heap[NB]? = some (.cells #[.int .i64 bl, .int .i64 bc] 26 (0, 0))) ∧ Hid (Below NB w8 wr) ∧ Hid (BefT T i bl bc)) (fun iv _ => T.length - (intOf iv).toNat)
    case atStart => exact ⟨0, 0, 0, Nat.zero_le _, rfl, HN8, Below.refl _ _, .inl ⟨rfl, rfl, rfl⟩⟩
    case round =>
      obtain ⟨i, bl, bc, hi, rfl, HN, HB, HBF⟩ := hrel
      clear HN8
      by_cases hlt : i < T.length
      · obtain ⟨b0, o0, rfl, hbw, hc⟩ := HC.out (by omega)
        obtain ⟨t, hget⟩ : ∃ t, T[i]? = some t := ⟨_, List.getElem?_eq_getElem hlt⟩
        obtain ⟨e0, e1, e2, e3, e4, e5⟩ := hc i t hget
        obtain ⟨l, cl, bb, hl, hcl, p1, p2, p3, p4, p5, p6⟩ := HPL.out.1 t (List.mem_of_getElem? hget)
        have hup := HBF.out.up HPL.out hget hl hcl p1
        obtain ⟨l1, rfl⟩ : ∃ l1, l = l1 + 1 := ⟨l - 1, by omega⟩
        obtain ⟨c1, rfl⟩ : ∃ c1, cl = c1 + 1 := ⟨cl - 1, by omega⟩
        have HBN : Hid (BefT T (i + 1) (l1 + 1) (c1 + 1)) := .inr ⟨i, t, rfl, hget, hl, hcl⟩
        have hPN : PN = (piecesG [] text.data.toList).length := by rw [HPN.out, ← HPD.out, List.length_map]
        have hl1 : l1 < PN := by omega
        obtain ⟨pc, hpc⟩ : ∃ pc, (piecesA text)[l1]? = some pc := ⟨_, List.getElem?_eq_getElem (by rw [← HPN.out]; exact hl1)⟩
        have hgp : (piecesG [] text.data.toList).getD (l1 + 1 - 1) [] = pc.data.toList := by
          rw [← HPD.out, Nat.add_sub_cancel]
          simp [List.getD, hpc]
        rw [hgp, Nat.add_sub_cancel] at p5
        have hcs : c1 < pc.size := by have := lt_of_get p5; rwa [← size_data] at this
        have hpb := get_data pc c1 hcs
        rw [p5] at hpb
        injection hpb with hpb
        obtain ⟨tk, tt, tl, tc, tf⟩ := t
        simp only at hl hcl p4 p6 e0 e1 e2 e3 e4 e5
        have hl' : tl = (l1 : Int) + 1 := by rw [hl]; omega
        have hc' : tc = (c1 : Int) + 1 := by rw [hcl]; omega
        have hf' : tf = decide ((c1 : Int) + 1 ≤ 11) := by rw [p4, Bool.eq_iff_iff, decide_eq_true_iff, decide_eq_true_iff]; omega
        subst hl'; subst hc'; subst hf'
        obtain ⟨ts, hts⟩ : ∃ ts, ts = strL tt := ⟨_, rfl⟩
        rw [← hts] at e2
        have HTT : Hid (ts.data.toList = tt) := by show _ = _; rw [hts]; rfl
        have htz : 0 < ts.size := by rw [size_data, HTT.out]; exact List.length_pos_iff.2 p6.1
        have hte : ts.toList.isEmpty = false := by
          rw [ByteArray.toList_eq, HTT.out]
          cases htt : tt with
          | nil => exact absurd htt p6.1
          | cons x r => rfl
        have hfb : (tk = 3 → pc[c1].toNat = 34) ∧ (tk ≠ 3 → ts[0] = upB pc[c1]) := by
          refine ⟨fun h => by rw [← hpb]; exact p6.2.1 h, fun h => ?_⟩
          rw [← hpb, ← p6.2.2 h, ← HTT.out, head_get ts htz]
        have HFB := Lib.hid hfb
        have HQ : Hid (∀ W, Below NB w8 W → W.cell? ⟨b0, o0 + i * 5, none⟩ = some (.int .u8 tk) ∧ W.cell? ⟨b0, o0 + i * 5 + 1, none⟩ = some (.string ts) ∧ W.cell? ⟨b0, o0 + i * 5 + 2, none⟩ = some (.int .i64 ((l1 : Int) + 1)) ∧ W.cell? ⟨b0, o0 + i * 5 + 3, none⟩ = some (.int .i64 ((c1 : Int) + 1)) ∧ W.cell? ⟨b0, o0 + i * 5 + 4, none⟩ = some (.bool (decide ((c1 : Int) + 1 ≤ 11))) ∧ W.cell? ⟨LB, l1, none⟩ = some (.string pc)) := fun W hW => by
          obtain ⟨h1, h2⟩ := HCELL.out W hW
          exact ⟨(h2 _ hbw).trans e1, (h2 _ hbw).trans e2, (h2 _ hbw).trans e3, (h2 _ hbw).trans e4, (h2 _ hbw).trans e5, h1 l1 pc hpc⟩
        obtain ⟨q0, q1, q2, q3, q4, q5⟩ := HQ.out wr HB.out
        have hNw : NB < wr.heap.size := lt_of_block HN.out
        have hc1b : 7 ≤ c1 := by omega
        have hpcs : pc.size ≤ 2000 := by
          have h1 := pieces_le text.data.toList [] pc.data.toList (List.mem_of_getElem? (piecesA_get text l1 pc hpc))
          rw [← size_data, ← size_data] at h1
          simpa using Nat.le_trans h1 (by simpa using hT)
        have hPNs : PN ≤ 2002 := by
          have h1 := count_le2 text ⟨#[10]⟩
          rw [HPN.out, piecesA_len]
          omega
        clear hc hget hl hcl p1 p2 p3 p4 p5 p6 hpc hgp hpb hts hfb e1 e2 e3 e4 e5 hPN
        go_upto_region 12 with fail
        have HB9 : Hid (Below NB w8 (wr.alloc (.cells #[.int .i64 ((l1 : Int) + 1), .int .i64 ((c1 : Int) + 1)] 26))) := HB.out.alloc (by omega) _
        have HN9 : Hid ((wr.alloc (.cells #[.int .i64 ((l1 : Int) + 1), .int .i64 ((c1 : Int) + 1)] 26)).heap[NB]? = some (.cells #[.int .i64 bl, .int .i64 bc] 26 (0, 0))) := (Below.heap_alloc wr _ _ hNw).trans HN.out
        have HM9 : Hid ((wr.alloc (.cells #[.int .i64 ((l1 : Int) + 1), .int .i64 ((c1 : Int) + 1)] 26)).heap[wr.heap.size]? = some (.cells #[.int .i64 ((l1 : Int) + 1), .int .i64 ((c1 : Int) + 1)] 26 (0, 0))) := heap_alloc_new wr _
        obtain ⟨N9, hN9⟩ : ∃ n, n = wr.heap.size := ⟨_, rfl⟩
        rw [← hN9] at hNw HM9 ⊢
        clear hN9 q0 q1 q2 q3 q4 q5 HN HB
        generalize wr.alloc (.cells #[.int .i64 ((l1 : Int) + 1), .int .i64 ((c1 : Int) + 1)] 26) = w9 at *
        obtain ⟨q0, q1, q2, q3, q4, q5⟩ := HQ.out w9 HB9.out
        have n0 := Joins.cell_of_block HN9.out 0
        have n1 := Joins.cell_of_block HN9.out 1
        have m1 := Joins.cell_of_block HM9.out 0
        have m2 := Joins.cell_of_block HM9.out 1
        simp only [List.getElem?_toArray, List.getElem?_cons_zero, List.getElem?_cons_succ] at n0 n1 m1 m2
        have hw1 : IntKind.i64.wrap ((l1 : Int) + 1 - 1) = (l1 : Int) := by rw [IntWalk.i64_in _ (by omega)]; omega
        have hw3 : IntKind.i64.wrap (l1 : Int) = (l1 : Int) := IntWalk.i64_in _ (by omega)
        have hw5 : (0 : Int) ≤ (l1 : Int) := by omega
        have hw6 : (l1 : Int) < (PN : Int) := by omega
        go_cut [103] (fun b wx => b = .bool false ∧ ∃ nq, wx = w9.drewN nq)
        case first =>
          have hz1 : ¬ (l1 : Int) + 1 < 1 := by omega
          have hz2 : ¬ (PN : Int) < (l1 : Int) + 1 := by omega
          have hz3 : ¬ (c1 : Int) + 1 < 8 := by omega
          have hz4 : ¬ (pc.size : Int) < (c1 : Int) + 1 := by omega
          rcases hup with hup | ⟨hup, hup2⟩
          · have hq1 : ((l1 : Int) + 1 == (bl : Int)) = false := by simp; omega
            have hq2 : ¬ (l1 : Int) + 1 < bl := by omega
            clear hup
            go_quiet (fail)
            go_wp2_with fail
            go_meet
            exact ⟨rfl, _, rfl⟩
          · subst hup
            have hq2 : ¬ (l1 : Int) + 1 < ((l1 + 1 : Nat) : Int) := by omega
            have hq3 : ¬ (c1 : Int) + 1 ≤ bc := by omega
            go_quiet (fail)
            go_wp2_with fail
            go_meet
            exact ⟨rfl, _, rfl⟩
        case rest =>
          obtain ⟨rfl, nq, rfl⟩ := hcut
          --P1<
          have HB10 : Hid (Below NB w8 (w9.drewN nq)) := bdrewN nq HB9.out
          have HN10 : Hid ((w9.drewN nq).heap[NB]? = some (.cells #[.int .i64 bl, .int .i64 bc] 26 (0, 0))) := HN9.out
          have HM10 : Hid ((w9.drewN nq).heap[N9]? = some (.cells #[.int .i64 ((l1 : Int) + 1), .int .i64 ((c1 : Int) + 1)] 26 (0, 0))) := HM9.out
          clear q0 q1 q2 q3 q4 q5 n0 n1 m1 m2 HB9 HN9 HM9 hup
          generalize w9.drewN nq = w10 at *
          have n0 := Joins.cell_of_block HN10.out 0
          have n1 := Joins.cell_of_block HN10.out 1
          have nf0 := Joins.unfrozen_of_block HN10.out 0
          have nf1 := Joins.unfrozen_of_block HN10.out 1
          have m1 := Joins.cell_of_block HM10.out 0
          have m2 := Joins.cell_of_block HM10.out 1
          simp only [List.getElem?_toArray, List.getElem?_cons_zero, List.getElem?_cons_succ] at n0 n1 m1 m2
          have hne : N9 ≠ NB := by omega
          go_upto_region 15 with fail
          have HN11 : Hid (((w10.setCell ⟨NB, 0, none⟩ (.int .i64 ((l1 : Int) + 1))).setCell ⟨NB, 1, none⟩ (.int .i64 ((c1 : Int) + 1))).heap[NB]? = some (.cells #[.int .i64 ((l1 + 1 : Nat) : Int), .int .i64 ((c1 + 1 : Nat) : Int)] 26 (0, 0))) := Joins.block_setCell (i := 1) (Joins.block_setCell (i := 0) HN10.out (.int .i64 ((l1 : Int) + 1))) (.int .i64 ((c1 : Int) + 1))
          have HB11 : Hid (Below NB w8 ((w10.setCell ⟨NB, 0, none⟩ (.int .i64 ((l1 : Int) + 1))).setCell ⟨NB, 1, none⟩ (.int .i64 ((c1 : Int) + 1)))) := (HB10.out.setCell (p := ⟨NB, 0, none⟩) (Nat.le_refl _) _).setCell (p := ⟨NB, 1, none⟩) (Nat.le_refl _) _
          have HM11 : Hid (((w10.setCell ⟨NB, 0, none⟩ (.int .i64 ((l1 : Int) + 1))).setCell ⟨NB, 1, none⟩ (.int .i64 ((c1 : Int) + 1))).heap[N9]? = some (.cells #[.int .i64 ((l1 : Int) + 1), .int .i64 ((c1 : Int) + 1)] 26 (0, 0))) :=
            (Below.heap_setCell _ ⟨NB, 1, none⟩ _ N9 hne).trans ((Below.heap_setCell _ ⟨NB, 0, none⟩ _ N9 hne).trans HM10.out)
          clear n0 n1 nf0 nf1 m1 m2 HB10 HN10 HM10
          generalize (w10.setCell ⟨NB, 0, none⟩ (.int .i64 ((l1 : Int) + 1))).setCell ⟨NB, 1, none⟩ (.int .i64 ((c1 : Int) + 1)) = w11 at *
          obtain ⟨q0, q1, q2, q3, q4, q5⟩ := HQ.out w11 HB11.out
          have m1 := Joins.cell_of_block HM11.out 0
          have m2 := Joins.cell_of_block HM11.out 1
          simp only [List.getElem?_toArray, List.getElem?_cons_zero, List.getElem?_cons_succ] at m1 m2
          have hw2 : IntKind.i64.wrap ((c1 : Int) + 1 - 1) = (c1 : Int) := by rw [IntWalk.i64_in _ (by omega)]; omega
          have hw4 : IntKind.i64.wrap (c1 : Int) = (c1 : Int) := IntWalk.i64_in _ (by omega)
          have hw7 : (0 : Int) ≤ (c1 : Int) := by omega
          have hw8 : (c1 : Int) < (pc.size : Int) := by omega
          go_quiet (fail)
          have HB12 : Hid (Below NB w8 (w11.drewN nq)) := bdrewN nq HB11.out
          have HN12 : Hid ((w11.drewN nq).heap[NB]? = some (.cells #[.int .i64 ((l1 + 1 : Nat) : Int), .int .i64 ((c1 + 1 : Nat) : Int)] 26 (0, 0))) := HN11.out
          clear q0 q1 q2 q3 q4 q5 m1 m2 HB11 HN11 HM11 hw1 hw2 hw3 hw4
          generalize w11.drewN nq = w12 at *
          obtain ⟨q0, q1, q2, q3, q4, q5⟩ := HQ.out w12 HB12.out
          have u0 := u8lt pc[c1]
          have u1 := u8lt ts[0]
          by_cases h3 : tk = 3
          · have h34 := HFB.out.1 h3
            subst h3
            have s1 : ¬ (97 : Int) ≤ (pc[c1].toNat : Int) := by omega
            have s2 : ((pc[c1].toNat : Int) != 34) = false := by simp; omega
            clear h34
            go_wp2_with fail
            go_roundw
            case rel => exact ⟨i + 1, l1 + 1, c1 + 1, by omega, by go_num, HN12, HB12, HBN⟩
            case measure => simp [intOf]; omega
          · have hup3 := HFB.out.2 h3
            have hn := upB_toNat pc[c1]
            rw [← hup3] at hn
            have t1 : ((tk : Int) == 3) = false := by simp; omega
            have t2 : ((tk : Int) != 3) = true := by simp; omega
            by_cases hsm : 97 ≤ (pc[c1].toNat : Int) ∧ (pc[c1].toNat : Int) ≤ 122
            · have s3 : ((pc[c1].toNat : Int) - 32 != (ts[0].toNat : Int)) = false := by
                rw [if_pos (by unfold smallB; simp; omega)] at hn
                rw [bne_eq_false_iff_eq]; omega
              obtain ⟨g1, g2⟩ := hsm
              clear hn hup3 h3
              go_wp2_with fail
              go_roundw
              case rel => exact ⟨i + 1, l1 + 1, c1 + 1, by omega, by go_num, HN12, HB12, HBN⟩
              case measure => simp [intOf]; omega
            · have s3 : ((pc[c1].toNat : Int) != (ts[0].toNat : Int)) = false := by
                rw [if_neg (by unfold smallB; simp; omega)] at hn
                rw [bne_eq_false_iff_eq]; omega
              have h4 : ¬ 97 ≤ (pc[c1].toNat : Int) ∨ 97 ≤ (pc[c1].toNat : Int) ∧ ¬ (pc[c1].toNat : Int) ≤ 122 := by omega
              clear hn hup3 h3 hsm
              rcases h4 with g1 | ⟨g1, g2⟩
              all_goals
                go_wp2_with fail
                go_roundw
                case rel => exact ⟨i + 1, l1 + 1, c1 + 1, by omega, by go_num, HN12, HB12, HBN⟩
                case measure => simp [intOf]; omega
          --P1>
      · go_wp2_with (go_at_call 10; refine (HLIVE.out _ (HB8.out.trans (HB.out.mono HNBw.out))).mono ?_; rintro e w9 ⟨rfl, hb⟩)
        go_ret
        exact ⟨rfl, hb⟩
end Go.Proofs.YtinoenkmgkiklaaGreatDoor
