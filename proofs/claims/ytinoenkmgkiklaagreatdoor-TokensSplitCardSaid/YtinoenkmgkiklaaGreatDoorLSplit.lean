/-
  The law TokensSplit (columnsevenlaw03), walked.
-/
import Derived.Test.YtinoenkmgkiklaaGreatDoorLives3
import Derived.Test.YtinoenkmgkiklaaGreatDoorSplL
import Derived.Test.YtinoenkmgkiklaaGreatDoorEqT
namespace Go.Proofs.YtinoenkmgkiklaaGreatDoor
open Go.RowKit
set_option linter.unusedVariables false
set_option linter.unusedSimpArgs false

theorem splitF_len : ∀ (M cur : List Tok), (splitF cur M).length ≤ M.length + (if cur = [] then 0 else 1)
  | [], cur => by unfold splitF; split <;> simp
  | t :: M, cur => by
    unfold splitF
    split
    · have := splitF_len M []
      simp only [if_true] at this
      simp only [List.length_cons]
      omega
    · have := splitF_len M (cur ++ [t])
      rw [if_neg (by simp)] at this
      simp only [List.length_cons]
      omega
theorem part_cells {w : World} {h : Nat} {p : List Tok} (hc : w.heap[h]? = some (.cells (toksC p).toArray 44 (0, 0))) (j : Nat) (t : Tok) (ht : p[j]? = some t) :
    w.cell? ⟨h, j * 5, none⟩ = some (.int .u8 t.kind) ∧ w.cell? ⟨h, j * 5 + 1, none⟩ = some (.string (strL t.text)) ∧ w.cell? ⟨h, j * 5 + 2, none⟩ = some (.int .i64 t.line) ∧ w.cell? ⟨h, j * 5 + 3, none⟩ = some (.int .i64 t.col) ∧ w.cell? ⟨h, j * 5 + 4, none⟩ = some (.bool t.left) := by
  have hk := toksC_get p j t ht
  have hcell : ∀ c u, c < 5 → (tokC t)[c]? = some u → w.cell? ⟨h, j * 5 + c, none⟩ = some u := fun c u hc5 hu => by
    rw [Joins.cell_of_block hc (j * 5 + c), List.getElem?_toArray, hk c hc5, hu]
  exact ⟨hcell 0 _ (by decide) rfl, hcell 1 _ (by decide) rfl, hcell 2 _ (by decide) rfl, hcell 3 _ (by decide) rfl, hcell 4 _ (by decide) rfl⟩
set_option maxHeartbeats 8000000 in
set_option maxRecDepth 100000 in
theorem l3split (v1 v2 : Value) (L M : List Tok) (w : World) (h1 : ToksAt w v1 L) (h2 : ToksAt w v2 M) (hl : L.length ≤ 100) (hm : M.length ≤ 100) (hx : MaxLenAt w) (hg : SignsAt w) :
    Calls Tryz.prog 7 #[v1, v2] w fun e w' => e = .returned (.bool true) ∧ Below w.heap.size w w' := by
  have hml : 1 < w.heap.size := by obtain ⟨m, hm⟩ := hx; exact lt_of_cellR hm
  have HLIVE : Hid (∀ w1, Below w.heap.size w w1 → Calls Tryz.prog 10 #[] w1 fun e w' => e = .returned (.bool true) ∧ Below w.heap.size w w') := fun w1 hb =>
    (l3lives w1 (hx.bel hml hb) (hg.below hg.lt hb)).mono fun e w' h => ⟨h.1, hb.trans (h.2.mono hb.size)⟩
  obtain ⟨sm, hsm⟩ : ∃ b, b = sameT L M := ⟨_, rfl⟩
  have HSM1 : Hid (∀ w1, Below w.heap.size w w1 → Calls Tryz.prog 18 #[v1, v2] w1 fun e w' => e = .returned (.bool sm) ∧ Below w.heap.size w w') := fun w1 hb => by
    rw [hsm]
    exact (c_same v1 v2 L M w1 (h1.below hb) (h2.below hb)).mono fun e w' h => ⟨h.1, hb.trans (h.2.mono hb.size)⟩
  have HSM2 : Hid (∀ w1, Below w.heap.size w w1 → Calls Tryz.prog 18 #[v1, v1] w1 fun e w' => e = .returned (.bool true) ∧ Below w.heap.size w w') := fun w1 hb => by
    have := c_same v1 v1 L L w1 (h1.below hb) (h1.below hb)
    rw [sameT_self] at this
    exact this.mono fun e w' h => ⟨h.1, hb.trans (h.2.mono hb.size)⟩
  obtain ⟨P, hP⟩ : ∃ P, P = splitF [] L := ⟨_, rfl⟩
  have hPl : P.length ≤ 100 := by
    have := splitF_len L []
    rw [← hP] at this
    simp at this
    omega
  have HSPL := Lib.hid (c_Split v1 L w h1)
  rw [← hP] at HSPL
  have HFA : Hid (FrontAt L P 0 0) := ⟨Nat.zero_le _, by rw [List.drop_zero, List.drop_zero, hP]⟩
  have HSMT := Lib.hid hsm
  obtain ⟨a, cap, rfl, hcap, hlen, hcells⟩ := h1
  obtain ⟨a2, cap2, rfl, hcap2, hlen2, hcells2⟩ := h2
  have HC := Lib.hid hcells
  have HC2 := Lib.hid hcells2
  clear hx hg hml hcells hcells2 hP hsm
  go_enter Tryz.func7, Tryz.ntmps7
  go_upto_region 3 with fail
  go_upto_region 4 with (go_at_call 21; refine HSPL.out.mono ?_; rintro e w1 ⟨r, rfl, ⟨pa, rfl, hpc⟩, hb1⟩)
  have HPC := Lib.hid hpc
  have HB1 := Lib.hid hb1
  clear hpc hb1 HSPL
  go_wp2_with fail
  go_loopw [6, 7] (fun kv iv wr => ∃ (i k : Nat), i ≤ P.length ∧ k ≤ L.length ∧ iv = .int .i64 i ∧ kv = .int .i64 k ∧ Hid (FrontAt L P i k) ∧ Hid (Below w1.heap.size w1 wr)) (fun _ iv _ => P.length - (intOf iv).toNat)
  case atStart => exact ⟨0, 0, Nat.zero_le _, Nat.zero_le _, rfl, rfl, HFA, Below.refl _ _⟩
  case round =>
    obtain ⟨i, k, hi, hk, rfl, rfl, HF, HB⟩ := hrel
    clear HFA
    by_cases hlt : i < P.length
    · obtain ⟨g, rfl, hgw, hps⟩ := HPC.out (by omega)
      obtain ⟨p, hp⟩ : ∃ p, P[i]? = some p := ⟨_, List.getElem?_eq_getElem hlt⟩
      obtain ⟨hh, pc0, hhw, hpcell⟩ := hps i p hp
      have d0 := (HB.out.cell (p := ⟨g, i, none⟩) hgw).trans pc0
      have HPB : Hid (w1.heap[hh]? = some (.cells (toksC p).toArray 44 (0, 0))) := hpcell
      have HGW := Lib.hid hgw
      have HPC0 := Lib.hid pc0
      have HFR := Lib.hid (HF.out.at_ hp)
      have HNX := Lib.hid (HF.out.next hp)
      have hpl : k + p.length ≤ L.length := by
        rcases HNX.out with ⟨t, ht, _⟩ | ⟨hh, _⟩
        · have := lt_of_get ht; omega
        · omega
      clear hps hp pc0 hpcell
      go_wp2_with fail
      go_quiet (fail)
      have HB5 : Hid (Below w1.heap.size w1 (wr.drewN nq)) := bdrewN nq HB.out
      clear d0 HB
      generalize wr.drewN nq = w5 at *
      have d0 := (HB5.out.cell (p := ⟨g, i, none⟩) HGW.out).trans HPC0.out
      go_wp2_with fail
      clear d0
      go_loopw [6, 8] (fun kv jv wr => ∃ (j K : Nat), j ≤ p.length ∧ K ≤ L.length ∧ jv = .int .i64 j ∧ kv = .int .i64 K ∧ Hid (K = k + j) ∧ Hid (Below w1.heap.size w1 wr)) (fun _ jv _ => p.length - (intOf jv).toNat)
      case atStart => exact ⟨0, k, Nat.zero_le _, hk, rfl, rfl, rfl, HB5⟩
      case round =>
        obtain ⟨j, K, hj, hK, rfl, rfl, HKK, HB6⟩ := hrel
        clear HB5
        have d0 := (HB6.out.cell (p := ⟨g, i, none⟩) HGW.out).trans HPC0.out
        by_cases hjp : j < p.length
        · obtain ⟨x, hx⟩ : ∃ x, p[j]? = some x := ⟨_, List.getElem?_eq_getElem hjp⟩
          obtain ⟨hLx, h6⟩ := HFR.out.get j x hx
          rw [← HKK.out] at hLx
          have hKL := lt_of_get hLx
          obtain ⟨b, o, rfl, hbw, hc⟩ := HC.out (by omega)
          obtain ⟨_, e1, e2, e3, e4, e5⟩ := hc K x hLx
          obtain ⟨p0, p1, p2, p3, p4⟩ := part_cells HPB.out j x hx
          have hh1 : hh < w1.heap.size := hhw
          have hbw1 : b < w1.heap.size := by have := HB1.out.size; omega
          obtain ⟨xk, xt, xl, xc, xf⟩ := x
          simp only at e1 e2 e3 e4 e5 p0 p1 p2 p3 p4 h6
          have q0 := (HB6.out.cell (p := ⟨b, o + K * 5, none⟩) hbw1).trans ((HB1.out.cell (p := ⟨b, o + K * 5, none⟩) hbw).trans e1)
          have q1 := (HB6.out.cell (p := ⟨b, o + K * 5 + 1, none⟩) hbw1).trans ((HB1.out.cell (p := ⟨b, o + K * 5 + 1, none⟩) hbw).trans e2)
          have q2 := (HB6.out.cell (p := ⟨b, o + K * 5 + 2, none⟩) hbw1).trans ((HB1.out.cell (p := ⟨b, o + K * 5 + 2, none⟩) hbw).trans e3)
          have q3 := (HB6.out.cell (p := ⟨b, o + K * 5 + 3, none⟩) hbw1).trans ((HB1.out.cell (p := ⟨b, o + K * 5 + 3, none⟩) hbw).trans e4)
          have q4 := (HB6.out.cell (p := ⟨b, o + K * 5 + 4, none⟩) hbw1).trans ((HB1.out.cell (p := ⟨b, o + K * 5 + 4, none⟩) hbw).trans e5)
          have r0 := (HB6.out.cell (p := ⟨hh, j * 5, none⟩) hh1).trans p0
          have r1 := (HB6.out.cell (p := ⟨hh, j * 5 + 1, none⟩) hh1).trans p1
          have r2 := (HB6.out.cell (p := ⟨hh, j * 5 + 2, none⟩) hh1).trans p2
          have r3 := (HB6.out.cell (p := ⟨hh, j * 5 + 3, none⟩) hh1).trans p3
          have r4 := (HB6.out.cell (p := ⟨hh, j * 5 + 4, none⟩) hh1).trans p4
          have h6i : ((xk : Int) == 6) = false := by simp; omega
          have hkc : decide ((K : Int) ≥ (L.length : Int)) = false := by simp; omega
          clear e1 e2 e3 e4 e5 p0 p1 p2 p3 p4 hc hx hLx h6
          generalize strL xt = xs at *
          go_wp2_with fail
          go_quiet (fail)
          have HB7 : Hid (Below w1.heap.size w1 (wr.drewN nq)) := bdrewN nq HB6.out
          clear d0 q0 q1 q2 q3 q4 r0 r1 r2 r3 r4 HB6
          go_wp2_with fail
          go_roundw
          case rel => exact ⟨j + 1, K + 1, by omega, by omega, by go_num, by go_num, by show _ = _; rw [HKK.out]; omega, HB7⟩
          case measure => simp [intOf]; omega
        · obtain rfl : j = p.length := by omega
          rcases HNX.out with ⟨t, ht, h6, hfa⟩ | ⟨hle, hp0, hiP, hfa⟩
          · rw [← HKK.out] at ht hfa
            have hKL := lt_of_get ht
            obtain ⟨b, o, rfl, hbw, hc⟩ := HC.out (by omega)
            obtain ⟨_, e1, _⟩ := hc K t ht
            have hbw1 : b < w1.heap.size := by have := HB1.out.size; omega
            rw [h6] at e1
            have q0 := (HB6.out.cell (p := ⟨b, o + K * 5, none⟩) hbw1).trans ((HB1.out.cell (p := ⟨b, o + K * 5, none⟩) hbw).trans e1)
            have HFA2 := Lib.hid hfa
            clear hc ht e1 hfa h6
            go_wp2_with fail
            go_roundw
            case rel => exact ⟨i + 1, K + 1, by omega, by omega, by go_num, by go_num, HFA2, HB6⟩
            case measure => simp [intOf]; omega
          · rw [← HKK.out] at hle hfa
            have HFA2 := Lib.hid hfa
            have hKL : ¬ K < L.length := by omega
            have hiP2 : ((i : Int) != (P.length : Int) - 1) = false := by simp; omega
            have hp02 : ((p.length : Int) == 0) = false := by rw [beq_eq_false_iff_ne]; omega
            clear hfa hle hiP
            go_wp2_with fail
            go_roundw
            case rel => exact ⟨i + 1, K, by omega, by omega, by go_num, rfl, HFA2, HB6⟩
            case measure => simp [intOf]; omega
    · obtain rfl : i = P.length := by omega
      have hke : k = L.length := HF.out.end_
      subst hke
      clear HF
      go_upto_region 20 with fail
      go_wp2_with fail
      have HS0 : Hid (SameAt L M 0 ((L.length : Int) == (M.length : Int))) := by
        have := same_start L M
        rw [show decide (L.length = M.length) = ((L.length : Int) == (M.length : Int)) from by rw [Bool.eq_iff_iff]; simp; omega] at this
        exact this
      have HB0 : Hid (Below w.heap.size w wr) := HB1.out.trans (HB.out.mono HB1.out.size)
      clear HB
      go_loopw [9, 10] (fun bv iv wr => ∃ (i : Nat) (b : Bool), i ≤ L.length ∧ iv = .int .i64 i ∧ bv = .bool b ∧ Hid (SameAt L M i b) ∧ Hid (Below w.heap.size w wr)) (fun _ iv _ => L.length - (intOf iv).toNat)
      case atStart => exact ⟨0, _, Nat.zero_le _, rfl, rfl, HS0, HB0⟩
      case round =>
        obtain ⟨i, b, hi, rfl, rfl, HS, HB⟩ := hrel
        clear HS0 HB0
        by_cases hgo : i < L.length ∧ b = true
        · obtain ⟨hlt, rfl⟩ := hgo
          have hml := HS.out.len
          obtain ⟨b1, o1, rfl, hbw1, hc1⟩ := HC.out (by omega)
          obtain ⟨b2, o2, rfl, hbw2, hc2⟩ := HC2.out (by omega)
          obtain ⟨x, hx⟩ : ∃ x, L[i]? = some x := ⟨_, List.getElem?_eq_getElem hlt⟩
          have hlt2 : i < M.length := by omega
          obtain ⟨y, hy⟩ : ∃ y, M[i]? = some y := ⟨_, List.getElem?_eq_getElem hlt2⟩
          have HST := Lib.hid (HS.out.step hx hy)
          obtain ⟨_, e1, e2, _, _, _⟩ := hc1 i x hx
          obtain ⟨_, g1, g2, _, _, _⟩ := hc2 i y hy
          have q0 := (HB.out.cell (p := ⟨b1, o1 + i * 5, none⟩) hbw1).trans e1
          have q1 := (HB.out.cell (p := ⟨b1, o1 + i * 5 + 1, none⟩) hbw1).trans e2
          have r0 := (HB.out.cell (p := ⟨b2, o2 + i * 5, none⟩) hbw2).trans g1
          have r1 := (HB.out.cell (p := ⟨b2, o2 + i * 5 + 1, none⟩) hbw2).trans g2
          obtain ⟨xk, xt, xl, xc, xf⟩ := x
          obtain ⟨yk, yt, yl, yc, yf⟩ := y
          simp only at q0 q1 r0 r1 HST
          obtain ⟨c1, hc1'⟩ : ∃ c, decide (xk = yk) = c := ⟨_, rfl⟩
          obtain ⟨c2, hc2'⟩ : ∃ c, decide (xt = yt) = c := ⟨_, rfl⟩
          have k1 : ((xk : Int) == (yk : Int)) = c1 := by rw [← hc1', Bool.eq_iff_iff]; simp; omega
          have k2 : ((strL xt).toList == (strL yt).toList) = c2 := by
            rw [← hc2', ByteArray.toList_eq, ByteArray.toList_eq, strL_data, strL_data, Bool.eq_iff_iff]; simp
          rw [hc1', hc2'] at HST
          clear hc1 hc2 hx hy e1 e2 g1 g2 hc1' hc2' hml
          generalize strL xt = xs at *
          generalize strL yt = ys at *
          cases c1 <;> cases c2
          all_goals
            go_wp2_with fail
            go_quiet (fail)
            have HB7 : Hid (Below w.heap.size w (wr.drewN nq)) := bdrewN nq HB.out
            clear q0 q1 r0 r1 HB
            go_wp2_with fail
            go_roundw
            case rel => exact ⟨i + 1, _, by omega, by go_num, rfl, HST, HB7⟩
            case measure => simp [intOf]; omega
        · have HSE : Hid (sm = b) := by
            show _ = _
            rw [HSMT.out]
            refine HS.out.done ?_
            cases b
            · exact .inl rfl
            · exact .inr (by
                rcases Nat.lt_or_ge i L.length with h | h
                · exact absurd ⟨h, rfl⟩ hgo
                · exact h)
          have hb : ((b : Bool) == b) = true := by cases b <;> rfl
          have hcase : i = L.length ∨ (i < L.length ∧ b = false) := by
            rcases Nat.lt_or_ge i L.length with h | h
            · right
              refine ⟨h, ?_⟩
              cases b
              · rfl
              · exact absurd ⟨h, rfl⟩ hgo
            · left; omega
          clear hgo
          obtain rfl := HSE.out
          rcases hcase with rfl | ⟨hlt, rfl⟩
          all_goals
            go_wp2_with (first | (go_at_call 18; refine (HSM1.out _ HB.out).mono ?_; rintro e w2 ⟨rfl, hb2⟩) | (go_at_call 18; refine (HSM2.out _ hb2).mono ?_; rintro e w3 ⟨rfl, hb3⟩) | (go_at_call 10; refine (HLIVE.out _ hb3).mono ?_; rintro e w4 ⟨rfl, hb4⟩))
            go_returns
            exact ⟨rfl, hb4⟩
set_option maxRecDepth 100000 in
theorem l3split_big (a1 a2 : Option Addr) (n1 n2 c1 c2 : Nat) (w : World) (hn : 100 < n1 ∨ 100 < n2) (hx : MaxLenAt w) (hg : SignsAt w) :
    Calls Tryz.prog 7 #[.slice a1 n1 c1, .slice a2 n2 c2] w fun e w' => e = .returned (.bool true) ∧ Below w.heap.size w w' := by
  have HLIVE := Lib.hid (l3lives w hx hg)
  clear hx hg
  rcases Nat.lt_or_ge 100 n1 with h1 | h1
  · clear hn
    go_enter Tryz.func7, Tryz.ntmps7
    go_wp2_with (go_at_call 10; refine HLIVE.out.mono ?_; rintro e w1 ⟨rfl, hb⟩)
    go_returns
    exact ⟨rfl, hb⟩
  · have h2 : 100 < n2 := by omega
    clear hn
    go_enter Tryz.func7, Tryz.ntmps7
    go_wp2_with (go_at_call 10; refine HLIVE.out.mono ?_; rintro e w1 ⟨rfl, hb⟩)
    go_returns
    exact ⟨rfl, hb⟩
end Go.Proofs.YtinoenkmgkiklaaGreatDoor
