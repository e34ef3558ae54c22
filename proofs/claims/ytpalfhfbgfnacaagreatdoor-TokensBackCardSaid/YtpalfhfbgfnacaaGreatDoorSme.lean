/-
  The contract of package tokens' Same.
-/
import Derived.Test.YtpalfhfbgfnacaaGreatDoorTxt
namespace Go.Proofs.YtpalfhfbgfnacaaGreatDoor
open Go.RowKit
set_option linter.unusedVariables false
set_option linter.unusedSimpArgs false

theorem sameT_len : ∀ L M : List Tok, L.length ≠ M.length → sameT L M = false
  | [], [], h => absurd rfl h
  | [], _ :: _, _ => rfl
  | _ :: _, [], _ => rfl
  | a :: l, b :: m, h => by
    have := sameT_len l m (fun e => h (by simp [e]))
    simp [sameT, this]
theorem sameT_drop (L M : List Tok) (k : Nat) (a b : Tok) (ha : L[k]? = some a) (hb : M[k]? = some b) : sameT (L.drop k) (M.drop k) = (decide (a.kind = b.kind) && decide (a.text = b.text) && sameT (L.drop (k + 1)) (M.drop (k + 1))) := by
  rw [drop_get ha, drop_get hb]
  rfl
theorem sameT_self : ∀ L : List Tok, sameT L L = true
  | [] => rfl
  | a :: l => by simp [sameT, sameT_self l]
theorem ret_boolS {a b : Bool} (h : a = b) : Ending.returned (.bool a) = .returned (.bool b) := by rw [h]
theorem same1_enter (args : Array Value) (w : World) : (callFunc 37 args).run Tryz.prog w = .ok (.enter 37 args) w := by kernel_rfl
set_option maxRecDepth 100000 in
set_option maxHeartbeats 1000000 in
theorem same1_any (k1 k2 : Nat) (t1 t2 : ByteArray) (l1 l2 c1 c2 : Int) (f1 f2 : Bool) (w : World) :
    Calls Tryz.prog 37 #[.agg #[.int .u8 k1, .string t1, .int .i64 l1, .int .i64 c1, .bool f1], .agg #[.int .u8 k2, .string t2, .int .i64 l2, .int .i64 c2, .bool f2]] w fun e w' => e = .returned (.bool (decide (k1 = k2) && decide (t1.data.toList = t2.data.toList))) ∧ Below w.heap.size w w' := by
  have HB : Hid (Below w.heap.size w ((w.alloc (.cells #[.int .u8 k1, .string t1, .int .i64 l1, .int .i64 c1, .bool f1] 44)).alloc (.cells #[.int .u8 k2, .string t2, .int .i64 l2, .int .i64 c2, .bool f2] 44))) :=
    ((Below.refl _ _).alloc (Nat.le_refl _) _).alloc (by simp) _
  by_cases hk : k1 = k2
  · by_cases ht : t1 = t2
    · subst hk; subst ht
      go_enter Tryz.func37, Tryz.ntmps37
      go_wp2
      go_returns
      exact ⟨ret_boolS (by simp), HB.out⟩
    · subst hk
      have HT : Hid (decide (t1.data.toList = t2.data.toList) = false) := by
        show _ = _
        rw [decide_eq_false_iff_not]
        intro e
        exact ht (by rw [← strL_of t1, e, strL_of])
      go_enter Tryz.func37, Tryz.ntmps37
      go_wp2
      go_returns
      refine ⟨ret_boolS ?_, HB.out⟩
      rw [HT.out]
      simp
      intro e
      rw [ByteArray.toList_eq, ByteArray.toList_eq] at e
      exact ht (by rw [← strL_of t1, e, strL_of])
  · have hki : ¬ (k1 : Int) = (k2 : Int) := by omega
    have HK : Hid (decide (k1 = k2) = false) := by show _ = _; rw [decide_eq_false_iff_not]; exact hk
    clear hk
    go_enter Tryz.func37, Tryz.ntmps37
    go_wp2
    go_returns
    exact ⟨ret_boolS (by rw [HK.out]; simp), HB.out⟩
set_option maxRecDepth 100000 in
theorem go_same_calls (u v : Value) (w : World) (b : Bool) (h : Calls Tryz.prog 36 #[u, v, .func (.func 37) #[] #[]] w fun e w' => e = .returned (.bool b) ∧ Below w.heap.size w w') :
    Calls Tryz.prog 15 #[u, v] w fun e w' => e = .returned (.bool b) ∧ Below w.heap.size w w' := by
  have H := Lib.hid h
  clear h
  go_enter Tryz.func15, Tryz.ntmps15
  go_wp2_with fail
  refine H.out.mono ?_
  rintro e w1 ⟨rfl, hb⟩
  go_wp2
  go_returns
  exact ⟨rfl, hb⟩
theorem toks_cell {w : World} {b o cap : Nat} {L : List Tok} (h : ToksAt w (.slice (some ⟨b, o, none⟩) L.length cap) L) (k : Nat) (x : Tok) (hk : L[k]? = some x) :
    b < w.heap.size ∧ x.kind < 256 ∧ w.cell? ⟨b, o + k * 5, none⟩ = some (.int .u8 x.kind) ∧ w.cell? ⟨b, o + k * 5 + 1, none⟩ = some (.string (strL x.text)) ∧ w.cell? ⟨b, o + k * 5 + 2, none⟩ = some (.int .i64 x.line) ∧ w.cell? ⟨b, o + k * 5 + 3, none⟩ = some (.int .i64 x.col) ∧ w.cell? ⟨b, o + k * 5 + 4, none⟩ = some (.bool x.left) := by
  obtain ⟨a', cap', e, h2, h3, h4⟩ := h
  injection e with e1 e2 e3
  have := lt_of_get hk
  obtain ⟨b', o', e4, hb, hc⟩ := h4 (by omega)
  rw [e4] at e1
  injection e1 with e1
  injection e1 with e1 e5
  subst e1; subst e5
  exact ⟨hb, hc k x hk⟩
set_option maxRecDepth 100000 in
set_option maxHeartbeats 2000000 in
theorem c_same (u v : Value) (L M : List Tok) (w : World) (h : ToksAt w u L) (g : ToksAt w v M) :
    Calls Tryz.prog 15 #[u, v] w fun e w' => e = .returned (.bool (sameT L M)) ∧ Below w.heap.size w w' := by
  refine go_same_calls u v w _ ?_
  obtain ⟨a, cap, rfl, hcap, hlen, hcells⟩ := h
  obtain ⟨a2, cap2, rfl, hcap2, hlen2, hcells2⟩ := g
  have hen := same1_enter
  by_cases hne : L.length = M.length
  · rw [← hne]
    rw [← hne] at hcap2 hcells2 hlen2
    have HC := Lib.hid hcells
    have HC2 := Lib.hid hcells2
    have HNE := Lib.hid hne
    clear hcells hcells2 hne
    go_enter Tryz.func36, Tryz.ntmps36
    go_wp2_with fail
    go_loopw [17] (fun i wr => ∃ k : Nat, k ≤ L.length ∧ i = .int .i64 k ∧ Hid (sameT L M = sameT (L.drop k) (M.drop k)) ∧ Hid (Below w.heap.size w wr)) (fun i _ => L.length - (intOf i).toNat)
    case atStart => exact ⟨0, Nat.zero_le _, rfl, by simp [Hid], Below.refl _ _⟩
    case round =>
      obtain ⟨k, hk, rfl, HS, HB⟩ := hrel
      by_cases hlt : k < L.length
      · obtain ⟨b, o, rfl, hbw, hc⟩ := HC.out (by omega)
        obtain ⟨b2, o2, rfl, hbw2, hc2⟩ := HC2.out (by omega)
        obtain ⟨x, hget⟩ : ∃ x, L[k]? = some x := ⟨_, List.getElem?_eq_getElem hlt⟩
        obtain ⟨y, hget2⟩ : ∃ y, M[k]? = some y := ⟨_, List.getElem?_eq_getElem (by rw [← HNE.out]; exact hlt)⟩
        obtain ⟨e0, e1, e2, e3, e4, e5⟩ := hc k _ hget
        obtain ⟨_, g1, g2, g3, g4, g5⟩ := hc2 k _ hget2
        have HD := Lib.hid (HS.out.trans (sameT_drop L M k x y hget hget2))
        have hz := HB.out.size
        have hbr : b < wr.heap.size := by omega
        have hbr2 : b2 < wr.heap.size := by omega
        have d0 := (HB.out.cell (p := ⟨b, o + k * 5, none⟩) hbw).trans e1
        have d1 := (HB.out.cell (p := ⟨b, o + k * 5 + 1, none⟩) hbw).trans e2
        have d2 := (HB.out.cell (p := ⟨b, o + k * 5 + 2, none⟩) hbw).trans e3
        have d3 := (HB.out.cell (p := ⟨b, o + k * 5 + 3, none⟩) hbw).trans e4
        have d4 := (HB.out.cell (p := ⟨b, o + k * 5 + 4, none⟩) hbw).trans e5
        have q0 := (HB.out.cell (p := ⟨b2, o2 + k * 5, none⟩) hbw2).trans g1
        have q1 := (HB.out.cell (p := ⟨b2, o2 + k * 5 + 1, none⟩) hbw2).trans g2
        have q2 := (HB.out.cell (p := ⟨b2, o2 + k * 5 + 2, none⟩) hbw2).trans g3
        have q3 := (HB.out.cell (p := ⟨b2, o2 + k * 5 + 3, none⟩) hbw2).trans g4
        have q4 := (HB.out.cell (p := ⟨b2, o2 + k * 5 + 4, none⟩) hbw2).trans g5
        obtain ⟨xk, xt, xl, xc, xf⟩ := x
        obtain ⟨yk, yt, yl, yc, yf⟩ := y
        simp only at d0 d1 d2 d3 d4 q0 q1 q2 q3 q4 HD
        clear e1 e2 e3 e4 e5 g1 g2 g3 g4 g5 hc hc2 hget hget2 HS e0
        go_upto_region 7 with fail
        obtain ⟨w2, hw2⟩ : ∃ w2, w2 = (wr.alloc (.cells #[.int .u8 xk, .string (strL xt), .int .i64 xl, .int .i64 xc, .bool xf] 44)).alloc (.cells #[.int .u8 yk, .string (strL yt), .int .i64 yl, .int .i64 yc, .bool yf] 44) := ⟨_, rfl⟩
        have HB2 : Hid (Below w.heap.size w w2) := by
          show Below _ _ _
          rw [hw2]
          exact (HB.out.alloc hz _).alloc (by simp; omega) _
        have HX2 : Hid (w2.heap[wr.heap.size]? = some (.cells #[.int .u8 xk, .string (strL xt), .int .i64 xl, .int .i64 xc, .bool xf] 44 (0, 0))) := by
          show _ = _
          rw [hw2]
          exact (Below.heap_alloc _ _ _ (by simp)).trans (heap_alloc_new _ _)
        have HY2 : Hid (w2.heap[wr.heap.size + 1]? = some (.cells #[.int .u8 yk, .string (strL yt), .int .i64 yl, .int .i64 yc, .bool yf] 44 (0, 0))) := by
          show _ = _
          rw [hw2]
          have := heap_alloc_new (wr.alloc (.cells #[.int .u8 xk, .string (strL xt), .int .i64 xl, .int .i64 xc, .bool xf] 44)) (.cells #[.int .u8 yk, .string (strL yt), .int .i64 yl, .int .i64 yc, .bool yf] 44)
          simpa using this
        obtain ⟨N, hN⟩ : ∃ N, N = wr.heap.size := ⟨_, rfl⟩
        obtain ⟨N2, hN2⟩ : ∃ N2, N2 = wr.heap.size + 1 := ⟨_, rfl⟩
        rw [← hN2] at HY2
        rw [← hN] at HX2
        rw [← hw2, ← hN2, ← hN]
        clear d0 d1 d2 d3 d4 q0 q1 q2 q3 q4 hw2 hN hN2 HB hz hbr hbr2
        have y0 := Joins.cell_of_block HX2.out 0
        have y1 := Joins.cell_of_block HX2.out 1
        have y2 := Joins.cell_of_block HX2.out 2
        have y3 := Joins.cell_of_block HX2.out 3
        have y4 := Joins.cell_of_block HX2.out 4
        have z0 := Joins.cell_of_block HY2.out 0
        have z1 := Joins.cell_of_block HY2.out 1
        have z2 := Joins.cell_of_block HY2.out 2
        have z3 := Joins.cell_of_block HY2.out 3
        have z4 := Joins.cell_of_block HY2.out 4
        simp only [List.getElem?_toArray, List.getElem?_cons_zero, List.getElem?_cons_succ] at y0 y1 y2 y3 y4 z0 z1 z2 z3 z4
        have HCL := Lib.hid (same1_any xk yk (strL xt) (strL yt) xl yl xc yc xf yf w2)
        go_wp2_with fail
        refine HCL.out.mono ?_
        rintro e w3 ⟨rfl, hb3⟩
        have HB3 : Hid (Below w.heap.size w w3) := HB2.out.trans (hb3.mono HB2.out.size)
        clear hb3
        cases hd : (decide (xk = yk) && decide ((strL xt).data.toList = (strL yt).data.toList))
        · have HF : Hid (sameT L M = false) := by
            show _ = _
            rw [HD.out]
            rw [strL_data, strL_data] at hd
            rw [hd]
            rfl
          clear hd
          go_wp2
          go_returns
          exact ⟨ret_boolS HF.out.symm, HB3.out⟩
        · have HF : Hid (sameT L M = sameT (L.drop (k + 1)) (M.drop (k + 1))) := by
            show _ = _
            rw [HD.out]
            rw [strL_data, strL_data] at hd
            rw [hd]
            rfl
          clear hd
          go_wp2
          go_roundw
          case rel => exact ⟨k + 1, by omega, by go_num, HF, HB3⟩
          case measure => simp [intOf]; omega
      · have HT : Hid (sameT L M = true) := by
          show _ = _
          rw [HS.out, List.drop_of_length_le (by omega), List.drop_of_length_le (by rw [← HNE.out]; omega)]
          rfl
        go_wp2
        go_returns
        exact ⟨ret_boolS HT.out.symm, HB.out⟩
  · have HL := Lib.hid (sameT_len L M hne)
    have hne2 : ¬ (L.length : Int) = (M.length : Int) := by omega
    clear hcells hcells2
    go_enter Tryz.func36, Tryz.ntmps36
    go_wp2
    go_returns
    exact ⟨ret_boolS HL.out.symm, Below.refl _ _⟩
end Go.Proofs.YtpalfhfbgfnacaaGreatDoor
