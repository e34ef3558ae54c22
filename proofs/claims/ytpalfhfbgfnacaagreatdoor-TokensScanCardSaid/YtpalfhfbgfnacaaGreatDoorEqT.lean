/-
  Equality of two tokens, and the contract of the law's equal (columnsevenlaw03).
-/
import Derived.Test.YtpalfhfbgfnacaaGreatDoorGC
import Derived.Test.YtpalfhfbgfnacaaGreatDoorSme
import Derived.Test.YtpalfhfbgfnacaaGreatDoorFin
namespace Go.Proofs.YtpalfhfbgfnacaaGreatDoor
open Go.RowKit
set_option linter.unusedVariables false
set_option linter.unusedSimpArgs false

/-- Two tokens in cells are equal. -/
def eqT (k1 k2 : Int) (t1 t2 : ByteArray) (l1 l2 c1 c2 : Int) (f1 f2 : Bool) : Bool := decide (k1 = k2) && (decide (t1 = t2) && (decide (l1 = l2) && (decide (c1 = c2) && decide (f1 = f2))))
set_option maxHeartbeats 1000000 in
set_option maxRecDepth 100000 in
theorem eqTok (k1 k2 : Int) (t1 t2 : ByteArray) (l1 l2 c1 c2 : Int) (f1 f2 : Bool) (w : World) : (Op.equalIn 10000 44 (.agg #[.int .u8 k1, .string t1, .int .i64 l1, .int .i64 c1, .bool f1]) (.agg #[.int .u8 k2, .string t2, .int .i64 l2, .int .i64 c2, .bool f2])).run Tryz.prog w = .ok (eqT k1 k2 t1 t2 l1 l2 c1 c2 f1 f2) w := by
  have u1 := Tryz.underlying42
  have a1 := Tryz.isAgg42
  have z1 := Tryz.sizeOf42
  have u2 := Tryz.underlying9
  have a2 := Tryz.isAgg9
  have z2 := Tryz.sizeOf9
  have u3 := Tryz.underlying4
  have a3 := Tryz.isAgg4
  have z3 := Tryz.sizeOf4
  have a4 := Tryz.isAgg26
  have z4 := Tryz.sizeOf26
  have hS : Tryz.prog.underlying 44 = some (.struct (Tryz.prog.fieldsOf 44)) := by kernel_rfl
  have hp : Tryz.prog.stoodInHeld 44 = false := by kernel_rfl
  have hE := eqPosF 9997 l1 c1 l2 c2
  rw [show (10000 : Nat) = 9999 + 1 from rfl, run_equalIn_agg w 9999 44 _ _ hS hp]
  simp only [Program.fieldsOf, Tryz.underlying44]
  go_simp
  unfold eqT
  have ht : (t1.toList = t2.toList) = (t1 = t2) := propext ⟨fun e => by
    rw [ByteArray.toList_eq, ByteArray.toList_eq] at e
    rw [← strL_of t1, e, strL_of], fun e => by rw [e]⟩
  by_cases h1 : k1 = k2 <;> by_cases h2 : t1 = t2 <;> by_cases h3 : l1 = l2 <;> by_cases h4 : c1 = c2 <;> by_cases h5 : f1 = f2 <;> simp [h1, h2, h3, h4, h5, ht]
theorem guardTok (op : BinOp) (x y : Operand) (xs ys : Array Value) (w : World) : (eqGuard op 44 x y (.agg xs) (.agg ys)).run Tryz.prog w = .ok () w :=
  run_eqGuard_agg w op 44 x y xs ys (by kernel_rfl)
theorem neqTok (k1 k2 : Int) (t1 t2 : ByteArray) (l1 l2 c1 c2 : Int) (f1 f2 : Bool) (w : World) : (binOp .neq 44 (.agg #[.int .u8 k1, .string t1, .int .i64 l1, .int .i64 c1, .bool f1]) (.agg #[.int .u8 k2, .string t2, .int .i64 l2, .int .i64 c2, .bool f2])).run Tryz.prog w = .ok (.bool (!(eqT k1 k2 t1 t2 l1 l2 c1 c2 f1 f2))) w := by
  rw [run_neq_struct, eqTok]
  rfl
theorem ret_intS {a b : Int} (h : a = b) : Ending.returned (.int .i64 a) = .returned (.int .i64 b) := by rw [h]
attribute [local go_sem] eqTok guardTok neqTok
theorem eqT_toks (x y : Tok) : eqT x.kind y.kind (strL x.text) (strL y.text) x.line y.line x.col y.col x.left y.left = decide (x = y) := by
  obtain ⟨xk, xt, xl, xc, xf⟩ := x
  obtain ⟨yk, yt, yl, yc, yf⟩ := y
  have h1 : (strL xt = strL yt) = (xt = yt) := propext ⟨fun e => by rw [← strL_data xt, e, strL_data], fun e => by rw [e]⟩
  have h2 : ((xk : Int) = (yk : Int)) = (xk = yk) := propext ⟨fun e => by omega, fun e => by rw [e]⟩
  unfold eqT
  simp only [h1, h2]
  simp [Bool.and_assoc]
theorem toks_ne (x y : Tok) (h : x ≠ y) : ¬ ((x.kind : Int) = (y.kind : Int)) ∨ ((x.kind : Int) = (y.kind : Int) ∧ ¬ (strL x.text).toList = (strL y.text).toList) ∨ ((x.kind : Int) = (y.kind : Int) ∧ (strL x.text).toList = (strL y.text).toList ∧ ¬ x.line = y.line) ∨
    ((x.kind : Int) = (y.kind : Int) ∧ (strL x.text).toList = (strL y.text).toList ∧ x.line = y.line ∧ ¬ x.col = y.col) ∨ ((x.kind : Int) = (y.kind : Int) ∧ (strL x.text).toList = (strL y.text).toList ∧ x.line = y.line ∧ x.col = y.col ∧ ¬ x.left = y.left) := by
  by_cases h1 : (x.kind : Int) = (y.kind : Int)
  · by_cases h2 : (strL x.text).toList = (strL y.text).toList
    · by_cases h3 : x.line = y.line
      · by_cases h4 : x.col = y.col
        · by_cases h5 : x.left = y.left
          · refine absurd ?_ h
            rw [ByteArray.toList_eq, ByteArray.toList_eq, strL_data, strL_data] at h2
            obtain ⟨xk, xt, xl, xc, xf⟩ := x
            obtain ⟨yk, yt, yl, yc, yf⟩ := y
            simp only at h1 h2 h3 h4 h5
            have : xk = yk := by omega
            subst this; subst h2; subst h3; subst h4; subst h5
            rfl
          · exact .inr (.inr (.inr (.inr ⟨h1, h2, h3, h4, h5⟩)))
        · exact .inr (.inr (.inr (.inl ⟨h1, h2, h3, h4⟩)))
      · exact .inr (.inr (.inl ⟨h1, h2, h3⟩))
    · exact .inr (.inl ⟨h1, h2⟩)
  · exact .inl h1
set_option maxRecDepth 100000 in
set_option maxHeartbeats 2000000 in
theorem l3equal (u v : Value) (L M : List Tok) (r : Int) (hr : r = if L = M then 0 else 1) (w : World) (h : ToksAt w u L) (g : ToksAt w v M) :
    Calls Tryz.prog 12 #[u, v] w fun e w' => e = .returned (.int .i64 r) ∧ Below w.heap.size w w' := by
  have HR := Lib.hid hr
  clear hr
  obtain ⟨a, cap, rfl, hcap, hlen, hcells⟩ := h
  obtain ⟨a2, cap2, rfl, hcap2, hlen2, hcells2⟩ := g
  by_cases hne : L.length = M.length
  · rw [← hne]
    rw [← hne] at hcap2 hcells2 hlen2
    have HC := Lib.hid hcells
    have HC2 := Lib.hid hcells2
    have HNE := Lib.hid hne
    clear hcells hcells2 hne
    go_enter Tryz.func12, Tryz.ntmps12
    go_wp2_with fail
    go_loopw [5] (fun i wr => ∃ k : Nat, k ≤ L.length ∧ i = .int .i64 k ∧ Hid (L.take k = M.take k) ∧ Hid (Below w.heap.size w wr)) (fun i _ => L.length - (intOf i).toNat)
    case atStart => exact ⟨0, Nat.zero_le _, rfl, by simp [Hid], Below.refl _ _⟩
    case round =>
      obtain ⟨k, hk, rfl, HS, HB⟩ := hrel
      by_cases hlt : k < L.length
      · obtain ⟨b, o, rfl, hbw, hc⟩ := HC.out (by omega)
        obtain ⟨b2, o2, rfl, hbw2, hc2⟩ := HC2.out (by omega)
        obtain ⟨x, hget⟩ : ∃ x, L[k]? = some x := ⟨_, List.getElem?_eq_getElem hlt⟩
        obtain ⟨y, hget2⟩ : ∃ y, M[k]? = some y := ⟨_, List.getElem?_eq_getElem (by rw [← HNE.out]; exact hlt)⟩
        obtain ⟨e0, e1, e2, e3, e4, e5⟩ := hc k _ hget
        obtain ⟨_, g1, g2, g3, g4, g5⟩ := hc2 k _ hget2
        have d0 := (HB.out.cell (p := ⟨b, o + k * 5, none⟩) hbw).trans e1
        have d1 := (HB.out.cell (p := ⟨b, o + k * 5 + 1, none⟩) hbw).trans e2
        have d2 := (HB.out.cell (p := ⟨b, o + k * 5 + 2, none⟩) hbw).trans e3
        have d3 := (HB.out.cell (p := ⟨b, o + k * 5 + 3, none⟩) hbw).trans e4
        have d4 := (HB.out.cell (p := ⟨b, o + k * 5 + 4, none⟩) hbw).trans e5
        have q0 := (HB.out.cell (p := ⟨b2, o2 + k * 5, none⟩) hbw2).trans g1
        have q1 := (HB.out.cell (p := ⟨b2, o2 + k * 5 + 1, none⟩) hbw2).trans g2
        have q2 := (HB.out.cell (p := ⟨b2, o2 + k * 5 + 2, none⟩) hbw2).trans g3
        have q3 := (HB.out.cell (p := ⟨b2, o2 + k * 5 + 3, none⟩) hbw2).trans g4
        have q4 := (HB.out.cell (p := ⟨b2, o2 + k * 5 + 4, none⟩) hbw2).trans g5
        clear e1 e2 e3 e4 e5 g1 g2 g3 g4 g5
        have HG := Lib.hid hget
        have HG2 := Lib.hid hget2
        by_cases hd : x = y
        · have HF : Hid (L.take (k + 1) = M.take (k + 1)) := by
            show _ = _
            rw [List.take_add_one, List.take_add_one, HG.out, HG2.out, HS.out, hd]
          subst hd
          clear hc hc2 hget hget2 e0
          go_wp2_with fail
          go_quiet (fail)
          go_wp2
          go_roundw
          case rel => exact ⟨k + 1, by omega, by go_num, HF, bdrewN _ HB.out⟩
          case measure => simp [intOf]; omega
        · have HF : Hid (r = 1) := by
            show _ = _
            rw [HR.out, if_neg]
            intro e
            rw [e, HG2.out] at HG
            exact hd (Option.some.inj HG).symm
          have hcs := toks_ne x y hd
          clear hc hc2 hget hget2 e0 hd
          rcases hcs with h1 | ⟨h1, h2⟩ | ⟨h1, h2, h3⟩ | ⟨h1, h2, h3, h4⟩ | ⟨h1, h2, h3, h4, h5⟩
          all_goals
            go_wp2_with fail
            go_quiet (fail)
            go_wp2
            go_returns
            exact ⟨ret_intS HF.out.symm, bdrewN _ HB.out⟩
      · have HT : Hid (r = 0) := by
          show _ = _
          have := HS.out
          rw [List.take_of_length_le (by omega), List.take_of_length_le (by rw [← HNE.out]; omega)] at this
          rw [HR.out, if_pos this]
        go_wp2
        go_returns
        exact ⟨ret_intS HT.out.symm, HB.out⟩
  · have HL : Hid (r = 1) := by
      show _ = _
      rw [HR.out, if_neg]
      intro e
      exact hne (by rw [e])
    have hne2 : ¬ (L.length : Int) = (M.length : Int) := by omega
    clear hcells hcells2
    go_enter Tryz.func12, Tryz.ntmps12
    go_wp2
    go_returns
    exact ⟨ret_intS HL.out.symm, Below.refl _ _⟩
end Go.Proofs.YtpalfhfbgfnacaaGreatDoor
