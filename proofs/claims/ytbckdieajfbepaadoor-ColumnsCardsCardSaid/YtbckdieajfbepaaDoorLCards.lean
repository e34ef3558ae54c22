/-
  The law ColumnsCards (columnsevenlaw02), walked.
-/
import Derived.Test.YtbckdieajfbepaaDoorLives2
import Derived.Test.YtbckdieajfbepaaDoorAt
import Derived.Deep.CutBlock
namespace Go.Proofs.YtbckdieajfbepaaDoor
open Go.RowKit
set_option linter.unusedVariables false
set_option linter.unusedSimpArgs false

theorem eqPosN (a b c e : Int) (w : World) : (Op.equalIn 10000 26 (.agg #[.int .i64 a, .int .i64 b]) (.agg #[.int .i64 c, .int .i64 e])).run Tryd.prog w = .ok (a == c && b == e) w := eqPosF 9998 a b c e w
theorem guardPosN (op : BinOp) (x y : Operand) (xs ys : Array Value) (w : World) : (eqGuard op 26 x y (.agg xs) (.agg ys)).run Tryd.prog w = .ok () w :=
  run_eqGuard_agg w op 26 x y xs ys (by kernel_rfl)
theorem neqPosN (a b c e : Int) (w : World) : (binOp .neq 26 (.agg #[.int .i64 a, .int .i64 b]) (.agg #[.int .i64 c, .int .i64 e])).run Tryd.prog w = .ok (.bool (!(a == c && b == e))) w := by
  rw [run_neq_struct, eqPosN]
  rfl
attribute [local go_sem] eqFault guardFault neqFault eqlFault eqPosN guardPosN neqPosN

theorem tabUp {w w1 : World} {name : String} {kd : IntKind} {zs : List Int} (h : Lib.TabBelow Tryd.prog w.heap.size w name kd zs) (hb : Below w.heap.size w w1) : Lib.TabBelow Tryd.prog w1.heap.size w1 name kd zs := fun w' h' => h w' (hb.trans (h'.mono hb.size))
/-- A mark that the law lets pass. -/
def okL (len : Nat) (ms : List (Int × Int × Int)) (k : Nat) (x : Int × Int × Int) : Prop :=
  (k = 0 → x.1 = 0) ∧ (∀ p y, k = p + 1 → ms[p]? = some y → y.1 < x.1) ∧ -1 < x.1 ∧ x.1 < len ∧ 1 ≤ x.2.1 ∧ 8 ≤ x.2.2 ∧ x.2.2 ≤ 72
theorem okL_valid {len : Nat} {ms : List (Int × Int × Int)} (h0 : 0 < ms.length) : (∀ k x, ms[k]? = some x → okL len ms k x) ↔ ValidP len ms := by
  constructor
  · intro h
    have hx := h 0 _ (List.getElem?_eq_getElem h0)
    have hx0 := hx.1 rfl
    refine ⟨by have := hx.2.2.2.1; omega, ⟨_, List.getElem?_eq_getElem h0, hx0⟩, fun k x hk => ?_⟩
    obtain ⟨_, h2, _, h4, h5, h6, h7⟩ := h k x hk
    exact ⟨h5, h6, h7, fun j y hj hy => ⟨h2 j y hj hy, h4⟩⟩
  · intro h k x hk
    have hv := valid_from h k x hk
    obtain ⟨h1, h2, h3, h4⟩ := h.2.2 k x hk
    refine ⟨fun e => ?_, fun p y hp hy => (h4 p y hp hy).1, by omega, hv.2, h1, h2, h3⟩
    subst e
    obtain ⟨x0, hx0, h0⟩ := h.2.1
    rw [hk] at hx0; injection hx0 with hx0; subst hx0; exact h0
/-- What the law's from holds ahead of mark k. -/
def FromAt (ms : List (Int × Int × Int)) (k : Nat) (f : Int) : Prop := (k = 0 ∧ f = -1) ∨ ∃ p y, k = p + 1 ∧ ms[p]? = some y ∧ f = y.1
/-- What the law's at holds ahead of mark k. -/
def PosAt (len : Nat) (ms : List (Int × Int × Int)) (i : Int) (k : Nat) (l c : Int) : Prop :=
  (k = 0 ∧ l = 0 ∧ c = 0) ∨ (0 < k ∧ (0 ≤ i → i ≤ len → ∃ m0, ms[0]? = some m0 ∧ l = (pickM i (ms.take k) m0).2.1 ∧ c = (pickM i (ms.take k) m0).2.2 + i - (pickM i (ms.take k) m0).1))
theorem pos_hit {len : Nat} {ms : List (Int × Int × Int)} {i : Int} {k : Nat} {l c : Int} {x : Int × Int × Int} (h : PosAt len ms i k l c) (hx : ms[k]? = some x) (hi : x.1 ≤ i) (c' : Int) (hc : 0 ≤ i → i ≤ len → c' = x.2.2 + i - x.1) : PosAt len ms i (k + 1) x.2.1 c' := by
  refine .inr ⟨by omega, fun h0 h1 => ?_⟩
  have hm : ∃ m0, ms[0]? = some m0 := by
    have hk : k < ms.length := by
      rcases Nat.lt_or_ge k ms.length with h | h
      · exact h
      · rw [List.getElem?_eq_none h] at hx; cases hx
    exact ⟨_, List.getElem?_eq_getElem (by omega)⟩
  obtain ⟨m0, hm0⟩ := hm
  refine ⟨m0, hm0, ?_, ?_⟩
  · rw [pickM_take i ms m0 x k hx, if_pos hi]
  · rw [pickM_take i ms m0 x k hx, if_pos hi]; exact hc h0 h1
theorem pos_miss {len : Nat} {ms : List (Int × Int × Int)} {i : Int} {k : Nat} {l c : Int} {x : Int × Int × Int} (h : PosAt len ms i k l c) (hx : ms[k]? = some x) (hi : ¬ x.1 ≤ i) (h0 : k = 0 → x.1 = 0) : PosAt len ms i (k + 1) l c := by
  rcases h with ⟨rfl, h1, h2⟩ | ⟨hk, h⟩
  · have := h0 rfl
    exact .inr ⟨by omega, fun h0 h1 => by omega⟩
  · refine .inr ⟨by omega, fun h1 h2 => ?_⟩
    obtain ⟨m0, hm0, e1, e2⟩ := h h1 h2
    refine ⟨m0, hm0, ?_, ?_⟩
    · rw [pickM_take i ms m0 x k hx, if_neg hi]; exact e1
    · rw [pickM_take i ms m0 x k hx, if_neg hi]; exact e2
theorem MarksIn.on {w w' : World} {m : Value} {ms : List (Int × Int × Int)} (h : MarksIn w m ms) (hb : Below w.heap.size w w') : MarksIn w' m ms := h.below hb

theorem lines_rep : ∀ n, linesB (List.replicate n (10 : UInt8)) = List.replicate n []
  | 0 => rfl
  | n + 1 => by
    rw [List.replicate_succ, List.replicate_succ, ← lines_rep n]
    rfl
theorem read_rep (u debug : Bool) (r : ReadAt) : ∀ n k, readFromU u debug r k (List.replicate n []) = endOf r
  | 0, k => rfl
  | n + 1, k => by
    rw [List.replicate_succ]
    show (match readLineU u debug r [] (k + 1) with | .inl f => (.inl f : (Nat × Nat × Nat) ⊕ List Kard) | .inr r' => readFromU u debug r' (k + 1) (List.replicate n [])) = _
    unfold readLineU
    rw [lineIs_nil]
    exact read_rep u debug r n (k + 1)
theorem readBU_big (u debug : Bool) (n : Nat) (h : 1048576 < n) : readBU u (List.replicate n 10) debug = .inl (3, 0, 0) := by
  unfold readBU
  rw [if_pos (by rw [List.length_replicate]; exact h)]
theorem readBU_rep (u debug : Bool) (n : Nat) (h : n ≤ 1048576) : readBU u (List.replicate n 10) debug = .inr [] := by
  unfold readBU
  rw [if_neg (by rw [List.length_replicate]; omega), lines_rep, read_rep]
  rfl
theorem l2rep (n : Nat) (t : ByteArray) (ht : t = strL (List.replicate n 10)) (hn : n ≤ 2097152) (w : World) :
    Calls Tryd.prog 26 #[.string ⟨#[10]⟩, .int .i64 n] w fun e w' => e = .returned (.string t) ∧ Below w.heap.size w w' := by
  subst ht
  refine (Tryd.strings_Repeat ⟨#[10]⟩ n w (by omega) (by show 1 * n ≤ _; omega)).mono ?_
  rintro e w' ⟨rfl, hb⟩
  refine ⟨?_, hb⟩
  show Ending.returned (.string ⟨(Lib.repeatL [10] n).toArray⟩) = _
  rw [repeat_one]
  rfl

set_option maxHeartbeats 4000000 in
set_option maxRecDepth 100000 in
theorem l2cards (l : Bool) (t : ByteArray) (m : Value) (ms : List (Int × Int × Int)) (i : Int) (hi1 : -9223372036854775808 ≤ i) (hi2 : i ≤ 9223372036854775807) (w : World) (hm : MarksIn w m ms) (ht : t.size ≤ 9223372036854775807) (hml : MaxLenAt w)
    (htab : Lib.TabBelow Tryd.prog w.heap.size w "internal/strconv.uint64pow10" .u64 Lib.pow10Tab) :
    Calls Tryd.prog 8 #[.agg #[.bool l, .string t, m], .int .i64 i] w fun e w' => e = .returned (.bool true) ∧ Below w.heap.size w w' := by
  have HLIVE : Hid (∀ w1, Below w.heap.size w w1 → Calls Tryd.prog 9 #[] w1 fun e w' => e = .returned (.bool true) ∧ Below w.heap.size w w') := fun w1 hb =>
    (l2lives w1 (hml.below hb) (tabUp htab hb)).mono fun e w' h => ⟨h.1, hb.trans (h.2.mono hb.size)⟩
  have HMAX := Lib.hid hml
  have HMI := Lib.hid hm
  clear htab hml
  obtain ⟨a, cap, rfl, hmn, hcs⟩ := hm
  have HCS := Lib.hid hcs
  clear hcs
  by_cases hbig : (100 : Int) < t.size
  · go_enter Tryd.func8, Tryd.ntmps8
    go_wp2_with fail
    refine (HLIVE.out _ ((Below.refl _ _).alloc (Nat.le_refl _) _)).mono ?_; rintro e w1 ⟨rfl, hb⟩
    go_wp2
    go_ret
    exact ⟨rfl, hb⟩
  by_cases hbig2 : (20 : Int) < ms.length
  · go_enter Tryd.func8, Tryd.ntmps8
    go_wp2_with fail
    refine (HLIVE.out _ ((Below.refl _ _).alloc (Nat.le_refl _) _)).mono ?_; rintro e w1 ⟨rfl, hb⟩
    go_wp2
    go_ret
    exact ⟨rfl, hb⟩
  have hT : t.size ≤ 100 := by omega
  have hM : ms.length ≤ 20 := by omega
  clear hbig hbig2 hmn ht
  obtain ⟨b0, hb0⟩ : ∃ b0 : Bool, b0 = decide (0 < ms.length ∧ 0 ≤ i ∧ i ≤ t.size) := ⟨_, rfl⟩
  have HB0 := Lib.hid hb0
  have HTS := Lib.hid (size_data t)
  clear hb0
  go_enter Tryd.func8, Tryd.ntmps8
  go_upto_region 3 with fail
  go_cut [5] (fun s5 wx => s5 = .bool b0 ∧ wx = w.alloc (.cells #[.bool l, .string t, .slice a ms.length cap] 34))
  case first =>
    by_cases h1 : (0 : Int) < ms.length
    · by_cases h2 : (0 : Int) ≤ i
      · by_cases h3 : i ≤ (t.size : Int)
        · have HV : Hid (b0 = true) := by show _ = _; rw [HB0.out, decide_eq_true_eq]; omega
          go_wp2
          go_meet
          exact ⟨by rw [HV.out], rfl⟩
        · have HV : Hid (b0 = false) := by show _ = _; rw [HB0.out, decide_eq_false_iff_not]; omega
          go_wp2
          go_meet
          exact ⟨by rw [HV.out], rfl⟩
      · have HV : Hid (b0 = false) := by show _ = _; rw [HB0.out, decide_eq_false_iff_not]; omega
        go_wp2
        go_meet
        exact ⟨by rw [HV.out], rfl⟩
    · have HV : Hid (b0 = false) := by show _ = _; rw [HB0.out, decide_eq_false_iff_not]; omega
      go_wp2
      go_meet
      exact ⟨by rw [HV.out], rfl⟩
  case rest =>
    obtain ⟨rfl, rfl⟩ := hcut
    go_upto_block 0 with fail
    go_cut [5, 6, 8, 9] (fun s5 s6 s8 s9 wx => ∃ (okb : Bool) (pl pc : Int), s5 = .bool okb ∧ Hid (wx.heap[w.heap.size + 1]? = some (.cells #[.int .i64 pl, .int .i64 pc] 26 (0, 0))) ∧ Hid (wx.heap[w.heap.size]? = some (.cells #[.bool l, .string t, .slice a ms.length cap] 34 (0, 0))) ∧ Hid (Below w.heap.size w wx) ∧
      Hid ((okb = true ∧ (ValidP t.data.toList.length ms ∧ 0 ≤ i ∧ i ≤ t.data.toList.length) ∧ PosAt t.data.toList.length ms i ms.length pl pc) ∨ (okb = false ∧ ¬ (ValidP t.data.toList.length ms ∧ 0 ≤ i ∧ i ≤ t.data.toList.length))))
    case first =>
      go_wp2
      go_loopw [5, 6, 8] (fun o fv iv wr => ∃ (k : Nat) (f pl pc : Int), k ≤ ms.length ∧ iv = .int .i64 k ∧ fv = .int .i64 f ∧ o = .bool b0 ∧ Hid (FromAt ms k f) ∧ Hid (∀ j y, j < k → ms[j]? = some y → okL t.data.toList.length ms j y) ∧ Hid (PosAt t.data.toList.length ms i k pl pc) ∧
        Hid (wr.heap[w.heap.size + 1]? = some (.cells #[.int .i64 pl, .int .i64 pc] 26 (0, 0))) ∧ Hid (wr.heap[w.heap.size]? = some (.cells #[.bool l, .string t, .slice a ms.length cap] 34 (0, 0))) ∧ Hid (Below w.heap.size w wr)) (fun _ _ iv _ => ms.length - (intOf iv).toNat)
      case atStart =>
        refine ⟨0, -1, 0, 0, Nat.zero_le _, rfl, rfl, rfl, .inl ⟨rfl, rfl⟩, fun j y hj => by omega, .inl ⟨rfl, rfl, rfl⟩, ?_, ?_, ((Below.refl _ _).alloc (Nat.le_refl _) _).alloc (by simp) _⟩
        · exact alloc_at3 _ _ _ (by simp)
        · exact (Below.heap_alloc _ _ _ (by simp)).trans (heap_alloc_new w _)
      case round =>
        obtain ⟨k, f, pl, pc, hk, rfl, rfl, rfl, HFR, HA, HPS, HPB, HCB, HBE⟩ := hrel
        have hsz := HBE.out.size
        have c1 : wr.cell? ⟨w.heap.size, 1, none⟩ = some (.string t) := Joins.cell_of_block HCB.out 1
        have c2 : wr.cell? ⟨w.heap.size, 2, none⟩ = some (.slice a ms.length cap) := Joins.cell_of_block HCB.out 2
        have hlc := lt_of_block HCB.out
        have hlp := lt_of_block HPB.out
        by_cases hlt : k < ms.length
        · have hms0 : 0 < ms.length := by omega
          obtain ⟨b, o, rfl, hbw, hc⟩ := HCS.out hms0
          have hget : ms[k]? = some ms[k] := List.getElem?_eq_getElem hlt
          obtain ⟨⟨x1, x2, x3⟩, hx⟩ : ∃ x, x = ms[k] := ⟨_, rfl⟩
          rw [← hx] at hget
          obtain ⟨d0, d1, d2⟩ := hc k _ hget
          have HGET := Lib.hid hget
          have e0 : wr.cell? ⟨b, o + k * 3, none⟩ = some (.int .i64 x1) := (HBE.out.cell (p := ⟨b, _, none⟩) hbw).trans d0
          have e1 : wr.cell? ⟨b, o + k * 3 + 1, none⟩ = some (.int .i64 x2) := (HBE.out.cell (p := ⟨b, _, none⟩) hbw).trans d1
          have e2 : wr.cell? ⟨b, o + k * 3 + 2, none⟩ = some (.int .i64 x3) := (HBE.out.cell (p := ⟨b, _, none⟩) hbw).trans d2
          have hbr : b < wr.heap.size := by omega
          clear hx hget hc d0 d1 d2
          have hpx : (wr.alloc (.cells #[.int .i64 x1, .int .i64 x2, .int .i64 x3] 58)).heap[w.heap.size + 1]? = some (.cells #[.int .i64 pl, .int .i64 pc] 26 (0, 0)) := (Below.heap_alloc _ _ _ hlp).trans HPB.out
          have hcx : (wr.alloc (.cells #[.int .i64 x1, .int .i64 x2, .int .i64 x3] 58)).heap[w.heap.size]? = some (.cells #[.bool l, .string t, .slice (some ⟨b, o, none⟩) ms.length cap] 34 (0, 0)) := (Below.heap_alloc _ _ _ hlc).trans HCB.out
          have hmx : (wr.alloc (.cells #[.int .i64 x1, .int .i64 x2, .int .i64 x3] 58)).heap[wr.heap.size]? = some (.cells #[.int .i64 x1, .int .i64 x2, .int .i64 x3] 58 (0, 0)) := heap_alloc_new _ _
          have hbx := HBE.out.alloc hsz (.cells #[.int .i64 x1, .int .i64 x2, .int .i64 x3] 58)
          go_upto_region 9 with fail
          obtain ⟨wx, hwx⟩ : ∃ wx, wx = wr.alloc (.cells #[.int .i64 x1, .int .i64 x2, .int .i64 x3] 58) := ⟨_, rfl⟩
          rw [← hwx] at hpx hcx hmx hbx ⊢
          clear hwx e0 e1 e2 c1 c2
          have HPX := Lib.hid hpx; have HCX := Lib.hid hcx; have HBX := Lib.hid hbx
          have m0 : wx.cell? ⟨wr.heap.size, 0, none⟩ = some (.int .i64 x1) := Joins.cell_of_block hmx 0
          have m1 : wx.cell? ⟨wr.heap.size, 1, none⟩ = some (.int .i64 x2) := Joins.cell_of_block hmx 1
          have m2 : wx.cell? ⟨wr.heap.size, 2, none⟩ = some (.int .i64 x3) := Joins.cell_of_block hmx 2
          have c1 : wx.cell? ⟨w.heap.size, 1, none⟩ = some (.string t) := Joins.cell_of_block hcx 1
          have c2 : wx.cell? ⟨w.heap.size, 2, none⟩ = some (.slice (some ⟨b, o, none⟩) ms.length cap) := Joins.cell_of_block hcx 2
          have q0 : wx.cell? ⟨w.heap.size + 1, 0, none⟩ = some (.int .i64 pl) := Joins.cell_of_block hpx 0
          have q1 : wx.cell? ⟨w.heap.size + 1, 1, none⟩ = some (.int .i64 pc) := Joins.cell_of_block hpx 1
          have n0 := Joins.unfrozen_of_block hpx 0
          have n1 := Joins.unfrozen_of_block hpx 1
          have hlx := lt_of_block hpx
          have hlx2 := lt_of_block hmx
          have hlx3 := lt_of_block hcx
          clear hpx hcx hmx hbx
          rcases Nat.eq_zero_or_pos k with h0 | h0
          · subst h0
            have hf : f = -1 := by
              rcases HFR.out with ⟨_, h⟩ | ⟨p, y, h, _⟩
              · exact h
              · omega
            subst hf
            by_cases hx10 : x1 = 0
            · have HX10 := Lib.hid hx10
              have hq : (x1 != 0) = false := by simp [hx10]
              have hgm : decide (x1 ≤ -1) = false := by simp [hx10]
              clear hx10
              by_cases g0 : (t.size : Int) ≤ x1
              · have gd0 : decide ((t.size : Int) ≤ x1) = true := by simpa using g0
                have HBAD : Hid (¬ ValidP t.data.toList.length ms) := fun hv => absurd ((okL_valid hms0).2 hv 0 (x1, x2, x3) HGET.out) (fun ho => by have h2 := ho.2.1; have := ho.2.2.2.1; simp only [] at this; rw [← size_data] at this; omega)
                go_wp2
                go_meet
                exact ⟨false, pl, pc, rfl, HPX.out, HCX.out, HBX.out, .inr ⟨rfl, fun h => HBAD.out h.1⟩⟩
              have gd0 : decide ((t.size : Int) ≤ x1) = false := by simpa using g0
              by_cases g1 : x2 < 1
              · have gd1 : decide (x2 < 1) = true := by simpa using g1
                have HBAD : Hid (¬ ValidP t.data.toList.length ms) := fun hv => absurd ((okL_valid hms0).2 hv 0 (x1, x2, x3) HGET.out) (fun ho => by have h2 := ho.2.1; have := ho.2.2.2.2.1; simp only [] at this; omega)
                go_wp2
                go_meet
                exact ⟨false, pl, pc, rfl, HPX.out, HCX.out, HBX.out, .inr ⟨rfl, fun h => HBAD.out h.1⟩⟩
              have gd1 : decide (x2 < 1) = false := by simpa using g1
              by_cases g2 : x3 < 8
              · have gd2 : decide (x3 < 8) = true := by simpa using g2
                have HBAD : Hid (¬ ValidP t.data.toList.length ms) := fun hv => absurd ((okL_valid hms0).2 hv 0 (x1, x2, x3) HGET.out) (fun ho => by have h2 := ho.2.1; have := ho.2.2.2.2.2.1; simp only [] at this; omega)
                go_wp2
                go_meet
                exact ⟨false, pl, pc, rfl, HPX.out, HCX.out, HBX.out, .inr ⟨rfl, fun h => HBAD.out h.1⟩⟩
              have gd2 : decide (x3 < 8) = false := by simpa using g2
              by_cases g3 : 72 < x3
              · have gd3 : decide (72 < x3) = true := by simpa using g3
                have HBAD : Hid (¬ ValidP t.data.toList.length ms) := fun hv => absurd ((okL_valid hms0).2 hv 0 (x1, x2, x3) HGET.out) (fun ho => by have h2 := ho.2.1; have := ho.2.2.2.2.2.2; simp only [] at this; omega)
                go_wp2
                go_meet
                exact ⟨false, pl, pc, rfl, HPX.out, HCX.out, HBX.out, .inr ⟨rfl, fun h => HBAD.out h.1⟩⟩
              have gd3 : decide (72 < x3) = false := by simpa using g3
              have HOK : Hid (∀ j y, j < 0 + 1 → ms[j]? = some y → okL t.data.toList.length ms j y) := by
                intro j y hj hy
                obtain rfl : j = 0 := by omega
                have e := HGET.out
                rw [hy] at e; injection e with e; subst e
                exact ⟨fun _ => HX10.out, fun p z hp => by omega, by show (-1 : Int) < x1; have := HX10.out; omega, by show x1 < _; rw [← size_data]; omega, by show 1 ≤ x2; omega, by show 8 ≤ x3; omega, by show x3 ≤ 72; omega⟩
              have hx0 : -1 < (x1 : Int) := by have := HX10.out; omega
              by_cases hxi : x1 ≤ i
              · have hxd : decide (x1 ≤ i) = true := by simpa using hxi
                have hwi : IntKind.i64.wrap i = i := IntWalk.i64_in _ (by omega)
                have hwx : IntKind.i64.wrap (i - x1) = i - x1 := IntWalk.i64_in _ (by omega)
                have HWI := fun (h1 : 0 ≤ i) (h2 : i ≤ t.data.toList.length) => Lib.hid (IntWalk.i64_in (x3 + (i - x1)) (by rw [← size_data] at h2; omega))
                have HWJ := fun (h1 : 0 ≤ i) (h2 : i ≤ t.data.toList.length) => Lib.hid (IntWalk.i64_in (x3 + i) (by rw [← size_data] at h2; omega))
                go_wp2
                go_roundw
                case rel =>
                  have b1 := Joins.block_setCell (i := 0) HPX.out (.int .i64 x2)
                  have b2 := Joins.block_setCell (i := 1) b1 (.int .i64 (wrap64 (x3 + (i - x1))))
                  have HPH := pos_hit (HPS.out) HGET.out hxi (wrap64 (x3 + (i - x1))) (fun h1 h2 => by rw [← IntWalk.i64_left, (HWI h1 h2).out]; show _ = x3 + i - x1; omega)
                  refine ⟨0 + 1, x1, x2, wrap64 (x3 + (i - x1)), by omega, by simp, rfl, rfl, .inr ⟨0, _, rfl, HGET.out, rfl⟩, HOK.out, HPH, b2, ?_, (HBX.out.setCell (by simp) _).setCell (by simp) _⟩
                  have hne : w.heap.size ≠ w.heap.size + 1 := by omega
                  exact (Below.heap_setCell _ ⟨w.heap.size + 1, 1, none⟩ _ _ hne).trans ((Below.heap_setCell _ ⟨w.heap.size + 1, 0, none⟩ _ _ hne).trans HCX.out)
                case measure => simp [intOf]; omega
              · have hxd : decide (x1 ≤ i) = false := by simpa using hxi
                go_wp2
                go_roundw
                case rel =>
                  have HPH := pos_miss (HPS.out) HGET.out hxi (fun _ => HX10.out)
                  exact ⟨0 + 1, x1, pl, pc, by omega, by simp, rfl, rfl, .inr ⟨0, _, rfl, HGET.out, rfl⟩, HOK.out, HPH, HPX.out, HCX.out, HBX.out⟩
                case measure => simp [intOf]; omega
            · have hq : (x1 != 0) = true := by simp [hx10]
              have HBAD : Hid (¬ ValidP t.data.toList.length ms) := fun hv => absurd ((okL_valid hms0).2 hv 0 (x1, x2, x3) HGET.out) (fun ho => by exact hx10 (ho.1 rfl))
              go_wp2
              go_meet
              exact ⟨false, pl, pc, rfl, HPX.out, HCX.out, HBX.out, .inr ⟨rfl, fun h => HBAD.out h.1⟩⟩
          · obtain ⟨p0, y, hkp, hy, hfy⟩ : ∃ p y, k = p + 1 ∧ ms[p]? = some y ∧ f = y.1 := by
              rcases HFR.out with ⟨h, _⟩ | h
              · omega
              · exact h
            obtain ⟨y1, y2, y3⟩ := y
            have HY := Lib.hid hy
            have hfl : Hid (-1 < f) := by
              show -1 < f
              rw [hfy]; exact (HA.out p0 _ (by omega) hy).2.2.1
            have hk0 : ((k : Int) == 0) = false := by simp; omega
            have HKP := Lib.hid hkp; have hfy := Lib.hid hfy
            clear hy hkp
            by_cases g0 : x1 ≤ f
            · have gd0 : decide (x1 ≤ f) = true := by simpa using g0
              have HBAD : Hid (¬ ValidP t.data.toList.length ms) := fun hv => absurd ((okL_valid hms0).2 hv k (x1, x2, x3) HGET.out) (fun ho => by have h2 := ho.2.1; exact absurd (h2 p0 (y1, y2, y3) HKP.out HY.out) (by show ¬ y1 < x1; have := hfy.out; simp only [] at this; omega))
              go_wp2
              go_meet
              exact ⟨false, pl, pc, rfl, HPX.out, HCX.out, HBX.out, .inr ⟨rfl, fun h => HBAD.out h.1⟩⟩
            have gd0 : decide (x1 ≤ f) = false := by simpa using g0
            by_cases g1 : (t.size : Int) ≤ x1
            · have gd1 : decide ((t.size : Int) ≤ x1) = true := by simpa using g1
              have HBAD : Hid (¬ ValidP t.data.toList.length ms) := fun hv => absurd ((okL_valid hms0).2 hv k (x1, x2, x3) HGET.out) (fun ho => by have h2 := ho.2.1; have := ho.2.2.2.1; simp only [] at this; rw [← size_data] at this; omega)
              go_wp2
              go_meet
              exact ⟨false, pl, pc, rfl, HPX.out, HCX.out, HBX.out, .inr ⟨rfl, fun h => HBAD.out h.1⟩⟩
            have gd1 : decide ((t.size : Int) ≤ x1) = false := by simpa using g1
            by_cases g2 : x2 < 1
            · have gd2 : decide (x2 < 1) = true := by simpa using g2
              have HBAD : Hid (¬ ValidP t.data.toList.length ms) := fun hv => absurd ((okL_valid hms0).2 hv k (x1, x2, x3) HGET.out) (fun ho => by have h2 := ho.2.1; have := ho.2.2.2.2.1; simp only [] at this; omega)
              go_wp2
              go_meet
              exact ⟨false, pl, pc, rfl, HPX.out, HCX.out, HBX.out, .inr ⟨rfl, fun h => HBAD.out h.1⟩⟩
            have gd2 : decide (x2 < 1) = false := by simpa using g2
            by_cases g3 : x3 < 8
            · have gd3 : decide (x3 < 8) = true := by simpa using g3
              have HBAD : Hid (¬ ValidP t.data.toList.length ms) := fun hv => absurd ((okL_valid hms0).2 hv k (x1, x2, x3) HGET.out) (fun ho => by have h2 := ho.2.1; have := ho.2.2.2.2.2.1; simp only [] at this; omega)
              go_wp2
              go_meet
              exact ⟨false, pl, pc, rfl, HPX.out, HCX.out, HBX.out, .inr ⟨rfl, fun h => HBAD.out h.1⟩⟩
            have gd3 : decide (x3 < 8) = false := by simpa using g3
            by_cases g4 : 72 < x3
            · have gd4 : decide (72 < x3) = true := by simpa using g4
              have HBAD : Hid (¬ ValidP t.data.toList.length ms) := fun hv => absurd ((okL_valid hms0).2 hv k (x1, x2, x3) HGET.out) (fun ho => by have h2 := ho.2.1; have := ho.2.2.2.2.2.2; simp only [] at this; omega)
              go_wp2
              go_meet
              exact ⟨false, pl, pc, rfl, HPX.out, HCX.out, HBX.out, .inr ⟨rfl, fun h => HBAD.out h.1⟩⟩
            have gd4 : decide (72 < x3) = false := by simpa using g4
            have HOK : Hid (∀ j y, j < k + 1 → ms[j]? = some y → okL t.data.toList.length ms j y) := by
              intro j y hj hy
              by_cases ej : j = k
              · subst ej
                have e := HGET.out
                rw [hy] at e; injection e with e; subst e
                refine ⟨fun h => by omega, fun p z hp hz => ?_, by show -1 < x1; have := hfl.out; omega, by show x1 < _; rw [← size_data]; omega, by show 1 ≤ x2; omega, by show 8 ≤ x3; omega, by show x3 ≤ 72; omega⟩
                obtain rfl : p = p0 := by have := HKP.out; omega
                have e := HY.out
                rw [hz] at e; injection e with e; subst e
                show y1 < x1; have := hfy.out; simp only [] at this; omega
              · exact HA.out j y (by omega) hy
            have hx0 : -1 < (x1 : Int) := by have := hfl.out; omega
            by_cases hxi : x1 ≤ i
            · have hxd : decide (x1 ≤ i) = true := by simpa using hxi
              have hwi : IntKind.i64.wrap i = i := IntWalk.i64_in _ (by omega)
              have hwx : IntKind.i64.wrap (i - x1) = i - x1 := IntWalk.i64_in _ (by omega)
              have HWI := fun (h1 : 0 ≤ i) (h2 : i ≤ t.data.toList.length) => Lib.hid (IntWalk.i64_in (x3 + (i - x1)) (by rw [← size_data] at h2; omega))
              have HWJ := fun (h1 : 0 ≤ i) (h2 : i ≤ t.data.toList.length) => Lib.hid (IntWalk.i64_in (x3 + i) (by rw [← size_data] at h2; omega))
              go_wp2
              go_roundw
              case rel =>
                have b1 := Joins.block_setCell (i := 0) HPX.out (.int .i64 x2)
                have b2 := Joins.block_setCell (i := 1) b1 (.int .i64 (wrap64 (x3 + (i - x1))))
                have HPH := pos_hit (HPS.out) HGET.out hxi (wrap64 (x3 + (i - x1))) (fun h1 h2 => by rw [← IntWalk.i64_left, (HWI h1 h2).out]; show _ = x3 + i - x1; omega)
                refine ⟨k + 1, x1, x2, wrap64 (x3 + (i - x1)), by omega, by go_num, rfl, rfl, .inr ⟨k, _, rfl, HGET.out, rfl⟩, HOK.out, HPH, b2, ?_, (HBX.out.setCell (by simp) _).setCell (by simp) _⟩
                have hne : w.heap.size ≠ w.heap.size + 1 := by omega
                exact (Below.heap_setCell _ ⟨w.heap.size + 1, 1, none⟩ _ _ hne).trans ((Below.heap_setCell _ ⟨w.heap.size + 1, 0, none⟩ _ _ hne).trans HCX.out)
              case measure => simp [intOf]; omega
            · have hxd : decide (x1 ≤ i) = false := by simpa using hxi
              go_wp2
              go_roundw
              case rel =>
                have HPH := pos_miss (HPS.out) HGET.out hxi (fun h => by omega)
                exact ⟨k + 1, x1, pl, pc, by omega, by go_num, rfl, rfl, .inr ⟨k, _, rfl, HGET.out, rfl⟩, HOK.out, HPH, HPX.out, HCX.out, HBX.out⟩
              case measure => simp [intOf]; omega
        · have hka : k = ms.length := by omega
          have HALL : Hid (∀ j y, ms[j]? = some y → okL t.data.toList.length ms j y) := fun j y hy => HA.out j y (by
            rcases Nat.lt_or_ge j ms.length with h | h
            · omega
            · rw [List.getElem?_eq_none h] at hy; cases hy) hy
          have HST := HTS.out
          have HRR : Hid ((b0 = true ∧ (ValidP t.data.toList.length ms ∧ 0 ≤ i ∧ i ≤ t.data.toList.length) ∧ PosAt t.data.toList.length ms i ms.length pl pc) ∨ (b0 = false ∧ ¬ (ValidP t.data.toList.length ms ∧ 0 ≤ i ∧ i ≤ t.data.toList.length))) := by
            have hp := HPS.out
            rw [hka] at hp
            rw [← HST]
            rw [← HST] at hp
            have hv := HALL.out
            rw [← HST] at hv
            cases hb : b0
            · refine .inr ⟨rfl, fun h => ?_⟩
              have h0 := HB0.out
              rw [hb] at h0
              have h1 := of_decide_eq_false h0.symm
              obtain ⟨x, hx, _⟩ := h.1.2.1
              have hx0 : 0 < ms.length := by
                rcases Nat.lt_or_ge 0 ms.length with h | h
                · exact h
                · rw [List.getElem?_eq_none h] at hx; cases hx
              exact h1 ⟨hx0, h.2.1, h.2.2⟩
            · have h0 := HB0.out
              rw [hb] at h0
              have h1 := of_decide_eq_true h0.symm
              exact .inl ⟨rfl, ⟨(okL_valid h1.1).1 hv, h1.2.1, h1.2.2⟩, hp⟩
          clear hka HST
          go_wp2
          go_meet
          exact ⟨b0, pl, pc, rfl, HPB.out, HCB.out, HBE.out, HRR.out⟩
    case rest =>
      obtain ⟨okb, pl, pc, rfl, HP, HC, HB, HR⟩ := hcut
      have hsz := HB.out.size
      have c0 : wc.cell? ⟨w.heap.size, 0, none⟩ = some (.bool l) := Joins.cell_of_block HC.out 0
      have c1 : wc.cell? ⟨w.heap.size, 1, none⟩ = some (.string t) := Joins.cell_of_block HC.out 1
      have c2 : wc.cell? ⟨w.heap.size, 2, none⟩ = some (.slice a ms.length cap) := Joins.cell_of_block HC.out 2
      have hlc := lt_of_block HC.out
      go_wp2_with fail
      refine (c_At l t _ ms i hi1 hi2 wc (HMI.out.on HB.out) (by omega)).mono ?_
      rintro e w1 ⟨hb1, hat⟩
      have HB1 : Hid (Below w.heap.size w w1) := HB.out.trans (hb1.mono hsz)
      have HC1 := Lib.hid ((hb1.block _ hlc).trans HC.out)
      have HP1 := Lib.hid ((hb1.block _ (lt_of_block HP.out)).trans HP.out)
      have d2 : w1.cell? ⟨w.heap.size, 2, none⟩ = some (.slice a ms.length cap) := Joins.cell_of_block HC1.out 2
      have hlc1 := lt_of_block HC1.out
      have hlp1 := lt_of_block HP1.out
      have HLV := Lib.hid fun (X : Obj) => HLIVE.out (w1.alloc X) (HB1.out.alloc HB1.out.size X)
      clear hb1 c0 c1 c2
      rcases hat with ⟨hv, h0, h1, m0, hm0, rfl⟩ | ⟨hnv, rfl⟩
      · have hr : okb = true ∧ pl = (pickM i ms m0).2.1 ∧ pc = (pickM i ms m0).2.2 + i - (pickM i ms m0).1 := by
          rcases HR.out with ⟨e1, e2, e3⟩ | ⟨e1, e2⟩
          · refine ⟨e1, ?_⟩
            rcases e3 with ⟨e4, _⟩ | ⟨e4, e5⟩
            · obtain ⟨x, hx, _⟩ := hv.2.1
              rw [List.getElem?_eq_none (by omega)] at hx; cases hx
            · obtain ⟨m1, hm1, e6, e7⟩ := e5 h0 h1
              rw [hm0] at hm1; injection hm1 with hm1; subst hm1
              rw [List.take_of_length_le (Nat.le_refl _)] at e6 e7
              exact ⟨e6, e7⟩
          · exact absurd ⟨hv, h0, h1⟩ e2
        obtain ⟨rfl, hpl, hpc⟩ := hr
        rw [← hpl, ← hpc]
        have hms0 : (0 : Int) < ms.length := by
          have : 0 < ms.length := by
            rcases Nat.lt_or_ge 0 ms.length with h | h
            · exact h
            · rw [List.getElem?_eq_none h] at hm0; cases hm0
          omega
        have q0 : w1.cell? ⟨w.heap.size + 1, 0, none⟩ = some (.int .i64 pl) := Joins.cell_of_block HP1.out 0
        have q1 : w1.cell? ⟨w.heap.size + 1, 1, none⟩ = some (.int .i64 pc) := Joins.cell_of_block HP1.out 1
        clear hpl hpc hv h0 h1 hm0
        go_wp2_with fail
        refine (HLV.out _).mono ?_; rintro e w2 ⟨rfl, hb⟩
        go_wp2
        go_ret
        exact ⟨rfl, hb⟩
      · have hr : okb = false := by
          rcases HR.out with ⟨e1, e2, e3⟩ | ⟨e1, e2⟩
          · exact absurd e2 hnv
          · exact e1
        subst hr
        clear hnv
        by_cases hms0 : (0 : Int) < ms.length
        · go_wp2_with fail
          refine (HLV.out _).mono ?_; rintro e w2 ⟨rfl, hb⟩
          go_wp2
          go_ret
          exact ⟨rfl, hb⟩
        · obtain ⟨ta, hta⟩ : ∃ x, x = strL (List.replicate 1048577 10) := ⟨_, rfl⟩
          obtain ⟨tb, htb⟩ : ∃ x, x = strL (List.replicate 1048576 10) := ⟨_, rfl⟩
          have HTA := Lib.hid hta; have HTB := Lib.hid htb
          have HRA : Hid (readBU true ta.data.toList false = .inl (3, 0, 0)) := by show _ = _; rw [hta, strL_data]; exact readBU_big _ _ _ (by omega)
          have HRB : Hid (readBU true tb.data.toList false = .inr []) := by show _ = _; rw [htb, strL_data]; exact readBU_rep _ _ _ (by omega)
          clear hta htb
          go_wp2_with fail
          refine (l2rep 1048577 ta HTA.out (by omega) _).mono ?_
          rintro e w2 ⟨rfl, hb2⟩
          have HB2 : Hid (Below w.heap.size w w2) := (HB1.out.alloc HB1.out.size _).trans (hb2.mono (by have := HB1.out.size; simp; omega))
          clear hb2
          go_wp2_with fail
          refine (c_Read ta false w2 (HMAX.out.below HB2.out)).mono ?_
          rintro e w3 ⟨hb3, hr3⟩
          rw [HRA.out] at hr3
          obtain ⟨rfl, _⟩ := hr3
          have HB3 : Hid (Below w.heap.size w w3) := HB2.out.trans (hb3.mono HB2.out.size)
          clear hb3
          simp only [faultN]
          go_wp2_with fail
          refine (l2rep 1048576 tb HTB.out (by omega) _).mono ?_
          rintro e w4 ⟨rfl, hb4⟩
          have hz4 := hb4.size
          simp at hz4
          have HB4 : Hid (Below w.heap.size w w4) := (HB3.out.alloc HB3.out.size _).trans (hb4.mono (by have := HB3.out.size; simp; omega))
          have k4 : w4.heap[w3.heap.size]? = some (.cells #[.int .i64 3, .int .i64 0, .int .i64 0] 28 (0, 0)) := (hb4.block _ (by simp)).trans (heap_alloc_new _ _)
          have HK4 := Lib.hid k4
          clear hb4 k4 hz4
          go_wp2_with fail
          refine (c_Read tb false w4 (HMAX.out.below HB4.out)).mono ?_
          rintro e w5 ⟨hb5, hr5⟩
          rw [HRB.out] at hr5
          obtain ⟨v, rfl, hK, _⟩ := hr5
          obtain ⟨va, vc, rfl, _, _⟩ := kards_form hK
          have HB5 : Hid (Below w.heap.size w w5) := HB4.out.trans (hb5.mono HB4.out.size)
          have HK5 := Lib.hid ((hb5.block _ (lt_of_block HK4.out)).trans HK4.out)
          obtain ⟨y0, y1, y2⟩ := fcells HK5.out
          have hl5 := lt_of_block HK5.out
          clear hb5 hK
          simp only [zeroF]
          go_wp2_with fail
          refine (HLIVE.out _ (HB5.out.alloc HB5.out.size _)).mono ?_; rintro e w6 ⟨rfl, hb⟩
          go_wp2
          go_ret
          exact ⟨rfl, hb⟩
end Go.Proofs.YtbckdieajfbepaaDoor
