/-
  The contracts of package columns' function At, and of the method valid.
-/
import Derived.Test.YtpalfhfbgfnacaaGreatDoorGD
import Derived.Test.YtpalfhfbgfnacaaGreatDoorGA
import Derived.Deep.QuietTactic
import Derived.BigQuiet
import Derived.IntWalk
namespace Go.Proofs.YtpalfhfbgfnacaaGreatDoor
open Go.RowKit
set_option linter.unusedVariables false
set_option linter.unusedSimpArgs false

theorem alloc_at3 (w : World) (o : Obj) (n : Nat) (hn : n = w.heap.size) : (w.alloc o).heap[n]? = some o := by subst hn; exact heap_alloc_new w o
theorem posCells {w : World} {N : Nat} {a b u v : Value} (h0 : w.cell? ⟨N, 0, none⟩ = some a) (h1 : w.cell? ⟨N, 1, none⟩ = some b) :
    (w.setCell ⟨N, 0, none⟩ u).cell? ⟨N, 0, none⟩ = some u ∧ ((w.setCell ⟨N, 0, none⟩ u).setCell ⟨N, 1, none⟩ v).cell? ⟨N, 1, none⟩ = some v :=
  ⟨World.cell?_setCell_same _ _ _ h0, World.cell?_setCell_same _ _ _ ((World.cell?_setCell_other _ _ _ _ (by simp)).trans h1)⟩
theorem below_drewNA {B : Nat} {a w : World} (n : Nat) (h : Below B a w) : Below B a (w.drewN n) := ⟨h.os, h.tape, h.output, h.size, h.block⟩
/-- A slice of marks of whatever numbers. -/
def MarksIn (w : World) (m : Value) (ms : List (Int × Int × Int)) : Prop :=
  ∃ (a : Option Addr) (cap : Nat), m = .slice a ms.length cap ∧ ms.length ≤ 4194304 ∧ (0 < ms.length → ∃ b o, a = some ⟨b, o, none⟩ ∧ b < w.heap.size ∧
    ∀ (k : Nat) (x : Int × Int × Int), ms[k]? = some x → w.cell? ⟨b, o + k * 3, none⟩ = some (.int .i64 x.1) ∧ w.cell? ⟨b, o + k * 3 + 1, none⟩ = some (.int .i64 x.2.1) ∧ w.cell? ⟨b, o + k * 3 + 2, none⟩ = some (.int .i64 x.2.2))
theorem MarksIn.below {w w' : World} {m : Value} {ms : List (Int × Int × Int)} (h : MarksIn w m ms) (hb : Below w.heap.size w w') : MarksIn w' m ms := by
  obtain ⟨a, cap, h1, h2, h3⟩ := h
  refine ⟨a, cap, h1, h2, fun hl => ?_⟩
  obtain ⟨b, o, ha, hlt, hc⟩ := h3 hl
  exact ⟨b, o, ha, Nat.lt_of_lt_of_le hlt hb.size, fun k x hx => ⟨(hb.cell (p := ⟨b, _, none⟩) hlt).trans (hc k x hx).1, (hb.cell (p := ⟨b, _, none⟩) hlt).trans (hc k x hx).2.1, (hb.cell (p := ⟨b, _, none⟩) hlt).trans (hc k x hx).2.2⟩⟩
/-- A mark at its place is right. -/
def okMark (len : Nat) (ms : List (Int × Int × Int)) (k : Nat) (x : Int × Int × Int) : Prop :=
  1 ≤ x.2.1 ∧ 8 ≤ x.2.2 ∧ x.2.2 ≤ 72 ∧ (∀ j y, k = j + 1 → ms[j]? = some y → y.1 < x.1 ∧ x.1 < len)
def ValidP (len : Nat) (ms : List (Int × Int × Int)) : Prop :=
  len ≠ 0 ∧ (∃ x, ms[0]? = some x ∧ x.1 = 0) ∧ ∀ k x, ms[k]? = some x → okMark len ms k x

set_option maxHeartbeats 2000000 in
set_option maxRecDepth 100000 in
theorem c_valid (l : Bool) (t : ByteArray) (m : Value) (ms : List (Int × Int × Int)) (vb : Bool) (hvb : vb = true ↔ ValidP t.data.toList.length ms) (w : World) (hm : MarksIn w m ms) (ht : t.size ≤ 134217728) :
    Calls Tryz.prog 40 #[.agg #[.bool l, .string t, m]] w fun e w' => e = .returned (.bool vb) ∧ Below w.heap.size w w' := by
  have hno : ∀ h : ¬ ValidP t.data.toList.length ms, vb = false := fun h => by
    cases vb
    · rfl
    · exact absurd (hvb.1 rfl) h
  have hts := size_data t
  obtain ⟨a, cap, rfl, hmn, hcs⟩ := hm
  by_cases ht0 : t.toList = []
  · have h1 : t.toList.isEmpty = true := by rw [ht0]; rfl
    have HV : Hid (vb = false) := hno fun h => h.1 (by rw [← ByteArray.toList_eq, ht0]; rfl)
    clear hno hvb hcs hts ht0
    go_enter Tryz.func40, Tryz.ntmps40
    go_wp2
    go_ret
    exact ⟨retB HV.out.symm, by go_grown⟩
  have h1 : t.toList.isEmpty = false := by
    cases h : t.toList.isEmpty
    · rfl
    · exact absurd (List.isEmpty_iff.1 h) ht0
  have htne : t.data.toList.length ≠ 0 := fun e => ht0 (by rw [ByteArray.toList_eq]; exact List.eq_nil_of_length_eq_zero e)
  by_cases hm0 : ms = []
  · subst hm0
    have HV : Hid (vb = false) := hno fun h => by obtain ⟨x, hx, _⟩ := h.2.1; simp at hx
    clear hno hvb hcs hts ht0 htne
    go_enter Tryz.func40, Tryz.ntmps40
    go_wp2
    go_ret
    exact ⟨retB HV.out.symm, by go_grown⟩
  have hpos : 0 < ms.length := List.length_pos_iff.2 hm0
  obtain ⟨b, o, rfl, hbw, hc⟩ := hcs hpos
  have hposI : (0 : Int) < (ms.length : Int) := by omega
  have hq0 : ((ms.length : Int) == 0) = false := by simp; omega
  obtain ⟨x0, hx0⟩ : ∃ x0, ms[0]? = some x0 := ⟨ms[0], List.getElem?_eq_getElem hpos⟩
  have hc0 := (hc 0 x0 hx0).1
  rw [Nat.zero_mul, Nat.add_zero] at hc0
  by_cases hf0 : x0.1 = 0
  · have hq1 : (x0.1 != 0) = false := by simp [hf0]
    have HBAD : Hid (∀ k x, ms[k]? = some x → ¬ okMark t.data.toList.length ms k x → vb = false) := fun k x hx h => hno fun hv => h (hv.2.2 k x hx)
    have HGOOD : Hid ((∀ k x, ms[k]? = some x → okMark t.data.toList.length ms k x) → vb = true) := fun h => hvb.2 ⟨htne, ⟨x0, hx0, hf0⟩, h⟩
    have HC := Lib.hid hc
    have HTS := Lib.hid hts
    clear hno hvb hcs hts ht0 htne hc hm0
    go_enter Tryz.func40, Tryz.ntmps40
    go_wp2
    clear hc0 hq1
    obtain ⟨W1, hW1⟩ : ∃ W1, W1 = w.alloc (.cells #[.bool l, .string t, .slice (some ⟨b, o, none⟩) ms.length cap] 55) := ⟨_, rfl⟩
    rw [← hW1]
    have H0 : Hid (W1.cell? ⟨w.heap.size, 0, none⟩ = some (.bool l)) := by show _ = _; rw [hW1]; simp
    have H1 : Hid (W1.cell? ⟨w.heap.size, 1, none⟩ = some (.string t)) := by show _ = _; rw [hW1]; simp
    have H2 : Hid (W1.cell? ⟨w.heap.size, 2, none⟩ = some (.slice (some ⟨b, o, none⟩) ms.length cap)) := by show _ = _; rw [hW1]; simp
    have hb1 : Below w.heap.size w W1 := by rw [hW1]; exact (Below.refl _ _).alloc (Nat.le_refl _) _
    have hN1 : w.heap.size < W1.heap.size := by rw [hW1]; simp
    clear hW1
    go_loopw [25] (fun i wr => ∃ k : Nat, k ≤ ms.length ∧ i = .int .i64 k ∧ Hid (∀ j x, j < k → ms[j]? = some x → okMark t.data.toList.length ms j x) ∧ Hid (Below W1.heap.size W1 wr)) (fun i _ => ms.length - (intOf i).toNat)
    case atStart => exact ⟨0, Nat.zero_le _, rfl, fun j x hj => by omega, Below.refl _ _⟩
    case round =>
      obtain ⟨k, hk, rfl, HA, HB⟩ := hrel
      have hfin : Below w.heap.size w wr := hb1.trans (HB.out.mono hb1.size)
      have HFIN := Lib.hid hfin; clear hfin
      by_cases hlt : k < ms.length
      · have hget : ms[k]? = some ms[k] := List.getElem?_eq_getElem hlt
        obtain ⟨x, hx⟩ : ∃ x, x = ms[k] := ⟨_, rfl⟩
        rw [← hx] at hget
        clear hx
        have hbw1 : b < W1.heap.size := Nat.lt_of_lt_of_le hbw hb1.size
        have hwr : W1.heap.size ≤ wr.heap.size := HB.out.size
        have hbwr : b < wr.heap.size := Nat.lt_of_lt_of_le hbw1 hwr
        have hNwr : w.heap.size < wr.heap.size := Nat.lt_of_lt_of_le hN1 hwr
        have HCW : Hid (∀ (j : Nat) (y : Int × Int × Int), ms[j]? = some y → wr.cell? ⟨b, o + j * 3, none⟩ = some (.int .i64 y.1) ∧ wr.cell? ⟨b, o + j * 3 + 1, none⟩ = some (.int .i64 y.2.1) ∧ wr.cell? ⟨b, o + j * 3 + 2, none⟩ = some (.int .i64 y.2.2)) := fun j y hy =>
          ⟨(HFIN.out.cell (p := ⟨b, _, none⟩) hbw).trans (HC.out j y hy).1, (HFIN.out.cell (p := ⟨b, _, none⟩) hbw).trans (HC.out j y hy).2.1, (HFIN.out.cell (p := ⟨b, _, none⟩) hbw).trans (HC.out j y hy).2.2⟩
        obtain ⟨d0, d1, d2⟩ := HCW.out k x hget
        have hn1 : wr.cell? ⟨w.heap.size, 1, none⟩ = some (.string t) := (HB.out.cell (p := ⟨w.heap.size, 1, none⟩) hN1).trans H1.out
        have hn2 : wr.cell? ⟨w.heap.size, 2, none⟩ = some (.slice (some ⟨b, o, none⟩) ms.length cap) := (HB.out.cell (p := ⟨w.heap.size, 2, none⟩) hN1).trans H2.out
        have hbk : Hid (¬ okMark t.data.toList.length ms k x → vb = false) := HBAD.out k x hget
        have HGET := Lib.hid hget; clear hget
        by_cases g1 : x.2.1 < 1
        · have HV : Hid (vb = false) := hbk.out fun h => by have := h.1; omega
          go_wp2
          go_ret
          exact ⟨retB HV.out.symm, HFIN.out.alloc HFIN.out.size _⟩
        by_cases g2 : x.2.2 < 8
        · have HV : Hid (vb = false) := hbk.out fun h => by have := h.2.1; omega
          go_wp2
          go_ret
          exact ⟨retB HV.out.symm, HFIN.out.alloc HFIN.out.size _⟩
        by_cases g3 : 72 < x.2.2
        · have HV : Hid (vb = false) := hbk.out fun h => by have := h.2.2.1; omega
          go_wp2
          go_ret
          exact ⟨retB HV.out.symm, HFIN.out.alloc HFIN.out.size _⟩
        cases k with
        | zero =>
          simp only [Nat.zero_mul, Nat.add_zero] at d0 d1 d2
          have HA2 : Hid (∀ j y, j < 0 + 1 → ms[j]? = some y → okMark t.data.toList.length ms j y) := by
            intro j y hj hy
            obtain rfl : j = 0 := by omega
            have e := HGET.out
            rw [hy] at e; injection e with e; subst e
            exact ⟨by omega, by omega, by omega, fun j y h => by omega⟩
          have hz : decide ((0 : Int) < ((0 : Nat) : Int)) = false := by simp
          have hz2 : decide ((0 : Int) < (0 : Int)) = false := by simp
          go_wp2
          go_quiet (fail)
          go_wp2
          go_roundw
          case rel => exact ⟨1, by omega, by go_num, HA2, below_drewNA _ (HB.out.alloc HB.out.size _)⟩
          case measure => simp [intOf]; omega
        | succ k =>
          have hyk : ms[k]? = some ms[k] := List.getElem?_eq_getElem (by omega)
          obtain ⟨y, hy⟩ : ∃ y, y = ms[k] := ⟨_, rfl⟩
          rw [← hy] at hyk
          clear hy
          have e0 := (HCW.out k y hyk).1
          have HYK := Lib.hid hyk; clear hyk
          have hp1 : (0 : Int) < ((k + 1 : Nat) : Int) := by omega
          have hp2 : (0 : Int) < (k : Int) + 1 := by omega
          have hi1 : IntKind.i64.wrap (((k + 1 : Nat) : Int) - 1) = (k : Int) := by rw [IntWalk.i64_in _ (by omega)]; omega
          have hi2 : IntKind.i64.wrap (k : Int) = (k : Int) := IntWalk.i64_in _ (by omega)
          have hi3 : (k : Int) < (ms.length : Int) := by omega
          have hi4 : (0 : Int) ≤ (k : Int) := by omega
          by_cases g4 : x.1 ≤ y.1
          · have HV : Hid (vb = false) := hbk.out fun h => by have := (h.2.2.2 k y rfl HYK.out).1; omega
            have hgd : decide (x.1 ≤ y.1) = true := by simpa using g4
            go_wp2
            go_quiet (fail)
            go_wp2
            go_ret
            exact ⟨retB HV.out.symm, below_drewNA _ (HFIN.out.alloc HFIN.out.size _)⟩
          have hgd : decide (x.1 ≤ y.1) = false := by simpa using g4
          by_cases g5 : (t.size : Int) ≤ x.1
          · have HV : Hid (vb = false) := hbk.out fun h => by have := (h.2.2.2 k y rfl HYK.out).2; rw [← HTS.out] at this; omega
            go_wp2
            go_quiet (fail)
            go_wp2
            go_ret
            exact ⟨retB HV.out.symm, below_drewNA _ (HFIN.out.alloc HFIN.out.size _)⟩
          have HA2 : Hid (∀ j z, j < k + 1 + 1 → ms[j]? = some z → okMark t.data.toList.length ms j z) := by
            intro j z hj hz
            by_cases e : j = k + 1
            · subst e
              have e := HGET.out
              rw [hz] at e; injection e with e; subst e
              refine ⟨by omega, by omega, by omega, fun j2 y2 h2 hy2 => ?_⟩
              obtain rfl : j2 = k := by omega
              have e := HYK.out
              rw [hy2] at e; injection e with e; subst e
              rw [← HTS.out]
              omega
            · exact HA.out j z (by omega) hz
          go_wp2
          go_quiet (fail)
          go_wp2
          go_roundw
          case rel => exact ⟨k + 1 + 1, by omega, by go_num, HA2, below_drewNA _ (HB.out.alloc HB.out.size _)⟩
          case measure => simp [intOf]; omega
      · have HV : Hid (vb = true) := HGOOD.out fun k' x hx => HA.out k' x (by
          rcases Nat.lt_or_ge k' ms.length with h | h
          · omega
          · rw [List.getElem?_eq_none h] at hx; cases hx) hx
        go_wp2
        go_ret
        exact ⟨retB HV.out.symm, HFIN.out⟩
  · have HV : Hid (vb = false) := hno fun h => by
      obtain ⟨x, hx, he⟩ := h.2.1
      rw [hx0] at hx; injection hx with hx; subst hx; exact hf0 he
    have hq1 : (x0.1 != 0) = true := by simp [hf0]
    clear hno hvb hcs hts ht0 htne hc hm0
    go_enter Tryz.func40, Tryz.ntmps40
    go_wp2
    go_ret
    exact ⟨retB HV.out.symm, by go_grown⟩

/-- The last mark whose text begins at i or before. -/
def pickM (i : Int) (ms : List (Int × Int × Int)) (m : Int × Int × Int) : Int × Int × Int := ms.foldl (fun m x => if x.1 ≤ i then x else m) m
theorem pickM_take (i : Int) (ms : List (Int × Int × Int)) (m x : Int × Int × Int) (k : Nat) (h : ms[k]? = some x) : pickM i (ms.take (k + 1)) m = if x.1 ≤ i then x else pickM i (ms.take k) m := by
  have hk : k < ms.length := by
    rcases Nat.lt_or_ge k ms.length with hk | hk
    · exact hk
    · rw [List.getElem?_eq_none hk] at h; cases h
  rw [List.take_succ_eq_append_getElem hk]
  rw [List.getElem?_eq_getElem hk] at h
  injection h with h
  unfold pickM
  rw [List.foldl_append, h]
  rfl
def AtPost (t : List UInt8) (ms : List (Int × Int × Int)) (i : Int) (w : World) (e : Ending) (w' : World) : Prop :=
  Below w.heap.size w w' ∧ ((ValidP t.length ms ∧ 0 ≤ i ∧ i ≤ t.length ∧ ∃ m0, ms[0]? = some m0 ∧ e = .returned (.tuple #[.agg #[.int .i64 (pickM i ms m0).2.1, .int .i64 ((pickM i ms m0).2.2 + i - (pickM i ms m0).1)], .int .i64 0])) ∨
    (¬ (ValidP t.length ms ∧ 0 ≤ i ∧ i ≤ t.length) ∧ e = .returned (.tuple #[.agg #[.int .i64 0, .int .i64 0], .int .i64 1])))
/-- What a picked mark is. -/
theorem pick_mem (i : Int) : ∀ (ms : List (Int × Int × Int)) (m : Int × Int × Int), pickM i ms m = m ∨ (pickM i ms m ∈ ms ∧ (pickM i ms m).1 ≤ i)
  | [], m => .inl rfl
  | x :: ms, m => by
    show pickM i ms (if x.1 ≤ i then x else m) = m ∨ _
    rcases pick_mem i ms (if x.1 ≤ i then x else m) with h | ⟨h, h2⟩
    · by_cases hx : x.1 ≤ i
      · rw [if_pos hx] at h
        right
        show pickM i ms (if x.1 ≤ i then x else m) ∈ _ ∧ (pickM i ms (if x.1 ≤ i then x else m)).1 ≤ i
        rw [if_pos hx, h]
        exact ⟨List.mem_cons_self, hx⟩
      · rw [if_neg hx] at h ⊢
        exact .inl h
    · right
      exact ⟨List.mem_cons_of_mem _ h, h2⟩
theorem valid_from {len : Nat} {ms : List (Int × Int × Int)} (h : ValidP len ms) : ∀ (k : Nat) (x : Int × Int × Int), ms[k]? = some x → 0 ≤ x.1 ∧ x.1 < len
  | 0, x, hx => by
    obtain ⟨x0, h0, h1⟩ := h.2.1
    rw [hx] at h0; injection h0 with h0; subst h0
    have := h.1
    omega
  | k + 1, x, hx => by
    have hk : k < ms.length := by
      rcases Nat.lt_or_ge (k + 1) ms.length with h' | h'
      · omega
      · rw [List.getElem?_eq_none h'] at hx; cases hx
    have := valid_from h k _ (List.getElem?_eq_getElem hk)
    have h2 := (h.2.2 (k + 1) x hx).2.2.2 k _ rfl (List.getElem?_eq_getElem hk)
    omega
set_option maxHeartbeats 2000000 in
set_option maxRecDepth 100000 in
theorem c_At (l : Bool) (t : ByteArray) (m : Value) (ms : List (Int × Int × Int)) (i : Int) (hi1 : -9223372036854775808 ≤ i) (hi2 : i ≤ 9223372036854775807) (w : World) (hm : MarksIn w m ms) (ht : t.size ≤ 134217728) :
    Calls Tryz.prog 17 #[.agg #[.bool l, .string t, m], .int .i64 i] w (AtPost t.data.toList ms i w) := by
  have HT := Lib.hid (size_data t)
  have hval : ∀ vb, (vb = true ↔ ValidP t.data.toList.length ms) → ∀ W, Below w.heap.size w W → Calls Tryz.prog 40 #[.agg #[.bool l, .string t, m]] W fun e w' => e = .returned (.bool vb) ∧ Below W.heap.size W w' :=
    fun vb h W hW => c_valid l t m ms vb h W (hm.below hW) ht
  have HVAL := Lib.hid hval; clear hval
  obtain ⟨a, cap, rfl, hmn, hcs⟩ := hm
  by_cases hv : ValidP t.data.toList.length ms
  · have HV := fun W hW => Lib.hid (HVAL.out true ⟨fun _ => hv, fun _ => rfl⟩ W hW)
    have HVP := Lib.hid hv
    obtain ⟨x0, hx0, hz0⟩ := hv.2.1
    have hpos : 0 < ms.length := by
      rcases Nat.lt_or_ge 0 ms.length with h | h
      · exact h
      · rw [List.getElem?_eq_none h] at hx0; cases hx0
    obtain ⟨b, o, rfl, hbw, hc⟩ := hcs hpos
    have HC := Lib.hid hc
    have HX0 := Lib.hid hx0
    clear hv hcs hc hz0 hx0
    have hstep : ∀ W w1, W = (w.alloc (.cells #[.bool l, .string t, .slice (some ⟨b, o, none⟩) ms.length cap] 55)).alloc (.cells #[.int .i64 0, .int .i64 0] 26) → Below W.heap.size W w1 →
        Below w.heap.size w w1 ∧ w.heap.size + 1 < w1.heap.size ∧ w1.heap[w.heap.size]? = some (.cells #[.bool l, .string t, .slice (some ⟨b, o, none⟩) ms.length cap] 55 (0, 0)) ∧ w1.heap[w.heap.size + 1]? = some (.cells #[.int .i64 0, .int .i64 0] 26 (0, 0)) := by
      rintro W w1 rfl hb
      have hz := hb.size
      simp at hz
      refine ⟨(((Below.refl _ _).alloc (Nat.le_refl _) _).alloc (by simp) _).trans (hb.mono (by simp; omega)), by omega, ?_, ?_⟩
      · refine (hb.block w.heap.size (by simp; omega)).trans ?_
        exact (Below.heap_alloc _ _ _ (by simp)).trans (heap_alloc_new w _)
      · refine (hb.block (w.heap.size + 1) (by simp)).trans ?_
        exact alloc_at3 _ _ _ (by simp)
    have HSTEP := Lib.hid hstep; clear hstep
    by_cases hi0 : i < 0
    · go_enter Tryz.func17, Tryz.ntmps17
      go_wp2_with fail
      refine ((HV _ (by go_grown)).out).mono ?_; rintro e w1 ⟨rfl, hb⟩
      obtain ⟨hB, hlt, k0, k1⟩ := HSTEP.out _ w1 rfl hb
      have c0 : w1.cell? ⟨w.heap.size, 1, none⟩ = some (.string t) := Joins.cell_of_block k0 1
      have c1 : w1.cell? ⟨w.heap.size + 1, 0, none⟩ = some (.int .i64 0) := Joins.cell_of_block k1 0
      have c2 : w1.cell? ⟨w.heap.size + 1, 1, none⟩ = some (.int .i64 0) := Joins.cell_of_block k1 1
      have f1 := Joins.unfrozen_of_block k1 0
      have f2 := Joins.unfrozen_of_block k1 1
      have HB := Lib.hid hB
      clear hb hB k0 k1
      obtain ⟨r0, r1⟩ := posCells (u := .int .i64 0) (v := .int .i64 0) c1 c2
      go_wp2
      exact bodyPost_ret (v := .tuple #[.agg #[.int .i64 0, .int .i64 0], .int .i64 1]) (by simp [results, Tryz.results17, go_sem, r0, r1]) rfl ⟨(HB.out.setCell (by simp) _).setCell (by simp) _, .inr ⟨fun h => by omega, rfl⟩⟩
    · by_cases hit : (t.size : Int) < i
      · have HNI : Hid (¬ (ValidP t.data.toList.length ms ∧ 0 ≤ i ∧ i ≤ t.data.toList.length)) := fun h => by have := h.2.2; rw [← HT.out] at this; omega
        go_enter Tryz.func17, Tryz.ntmps17
        go_wp2_with fail
        refine ((HV _ (by go_grown)).out).mono ?_; rintro e w1 ⟨rfl, hb⟩
        obtain ⟨hB, hlt, k0, k1⟩ := HSTEP.out _ w1 rfl hb
        have c0 : w1.cell? ⟨w.heap.size, 1, none⟩ = some (.string t) := Joins.cell_of_block k0 1
        have c1 : w1.cell? ⟨w.heap.size + 1, 0, none⟩ = some (.int .i64 0) := Joins.cell_of_block k1 0
        have c2 : w1.cell? ⟨w.heap.size + 1, 1, none⟩ = some (.int .i64 0) := Joins.cell_of_block k1 1
        have f1 := Joins.unfrozen_of_block k1 0
        have f2 := Joins.unfrozen_of_block k1 1
        have HB := Lib.hid hB
        clear hb hB k0 k1
        obtain ⟨r0, r1⟩ := posCells (u := .int .i64 0) (v := .int .i64 0) c1 c2
        go_wp2
        exact bodyPost_ret (v := .tuple #[.agg #[.int .i64 0, .int .i64 0], .int .i64 1]) (by simp [results, Tryz.results17, go_sem, r0, r1]) rfl ⟨(HB.out.setCell (by simp) _).setCell (by simp) _, .inr ⟨HNI.out, rfl⟩⟩
      · go_enter Tryz.func17, Tryz.ntmps17
        go_wp2_with fail
        refine ((HV _ (by go_grown)).out).mono ?_; rintro e w1 ⟨rfl, hb⟩
        obtain ⟨hB, hlt, k0, k1⟩ := HSTEP.out _ w1 rfl hb
        have c0 : w1.cell? ⟨w.heap.size, 1, none⟩ = some (.string t) := Joins.cell_of_block k0 1
        have c1 : w1.cell? ⟨w.heap.size, 2, none⟩ = some (.slice (some ⟨b, o, none⟩) ms.length cap) := Joins.cell_of_block k0 2
        have hw1 : w.heap.size < w1.heap.size := by omega
        have hbw1 : b < w1.heap.size := by omega
        have HCW : Hid (∀ (j : Nat) (y : Int × Int × Int), ms[j]? = some y → w1.cell? ⟨b, o + j * 3, none⟩ = some (.int .i64 y.1) ∧ w1.cell? ⟨b, o + j * 3 + 1, none⟩ = some (.int .i64 y.2.1) ∧ w1.cell? ⟨b, o + j * 3 + 2, none⟩ = some (.int .i64 y.2.2)) := fun j y hy =>
          ⟨(hB.cell (p := ⟨b, _, none⟩) hbw).trans (HC.out j y hy).1, (hB.cell (p := ⟨b, _, none⟩) hbw).trans (HC.out j y hy).2.1, (hB.cell (p := ⟨b, _, none⟩) hbw).trans (HC.out j y hy).2.2⟩
        obtain ⟨d0, d1, d2⟩ := HCW.out 0 x0 HX0.out
        simp only [Nat.zero_mul, Nat.add_zero] at d0 d1 d2
        have hposI : (0 : Int) < (ms.length : Int) := by omega
        have HB := Lib.hid hB
        have HK1 := Lib.hid k1
        clear hb hB k0 k1
        have HC0 := Lib.hid c0
        go_wp2
        clear d0 d1 d2 c1
        go_loopw [31] (fun j wr => ∃ (k : Nat) (x : Int × Int × Int), k ≤ ms.length ∧ j = .int .i64 k ∧ Hid (x = pickM i (ms.take k) x0) ∧ Hid (wr.heap[w1.heap.size]? = some (.cells #[.int .i64 x.1, .int .i64 x.2.1, .int .i64 x.2.2] 52 (0, 0))) ∧ Hid (∀ q, q < w1.heap.size → wr.heap[q]? = w1.heap[q]?) ∧ Hid (Below w1.heap.size w1 wr) ∧ w1.heap.size < wr.heap.size) (fun j _ => ms.length - (intOf j).toNat)
        case atStart => exact ⟨0, x0, Nat.zero_le _, rfl, rfl, heap_alloc_new w1 _, fun q hq => Below.heap_alloc w1 _ q hq, (Below.refl _ _).alloc (Nat.le_refl _) _, by simp⟩
        case round =>
          obtain ⟨k, x, hk, rfl, HX, HM, HQ, HBW, hsz⟩ := hrel
          have m0 : wr.cell? ⟨w1.heap.size, 0, none⟩ = some (.int .i64 x.1) := Joins.cell_of_block HM.out 0
          have m1 : wr.cell? ⟨w1.heap.size, 1, none⟩ = some (.int .i64 x.2.1) := Joins.cell_of_block HM.out 1
          have m2 : wr.cell? ⟨w1.heap.size, 2, none⟩ = some (.int .i64 x.2.2) := Joins.cell_of_block HM.out 2
          have n0 := Joins.unfrozen_of_block HM.out 0
          have n1 := Joins.unfrozen_of_block HM.out 1
          have n2 := Joins.unfrozen_of_block HM.out 2
          by_cases hkl : k < ms.length
          · obtain ⟨y, hy⟩ : ∃ y, ms[k]? = some y := ⟨ms[k], List.getElem?_eq_getElem hkl⟩
            obtain ⟨d0, d1, d2⟩ := HCW.out k y hy
            have hbr : b < wr.heap.size := by omega
            have e0 : wr.cell? ⟨b, o + k * 3, none⟩ = some (.int .i64 y.1) := (World.cell?_of_block (a := ⟨b, _, none⟩) (HQ.out b hbw1)).trans d0
            have e1 : wr.cell? ⟨b, o + k * 3 + 1, none⟩ = some (.int .i64 y.2.1) := (World.cell?_of_block (a := ⟨b, _, none⟩) (HQ.out b hbw1)).trans d1
            have e2 : wr.cell? ⟨b, o + k * 3 + 2, none⟩ = some (.int .i64 y.2.2) := (World.cell?_of_block (a := ⟨b, _, none⟩) (HQ.out b hbw1)).trans d2
            have HP := Lib.hid (pickM_take i ms x0 y k hy)
            have hMa : (wr.alloc (.cells #[.int .i64 y.1, .int .i64 y.2.1, .int .i64 y.2.2] 52)).heap[w1.heap.size]? = some (.cells #[.int .i64 x.1, .int .i64 x.2.1, .int .i64 x.2.2] 52 (0, 0)) := (Below.heap_alloc _ _ _ hsz).trans HM.out
            have HMA := Lib.hid hMa
            have hQa : ∀ q, q < w1.heap.size → (wr.alloc (.cells #[.int .i64 y.1, .int .i64 y.2.1, .int .i64 y.2.2] 52)).heap[q]? = w1.heap[q]? := fun q hq => (Below.heap_alloc _ _ _ (by omega)).trans (HQ.out q hq)
            have HQA := Lib.hid hQa
            have HBA := Lib.hid (HBW.out.alloc (Nat.le_of_lt hsz) (.cells #[.int .i64 y.1, .int .i64 y.2.1, .int .i64 y.2.2] 52))
            have hne : w1.heap.size ≠ wr.heap.size := by omega
            clear d0 d1 d2 hy hMa hQa
            by_cases hyi : y.1 ≤ i
            · go_wp2
              go_roundw
              case rel =>
                have b1 := Joins.block_setCell (i := 0) HM.out (.int .i64 y.1)
                have b2 := Joins.block_setCell (i := 1) b1 (.int .i64 y.2.1)
                have b3 := Joins.block_setCell (i := 2) b2 (.int .i64 y.2.2)
                refine ⟨k + 1, y, by omega, by go_num, ?_, (Below.heap_alloc _ _ _ (by simp; omega)).trans b3, ?_, (((HBW.out.setCell (Nat.le_refl _) _).setCell (Nat.le_refl _) _).setCell (Nat.le_refl _) _).alloc (by simp; omega) _, by simp; omega⟩
                · show _ = _
                  rw [HP.out, if_pos hyi]
                · show ∀ q, _
                  intro q hq
                  have hqn : q ≠ w1.heap.size := by omega
                  exact (Below.heap_alloc _ _ q (by simp; omega)).trans ((Below.heap_setCell _ ⟨w1.heap.size, 2, none⟩ _ q hqn).trans ((Below.heap_setCell _ ⟨w1.heap.size, 1, none⟩ _ q hqn).trans ((Below.heap_setCell _ ⟨w1.heap.size, 0, none⟩ _ q hqn).trans (HQ.out q hq))))
              case measure => simp [intOf]; omega
            · go_wp2
              go_roundw
              case rel =>
                refine ⟨k + 1, x, by omega, by go_num, ?_, HMA.out, HQA.out, HBA.out, by simp; omega⟩
                show _ = _
                rw [HP.out, if_neg hyi]; exact HX.out
              case measure => simp [intOf]; omega
          · have HXF : Hid (x = pickM i ms x0) := by
              have := HX.out
              rw [List.take_of_length_le (by omega)] at this
              exact this
            have q1 := (HQ.out (w.heap.size + 1) hlt).trans HK1.out
            have c1 : wr.cell? ⟨w.heap.size + 1, 0, none⟩ = some (.int .i64 0) := Joins.cell_of_block q1 0
            have c2 : wr.cell? ⟨w.heap.size + 1, 1, none⟩ = some (.int .i64 0) := Joins.cell_of_block q1 1
            have f1 := Joins.unfrozen_of_block q1 0
            have f2 := Joins.unfrozen_of_block q1 1
            have hx := pick_mem i ms x0
            rw [← HXF.out] at hx
            have hxr : 0 ≤ x.1 ∧ x.1 ≤ i ∧ 8 ≤ x.2.2 ∧ x.2.2 ≤ 72 := by
              rcases hx with rfl | ⟨h1, h2⟩
              · obtain ⟨z, hz1, hz2⟩ := HVP.out.2.1
                have := HX0.out
                rw [hz1] at this; injection this with this; subst this
                have := HVP.out.2.2 0 _ hz1
                exact ⟨by omega, by omega, this.2.1, this.2.2.1⟩
              · obtain ⟨j, hj⟩ := List.mem_iff_getElem?.1 h1
                have h3 := valid_from HVP.out j _ hj
                have h4 := HVP.out.2.2 j _ hj
                exact ⟨h3.1, h2, h4.2.1, h4.2.2.1⟩
            obtain ⟨hr1, hr2, hr3, hr4⟩ := hxr
            have HBF : Hid (Below w.heap.size w wr) := HB.out.trans (HBW.out.mono HB.out.size)
            have hta : t.size ≤ 134217728 := ht
            clear q1 hx
            obtain ⟨r0, r1⟩ := posCells (u := .int .i64 x.2.1) (v := .int .i64 (x.2.2 + i - x.1)) c1 c2
            go_wp2
            refine bodyPost_ret (v := .tuple #[.agg #[.int .i64 x.2.1, .int .i64 (x.2.2 + i - x.1)], .int .i64 0]) (by simp [results, Tryz.results17, go_sem, r0, r1]) rfl ⟨(HBF.out.setCell (by simp) _).setCell (by simp) _, .inl ⟨HVP.out, by omega, by rw [← HT.out]; omega, x0, HX0.out, ?_⟩⟩
            rw [← HXF.out]
  · have HV := fun W hW => Lib.hid (HVAL.out false ⟨fun h => (by cases h), fun h => absurd h hv⟩ W hW)
    have HNV := Lib.hid hv
    clear hv hcs
    go_enter Tryz.func17, Tryz.ntmps17
    go_wp2_with fail
    refine ((HV _ (by go_grown)).out).mono ?_; rintro e w1 ⟨rfl, hb⟩
    have hz := hb.size
    simp at hz
    have hlt : w.heap.size + 1 < w1.heap.size := by omega
    have k1 : w1.heap[w.heap.size + 1]? = some (.cells #[.int .i64 0, .int .i64 0] 26 (0, 0)) := (hb.block (w.heap.size + 1) (by simp)).trans (alloc_at3 _ _ _ (by simp))
    have c1 : w1.cell? ⟨w.heap.size + 1, 0, none⟩ = some (.int .i64 0) := Joins.cell_of_block k1 0
    have c2 : w1.cell? ⟨w.heap.size + 1, 1, none⟩ = some (.int .i64 0) := Joins.cell_of_block k1 1
    have f1 := Joins.unfrozen_of_block k1 0
    have f2 := Joins.unfrozen_of_block k1 1
    have HB : Hid (Below w.heap.size w w1) := (((Below.refl _ _).alloc (Nat.le_refl _) _).alloc (by simp) _).trans (hb.mono (by simp; omega))
    clear hb k1 hz
    obtain ⟨r0, r1⟩ := posCells (u := .int .i64 0) (v := .int .i64 0) c1 c2
    go_wp2
    exact bodyPost_ret (v := .tuple #[.agg #[.int .i64 0, .int .i64 0], .int .i64 1]) (by simp [results, Tryz.results17, go_sem, r0, r1]) rfl ⟨(HB.out.setCell (by simp) _).setCell (by simp) _, .inr ⟨fun h => HNV.out h.1, rfl⟩⟩
end Go.Proofs.YtpalfhfbgfnacaaGreatDoor
