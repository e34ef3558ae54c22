/-
  The contract of the writer's method line.
-/
import Derived.Test.YtpalfhfbgfnacaaGreatDoorWr
import Derived.Test.YtpalfhfbgfnacaaGreatDoorGW
import Derived.Deep.RegionLaw
import Derived.Lib.AppendIntMem
namespace Go.Proofs.YtpalfhfbgfnacaaGreatDoor
open Go.RowKit
set_option linter.unusedVariables false
set_option linter.unusedSimpArgs false

def LinePost (B Wr : Nat) (o : List UInt8) (n : Nat) (head part : List UInt8) (w : World) (e : Ending) (w' : World) : Prop :=
  e = .returned (.bool (decide ((o ++ lineB (n + 1) head part).length ≤ 1048576))) ∧ Below B w w' ∧ Turns2 95 5 w w' ∧ ∃ ov, WrAt B Wr ov (o ++ lineB (n + 1) head part) (n + 1) w'
set_option maxHeartbeats 2000000 in
set_option maxRecDepth 100000 in
theorem c_line {B Wr : Nat} {ov : Value} {o : List UInt8} {n : Nat} (head part : ByteArray) (w : World) (h : WrAt B Wr ov o n w) (htab : Lib.TabBelow Tryz.prog B w "internal/strconv.uint64pow10" .u64 Lib.pow10Tab)
    (ho : o.length ≤ 1048576) (hh : head.size ≤ 8) (hp : part.size ≤ 1048576) (hn : n ≤ 1048576) :
    Calls Tryz.prog 68 #[.pointer (some ⟨Wr, 0, none⟩), .string head, .string part] w (LinePost B Wr o n head.data.toList part.data.toList w) := by
  obtain ⟨hc0, hc1, hf0, hf1⟩ := h.cells
  have hlt : Wr < w.heap.size := lt_of_block h.wr
  have H1 := Lib.hid (h.setLines (n + 1))
  have hT1 := Lib.hid (Turns.setCell (e := 95) h.wr 1 (.int .i64 (n + 1 : Nat)))
  have hb1 : Below B w (w.setCell ⟨Wr, 1, none⟩ (.int .i64 (n + 1 : Nat))) := (Below.refl _ _).setCell h.bw _
  have htb := Lib.hid (htab _ hb1)
  have hw1 : (((n : Int) + 1) % 1000000) = (((n + 1) % 1000000 : Nat) : Int) := by omega
  have hlast : (n : Int) + 1 = ((n + 1 : Nat) : Int) := by omega
  have H := Lib.hid h
  have HL := Lib.hid hlast
  have HW := Lib.hid hw1
  clear h htab hlast hw1
  go_enter Tryz.func68, Tryz.ntmps68
  go_wp2_with fail
  rw [HW.out, HL.out]
  generalize w.setCell ⟨Wr, 1, none⟩ (.int .i64 (n + 1 : Nat)) = w1 at *
  have hm : (n + 1) % 1000000 < 1000000 := Nat.mod_lt _ (by omega)
  have hi : (1000000 : Int) + ((n + 1) % 1000000 : Nat) = ((1000000 + (n + 1) % 1000000 : Nat) : Int) := by omega
  rw [hi]; clear hi
  refine (Tryz.strconv_Itoa ((1000000 + (n + 1) % 1000000 : Nat) : Int) (by omega) (by omega) _ htb.out).mono ?_; rintro e w2 ⟨rfl, kk, os, hw2⟩
  have hb2 : Below w1.heap.size w1 w2 := by rw [hw2]; exact Lib.below_grow _ _ (Nat.le_refl _) _ _
  clear hw2
  rw [Lib.itoa_nonneg]
  have h7 := num7_len (n + 1)
  obtain ⟨t, ht, hts, HTS⟩ := strVar (Lib.decDigits (1000000 + (n + 1) % 1000000))
  have ht2 : (⟨(Lib.decDigits (1000000 + (n + 1) % 1000000)).toArray⟩ : ByteArray) = t := ht.symm
  rw [ht2]
  have ht7 : t.size = 7 := by rw [HTS.out]; exact h7
  have HTD : Hid (t.data.toList = Lib.decDigits (1000000 + (n + 1) % 1000000)) := by rw [ht]; rfl
  clear ht ht2 hts hm h7
  have H2 := Lib.hid (H1.out.below hb2)
  have hU2 : Turns2 95 5 w w2 := hT1.out.two1.trans (Turns.of_below (e := 95) hb2).two1
  have hB2 : Below B w w2 := hb1.trans (hb2.mono H1.out.bs)
  have htl : t.size ≤ 7 := by omega
  have htg : 7 ≤ t.size := by omega
  have H6 : Hid ((t.extract 1 t.size).data.toList = num6 (n + 1)) := by
    show _ = _
    rw [extract_data, List.take_of_length_le (by rw [← size_data]; exact Nat.le_refl _), HTD.out]
    rfl
  have H6s : Hid ((t.extract 1 t.size).size = 6) := by show _ = _; rw [ByteArray.size_extract]; omega
  clear ht7
  obtain ⟨a3, c3, w3, R3, P3⟩ := H2.out.drew.str (t.extract 1 t.size) (by rw [H6s.out]; omega)
  rw [H6.out, H6s.out] at P3
  rw [H6s.out] at R3
  have HR3 := Lib.hid R3; have HP3 := Lib.hid P3
  obtain ⟨u3, hx3⟩ := P3.cell
  have hy3 := P3.free
  have hB3 : Below B w (w3.setCell ⟨Wr, 0, none⟩ (.slice a3 (o.length + 6) c3)) := (hB2.trans (⟨rfl, rfl, rfl, Nat.le_refl _, fun _ _ => rfl⟩ : Below B w2 w2.drew)).trans (P3.below.setCell H.out.bw _)
  have hl4 : (o ++ num6 (n + 1)).length = o.length + 6 := by rw [List.length_append, num6_len]
  obtain ⟨a4, c4, w4, R4, P4⟩ := P3.at_.str head (by omega)
  rw [hl4] at R4 P4
  have HR4 := Lib.hid R4
  obtain ⟨u4, hx4⟩ := P4.cell
  have hy4 := P4.free
  have hl5 : (o ++ num6 (n + 1) ++ head.data.toList).length = o.length + 6 + head.size := by rw [List.length_append, hl4, ← size_data]
  have hB4 : Below B w (w4.setCell ⟨Wr, 0, none⟩ (.slice a4 (o.length + 6 + head.size) c4)) := hB3.trans (P4.below.setCell H.out.bw _)
  obtain ⟨a5, c5, w5, R5, P5⟩ := P4.at_.str part (by omega)
  rw [hl5] at R5 P5
  have HR5 := Lib.hid R5
  obtain ⟨u5, hx5⟩ := P5.cell
  have hy5 := P5.free
  have hl6 : (o ++ num6 (n + 1) ++ head.data.toList ++ part.data.toList).length = o.length + 6 + head.size + part.size := by rw [List.length_append, hl5, ← size_data]
  have hB5 : Below B w (w5.setCell ⟨Wr, 0, none⟩ (.slice a5 (o.length + 6 + head.size + part.size) c5)) := hB4.trans (P5.below.setCell H.out.bw _)
  obtain ⟨a6, c6, w6, R6, P6⟩ := P5.at_.byte 10 (by omega)
  rw [hl6] at R6 P6
  have hz6 : (w5.setCell ⟨Wr, 0, none⟩ (.slice a5 (o.length + 6 + head.size + part.size) c5)).heap.size = w5.heap.size := by simp
  rw [hz6, show (((10 : UInt8).toNat : Nat) : Int) = 10 from rfl] at R6
  clear hz6
  have HR6 := Lib.hid R6
  obtain ⟨u6, hx6⟩ := P6.cell
  have hy6 := P6.free
  have hB6 : Below B w (w6.setCell ⟨Wr, 0, none⟩ (.slice a6 (o.length + 6 + head.size + part.size + 1) c6)) := hB5.trans (P6.below.setCell H.out.bw _)
  have HB6 := Lib.hid hB6
  have HU6 := Lib.hid ((((hU2.trans (⟨Nat.le_refl _, fun _ _ _ _ h _ _ => h⟩ : Turns2 _ _ w2 w2.drew)).trans P3.two).trans P4.two).trans P5.two |>.trans P6.two)
  have HP6 := Lib.hid P6
  obtain ⟨hd0, hd1, he0, he1⟩ := H2.out.cells
  clear hU2 hB2 hB3 hB4 hB5 hB6 R3 R4 R5 R6 P3 P4 P5 P6 hc0 hc1 hf0 hf1 hl4 hl5 hl6 hb2 hb1 hT1 HW HL
  have hti : (1 : Int) ≤ (t.size : Int) := by omega
  have hti2 : 1 ≤ t.size := by omega
  go_upto_region 3 with fail
  go_region_law (refine step_append_run rfl (.tmp 26) (.tmp 28) _ rfl _ _ _ _ (by rfl) (by rfl) HR3.out ?_)
  all_goals
    go_wp2_with (at_builtin; first
      | (refine wp_append_run rfl (.tmp 36) (.tmp 37) _ rfl _ _ _ _ rfl rfl HR4.out ?_)
      | (refine wp_append_run rfl (.tmp 45) (.tmp 46) _ rfl _ _ _ _ rfl rfl HR5.out ?_)
      | (refine wp_append_run rfl (.tmp 54) (.tmp 55) _ rfl _ _ _ _ rfl rfl HR6.out ?_))
    go_returns
    have hfull : o ++ lineB (n + 1) head.data.toList part.data.toList = o ++ num6 (n + 1) ++ head.data.toList ++ part.data.toList ++ [10] := by
      simp [lineB, List.append_assoc]
    refine ⟨retB ?_, HB6.out, HU6.out, .slice a6 (o.length + 6 + head.size + part.size + 1) c6, ?_⟩
    · have hl := lineB_len (n + 1) head.data.toList part.data.toList
      rw [List.length_append, hl, ← size_data, ← size_data]
      rw [decide_eq_decide]
      omega
    · rw [hfull]
      exact HP6.out.at_
end Go.Proofs.YtpalfhfbgfnacaaGreatDoor
