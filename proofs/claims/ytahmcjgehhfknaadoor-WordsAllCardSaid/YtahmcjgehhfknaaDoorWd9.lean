/-
  words.figurative and Literal.
-/
import Derived.Test.YtahmcjgehhfknaaDoorWd8
namespace Go.Proofs.YtahmcjgehhfknaaDoor
open Go.RowKit
set_option linter.unusedVariables false
set_option linter.unusedSimpArgs false

def zeroW : List (List UInt8) := [[90, 69, 82, 79], [90, 69, 82, 79, 83], [90, 69, 82, 79, 69, 83]]
theorem row_one (w : World) (b : UInt8) : Row2 w (w.alloc (.cells #[.int .u8 b.toNat] 5)) w.heap.size [b] := by
  refine ⟨by simp, fun j c hj => ?_, Nat.le_refl _, (Below.refl _ w).alloc (Nat.le_refl _) _⟩
  cases j with
  | zero => injection hj with hj; subst hj; exact Joins.cell_of_block (MapKept.heap_alloc w _).1 0
  | succ j => cases hj
set_option maxRecDepth 100000 in
set_option maxHeartbeats 4000000 in
theorem c_fig_bad (s : ByteArray) (hs : s.size ≤ maxLen) (h : isFig s.data.toList = false) (w : World) :
    Calls Tryd.prog 36 #[.string s] w fun e w' => e = .returned (.tuple #[zeroF, .int .i64 11]) ∧ Below w.heap.size w w' := by
  have HBY : Hid (∀ W, Calls Tryd.prog 12 #[.string s] W fun e w' => e = .returned (.tuple #[.int .u8 (byteI s.data.toList), .bool false]) ∧ Below W.heap.size W w') := fun W => by
    rw [← h]; exact c_byte s hs W
  clear h
  have HFB := Lib.hid (FB.new w)
  have HB := Lib.hid ((Below.refl w.heap.size w).alloc (Nat.le_refl _) (.cells #[.int .u8 0, .int .u8 0, .string ⟨#[]⟩, .int .i64 0, .int .i64 0, .bool false, .bool false, .bool false, .bool false, .bool false, .int .i64 0, .slice none 0 0] 43))
  go_enter Tryd.func36, Tryd.ntmps36
  go_wp2_with (go_at_call 12; refine (HBY.out _).mono ?_; rintro e w1 ⟨rfl, hb1⟩; have HFB1 := Lib.hid (HFB.out.kept hb1); have HB1 := Lib.hid (HB.out.trans (hb1.mono HB.out.size)); clear hb1; obtain ⟨c0, c1, c2, c3, c4, c5, c6, c7, c8, c9, c10, c11⟩ := HFB1.out.cells; obtain ⟨f0, f1, f2, f3, f4, f5, f6, f7, f8, f9, f10, f11⟩ := HFB1.out.free)
  obtain ⟨w5, hw5, hb5, ho5, d0, d1, d2, d3, d4, d5, d6, d7, d8, d9, d10, d11⟩ := HFB1.out.named HB1.out (Nat.le_refl _) (.int .u8 0) (.int .u8 0) (.string ⟨#[]⟩) (.int .i64 0) (.int .i64 0) (.bool false) (.bool false) (.bool false) (.bool false) (.bool false) (.int .i64 0) (.slice none 0 0)
  rw [← hw5]
  clear hw5
  refine bodyPost_ret (by simp [results, Tryd.results36, go_sem, d0, d1, d2, d3, d4, d5, d6, d7, d8, d9, d10, d11]; try rfl) rfl ?_
  exact ⟨rfl, hb5⟩

set_option maxRecDepth 100000 in
set_option maxHeartbeats 4000000 in
theorem c_fig_zero (s : ByteArray) (hz : s.data.toList ∈ zeroW) (w : World) (hm : MaxLenAt w) :
    Calls Tryd.prog 36 #[.string s] w fun e w' => ∃ g : Nat,
      e = .returned (.tuple #[fdV 4 ⟨#[57]⟩ 1 0 false 1 (.slice (some ⟨g, 0, none⟩) 1 1), .int .i64 0]) ∧ Row2 w w' g [48] := by
  have hss : s.size ≤ maxLen := by
    rw [Lib.size_eq]
    unfold zeroW at hz
    simp only [List.mem_cons, List.not_mem_nil, or_false] at hz
    rcases hz with h | h | h <;> rw [h] <;> decide
  have hf : isFig s.data.toList = true := by
    unfold zeroW at hz
    simp only [List.mem_cons, List.not_mem_nil, or_false] at hz
    rcases hz with h | h | h <;> rw [h] <;> decide
  have HBY : Hid (∀ W, Calls Tryd.prog 12 #[.string s] W fun e w' => e = .returned (.tuple #[.int .u8 (byteI s.data.toList), .bool true]) ∧ Below W.heap.size W w') := fun W => by
    rw [← hf]; exact c_byte s hss W
  have HNUM : Hid (∀ W, MaxLenAt W → Calls Tryd.prog 34 #[.string ⟨#[48]⟩] W fun e w' => ∃ g : Nat,
      e = .returned (.tuple #[fdV 4 ⟨#[57]⟩ 1 0 false 1 (.slice (some ⟨g, 0, none⟩) 1 1), .int .i64 0]) ∧ Row2 W w' g [48]) := fun W hm =>
    c_number ⟨#[48]⟩ (by decide) (by decide +kernel) (by decide +kernel) W hm
  have hst : s.toList = s.data.toList := ByteArray.toList_eq s
  clear hf hss
  have HFB := Lib.hid (FB.new w)
  have HB := Lib.hid ((Below.refl w.heap.size w).alloc (Nat.le_refl _) (.cells #[.int .u8 0, .int .u8 0, .string ⟨#[]⟩, .int .i64 0, .int .i64 0, .bool false, .bool false, .bool false, .bool false, .bool false, .int .i64 0, .slice none 0 0] 43))
  have HMX := Lib.hid (hm.below HB.out)
  clear hm
  unfold zeroW at hz
  simp only [List.mem_cons, List.not_mem_nil, or_false] at hz
  obtain ⟨bv, hbv⟩ : ∃ bv, bv = byteI s.data.toList := ⟨_, rfl⟩
  rw [← hbv] at HBY
  clear hbv
  rcases hz with h | h | h
  all_goals
    rw [h] at hst
    clear h
    go_enter Tryd.func36, Tryd.ntmps36
    go_wp2_with (first
      | (go_at_call 12; refine (HBY.out _).mono ?_; rintro e w1 ⟨rfl, hb1⟩; have HFB1 := Lib.hid (HFB.out.kept hb1); have HB1 := Lib.hid (HB.out.trans (hb1.mono HB.out.size)); have HM1 := Lib.hid (HMX.out.below hb1); clear hb1)
      | (go_at_call 34; refine (HNUM.out _ HM1.out).mono ?_; rintro e w2 ⟨g, rfl, hrow⟩; dsimp only [fdV]; have HFB2 := Lib.hid (HFB1.out.kept hrow.bel); have HGN : Hid (g ≠ w.heap.size) := Lib.hid (by have := hrow.lo; have := HFB1.out.lt; omega); have HROW := Lib.hid (hrow.base HB1.out); clear hrow; obtain ⟨c0, c1, c2, c3, c4, c5, c6, c7, c8, c9, c10, c11⟩ := HFB2.out.cells; obtain ⟨f0, f1, f2, f3, f4, f5, f6, f7, f8, f9, f10, f11⟩ := HFB2.out.free))
    have HBB := Lib.hid HROW.out.bel
    obtain ⟨w5, hw5, hb5, ho5, d0, d1, d2, d3, d4, d5, d6, d7, d8, d9, d10, d11⟩ := HFB2.out.named HBB.out (Nat.le_refl _) (.int .u8 4) (.int .u8 0) (.string ⟨#[57]⟩) (.int .i64 1) (.int .i64 0) (.bool false) (.bool false) (.bool false) (.bool false) (.bool false) (.int .i64 1) (.slice (some ⟨g, 0, none⟩) 1 1)
    rw [← hw5]
    clear hw5
    refine bodyPost_ret (by simp [results, Tryd.results36, go_sem, d0, d1, d2, d3, d4, d5, d6, d7, d8, d9, d10, d11]; try rfl) rfl ?_
    exact ⟨g, rfl, HROW.out.other ho5 HGN.out hb5⟩

set_option maxRecDepth 100000 in
set_option maxHeartbeats 4000000 in
theorem c_fig (s : ByteArray) (hs : s.size ≤ maxLen) (h : isFig s.data.toList = true) (hz : s.data.toList ∉ zeroW) (b : UInt8) (hb : byteI s.data.toList = (b.toNat : Int)) (w : World) :
    Calls Tryd.prog 36 #[.string s] w fun e w' => ∃ g : Nat,
      e = .returned (.tuple #[fdV 2 ⟨#[88]⟩ 0 0 false 1 (.slice (some ⟨g, 0, none⟩) 1 1), .int .i64 0]) ∧ Row2 w w' g [b] := by
  have HBY : Hid (∀ W, Calls Tryd.prog 12 #[.string s] W fun e w' => e = .returned (.tuple #[.int .u8 b.toNat, .bool true]) ∧ Below W.heap.size W w') := fun W => by
    rw [← h, ← hb]; exact c_byte s hs W
  have HAL : Hid (∀ g W, Calls Tryd.prog 54 #[.slice (some ⟨g, 0, none⟩) 1 1] W fun e w' =>
      e = .returned (fdV 2 ⟨#[88]⟩ 0 0 false 1 (.slice (some ⟨g, 0, none⟩) 1 1)) ∧ Below W.heap.size W w') := fun g W => c_alpha g 1 1 (Nat.le_refl _) (by omega) W
  unfold zeroW at hz
  simp only [List.mem_cons, List.not_mem_nil, or_false, not_or] at hz
  obtain ⟨z1, z2, z3⟩ := hz
  have hst : s.toList = s.data.toList := ByteArray.toList_eq s
  have y1 : (s.toList == [90, 69, 82, 79]) = false := by rw [hst]; simpa using z1
  have y2 : (s.toList == [90, 69, 82, 79, 83]) = false := by rw [hst]; simpa using z2
  have y3 : (s.toList == [90, 69, 82, 79, 69, 83]) = false := by rw [hst]; simpa using z3
  clear z1 z2 z3 hst h hb
  have HFB := Lib.hid (FB.new w)
  have HB := Lib.hid ((Below.refl w.heap.size w).alloc (Nat.le_refl _) (.cells #[.int .u8 0, .int .u8 0, .string ⟨#[]⟩, .int .i64 0, .int .i64 0, .bool false, .bool false, .bool false, .bool false, .bool false, .int .i64 0, .slice none 0 0] 43))
  go_enter Tryd.func36, Tryd.ntmps36
  go_wp2_with (first
    | (go_at_call 12; refine (HBY.out _).mono ?_; rintro e w1 ⟨rfl, hb1⟩; have HFB1 := Lib.hid (HFB.out.kept hb1); have HB1 := Lib.hid (HB.out.trans (hb1.mono HB.out.size)); clear hb1)
    | (go_at_call 54; refine (HAL.out _ _).mono ?_; rintro e w2 ⟨rfl, hb2⟩; dsimp only [fdV]; have HFB2 := Lib.hid ((HFB1.out.alloc _).kept hb2); have HROW := Lib.hid (((row_one w1 b).keep hb2).base HB1.out); clear hb2; obtain ⟨c0, c1, c2, c3, c4, c5, c6, c7, c8, c9, c10, c11⟩ := HFB2.out.cells; obtain ⟨f0, f1, f2, f3, f4, f5, f6, f7, f8, f9, f10, f11⟩ := HFB2.out.free))
  have HBB := Lib.hid HROW.out.bel
  have HGN : Hid (w1.heap.size ≠ w.heap.size) := Lib.hid (by have := HFB1.out.lt; omega)
  obtain ⟨w5, hw5, hb5, ho5, d0, d1, d2, d3, d4, d5, d6, d7, d8, d9, d10, d11⟩ := HFB2.out.named HBB.out (Nat.le_refl _) (.int .u8 2) (.int .u8 0) (.string ⟨#[88]⟩) (.int .i64 0) (.int .i64 0) (.bool false) (.bool false) (.bool false) (.bool false) (.bool false) (.int .i64 1) (.slice (some ⟨w1.heap.size, 0, none⟩) 1 1)
  rw [← hw5]
  clear hw5
  refine bodyPost_ret (by simp [results, Tryd.results36, go_sem, d0, d1, d2, d3, d4, d5, d6, d7, d8, d9, d10, d11]; try rfl) rfl ?_
  exact ⟨w1.heap.size, rfl, HROW.out.other ho5 HGN.out hb5⟩
end Go.Proofs.YtahmcjgehhfknaaDoor
