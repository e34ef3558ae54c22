/-
  The law WordsTokens (columnsevenlaw05), walked.
-/
import Derived.Test.YtahmcjgehhfknaaDoorWd11
import Derived.Test.YtahmcjgehhfknaaDoorWd12
import Derived.Test.YtahmcjgehhfknaaDoorL5Of
namespace Go.Proofs.YtahmcjgehhfknaaDoor
open Go.RowKit
set_option linter.unusedVariables false
set_option linter.unusedSimpArgs false

set_option maxRecDepth 100000 in
set_option maxHeartbeats 8000000 in
theorem tok_skip (k : Nat) (s : ByteArray) (l c : Int) (lf : Bool) (hs : s.size ≤ maxLen) (h : 300 < s.size ∨ k = 2) (w : World) (hm : MaxLenAt w) (hT : SpTab w) :
    Calls Tryd.prog 7 #[tkV k s l c lf] w fun e w' => e = .returned (.bool true) ∧ Below w.heap.size w w' := by
  have HMX := Lib.hid hm
  have HTX := Lib.hid hT
  have HB0 := Lib.hid ((Below.refl w.heap.size w).alloc (Nat.le_refl _) (.cells #[.int .u8 k, .string s, .int .i64 l, .int .i64 c, .bool lf] 51))
  have HM0 := Lib.hid (hm.below HB0.out)
  clear hm hT
  unfold tkV
  rcases h with h | h
  · have hz : (300 : Int) < (s.size : Int) := by omega
    clear h
    go_enter Tryd.func7, Tryd.ntmps7
    go_wp2_with (go_at_call 9; refine (c_lives _ (HMX.out.below HB0.out) (HTX.out.below HB0.out)).mono ?_; rintro e w3 ⟨rfl, hb3⟩; have HB3 := Lib.hid (HB0.out.trans (hb3.mono HB0.out.size)); clear hb3)
    go_ret
    exact ⟨rfl, HB3.out⟩
  · subst h
    by_cases hz : (300 : Int) < (s.size : Int)
    all_goals
      go_enter Tryd.func7, Tryd.ntmps7
      go_wp2_with (go_at_call 9; refine (c_lives _ (HMX.out.below HB0.out) (HTX.out.below HB0.out)).mono ?_; rintro e w3 ⟨rfl, hb3⟩; have HB3 := Lib.hid (HB0.out.trans (hb3.mono HB0.out.size)); clear hb3)
      go_ret
      exact ⟨rfl, HB3.out⟩
set_option maxRecDepth 100000 in
set_option maxHeartbeats 8000000 in
theorem tok_quo_short (s : ByteArray) (l c : Int) (lf : Bool) (hs : s.size ≤ 300) (h : s.size = 0) (w : World) (hm : MaxLenAt w) (hT : SpTab w) :
    Calls Tryd.prog 7 #[tkV 3 s l c lf] w fun e w' => e = .returned (.bool true) ∧ Below w.heap.size w w' := by
  have HMX := Lib.hid hm
  have HTX := Lib.hid hT
  have HB0 := Lib.hid ((Below.refl w.heap.size w).alloc (Nat.le_refl _) (.cells #[.int .u8 3, .string s, .int .i64 l, .int .i64 c, .bool lf] 51))
  have HM0 := Lib.hid (hm.below HB0.out)
  clear hm hT
  unfold tkV
  have HLIT : Hid (∀ W, MaxLenAt W → Calls Tryd.prog 17 #[tkV 3 s l c lf] W fun e w' => e = .returned (.tuple #[zeroF, .int .i64 5]) ∧ Below W.heap.size W w') := Lib.hid fun W hW => c_lit_quo_err s l c lf 5 W fun W' _ => c_quote_bad s (.inl h) (by omega) W'
  have HBY := Lib.hid (byte_ok s _ _ (by unfold maxLen; omega) rfl rfl)
  have hz : (s.size : Int) < 1 := by omega
  have hz3 : ¬ (300 : Int) < (s.size : Int) := by omega
  go_enter Tryd.func7, Tryd.ntmps7
  go_upto_region 4 with (first
    | (go_at_call 17; refine (HLIT.out _ HM0.out).mono ?_; rintro e w1 ⟨rfl, hb1⟩; dsimp only [zeroF, fdV]; have HB1 := Lib.hid (HB0.out.trans (hb1.mono HB0.out.size)); have HTB1 : Hid (w1.heap[w.heap.size]? = some (.cells #[.int .u8 3, .string s, .int .i64 l, .int .i64 c, .bool lf] 51 (0, 0)) ∧ w.heap.size < w1.heap.size) := Lib.hid ⟨(hb1.block w.heap.size (by simp)).trans (MapKept.heap_alloc w _).1, Nat.lt_of_lt_of_le (by simp) hb1.size⟩; clear hb1)
    | fail)
  obtain ⟨F, hF⟩ : ∃ F, F = w1.heap.size := ⟨_, rfl⟩
  obtain ⟨W2, hW2⟩ : ∃ W2, W2 = w1.alloc (.cells #[.int .u8 0, .int .u8 0, .string ⟨#[]⟩, .int .i64 0, .int .i64 0, .bool false, .bool false, .bool false, .bool false, .bool false, .int .i64 0, (.slice none 0 0)] 43) := ⟨_, rfl⟩
  rw [← hW2, ← hF]
  have HB12 : Hid (Below w1.heap.size w1 W2) := Lib.hid (by rw [hW2]; exact (Below.refl _ w1).alloc (Nat.le_refl _) _)
  have HFB : Hid (W2.heap[F]? = some (.cells #[.int .u8 0, .int .u8 0, .string ⟨#[]⟩, .int .i64 0, .int .i64 0, .bool false, .bool false, .bool false, .bool false, .bool false, .int .i64 0, (.slice none 0 0)] 43 (0, 0))) := Lib.hid (by rw [hW2, hF]; exact (MapKept.heap_alloc w1 _).1)
  have HTB : Hid (W2.heap[w.heap.size]? = some (.cells #[.int .u8 3, .string s, .int .i64 l, .int .i64 c, .bool lf] 51 (0, 0))) := Lib.hid ((HB12.out.block w.heap.size HTB1.out.2).trans HTB1.out.1)
  have HLT : Hid (F < W2.heap.size ∧ w.heap.size < W2.heap.size) := Lib.hid ⟨(Array.getElem?_eq_some_iff.1 HFB.out).1, (Array.getElem?_eq_some_iff.1 HTB.out).1⟩
  have HBW : Hid (Below w.heap.size w W2) := Lib.hid (HB1.out.trans (HB12.out.mono HB1.out.size))
  have t0 := Joins.cell_of_block HTB.out 0
  have t1 := Joins.cell_of_block HTB.out 1
  clear hW2 hF HB12 HTB1 HB1
  go_wp2_with (first
    | (go_at_call 12; refine (HBY.out.out _).mono ?_; rintro e w2 ⟨rfl, hb2⟩; have HFB2 := Lib.hid ((hb2.block F HLT.out.1).trans HFB.out); have HTB2 := Lib.hid ((hb2.block w.heap.size HLT.out.2).trans HTB.out); have t0 := Joins.cell_of_block HTB2.out 0; have t1 := Joins.cell_of_block HTB2.out 1; have d0 := Joins.cell_of_block HFB2.out 0; have d1 := Joins.cell_of_block HFB2.out 1; have d2 := Joins.cell_of_block HFB2.out 2; have d3 := Joins.cell_of_block HFB2.out 3; have d4 := Joins.cell_of_block HFB2.out 4; have d5 := Joins.cell_of_block HFB2.out 5; have d6 := Joins.cell_of_block HFB2.out 6; have d7 := Joins.cell_of_block HFB2.out 7; have d8 := Joins.cell_of_block HFB2.out 8; have d9 := Joins.cell_of_block HFB2.out 9; have d10 := Joins.cell_of_block HFB2.out 10; have d11 := Joins.cell_of_block HFB2.out 11; have HB2 := Lib.hid (HBW.out.trans (hb2.mono HBW.out.size)); clear hb2)
    | (go_at_call 9; refine (c_lives _ (HMX.out.below HB2.out) (HTX.out.below HB2.out)).mono ?_; rintro e w3 ⟨rfl, hb3⟩; have HB3 := Lib.hid (HB2.out.trans (hb3.mono HB2.out.size)); clear hb3))
  go_ret
  exact ⟨rfl, HB3.out⟩
set_option maxRecDepth 100000 in
set_option maxHeartbeats 8000000 in
theorem tok_quo_long (s : ByteArray) (l c : Int) (lf : Bool) (hs : s.size ≤ 300) (h : 256 < s.size) (w : World) (hm : MaxLenAt w) (hT : SpTab w) :
    Calls Tryd.prog 7 #[tkV 3 s l c lf] w fun e w' => e = .returned (.bool true) ∧ Below w.heap.size w w' := by
  have HMX := Lib.hid hm
  have HTX := Lib.hid hT
  have HB0 := Lib.hid ((Below.refl w.heap.size w).alloc (Nat.le_refl _) (.cells #[.int .u8 3, .string s, .int .i64 l, .int .i64 c, .bool lf] 51))
  have HM0 := Lib.hid (hm.below HB0.out)
  clear hm hT
  unfold tkV
  have HLIT : Hid (∀ W, MaxLenAt W → Calls Tryd.prog 17 #[tkV 3 s l c lf] W fun e w' => e = .returned (.tuple #[zeroF, .int .i64 5]) ∧ Below W.heap.size W w') := Lib.hid fun W hW => c_lit_quo_err s l c lf 5 W fun W' _ => c_quote_bad s (.inr h) (by omega) W'
  have HBY := Lib.hid (byte_ok s _ _ (by unfold maxLen; omega) rfl rfl)
  have hz : ¬ (s.size : Int) < 1 := by omega
  have hz2 : (256 : Int) < (s.size : Int) := by omega
  have hz3 : ¬ (300 : Int) < (s.size : Int) := by omega
  go_enter Tryd.func7, Tryd.ntmps7
  go_upto_region 4 with (first
    | (go_at_call 17; refine (HLIT.out _ HM0.out).mono ?_; rintro e w1 ⟨rfl, hb1⟩; dsimp only [zeroF, fdV]; have HB1 := Lib.hid (HB0.out.trans (hb1.mono HB0.out.size)); have HTB1 : Hid (w1.heap[w.heap.size]? = some (.cells #[.int .u8 3, .string s, .int .i64 l, .int .i64 c, .bool lf] 51 (0, 0)) ∧ w.heap.size < w1.heap.size) := Lib.hid ⟨(hb1.block w.heap.size (by simp)).trans (MapKept.heap_alloc w _).1, Nat.lt_of_lt_of_le (by simp) hb1.size⟩; clear hb1)
    | fail)
  obtain ⟨F, hF⟩ : ∃ F, F = w1.heap.size := ⟨_, rfl⟩
  obtain ⟨W2, hW2⟩ : ∃ W2, W2 = w1.alloc (.cells #[.int .u8 0, .int .u8 0, .string ⟨#[]⟩, .int .i64 0, .int .i64 0, .bool false, .bool false, .bool false, .bool false, .bool false, .int .i64 0, (.slice none 0 0)] 43) := ⟨_, rfl⟩
  rw [← hW2, ← hF]
  have HB12 : Hid (Below w1.heap.size w1 W2) := Lib.hid (by rw [hW2]; exact (Below.refl _ w1).alloc (Nat.le_refl _) _)
  have HFB : Hid (W2.heap[F]? = some (.cells #[.int .u8 0, .int .u8 0, .string ⟨#[]⟩, .int .i64 0, .int .i64 0, .bool false, .bool false, .bool false, .bool false, .bool false, .int .i64 0, (.slice none 0 0)] 43 (0, 0))) := Lib.hid (by rw [hW2, hF]; exact (MapKept.heap_alloc w1 _).1)
  have HTB : Hid (W2.heap[w.heap.size]? = some (.cells #[.int .u8 3, .string s, .int .i64 l, .int .i64 c, .bool lf] 51 (0, 0))) := Lib.hid ((HB12.out.block w.heap.size HTB1.out.2).trans HTB1.out.1)
  have HLT : Hid (F < W2.heap.size ∧ w.heap.size < W2.heap.size) := Lib.hid ⟨(Array.getElem?_eq_some_iff.1 HFB.out).1, (Array.getElem?_eq_some_iff.1 HTB.out).1⟩
  have HBW : Hid (Below w.heap.size w W2) := Lib.hid (HB1.out.trans (HB12.out.mono HB1.out.size))
  have t0 := Joins.cell_of_block HTB.out 0
  have t1 := Joins.cell_of_block HTB.out 1
  clear hW2 hF HB12 HTB1 HB1
  go_wp2_with (first
    | (go_at_call 12; refine (HBY.out.out _).mono ?_; rintro e w2 ⟨rfl, hb2⟩; have HFB2 := Lib.hid ((hb2.block F HLT.out.1).trans HFB.out); have HTB2 := Lib.hid ((hb2.block w.heap.size HLT.out.2).trans HTB.out); have t0 := Joins.cell_of_block HTB2.out 0; have t1 := Joins.cell_of_block HTB2.out 1; have d0 := Joins.cell_of_block HFB2.out 0; have d1 := Joins.cell_of_block HFB2.out 1; have d2 := Joins.cell_of_block HFB2.out 2; have d3 := Joins.cell_of_block HFB2.out 3; have d4 := Joins.cell_of_block HFB2.out 4; have d5 := Joins.cell_of_block HFB2.out 5; have d6 := Joins.cell_of_block HFB2.out 6; have d7 := Joins.cell_of_block HFB2.out 7; have d8 := Joins.cell_of_block HFB2.out 8; have d9 := Joins.cell_of_block HFB2.out 9; have d10 := Joins.cell_of_block HFB2.out 10; have d11 := Joins.cell_of_block HFB2.out 11; have HB2 := Lib.hid (HBW.out.trans (hb2.mono HBW.out.size)); clear hb2)
    | (go_at_call 9; refine (c_lives _ (HMX.out.below HB2.out) (HTX.out.below HB2.out)).mono ?_; rintro e w3 ⟨rfl, hb3⟩; have HB3 := Lib.hid (HB2.out.trans (hb3.mono HB2.out.size)); clear hb3))
  go_ret
  exact ⟨rfl, HB3.out⟩
set_option maxRecDepth 100000 in
set_option maxHeartbeats 8000000 in
theorem tok_other (k : Nat) (s : ByteArray) (l c : Int) (lf : Bool) (hs : s.size ≤ 300) (h1 : k ≠ 1) (h2 : k ≠ 2) (h3 : k ≠ 3) (w : World) (hm : MaxLenAt w) (hT : SpTab w) :
    Calls Tryd.prog 7 #[tkV k s l c lf] w fun e w' => e = .returned (.bool true) ∧ Below w.heap.size w w' := by
  have HMX := Lib.hid hm
  have HTX := Lib.hid hT
  have HB0 := Lib.hid ((Below.refl w.heap.size w).alloc (Nat.le_refl _) (.cells #[.int .u8 k, .string s, .int .i64 l, .int .i64 c, .bool lf] 51))
  have HM0 := Lib.hid (hm.below HB0.out)
  clear hm hT
  unfold tkV
  have HLIT : Hid (∀ W, MaxLenAt W → Calls Tryd.prog 17 #[tkV k s l c lf] W fun e w' => e = .returned (.tuple #[zeroF, .int .i64 12]) ∧ Below W.heap.size W w') := Lib.hid fun W hW => c_lit_other k h1 h2 h3 s l c lf W
  have HBY := Lib.hid (byte_ok s _ _ (by unfold maxLen; omega) rfl rfl)
  have y1 : ((k : Int) == 1) = false := by simp; omega
  have y2 : ((k : Int) == 2) = false := by simp; omega
  have y3 : ((k : Int) == 3) = false := by simp; omega
  have z1 : ¬ ((k : Int) = 1) := by omega
  have z2 : ¬ ((k : Int) = 2) := by omega
  have z3 : ¬ ((k : Int) = 3) := by omega
  have hz3 : ¬ (300 : Int) < (s.size : Int) := by omega
  go_enter Tryd.func7, Tryd.ntmps7
  go_upto_region 4 with (first
    | (go_at_call 17; refine (HLIT.out _ HM0.out).mono ?_; rintro e w1 ⟨rfl, hb1⟩; dsimp only [zeroF, fdV]; have HB1 := Lib.hid (HB0.out.trans (hb1.mono HB0.out.size)); have HTB1 : Hid (w1.heap[w.heap.size]? = some (.cells #[.int .u8 k, .string s, .int .i64 l, .int .i64 c, .bool lf] 51 (0, 0)) ∧ w.heap.size < w1.heap.size) := Lib.hid ⟨(hb1.block w.heap.size (by simp)).trans (MapKept.heap_alloc w _).1, Nat.lt_of_lt_of_le (by simp) hb1.size⟩; clear hb1)
    | fail)
  obtain ⟨F, hF⟩ : ∃ F, F = w1.heap.size := ⟨_, rfl⟩
  obtain ⟨W2, hW2⟩ : ∃ W2, W2 = w1.alloc (.cells #[.int .u8 0, .int .u8 0, .string ⟨#[]⟩, .int .i64 0, .int .i64 0, .bool false, .bool false, .bool false, .bool false, .bool false, .int .i64 0, (.slice none 0 0)] 43) := ⟨_, rfl⟩
  rw [← hW2, ← hF]
  have HB12 : Hid (Below w1.heap.size w1 W2) := Lib.hid (by rw [hW2]; exact (Below.refl _ w1).alloc (Nat.le_refl _) _)
  have HFB : Hid (W2.heap[F]? = some (.cells #[.int .u8 0, .int .u8 0, .string ⟨#[]⟩, .int .i64 0, .int .i64 0, .bool false, .bool false, .bool false, .bool false, .bool false, .int .i64 0, (.slice none 0 0)] 43 (0, 0))) := Lib.hid (by rw [hW2, hF]; exact (MapKept.heap_alloc w1 _).1)
  have HTB : Hid (W2.heap[w.heap.size]? = some (.cells #[.int .u8 k, .string s, .int .i64 l, .int .i64 c, .bool lf] 51 (0, 0))) := Lib.hid ((HB12.out.block w.heap.size HTB1.out.2).trans HTB1.out.1)
  have HLT : Hid (F < W2.heap.size ∧ w.heap.size < W2.heap.size) := Lib.hid ⟨(Array.getElem?_eq_some_iff.1 HFB.out).1, (Array.getElem?_eq_some_iff.1 HTB.out).1⟩
  have HBW : Hid (Below w.heap.size w W2) := Lib.hid (HB1.out.trans (HB12.out.mono HB1.out.size))
  have t0 := Joins.cell_of_block HTB.out 0
  have t1 := Joins.cell_of_block HTB.out 1
  clear hW2 hF HB12 HTB1 HB1
  go_wp2_with (first
    | (go_at_call 12; refine (HBY.out.out _).mono ?_; rintro e w2 ⟨rfl, hb2⟩; have HFB2 := Lib.hid ((hb2.block F HLT.out.1).trans HFB.out); have HTB2 := Lib.hid ((hb2.block w.heap.size HLT.out.2).trans HTB.out); have t0 := Joins.cell_of_block HTB2.out 0; have t1 := Joins.cell_of_block HTB2.out 1; have d0 := Joins.cell_of_block HFB2.out 0; have d1 := Joins.cell_of_block HFB2.out 1; have d2 := Joins.cell_of_block HFB2.out 2; have d3 := Joins.cell_of_block HFB2.out 3; have d4 := Joins.cell_of_block HFB2.out 4; have d5 := Joins.cell_of_block HFB2.out 5; have d6 := Joins.cell_of_block HFB2.out 6; have d7 := Joins.cell_of_block HFB2.out 7; have d8 := Joins.cell_of_block HFB2.out 8; have d9 := Joins.cell_of_block HFB2.out 9; have d10 := Joins.cell_of_block HFB2.out 10; have d11 := Joins.cell_of_block HFB2.out 11; have HB2 := Lib.hid (HBW.out.trans (hb2.mono HBW.out.size)); clear hb2)
    | (go_at_call 9; refine (c_lives _ (HMX.out.below HB2.out) (HTX.out.below HB2.out)).mono ?_; rintro e w3 ⟨rfl, hb3⟩; have HB3 := Lib.hid (HB2.out.trans (hb3.mono HB2.out.size)); clear hb3))
  go_ret
  exact ⟨rfl, HB3.out⟩
set_option maxRecDepth 100000 in
set_option maxHeartbeats 8000000 in
theorem tok_word_bad (s : ByteArray) (l c : Int) (lf : Bool) (hs : s.size ≤ 300) (h : isFig s.data.toList = false) (w : World) (hm : MaxLenAt w) (hT : SpTab w) :
    Calls Tryd.prog 7 #[tkV 1 s l c lf] w fun e w' => e = .returned (.bool true) ∧ Below w.heap.size w w' := by
  have HMX := Lib.hid hm
  have HTX := Lib.hid hT
  have HB0 := Lib.hid ((Below.refl w.heap.size w).alloc (Nat.le_refl _) (.cells #[.int .u8 1, .string s, .int .i64 l, .int .i64 c, .bool lf] 51))
  have HM0 := Lib.hid (hm.below HB0.out)
  clear hm hT
  unfold tkV
  have HLIT : Hid (∀ W, MaxLenAt W → Calls Tryd.prog 17 #[tkV 1 s l c lf] W fun e w' => e = .returned (.tuple #[zeroF, .int .i64 11]) ∧ Below W.heap.size W w') := Lib.hid fun W hW => c_lit_fig_err s l c lf 11 W fun W' _ => c_fig_bad s (by unfold maxLen; omega) h W'
  have HBY := Lib.hid (byte_ok s _ _ (by unfold maxLen; omega) rfl h)
  have hz3 : ¬ (300 : Int) < (s.size : Int) := by omega
  go_enter Tryd.func7, Tryd.ntmps7
  go_upto_region 4 with (first
    | (go_at_call 17; refine (HLIT.out _ HM0.out).mono ?_; rintro e w1 ⟨rfl, hb1⟩; dsimp only [zeroF, fdV]; have HB1 := Lib.hid (HB0.out.trans (hb1.mono HB0.out.size)); have HTB1 : Hid (w1.heap[w.heap.size]? = some (.cells #[.int .u8 1, .string s, .int .i64 l, .int .i64 c, .bool lf] 51 (0, 0)) ∧ w.heap.size < w1.heap.size) := Lib.hid ⟨(hb1.block w.heap.size (by simp)).trans (MapKept.heap_alloc w _).1, Nat.lt_of_lt_of_le (by simp) hb1.size⟩; clear hb1)
    | fail)
  obtain ⟨F, hF⟩ : ∃ F, F = w1.heap.size := ⟨_, rfl⟩
  obtain ⟨W2, hW2⟩ : ∃ W2, W2 = w1.alloc (.cells #[.int .u8 0, .int .u8 0, .string ⟨#[]⟩, .int .i64 0, .int .i64 0, .bool false, .bool false, .bool false, .bool false, .bool false, .int .i64 0, (.slice none 0 0)] 43) := ⟨_, rfl⟩
  rw [← hW2, ← hF]
  have HB12 : Hid (Below w1.heap.size w1 W2) := Lib.hid (by rw [hW2]; exact (Below.refl _ w1).alloc (Nat.le_refl _) _)
  have HFB : Hid (W2.heap[F]? = some (.cells #[.int .u8 0, .int .u8 0, .string ⟨#[]⟩, .int .i64 0, .int .i64 0, .bool false, .bool false, .bool false, .bool false, .bool false, .int .i64 0, (.slice none 0 0)] 43 (0, 0))) := Lib.hid (by rw [hW2, hF]; exact (MapKept.heap_alloc w1 _).1)
  have HTB : Hid (W2.heap[w.heap.size]? = some (.cells #[.int .u8 1, .string s, .int .i64 l, .int .i64 c, .bool lf] 51 (0, 0))) := Lib.hid ((HB12.out.block w.heap.size HTB1.out.2).trans HTB1.out.1)
  have HLT : Hid (F < W2.heap.size ∧ w.heap.size < W2.heap.size) := Lib.hid ⟨(Array.getElem?_eq_some_iff.1 HFB.out).1, (Array.getElem?_eq_some_iff.1 HTB.out).1⟩
  have HBW : Hid (Below w.heap.size w W2) := Lib.hid (HB1.out.trans (HB12.out.mono HB1.out.size))
  have t0 := Joins.cell_of_block HTB.out 0
  have t1 := Joins.cell_of_block HTB.out 1
  clear hW2 hF HB12 HTB1 HB1
  go_wp2_with (first
    | (go_at_call 12; refine (HBY.out.out _).mono ?_; rintro e w2 ⟨rfl, hb2⟩; have HFB2 := Lib.hid ((hb2.block F HLT.out.1).trans HFB.out); have HTB2 := Lib.hid ((hb2.block w.heap.size HLT.out.2).trans HTB.out); have t0 := Joins.cell_of_block HTB2.out 0; have t1 := Joins.cell_of_block HTB2.out 1; have d0 := Joins.cell_of_block HFB2.out 0; have d1 := Joins.cell_of_block HFB2.out 1; have d2 := Joins.cell_of_block HFB2.out 2; have d3 := Joins.cell_of_block HFB2.out 3; have d4 := Joins.cell_of_block HFB2.out 4; have d5 := Joins.cell_of_block HFB2.out 5; have d6 := Joins.cell_of_block HFB2.out 6; have d7 := Joins.cell_of_block HFB2.out 7; have d8 := Joins.cell_of_block HFB2.out 8; have d9 := Joins.cell_of_block HFB2.out 9; have d10 := Joins.cell_of_block HFB2.out 10; have d11 := Joins.cell_of_block HFB2.out 11; have HB2 := Lib.hid (HBW.out.trans (hb2.mono HBW.out.size)); clear hb2)
    | (go_at_call 9; refine (c_lives _ (HMX.out.below HB2.out) (HTX.out.below HB2.out)).mono ?_; rintro e w3 ⟨rfl, hb3⟩; have HB3 := Lib.hid (HB2.out.trans (hb3.mono HB2.out.size)); clear hb3))
  go_ret
  exact ⟨rfl, HB3.out⟩
set_option maxRecDepth 100000 in
set_option maxHeartbeats 8000000 in
theorem tok_zero (s : ByteArray) (l c : Int) (lf : Bool) (hs : s.size ≤ 300) (h : s.data.toList ∈ zeroW) (hf : isFig s.data.toList = true) (hb : byteI s.data.toList = 48) (w : World) (hm : MaxLenAt w) (hT : SpTab w) :
    Calls Tryd.prog 7 #[tkV 1 s l c lf] w fun e w' => e = .returned (.bool true) ∧ Below w.heap.size w w' := by
  have HMX := Lib.hid hm
  have HTX := Lib.hid hT
  have HB0 := Lib.hid ((Below.refl w.heap.size w).alloc (Nat.le_refl _) (.cells #[.int .u8 1, .string s, .int .i64 l, .int .i64 c, .bool lf] 51))
  have HM0 := Lib.hid (hm.below HB0.out)
  clear hm hT
  unfold tkV
  have HLIT : Hid (∀ W, MaxLenAt W → Calls Tryd.prog 17 #[tkV 1 s l c lf] W fun e w' => ∃ g : Nat, e = .returned (.tuple #[fdV 4 ⟨#[57]⟩ 1 0 false 1 (.slice (some ⟨g, 0, none⟩) 1 1), .int .i64 0]) ∧ Row2 W w' g [48]) := Lib.hid fun W hW => c_lit_fig s l c lf 4 _ 1 0 false 1 _ W fun W' hb => c_fig_zero s h W' (hW.below hb)
  have HBY := Lib.hid (byte_ok s _ _ (by unfold maxLen; omega) hb hf)
  have hz3 : ¬ (300 : Int) < (s.size : Int) := by omega
  clear hb hf h
  go_enter Tryd.func7, Tryd.ntmps7
  go_upto_region 4 with (first
    | (go_at_call 17; refine (HLIT.out _ HM0.out).mono ?_; rintro e w1 ⟨g, rfl, hrow⟩; dsimp only [fdV]; have HB1 := Lib.hid (HB0.out.trans (hrow.bel.mono HB0.out.size)); have HTB1 : Hid (w1.heap[w.heap.size]? = some (.cells #[.int .u8 1, .string s, .int .i64 l, .int .i64 c, .bool lf] 51 (0, 0)) ∧ w.heap.size < w1.heap.size) := Lib.hid ⟨(hrow.bel.block w.heap.size (by simp)).trans (MapKept.heap_alloc w _).1, Nat.lt_of_lt_of_le (by simp) hrow.bel.size⟩; have HROW := Lib.hid hrow; clear hrow)
    | fail)
  obtain ⟨F, hF⟩ : ∃ F, F = w1.heap.size := ⟨_, rfl⟩
  obtain ⟨W2, hW2⟩ : ∃ W2, W2 = w1.alloc (.cells #[.int .u8 4, .int .u8 0, .string ⟨#[57]⟩, .int .i64 1, .int .i64 0, .bool false, .bool false, .bool false, .bool false, .bool false, .int .i64 1, (.slice (some ⟨g, 0, none⟩) 1 1)] 43) := ⟨_, rfl⟩
  rw [← hW2, ← hF]
  have HB12 : Hid (Below w1.heap.size w1 W2) := Lib.hid (by rw [hW2]; exact (Below.refl _ w1).alloc (Nat.le_refl _) _)
  have HFB : Hid (W2.heap[F]? = some (.cells #[.int .u8 4, .int .u8 0, .string ⟨#[57]⟩, .int .i64 1, .int .i64 0, .bool false, .bool false, .bool false, .bool false, .bool false, .int .i64 1, (.slice (some ⟨g, 0, none⟩) 1 1)] 43 (0, 0))) := Lib.hid (by rw [hW2, hF]; exact (MapKept.heap_alloc w1 _).1)
  have HTB : Hid (W2.heap[w.heap.size]? = some (.cells #[.int .u8 1, .string s, .int .i64 l, .int .i64 c, .bool lf] 51 (0, 0))) := Lib.hid ((HB12.out.block w.heap.size HTB1.out.2).trans HTB1.out.1)
  have HLT : Hid (F < W2.heap.size ∧ w.heap.size < W2.heap.size) := Lib.hid ⟨(Array.getElem?_eq_some_iff.1 HFB.out).1, (Array.getElem?_eq_some_iff.1 HTB.out).1⟩
  have HBW : Hid (Below w.heap.size w W2) := Lib.hid (HB1.out.trans (HB12.out.mono HB1.out.size))
  have t0 := Joins.cell_of_block HTB.out 0
  have t1 := Joins.cell_of_block HTB.out 1
  have HROW := Lib.hid (HROW.out.keep HB12.out)
  clear hW2 hF HB12 HTB1 HB1
  go_wp2_with (first
    | (go_at_call 12; refine (HBY.out.out _).mono ?_; rintro e w2 ⟨rfl, hb2⟩; have HFB2 := Lib.hid ((hb2.block F HLT.out.1).trans HFB.out); have HTB2 := Lib.hid ((hb2.block w.heap.size HLT.out.2).trans HTB.out); have t0 := Joins.cell_of_block HTB2.out 0; have t1 := Joins.cell_of_block HTB2.out 1; have d0 := Joins.cell_of_block HFB2.out 0; have d1 := Joins.cell_of_block HFB2.out 1; have d2 := Joins.cell_of_block HFB2.out 2; have d3 := Joins.cell_of_block HFB2.out 3; have d4 := Joins.cell_of_block HFB2.out 4; have d5 := Joins.cell_of_block HFB2.out 5; have d6 := Joins.cell_of_block HFB2.out 6; have d7 := Joins.cell_of_block HFB2.out 7; have d8 := Joins.cell_of_block HFB2.out 8; have d9 := Joins.cell_of_block HFB2.out 9; have d10 := Joins.cell_of_block HFB2.out 10; have d11 := Joins.cell_of_block HFB2.out 11; have HB2 := Lib.hid (HBW.out.trans (hb2.mono HBW.out.size)); have HROW2 := Lib.hid (HROW.out.keep hb2); have hcv : (convert 41 9 (.slice (some ⟨g, 0, none⟩) 1 1)).run Tryd.prog w2 = .ok (.string ⟨#[48]⟩) w2 := run_str (some ⟨g, 0, none⟩) [48] 1 w2 HROW2.out.txt; clear hb2)
    | (go_at_call 9; refine (c_lives _ (HMX.out.below HB2.out) (HTX.out.below HB2.out)).mono ?_; rintro e w3 ⟨rfl, hb3⟩; have HB3 := Lib.hid (HB2.out.trans (hb3.mono HB2.out.size)); clear hb3))
  go_ret
  exact ⟨rfl, HB3.out⟩
set_option maxRecDepth 100000 in
set_option maxHeartbeats 8000000 in
theorem tok_fig (s : ByteArray) (l c : Int) (lf : Bool) (hs : s.size ≤ 300) (h : s.data.toList ∉ zeroW) (hf : isFig s.data.toList = true) (b : UInt8) (hb : byteI s.data.toList = b.toNat) (hn : (b.toNat : Int) ≠ 48) (w : World) (hm : MaxLenAt w) (hT : SpTab w) :
    Calls Tryd.prog 7 #[tkV 1 s l c lf] w fun e w' => e = .returned (.bool true) ∧ Below w.heap.size w w' := by
  have HMX := Lib.hid hm
  have HTX := Lib.hid hT
  have HB0 := Lib.hid ((Below.refl w.heap.size w).alloc (Nat.le_refl _) (.cells #[.int .u8 1, .string s, .int .i64 l, .int .i64 c, .bool lf] 51))
  have HM0 := Lib.hid (hm.below HB0.out)
  clear hm hT
  unfold tkV
  have HLIT : Hid (∀ W, MaxLenAt W → Calls Tryd.prog 17 #[tkV 1 s l c lf] W fun e w' => ∃ g : Nat, e = .returned (.tuple #[fdV 2 ⟨#[88]⟩ 0 0 false 1 (.slice (some ⟨g, 0, none⟩) 1 1), .int .i64 0]) ∧ Row2 W w' g [b]) := Lib.hid fun W hW => c_lit_fig s l c lf 2 _ 0 0 false 1 _ W fun W' _ => c_fig s (by unfold maxLen; omega) hf h b hb W'
  have HBY := Lib.hid (byte_ok s _ _ (by unfold maxLen; omega) hb hf)
  have hz3 : ¬ (300 : Int) < (s.size : Int) := by omega
  have hn2 : ((b.toNat : Int) == 48) = false := by simpa using hn
  clear hb hf h
  go_enter Tryd.func7, Tryd.ntmps7
  go_upto_region 4 with (first
    | (go_at_call 17; refine (HLIT.out _ HM0.out).mono ?_; rintro e w1 ⟨g, rfl, hrow⟩; dsimp only [fdV]; have HB1 := Lib.hid (HB0.out.trans (hrow.bel.mono HB0.out.size)); have HTB1 : Hid (w1.heap[w.heap.size]? = some (.cells #[.int .u8 1, .string s, .int .i64 l, .int .i64 c, .bool lf] 51 (0, 0)) ∧ w.heap.size < w1.heap.size) := Lib.hid ⟨(hrow.bel.block w.heap.size (by simp)).trans (MapKept.heap_alloc w _).1, Nat.lt_of_lt_of_le (by simp) hrow.bel.size⟩; have HROW := Lib.hid hrow; clear hrow)
    | fail)
  obtain ⟨F, hF⟩ : ∃ F, F = w1.heap.size := ⟨_, rfl⟩
  obtain ⟨W2, hW2⟩ : ∃ W2, W2 = w1.alloc (.cells #[.int .u8 2, .int .u8 0, .string ⟨#[88]⟩, .int .i64 0, .int .i64 0, .bool false, .bool false, .bool false, .bool false, .bool false, .int .i64 1, (.slice (some ⟨g, 0, none⟩) 1 1)] 43) := ⟨_, rfl⟩
  rw [← hW2, ← hF]
  have HB12 : Hid (Below w1.heap.size w1 W2) := Lib.hid (by rw [hW2]; exact (Below.refl _ w1).alloc (Nat.le_refl _) _)
  have HFB : Hid (W2.heap[F]? = some (.cells #[.int .u8 2, .int .u8 0, .string ⟨#[88]⟩, .int .i64 0, .int .i64 0, .bool false, .bool false, .bool false, .bool false, .bool false, .int .i64 1, (.slice (some ⟨g, 0, none⟩) 1 1)] 43 (0, 0))) := Lib.hid (by rw [hW2, hF]; exact (MapKept.heap_alloc w1 _).1)
  have HTB : Hid (W2.heap[w.heap.size]? = some (.cells #[.int .u8 1, .string s, .int .i64 l, .int .i64 c, .bool lf] 51 (0, 0))) := Lib.hid ((HB12.out.block w.heap.size HTB1.out.2).trans HTB1.out.1)
  have HLT : Hid (F < W2.heap.size ∧ w.heap.size < W2.heap.size) := Lib.hid ⟨(Array.getElem?_eq_some_iff.1 HFB.out).1, (Array.getElem?_eq_some_iff.1 HTB.out).1⟩
  have HBW : Hid (Below w.heap.size w W2) := Lib.hid (HB1.out.trans (HB12.out.mono HB1.out.size))
  have t0 := Joins.cell_of_block HTB.out 0
  have t1 := Joins.cell_of_block HTB.out 1
  have HROW := Lib.hid (HROW.out.keep HB12.out)
  clear hW2 hF HB12 HTB1 HB1
  go_wp2_with (first
    | (go_at_call 12; refine (HBY.out.out _).mono ?_; rintro e w2 ⟨rfl, hb2⟩; have HFB2 := Lib.hid ((hb2.block F HLT.out.1).trans HFB.out); have HTB2 := Lib.hid ((hb2.block w.heap.size HLT.out.2).trans HTB.out); have t0 := Joins.cell_of_block HTB2.out 0; have t1 := Joins.cell_of_block HTB2.out 1; have d0 := Joins.cell_of_block HFB2.out 0; have d1 := Joins.cell_of_block HFB2.out 1; have d2 := Joins.cell_of_block HFB2.out 2; have d3 := Joins.cell_of_block HFB2.out 3; have d4 := Joins.cell_of_block HFB2.out 4; have d5 := Joins.cell_of_block HFB2.out 5; have d6 := Joins.cell_of_block HFB2.out 6; have d7 := Joins.cell_of_block HFB2.out 7; have d8 := Joins.cell_of_block HFB2.out 8; have d9 := Joins.cell_of_block HFB2.out 9; have d10 := Joins.cell_of_block HFB2.out 10; have d11 := Joins.cell_of_block HFB2.out 11; have HB2 := Lib.hid (HBW.out.trans (hb2.mono HBW.out.size)); have HROW2 := Lib.hid (HROW.out.keep hb2); have hc0 := HROW2.out.cell 0 b rfl; clear hb2)
    | (go_at_call 9; refine (c_lives _ (HMX.out.below HB2.out) (HTX.out.below HB2.out)).mono ?_; rintro e w3 ⟨rfl, hb3⟩; have HB3 := Lib.hid (HB2.out.trans (hb3.mono HB2.out.size)); clear hb3))
  go_ret
  exact ⟨rfl, HB3.out⟩

/-- What the quote's region reads. -/
structure SQ (l0 c0 : Int) (f0 : Bool) (w : World) (F g : Nat) (s P : ByteArray) (W : World) : Prop where
  tok : W.heap[w.heap.size]? = some (.cells #[.int .u8 3, .string s, .int .i64 l0, .int .i64 c0, .bool f0] 51 (0, 0))
  fld : W.heap[F]? = some (.cells #[.int .u8 2, .int .u8 0, .string P, .int .i64 0, .int .i64 0, .bool false, .bool false, .bool false, .bool false, .bool false, .int .i64 s.size, (.slice (some ⟨g, 0, none⟩) s.size s.size)] 43 (0, 0))
  row : g < W.heap.size ∧ ∀ (j : Nat) c, s.data.toList[j]? = some c → W.cell? ⟨g, j, none⟩ = some (.int .u8 c.toNat)
  bel : Below w.heap.size w W
theorem SQ.below {l0 c0 : Int} {f0 : Bool} {w : World} {F g : Nat} {s P : ByteArray} {W W' : World} (h : SQ l0 c0 f0 w F g s P W) (hb : Below W.heap.size W W') : SQ l0 c0 f0 w F g s P W' :=
  ⟨(hb.block _ (Array.getElem?_eq_some_iff.1 h.tok).1).trans h.tok, (hb.block _ (Array.getElem?_eq_some_iff.1 h.fld).1).trans h.fld, ⟨Nat.lt_of_lt_of_le h.row.1 hb.size, fun j c hj => (hb.cell (p := ⟨g, j, none⟩) h.row.1).trans (h.row.2 j c hj)⟩, h.bel.trans (hb.mono h.bel.size)⟩
theorem SQ.drew {l0 c0 : Int} {f0 : Bool} {w : World} {F g : Nat} {s P : ByteArray} {W : World} (h : SQ l0 c0 f0 w F g s P W) : SQ l0 c0 f0 w F g s P W.drew := ⟨h.tok, h.fld, h.row, h.bel.trans ⟨rfl, rfl, rfl, Nat.le_refl _, fun _ _ => rfl⟩⟩
theorem SQ.conj {l0 c0 : Int} {f0 : Bool} {w : World} {F g : Nat} {s P : ByteArray} {W : World} (h : SQ l0 c0 f0 w F g s P W) : W.cell? ⟨w.heap.size, 1, none⟩ = some (.string s) ∧ W.cell? ⟨F, 0, none⟩ = some (.int .u8 2) ∧ W.cell? ⟨F, 1, none⟩ = some (.int .u8 0) ∧ W.cell? ⟨F, 2, none⟩ = some (.string P) ∧ W.cell? ⟨F, 3, none⟩ = some (.int .i64 0) ∧ W.cell? ⟨F, 4, none⟩ = some (.int .i64 0) ∧ W.cell? ⟨F, 5, none⟩ = some (.bool false) ∧ W.cell? ⟨F, 6, none⟩ = some (.bool false) ∧ W.cell? ⟨F, 7, none⟩ = some (.bool false) ∧ W.cell? ⟨F, 8, none⟩ = some (.bool false) ∧ W.cell? ⟨F, 9, none⟩ = some (.bool false) ∧ W.cell? ⟨F, 10, none⟩ = some (.int .i64 s.size) ∧ W.cell? ⟨F, 11, none⟩ = some (.slice (some ⟨g, 0, none⟩) s.size s.size) ∧ (convert 41 9 (.slice (some ⟨g, 0, none⟩) s.size s.size)).run Tryd.prog W = .ok (.string s) W := by
  have hcv : (convert 41 9 (.slice (some ⟨g, 0, none⟩) s.size s.size)).run Tryd.prog W = .ok (.string s) W := by
    have h := run_str (some ⟨g, 0, none⟩) s.data.toList s.size W (fun _ => ⟨g, 0, rfl, h.row.1, fun j c hj => by simpa using h.row.2 j c hj⟩)
    rw [← Lib.size_eq] at h
    exact h
  exact ⟨Joins.cell_of_block h.tok 1, Joins.cell_of_block h.fld 0, Joins.cell_of_block h.fld 1, Joins.cell_of_block h.fld 2, Joins.cell_of_block h.fld 3, Joins.cell_of_block h.fld 4, Joins.cell_of_block h.fld 5, Joins.cell_of_block h.fld 6, Joins.cell_of_block h.fld 7, Joins.cell_of_block h.fld 8, Joins.cell_of_block h.fld 9, Joins.cell_of_block h.fld 10, Joins.cell_of_block h.fld 11, hcv⟩
set_option maxRecDepth 100000 in
set_option maxHeartbeats 8000000 in
theorem tok_quo (s : ByteArray) (l c : Int) (lf : Bool) (hs : s.size ≤ 300) (h0 : 1 ≤ s.size) (h1 : s.size ≤ 256) (w : World) (hm : MaxLenAt w) (hT : SpTab w) :
    Calls Tryd.prog 7 #[tkV 3 s l c lf] w fun e w' => e = .returned (.bool true) ∧ Below w.heap.size w w' := by
  have HMX := Lib.hid hm
  have HTX := Lib.hid hT
  have HB0 := Lib.hid ((Below.refl w.heap.size w).alloc (Nat.le_refl _) (.cells #[.int .u8 3, .string s, .int .i64 l, .int .i64 c, .bool lf] 51))
  have HM0 := Lib.hid (hm.below HB0.out)
  clear hm hT
  unfold tkV
  obtain ⟨P, hP⟩ : ∃ P, P = strB (List.replicate s.size 88) := ⟨_, rfl⟩
  have HLIT : Hid (∀ W, MaxLenAt W → Calls Tryd.prog 17 #[tkV 3 s l c lf] W fun e w' => ∃ g : Nat, e = .returned (.tuple #[fdV 2 P 0 0 false s.size (.slice (some ⟨g, 0, none⟩) s.size s.size), .int .i64 0]) ∧ Row2 W w' g s.data.toList) := Lib.hid fun W hW => by rw [hP]; exact c_lit_quo s l c lf 2 _ 0 0 false _ _ W fun W' _ => c_quote s h0 h1 W'
  have HREP : Hid (∀ W, Calls Tryd.prog 16 #[.string ⟨#[88]⟩, .int .i64 s.size] W fun e w' => e = .returned (.string P) ∧ Below W.heap.size W w') := Lib.hid fun W => by rw [hP]; exact c_rep 88 s.size (by omega) W
  have HBY := Lib.hid (byte_ok s _ _ (by unfold maxLen; omega) rfl rfl)
  have hz3 : ¬ (300 : Int) < (s.size : Int) := by omega
  have hz4 : ¬ (s.size : Int) < 1 := by omega
  have hz5 : ¬ (256 : Int) < (s.size : Int) := by omega
  clear hP
  go_enter Tryd.func7, Tryd.ntmps7
  go_upto_region 4 with (first
    | (go_at_call 17; refine (HLIT.out _ HM0.out).mono ?_; rintro e w1 ⟨g, rfl, hrow⟩; dsimp only [fdV]; have HB1 := Lib.hid (HB0.out.trans (hrow.bel.mono HB0.out.size)); have HTB1 : Hid (w1.heap[w.heap.size]? = some (.cells #[.int .u8 3, .string s, .int .i64 l, .int .i64 c, .bool lf] 51 (0, 0)) ∧ w.heap.size < w1.heap.size) := Lib.hid ⟨(hrow.bel.block w.heap.size (by simp)).trans (MapKept.heap_alloc w _).1, Nat.lt_of_lt_of_le (by simp) hrow.bel.size⟩; have HROW := Lib.hid hrow; clear hrow)
    | fail)
  obtain ⟨F, hF⟩ : ∃ F, F = w1.heap.size := ⟨_, rfl⟩
  obtain ⟨W2, hW2⟩ : ∃ W2, W2 = w1.alloc (.cells #[.int .u8 2, .int .u8 0, .string P, .int .i64 0, .int .i64 0, .bool false, .bool false, .bool false, .bool false, .bool false, .int .i64 s.size, (.slice (some ⟨g, 0, none⟩) s.size s.size)] 43) := ⟨_, rfl⟩
  rw [← hW2, ← hF]
  have HB12 : Hid (Below w1.heap.size w1 W2) := Lib.hid (by rw [hW2]; exact (Below.refl _ w1).alloc (Nat.le_refl _) _)
  have HFB : Hid (W2.heap[F]? = some (.cells #[.int .u8 2, .int .u8 0, .string P, .int .i64 0, .int .i64 0, .bool false, .bool false, .bool false, .bool false, .bool false, .int .i64 s.size, (.slice (some ⟨g, 0, none⟩) s.size s.size)] 43 (0, 0))) := Lib.hid (by rw [hW2, hF]; exact (MapKept.heap_alloc w1 _).1)
  have HTB : Hid (W2.heap[w.heap.size]? = some (.cells #[.int .u8 3, .string s, .int .i64 l, .int .i64 c, .bool lf] 51 (0, 0))) := Lib.hid ((HB12.out.block w.heap.size HTB1.out.2).trans HTB1.out.1)
  have HLT : Hid (F < W2.heap.size ∧ w.heap.size < W2.heap.size) := Lib.hid ⟨(Array.getElem?_eq_some_iff.1 HFB.out).1, (Array.getElem?_eq_some_iff.1 HTB.out).1⟩
  have HBW : Hid (Below w.heap.size w W2) := Lib.hid (HB1.out.trans (HB12.out.mono HB1.out.size))
  have t0 := Joins.cell_of_block HTB.out 0
  have t1 := Joins.cell_of_block HTB.out 1
  have HROW := Lib.hid (HROW.out.keep HB12.out)
  clear hW2 hF HB12 HTB1 HB1
  go_upto_region 8 with (first
    | (go_at_call 12; refine (HBY.out.out _).mono ?_; rintro e w2 ⟨rfl, hb2⟩; have HFB2 := Lib.hid ((hb2.block F HLT.out.1).trans HFB.out); have HTB2 := Lib.hid ((hb2.block w.heap.size HLT.out.2).trans HTB.out); have t0 := Joins.cell_of_block HTB2.out 0; have t1 := Joins.cell_of_block HTB2.out 1; have d0 := Joins.cell_of_block HFB2.out 0; have d1 := Joins.cell_of_block HFB2.out 1; have d2 := Joins.cell_of_block HFB2.out 2; have d3 := Joins.cell_of_block HFB2.out 3; have d4 := Joins.cell_of_block HFB2.out 4; have d5 := Joins.cell_of_block HFB2.out 5; have d6 := Joins.cell_of_block HFB2.out 6; have d7 := Joins.cell_of_block HFB2.out 7; have d8 := Joins.cell_of_block HFB2.out 8; have d9 := Joins.cell_of_block HFB2.out 9; have d10 := Joins.cell_of_block HFB2.out 10; have d11 := Joins.cell_of_block HFB2.out 11; have HB2 := Lib.hid (HBW.out.trans (hb2.mono HBW.out.size)); have HROW2 := Lib.hid (HROW.out.keep hb2); clear hb2)
    | fail)
  have HS0 : Hid (SQ l c lf w F g s P w2) := Lib.hid ⟨HTB2.out, HFB2.out, ⟨HROW2.out.lt, HROW2.out.cell⟩, HB2.out⟩
  have HS0d := Lib.hid HS0.out.drew
  go_region_held3 (fun W => W.cell? ⟨w.heap.size, 1, none⟩ = some (.string s) ∧ W.cell? ⟨F, 0, none⟩ = some (.int .u8 2) ∧ W.cell? ⟨F, 1, none⟩ = some (.int .u8 0) ∧ W.cell? ⟨F, 2, none⟩ = some (.string P) ∧ W.cell? ⟨F, 3, none⟩ = some (.int .i64 0) ∧ W.cell? ⟨F, 4, none⟩ = some (.int .i64 0) ∧ W.cell? ⟨F, 5, none⟩ = some (.bool false) ∧ W.cell? ⟨F, 6, none⟩ = some (.bool false) ∧ W.cell? ⟨F, 7, none⟩ = some (.bool false) ∧ W.cell? ⟨F, 8, none⟩ = some (.bool false) ∧ W.cell? ⟨F, 9, none⟩ = some (.bool false) ∧ W.cell? ⟨F, 10, none⟩ = some (.int .i64 s.size) ∧ W.cell? ⟨F, 11, none⟩ = some (.slice (some ⟨g, 0, none⟩) s.size s.size) ∧ (convert 41 9 (.slice (some ⟨g, 0, none⟩) s.size s.size)).run Tryd.prog W = .ok (.string s) W)
    ((refine SQ.conj (l0 := l) (c0 := c) (f0 := lf) ?_; first
      | with_reducible exact HS2.out
      | with_reducible exact HS1.out
      | with_reducible exact HS0d.out
      | with_reducible exact HS0.out))
    (first
      | (go_at_call 16; refine (HREP.out _).mono ?_; rintro e wA ⟨rfl, hA⟩; have HS1 := Lib.hid ((by first | with_reducible exact HS0d.out | with_reducible exact HS0.out : SQ l c lf w F g s P _).below hA); clear hA)
      | (go_at_call 9; refine (c_lives _ (HMX.out.below HS1.out.bel) (HTX.out.below HS1.out.bel)).mono ?_; rintro e wB ⟨rfl, hB⟩; have HS2 := Lib.hid (HS1.out.below hB); clear hB))
  all_goals
    go_wp2
    go_ret
    exact ⟨rfl, HS2.out.bel⟩

theorem fig_bytes : (constW.all fun x => (decide (x ∈ zeroW) && decide (byteI x = 48)) || (decide (x ∉ zeroW) && decide (byteI x ≠ 48) && decide (byteI x = ((UInt8.ofNat (byteI x).toNat).toNat : Int)))) = true := by decide +kernel
theorem l5tok (k : Nat) (s : ByteArray) (l c : Int) (lf : Bool) (hs : s.size ≤ maxLen) (w : World) (hm : MaxLenAt w) (hT : SpTab w) :
    Calls Tryd.prog 7 #[tkV k s l c lf] w fun e w' => e = .returned (.bool true) ∧ Below w.heap.size w w' := by
  by_cases h300 : 300 < s.size
  · exact tok_skip k s l c lf hs (.inl h300) w hm hT
  by_cases h2 : k = 2
  · exact tok_skip k s l c lf hs (.inr h2) w hm hT
  have h3 : s.size ≤ 300 := by omega
  by_cases hk3 : k = 3
  · subst hk3
    by_cases h0 : s.size = 0
    · exact tok_quo_short s l c lf h3 h0 w hm hT
    · by_cases h1 : 256 < s.size
      · exact tok_quo_long s l c lf h3 h1 w hm hT
      · exact tok_quo s l c lf h3 (by omega) (by omega) w hm hT
  by_cases hk1 : k = 1
  · subst hk1
    cases hf : isFig s.data.toList
    · exact tok_word_bad s l c lf h3 hf w hm hT
    · have hm1 : s.data.toList ∈ constW := by rw [fig_mem] at hf; simpa using hf
      have h := List.all_eq_true.1 fig_bytes _ hm1
      simp only [Bool.or_eq_true, Bool.and_eq_true, decide_eq_true_eq] at h
      rcases h with h | h
      · exact tok_zero s l c lf h3 h.1 hf h.2 w hm hT
      · exact tok_fig s l c lf h3 h.1.1 hf _ h.2 (by rw [← h.2]; exact h.1.2) w hm hT
  exact tok_other k s l c lf h3 hk1 h2 hk3 w hm hT
end Go.Proofs.YtahmcjgehhfknaaDoor
