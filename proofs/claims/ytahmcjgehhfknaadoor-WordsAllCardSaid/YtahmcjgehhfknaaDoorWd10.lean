/-
  words.Literal, for each kind of token.
-/
import Derived.Test.YtahmcjgehhfknaaDoorWd9
namespace Go.Proofs.YtahmcjgehhfknaaDoor
open Go.RowKit
set_option linter.unusedVariables false
set_option linter.unusedSimpArgs false

def tkV (k : Int) (s : ByteArray) (l c : Int) (lf : Bool) : Value := .agg #[.int .u8 k, .string s, .int .i64 l, .int .i64 c, .bool lf]

set_option maxRecDepth 100000 in
set_option maxHeartbeats 4000000 in
theorem c_lit_num_err (s : ByteArray) (l c : Int) (lf : Bool) (code : Int) (w : World)
    (H : ∀ W, Below w.heap.size w W → Calls Tryd.prog 34 #[.string s] W fun e w' => e = .returned (.tuple #[zeroF, .int .i64 code]) ∧ Below W.heap.size W w') :
    Calls Tryd.prog 17 #[tkV 2 s l c lf] w fun e w' => e = .returned (.tuple #[zeroF, .int .i64 code]) ∧ Below w.heap.size w w' := by
  have HH := Lib.hid H
  clear H
  have HFB : Hid (FB ((w.alloc (.cells #[.int .u8 2, .string s, .int .i64 l, .int .i64 c, .bool lf] 51)).alloc (.cells #[.int .u8 0, .int .u8 0, .string ⟨#[]⟩, .int .i64 0, .int .i64 0, .bool false, .bool false, .bool false, .bool false, .bool false, .int .i64 0, .slice none 0 0] 43)) (w.heap.size + 1)) := Lib.hid (by
    have h := FB.new (w.alloc (.cells #[.int .u8 2, .string s, .int .i64 l, .int .i64 c, .bool lf] 51))
    rw [World.size_alloc] at h; exact h)
  have HB := Lib.hid (((Below.refl w.heap.size w).alloc (Nat.le_refl _) (.cells #[.int .u8 2, .string s, .int .i64 l, .int .i64 c, .bool lf] 51)).alloc (by simp) (.cells #[.int .u8 0, .int .u8 0, .string ⟨#[]⟩, .int .i64 0, .int .i64 0, .bool false, .bool false, .bool false, .bool false, .bool false, .int .i64 0, .slice none 0 0] 43))
  unfold tkV
  go_enter Tryd.func17, Tryd.ntmps17
  go_wp2_with (go_at_call 34; refine (HH.out _ HB.out).mono ?_; rintro e w1 ⟨rfl, hb1⟩; dsimp only [zeroF, fdV]; have HFB1 := Lib.hid (HFB.out.kept hb1); have HB1 := Lib.hid (HB.out.trans (hb1.mono HB.out.size)); clear hb1; obtain ⟨c0, c1, c2, c3, c4, c5, c6, c7, c8, c9, c10, c11⟩ := HFB1.out.cells; obtain ⟨f0, f1, f2, f3, f4, f5, f6, f7, f8, f9, f10, f11⟩ := HFB1.out.free)
  obtain ⟨w5, hw5, hb5, ho5, d0, d1, d2, d3, d4, d5, d6, d7, d8, d9, d10, d11⟩ := HFB1.out.named HB1.out (by omega) (.int .u8 0) (.int .u8 0) (.string ⟨#[]⟩) (.int .i64 0) (.int .i64 0) (.bool false) (.bool false) (.bool false) (.bool false) (.bool false) (.int .i64 0) (.slice none 0 0)
  rw [← hw5]
  clear hw5
  refine bodyPost_ret (by simp [results, Tryd.results17, go_sem, d0, d1, d2, d3, d4, d5, d6, d7, d8, d9, d10, d11]; try rfl) rfl ?_
  exact ⟨rfl, hb5⟩

set_option maxRecDepth 100000 in
set_option maxHeartbeats 4000000 in
theorem c_lit_num (s : ByteArray) (l c : Int) (lf : Bool) (cat : Int) (P : ByteArray) (dg sc : Int) (sg : Bool) (n : Nat) (bs : List UInt8) (w : World)
    (H : ∀ W, Below w.heap.size w W → Calls Tryd.prog 34 #[.string s] W fun e w' => ∃ g : Nat,
      e = .returned (.tuple #[fdV cat P dg sc sg n (.slice (some ⟨g, 0, none⟩) n n), .int .i64 0]) ∧ Row2 W w' g bs) :
    Calls Tryd.prog 17 #[tkV 2 s l c lf] w fun e w' => ∃ g : Nat, e = .returned (.tuple #[fdV cat P dg sc sg n (.slice (some ⟨g, 0, none⟩) n n), .int .i64 0]) ∧ Row2 w w' g bs := by
  have HH := Lib.hid H
  clear H
  have HFB : Hid (FB ((w.alloc (.cells #[.int .u8 2, .string s, .int .i64 l, .int .i64 c, .bool lf] 51)).alloc (.cells #[.int .u8 0, .int .u8 0, .string ⟨#[]⟩, .int .i64 0, .int .i64 0, .bool false, .bool false, .bool false, .bool false, .bool false, .int .i64 0, .slice none 0 0] 43)) (w.heap.size + 1)) := Lib.hid (by
    have h := FB.new (w.alloc (.cells #[.int .u8 2, .string s, .int .i64 l, .int .i64 c, .bool lf] 51))
    rw [World.size_alloc] at h; exact h)
  have HB := Lib.hid (((Below.refl w.heap.size w).alloc (Nat.le_refl _) (.cells #[.int .u8 2, .string s, .int .i64 l, .int .i64 c, .bool lf] 51)).alloc (by simp) (.cells #[.int .u8 0, .int .u8 0, .string ⟨#[]⟩, .int .i64 0, .int .i64 0, .bool false, .bool false, .bool false, .bool false, .bool false, .int .i64 0, .slice none 0 0] 43))
  unfold tkV
  go_enter Tryd.func17, Tryd.ntmps17
  go_wp2_with (go_at_call 34; refine (HH.out _ HB.out).mono ?_; rintro e w1 ⟨g, rfl, hrow⟩; dsimp only [fdV]; have HFB1 := Lib.hid (HFB.out.kept hrow.bel); have HGN : Hid (g ≠ w.heap.size + 1) := Lib.hid (by have := hrow.lo; have := HFB.out.lt; omega); have HROW := Lib.hid (hrow.base HB.out); clear hrow; obtain ⟨c0, c1, c2, c3, c4, c5, c6, c7, c8, c9, c10, c11⟩ := HFB1.out.cells; obtain ⟨f0, f1, f2, f3, f4, f5, f6, f7, f8, f9, f10, f11⟩ := HFB1.out.free)
  have HB1 := Lib.hid HROW.out.bel
  obtain ⟨w5, hw5, hb5, ho5, d0, d1, d2, d3, d4, d5, d6, d7, d8, d9, d10, d11⟩ := HFB1.out.named HB1.out (by omega) (.int .u8 cat) (.int .u8 0) (.string P) (.int .i64 dg) (.int .i64 sc) (.bool sg) (.bool false) (.bool false) (.bool false) (.bool false) (.int .i64 n) (.slice (some ⟨g, 0, none⟩) n n)
  rw [← hw5]
  clear hw5
  refine bodyPost_ret (by simp [results, Tryd.results17, go_sem, d0, d1, d2, d3, d4, d5, d6, d7, d8, d9, d10, d11]; try rfl) rfl ?_
  exact ⟨g, rfl, HROW.out.other ho5 HGN.out hb5⟩

set_option maxRecDepth 100000 in
set_option maxHeartbeats 4000000 in
theorem c_lit_quo_err (s : ByteArray) (l c : Int) (lf : Bool) (code : Int) (w : World)
    (H : ∀ W, Below w.heap.size w W → Calls Tryd.prog 35 #[.string s] W fun e w' => e = .returned (.tuple #[zeroF, .int .i64 code]) ∧ Below W.heap.size W w') :
    Calls Tryd.prog 17 #[tkV 3 s l c lf] w fun e w' => e = .returned (.tuple #[zeroF, .int .i64 code]) ∧ Below w.heap.size w w' := by
  have HH := Lib.hid H
  clear H
  have HFB : Hid (FB ((w.alloc (.cells #[.int .u8 3, .string s, .int .i64 l, .int .i64 c, .bool lf] 51)).alloc (.cells #[.int .u8 0, .int .u8 0, .string ⟨#[]⟩, .int .i64 0, .int .i64 0, .bool false, .bool false, .bool false, .bool false, .bool false, .int .i64 0, .slice none 0 0] 43)) (w.heap.size + 1)) := Lib.hid (by
    have h := FB.new (w.alloc (.cells #[.int .u8 3, .string s, .int .i64 l, .int .i64 c, .bool lf] 51))
    rw [World.size_alloc] at h; exact h)
  have HB := Lib.hid (((Below.refl w.heap.size w).alloc (Nat.le_refl _) (.cells #[.int .u8 3, .string s, .int .i64 l, .int .i64 c, .bool lf] 51)).alloc (by simp) (.cells #[.int .u8 0, .int .u8 0, .string ⟨#[]⟩, .int .i64 0, .int .i64 0, .bool false, .bool false, .bool false, .bool false, .bool false, .int .i64 0, .slice none 0 0] 43))
  unfold tkV
  go_enter Tryd.func17, Tryd.ntmps17
  go_wp2_with (go_at_call 35; refine (HH.out _ HB.out).mono ?_; rintro e w1 ⟨rfl, hb1⟩; dsimp only [zeroF, fdV]; have HFB1 := Lib.hid (HFB.out.kept hb1); have HB1 := Lib.hid (HB.out.trans (hb1.mono HB.out.size)); clear hb1; obtain ⟨c0, c1, c2, c3, c4, c5, c6, c7, c8, c9, c10, c11⟩ := HFB1.out.cells; obtain ⟨f0, f1, f2, f3, f4, f5, f6, f7, f8, f9, f10, f11⟩ := HFB1.out.free)
  obtain ⟨w5, hw5, hb5, ho5, d0, d1, d2, d3, d4, d5, d6, d7, d8, d9, d10, d11⟩ := HFB1.out.named HB1.out (by omega) (.int .u8 0) (.int .u8 0) (.string ⟨#[]⟩) (.int .i64 0) (.int .i64 0) (.bool false) (.bool false) (.bool false) (.bool false) (.bool false) (.int .i64 0) (.slice none 0 0)
  rw [← hw5]
  clear hw5
  refine bodyPost_ret (by simp [results, Tryd.results17, go_sem, d0, d1, d2, d3, d4, d5, d6, d7, d8, d9, d10, d11]; try rfl) rfl ?_
  exact ⟨rfl, hb5⟩

set_option maxRecDepth 100000 in
set_option maxHeartbeats 4000000 in
theorem c_lit_quo (s : ByteArray) (l c : Int) (lf : Bool) (cat : Int) (P : ByteArray) (dg sc : Int) (sg : Bool) (n : Nat) (bs : List UInt8) (w : World)
    (H : ∀ W, Below w.heap.size w W → Calls Tryd.prog 35 #[.string s] W fun e w' => ∃ g : Nat,
      e = .returned (.tuple #[fdV cat P dg sc sg n (.slice (some ⟨g, 0, none⟩) n n), .int .i64 0]) ∧ Row2 W w' g bs) :
    Calls Tryd.prog 17 #[tkV 3 s l c lf] w fun e w' => ∃ g : Nat, e = .returned (.tuple #[fdV cat P dg sc sg n (.slice (some ⟨g, 0, none⟩) n n), .int .i64 0]) ∧ Row2 w w' g bs := by
  have HH := Lib.hid H
  clear H
  have HFB : Hid (FB ((w.alloc (.cells #[.int .u8 3, .string s, .int .i64 l, .int .i64 c, .bool lf] 51)).alloc (.cells #[.int .u8 0, .int .u8 0, .string ⟨#[]⟩, .int .i64 0, .int .i64 0, .bool false, .bool false, .bool false, .bool false, .bool false, .int .i64 0, .slice none 0 0] 43)) (w.heap.size + 1)) := Lib.hid (by
    have h := FB.new (w.alloc (.cells #[.int .u8 3, .string s, .int .i64 l, .int .i64 c, .bool lf] 51))
    rw [World.size_alloc] at h; exact h)
  have HB := Lib.hid (((Below.refl w.heap.size w).alloc (Nat.le_refl _) (.cells #[.int .u8 3, .string s, .int .i64 l, .int .i64 c, .bool lf] 51)).alloc (by simp) (.cells #[.int .u8 0, .int .u8 0, .string ⟨#[]⟩, .int .i64 0, .int .i64 0, .bool false, .bool false, .bool false, .bool false, .bool false, .int .i64 0, .slice none 0 0] 43))
  unfold tkV
  go_enter Tryd.func17, Tryd.ntmps17
  go_wp2_with (go_at_call 35; refine (HH.out _ HB.out).mono ?_; rintro e w1 ⟨g, rfl, hrow⟩; dsimp only [fdV]; have HFB1 := Lib.hid (HFB.out.kept hrow.bel); have HGN : Hid (g ≠ w.heap.size + 1) := Lib.hid (by have := hrow.lo; have := HFB.out.lt; omega); have HROW := Lib.hid (hrow.base HB.out); clear hrow; obtain ⟨c0, c1, c2, c3, c4, c5, c6, c7, c8, c9, c10, c11⟩ := HFB1.out.cells; obtain ⟨f0, f1, f2, f3, f4, f5, f6, f7, f8, f9, f10, f11⟩ := HFB1.out.free)
  have HB1 := Lib.hid HROW.out.bel
  obtain ⟨w5, hw5, hb5, ho5, d0, d1, d2, d3, d4, d5, d6, d7, d8, d9, d10, d11⟩ := HFB1.out.named HB1.out (by omega) (.int .u8 cat) (.int .u8 0) (.string P) (.int .i64 dg) (.int .i64 sc) (.bool sg) (.bool false) (.bool false) (.bool false) (.bool false) (.int .i64 n) (.slice (some ⟨g, 0, none⟩) n n)
  rw [← hw5]
  clear hw5
  refine bodyPost_ret (by simp [results, Tryd.results17, go_sem, d0, d1, d2, d3, d4, d5, d6, d7, d8, d9, d10, d11]; try rfl) rfl ?_
  exact ⟨g, rfl, HROW.out.other ho5 HGN.out hb5⟩

set_option maxRecDepth 100000 in
set_option maxHeartbeats 4000000 in
theorem c_lit_fig_err (s : ByteArray) (l c : Int) (lf : Bool) (code : Int) (w : World)
    (H : ∀ W, Below w.heap.size w W → Calls Tryd.prog 36 #[.string s] W fun e w' => e = .returned (.tuple #[zeroF, .int .i64 code]) ∧ Below W.heap.size W w') :
    Calls Tryd.prog 17 #[tkV 1 s l c lf] w fun e w' => e = .returned (.tuple #[zeroF, .int .i64 code]) ∧ Below w.heap.size w w' := by
  have HH := Lib.hid H
  clear H
  have HFB : Hid (FB ((w.alloc (.cells #[.int .u8 1, .string s, .int .i64 l, .int .i64 c, .bool lf] 51)).alloc (.cells #[.int .u8 0, .int .u8 0, .string ⟨#[]⟩, .int .i64 0, .int .i64 0, .bool false, .bool false, .bool false, .bool false, .bool false, .int .i64 0, .slice none 0 0] 43)) (w.heap.size + 1)) := Lib.hid (by
    have h := FB.new (w.alloc (.cells #[.int .u8 1, .string s, .int .i64 l, .int .i64 c, .bool lf] 51))
    rw [World.size_alloc] at h; exact h)
  have HB := Lib.hid (((Below.refl w.heap.size w).alloc (Nat.le_refl _) (.cells #[.int .u8 1, .string s, .int .i64 l, .int .i64 c, .bool lf] 51)).alloc (by simp) (.cells #[.int .u8 0, .int .u8 0, .string ⟨#[]⟩, .int .i64 0, .int .i64 0, .bool false, .bool false, .bool false, .bool false, .bool false, .int .i64 0, .slice none 0 0] 43))
  unfold tkV
  go_enter Tryd.func17, Tryd.ntmps17
  go_wp2_with (go_at_call 36; refine (HH.out _ HB.out).mono ?_; rintro e w1 ⟨rfl, hb1⟩; dsimp only [zeroF, fdV]; have HFB1 := Lib.hid (HFB.out.kept hb1); have HB1 := Lib.hid (HB.out.trans (hb1.mono HB.out.size)); clear hb1; obtain ⟨c0, c1, c2, c3, c4, c5, c6, c7, c8, c9, c10, c11⟩ := HFB1.out.cells; obtain ⟨f0, f1, f2, f3, f4, f5, f6, f7, f8, f9, f10, f11⟩ := HFB1.out.free)
  obtain ⟨w5, hw5, hb5, ho5, d0, d1, d2, d3, d4, d5, d6, d7, d8, d9, d10, d11⟩ := HFB1.out.named HB1.out (by omega) (.int .u8 0) (.int .u8 0) (.string ⟨#[]⟩) (.int .i64 0) (.int .i64 0) (.bool false) (.bool false) (.bool false) (.bool false) (.bool false) (.int .i64 0) (.slice none 0 0)
  rw [← hw5]
  clear hw5
  refine bodyPost_ret (by simp [results, Tryd.results17, go_sem, d0, d1, d2, d3, d4, d5, d6, d7, d8, d9, d10, d11]; try rfl) rfl ?_
  exact ⟨rfl, hb5⟩

set_option maxRecDepth 100000 in
set_option maxHeartbeats 4000000 in
theorem c_lit_fig (s : ByteArray) (l c : Int) (lf : Bool) (cat : Int) (P : ByteArray) (dg sc : Int) (sg : Bool) (n : Nat) (bs : List UInt8) (w : World)
    (H : ∀ W, Below w.heap.size w W → Calls Tryd.prog 36 #[.string s] W fun e w' => ∃ g : Nat,
      e = .returned (.tuple #[fdV cat P dg sc sg n (.slice (some ⟨g, 0, none⟩) n n), .int .i64 0]) ∧ Row2 W w' g bs) :
    Calls Tryd.prog 17 #[tkV 1 s l c lf] w fun e w' => ∃ g : Nat, e = .returned (.tuple #[fdV cat P dg sc sg n (.slice (some ⟨g, 0, none⟩) n n), .int .i64 0]) ∧ Row2 w w' g bs := by
  have HH := Lib.hid H
  clear H
  have HFB : Hid (FB ((w.alloc (.cells #[.int .u8 1, .string s, .int .i64 l, .int .i64 c, .bool lf] 51)).alloc (.cells #[.int .u8 0, .int .u8 0, .string ⟨#[]⟩, .int .i64 0, .int .i64 0, .bool false, .bool false, .bool false, .bool false, .bool false, .int .i64 0, .slice none 0 0] 43)) (w.heap.size + 1)) := Lib.hid (by
    have h := FB.new (w.alloc (.cells #[.int .u8 1, .string s, .int .i64 l, .int .i64 c, .bool lf] 51))
    rw [World.size_alloc] at h; exact h)
  have HB := Lib.hid (((Below.refl w.heap.size w).alloc (Nat.le_refl _) (.cells #[.int .u8 1, .string s, .int .i64 l, .int .i64 c, .bool lf] 51)).alloc (by simp) (.cells #[.int .u8 0, .int .u8 0, .string ⟨#[]⟩, .int .i64 0, .int .i64 0, .bool false, .bool false, .bool false, .bool false, .bool false, .int .i64 0, .slice none 0 0] 43))
  unfold tkV
  go_enter Tryd.func17, Tryd.ntmps17
  go_wp2_with (go_at_call 36; refine (HH.out _ HB.out).mono ?_; rintro e w1 ⟨g, rfl, hrow⟩; dsimp only [fdV]; have HFB1 := Lib.hid (HFB.out.kept hrow.bel); have HGN : Hid (g ≠ w.heap.size + 1) := Lib.hid (by have := hrow.lo; have := HFB.out.lt; omega); have HROW := Lib.hid (hrow.base HB.out); clear hrow; obtain ⟨c0, c1, c2, c3, c4, c5, c6, c7, c8, c9, c10, c11⟩ := HFB1.out.cells; obtain ⟨f0, f1, f2, f3, f4, f5, f6, f7, f8, f9, f10, f11⟩ := HFB1.out.free)
  have HB1 := Lib.hid HROW.out.bel
  obtain ⟨w5, hw5, hb5, ho5, d0, d1, d2, d3, d4, d5, d6, d7, d8, d9, d10, d11⟩ := HFB1.out.named HB1.out (by omega) (.int .u8 cat) (.int .u8 0) (.string P) (.int .i64 dg) (.int .i64 sc) (.bool sg) (.bool false) (.bool false) (.bool false) (.bool false) (.int .i64 n) (.slice (some ⟨g, 0, none⟩) n n)
  rw [← hw5]
  clear hw5
  refine bodyPost_ret (by simp [results, Tryd.results17, go_sem, d0, d1, d2, d3, d4, d5, d6, d7, d8, d9, d10, d11]; try rfl) rfl ?_
  exact ⟨g, rfl, HROW.out.other ho5 HGN.out hb5⟩

set_option maxRecDepth 100000 in
set_option maxHeartbeats 4000000 in
theorem c_lit_other (k : Nat) (hk1 : k ≠ 1) (hk2 : k ≠ 2) (hk3 : k ≠ 3) (s : ByteArray) (l c : Int) (lf : Bool) (w : World) :
    Calls Tryd.prog 17 #[tkV k s l c lf] w fun e w' => e = .returned (.tuple #[zeroF, .int .i64 12]) ∧ Below w.heap.size w w' := by
  have y1 : ((k : Int) == 1) = false := by simp; omega
  have y2 : ((k : Int) == 2) = false := by simp; omega
  have y3 : ((k : Int) == 3) = false := by simp; omega
  have e1 : ¬ (k : Int) = 1 := by omega
  have e2 : ¬ (k : Int) = 2 := by omega
  have e3 : ¬ (k : Int) = 3 := by omega
  clear hk1 hk2 hk3
  unfold tkV
  go_enter Tryd.func17, Tryd.ntmps17
  go_wp2
  refine bodyPost_ret (by simp [results, Tryd.results17, go_sem]; try rfl) rfl ?_
  exact ⟨rfl, ((Below.refl _ w).alloc (Nat.le_refl _) _).alloc (by simp) _⟩
end Go.Proofs.YtahmcjgehhfknaaDoor
