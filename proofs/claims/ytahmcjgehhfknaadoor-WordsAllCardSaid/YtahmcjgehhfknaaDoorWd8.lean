/-
  words.quote, figurative and Literal; the errors of number.
-/
import Derived.Test.YtahmcjgehhfknaaDoorWd7
namespace Go.Proofs.YtahmcjgehhfknaaDoor
open Go.RowKit
set_option linter.unusedVariables false
set_option linter.unusedSimpArgs false

set_option maxRecDepth 100000 in
set_option maxHeartbeats 4000000 in
theorem c_number_bad (s : ByteArray) (hs : s.size ≤ 1000000) (hb : badB s.data.toList = true) (w : World) (hm : MaxLenAt w) :
    Calls Tryd.prog 34 #[.string s] w fun e w' => e = .returned (.tuple #[zeroF, .int .i64 4]) ∧ Below w.heap.size w w' := by
  have HDIV : Hid (∀ W, MaxLenAt W → Calls Tryd.prog 49 #[.string s] W fun e w' => e = .returned (.tuple #[.agg #[.string ⟨#[]⟩, .string ⟨#[]⟩, .string ⟨#[]⟩], .int .i64 4]) ∧ Below W.heap.size W w') := fun W hm => by
    have h := c_divide s hs W hm
    rw [hb] at h
    exact h
  have HFB := Lib.hid (FB.new w)
  have HB := Lib.hid ((Below.refl w.heap.size w).alloc (Nat.le_refl _) (.cells #[.int .u8 0, .int .u8 0, .string ⟨#[]⟩, .int .i64 0, .int .i64 0, .bool false, .bool false, .bool false, .bool false, .bool false, .int .i64 0, .slice none 0 0] 43))
  have HMX := Lib.hid (hm.below HB.out)
  clear hb hm
  go_enter Tryd.func34, Tryd.ntmps34
  go_upto_region 2 with (go_at_call 49; refine (HDIV.out _ HMX.out).mono ?_; rintro e w1 ⟨rfl, hb1⟩; have HFB1 := Lib.hid (HFB.out.kept hb1); have HB1 := Lib.hid (HB.out.trans (hb1.mono HB.out.size)); clear hb1)
  have HFB2 := Lib.hid (HFB1.out.alloc (.cells #[.string ⟨#[]⟩, .string ⟨#[]⟩, .string ⟨#[]⟩] 99))
  have HB2 := Lib.hid (HB1.out.alloc HB1.out.size (.cells #[.string ⟨#[]⟩, .string ⟨#[]⟩, .string ⟨#[]⟩] 99))
  obtain ⟨c0, c1, c2, c3, c4, c5, c6, c7, c8, c9, c10, c11⟩ := HFB2.out.cells; obtain ⟨f0, f1, f2, f3, f4, f5, f6, f7, f8, f9, f10, f11⟩ := HFB2.out.free
  go_wp2
  obtain ⟨w5, hw5, hb5, ho5, d0, d1, d2, d3, d4, d5, d6, d7, d8, d9, d10, d11⟩ := HFB2.out.named HB2.out (Nat.le_refl _) (.int .u8 0) (.int .u8 0) (.string ⟨#[]⟩) (.int .i64 0) (.int .i64 0) (.bool false) (.bool false) (.bool false) (.bool false) (.bool false) (.int .i64 0) (.slice none 0 0)
  rw [← hw5]
  clear hw5
  refine bodyPost_ret (by simp [results, Tryd.results34, go_sem, d0, d1, d2, d3, d4, d5, d6, d7, d8, d9, d10, d11]; try rfl) rfl ?_
  exact ⟨rfl, hb5⟩

set_option maxRecDepth 100000 in
set_option maxHeartbeats 4000000 in
theorem c_number_wide (s : ByteArray) (hs : s.size ≤ 1000000) (hb : badB s.data.toList = false) (hn : 18 < (digsB s.data.toList).length) (w : World) (hm : MaxLenAt w) :
    Calls Tryd.prog 34 #[.string s] w fun e w' => e = .returned (.tuple #[zeroF, .int .i64 5]) ∧ Below w.heap.size w w' := by
  obtain ⟨C1, hC1⟩ : ∃ x, x = strB (cutB s.data.toList).1 := ⟨_, rfl⟩
  obtain ⟨C2, hC2⟩ : ∃ x, x = strB (cutB s.data.toList).2.1 := ⟨_, rfl⟩
  obtain ⟨X, hX⟩ : ∃ x, x = strB (signB s.data.toList) := ⟨_, rfl⟩
  obtain ⟨D, hD⟩ : ∃ x, x = C1 ++ C2 := ⟨_, rfl⟩
  have hl : s.data.toList.length ≤ 1000000 := by rw [← Lib.size_eq]; exact hs
  have hz1 : C1.size ≤ 1000000 := by rw [hC1, strB_size]; have := (cut_len (restB s.data.toList) [46]).1; have := rest_len s.data.toList; unfold cutB; omega
  have hz2 : C2.size ≤ 1000000 := by rw [hC2, strB_size]; have := (cut_len (restB s.data.toList) [46]).2; have := rest_len s.data.toList; unfold cutB; omega
  have hDl : D.data.toList = digsB s.data.toList := by rw [hD, hC1, hC2, strB_app]; rfl
  have hDn : (18 : Int) < (D.size : Int) := by rw [Lib.size_eq, hDl]; omega
  have HDIV : Hid (∀ W, MaxLenAt W → Calls Tryd.prog 49 #[.string s] W fun e w' => e = .returned (.tuple #[.agg #[.string X, .string C1, .string C2], .int .i64 0]) ∧ Below W.heap.size W w') := fun W hm => by
    have h := c_divide s hs W hm
    rw [hb, ← hX, ← hC1, ← hC2] at h
    exact h
  have HDG : Hid (∀ W, Calls Tryd.prog 50 #[.agg #[.string X, .string C1, .string C2]] W fun e w' => e = .returned (.string D) ∧ Below W.heap.size W w') := fun W => by
    rw [hD]; exact c_digits X C1 C2 hz1 hz2 W
  have HFB := Lib.hid (FB.new w)
  have HB := Lib.hid ((Below.refl w.heap.size w).alloc (Nat.le_refl _) (.cells #[.int .u8 0, .int .u8 0, .string ⟨#[]⟩, .int .i64 0, .int .i64 0, .bool false, .bool false, .bool false, .bool false, .bool false, .int .i64 0, .slice none 0 0] 43))
  have HMX := Lib.hid (hm.below HB.out)
  clear hb hm hC1 hC2 hX hD hl hDl hn
  go_enter Tryd.func34, Tryd.ntmps34
  go_upto_region 4 with (go_at_call 49; refine (HDIV.out _ HMX.out).mono ?_; rintro e w1 ⟨rfl, hb1⟩; have HFB1 := Lib.hid (HFB.out.kept hb1); have HB1 := Lib.hid (HB.out.trans (hb1.mono HB.out.size)); clear hb1)
  have HFB2 := Lib.hid (HFB1.out.alloc (.cells #[.string X, .string C1, .string C2] 99))
  have HB2 := Lib.hid (HB1.out.alloc HB1.out.size (.cells #[.string X, .string C1, .string C2] 99))
  go_wp2_with (go_at_call 50; refine (HDG.out _).mono ?_; rintro e w3 ⟨rfl, hb3⟩; have HFB3 := Lib.hid (HFB2.out.kept hb3); have HB3 := Lib.hid (HB2.out.trans (hb3.mono HB2.out.size)); clear hb3; obtain ⟨c0, c1, c2, c3, c4, c5, c6, c7, c8, c9, c10, c11⟩ := HFB3.out.cells; obtain ⟨f0, f1, f2, f3, f4, f5, f6, f7, f8, f9, f10, f11⟩ := HFB3.out.free)
  obtain ⟨w5, hw5, hb5, ho5, d0, d1, d2, d3, d4, d5, d6, d7, d8, d9, d10, d11⟩ := HFB3.out.named HB3.out (Nat.le_refl _) (.int .u8 0) (.int .u8 0) (.string ⟨#[]⟩) (.int .i64 0) (.int .i64 0) (.bool false) (.bool false) (.bool false) (.bool false) (.bool false) (.int .i64 0) (.slice none 0 0)
  rw [← hw5]
  clear hw5
  refine bodyPost_ret (by simp [results, Tryd.results34, go_sem, d0, d1, d2, d3, d4, d5, d6, d7, d8, d9, d10, d11]; try rfl) rfl ?_
  exact ⟨rfl, hb5⟩

set_option maxRecDepth 100000 in
set_option maxHeartbeats 4000000 in
theorem c_quote_bad (s : ByteArray) (h : s.size = 0 ∨ 256 < s.size) (hs : s.size ≤ 9223372036854775807) (w : World) :
    Calls Tryd.prog 35 #[.string s] w fun e w' => e = .returned (.tuple #[zeroF, .int .i64 5]) ∧ Below w.heap.size w w' := by
  have HFB := Lib.hid (FB.new w)
  have HB := Lib.hid ((Below.refl w.heap.size w).alloc (Nat.le_refl _) (.cells #[.int .u8 0, .int .u8 0, .string ⟨#[]⟩, .int .i64 0, .int .i64 0, .bool false, .bool false, .bool false, .bool false, .bool false, .int .i64 0, .slice none 0 0] 43))
  obtain ⟨c0, c1, c2, c3, c4, c5, c6, c7, c8, c9, c10, c11⟩ := HFB.out.cells; obtain ⟨f0, f1, f2, f3, f4, f5, f6, f7, f8, f9, f10, f11⟩ := HFB.out.free
  rcases h with h | h
  · have hs0 : s.toList = [] := by rw [ByteArray.toList_eq]; apply List.eq_nil_of_length_eq_zero; rw [← Lib.size_eq]; exact h
    clear h
    go_enter Tryd.func35, Tryd.ntmps35
    go_wp2
    refine bodyPost_ret (by simp [results, Tryd.results35, go_sem]; try rfl) rfl ?_
    exact ⟨rfl, HB.out⟩
  · have hs0 : s.toList.isEmpty = false := by
      rcases emp_cases s with h1 | h1
      · have h9 : s.size = 0 := by rw [Lib.size_eq, h1.1]; rfl
        omega
      · exact h1.2
    have hz : (256 : Int) < (s.size : Int) := by omega
    go_enter Tryd.func35, Tryd.ntmps35
    go_wp2
    refine bodyPost_ret (by simp [results, Tryd.results35, go_sem]; try rfl) rfl ?_
    exact ⟨rfl, HB.out⟩

set_option maxRecDepth 100000 in
set_option maxHeartbeats 4000000 in
theorem c_quote (s : ByteArray) (h0 : 1 ≤ s.size) (h1 : s.size ≤ 256) (w : World) :
    Calls Tryd.prog 35 #[.string s] w fun e w' => ∃ g : Nat,
      e = .returned (.tuple #[fdV 2 (strB (List.replicate s.size 88)) 0 0 false s.size (.slice (some ⟨g, 0, none⟩) s.size s.size), .int .i64 0]) ∧ Row2 w w' g s.data.toList := by
  have hcv := fun W : World => Lib.run_convert_string_bytes (P := Tryd.prog) W 9 41 5 s Tryd.underlying9 Tryd.underlying41 Tryd.underlying5
  obtain ⟨P, hP⟩ : ∃ P, P = strB (List.replicate s.size 88) := ⟨_, rfl⟩
  rw [← hP]
  have hs0 : s.toList.isEmpty = false := by
    rcases emp_cases s with h2 | h2
    · have h9 : s.size = 0 := by rw [Lib.size_eq, h2.1]; rfl
      omega
    · exact h2.2
  have HAL : Hid (∀ g cap W, s.size ≤ cap → Calls Tryd.prog 54 #[.slice (some ⟨g, 0, none⟩) s.size cap] W fun e w' =>
      e = .returned (fdV 2 P 0 0 false s.size (.slice (some ⟨g, 0, none⟩) s.size s.size)) ∧ Below W.heap.size W w') := fun g cap W hc => by rw [hP]; exact c_alpha g s.size cap hc (by omega) W
  have hz : (s.size : Int) ≤ 256 := by omega
  have HFB := Lib.hid (FB.new w)
  have HB := Lib.hid ((Below.refl w.heap.size w).alloc (Nat.le_refl _) (.cells #[.int .u8 0, .int .u8 0, .string ⟨#[]⟩, .int .i64 0, .int .i64 0, .bool false, .bool false, .bool false, .bool false, .bool false, .int .i64 0, .slice none 0 0] 43))
  have HFBb : Hid (FB (Lib.bytesWorld (w.alloc (.cells #[.int .u8 0, .int .u8 0, .string ⟨#[]⟩, .int .i64 0, .int .i64 0, .bool false, .bool false, .bool false, .bool false, .bool false, .int .i64 0, .slice none 0 0] 43)) 5 s) w.heap.size) := Lib.hid ((Lib.bytesWorld_at_old _ _ _ _ HFB.out.lt).trans HFB.out)
  have HROW : Hid (Row2 w (Lib.bytesWorld (w.alloc (.cells #[.int .u8 0, .int .u8 0, .string ⟨#[]⟩, .int .i64 0, .int .i64 0, .bool false, .bool false, .bool false, .bool false, .bool false, .int .i64 0, .slice none 0 0] 43)) 5 s) (w.heap.size + 1) s.data.toList) := Lib.hid (by
    have h := RowAt.made (w.alloc (.cells #[.int .u8 0, .int .u8 0, .string ⟨#[]⟩, .int .i64 0, .int .i64 0, .bool false, .bool false, .bool false, .bool false, .bool false, .int .i64 0, .slice none 0 0] 43)) 5 s
    rw [World.size_alloc] at h
    exact Row2.of h HB.out (by omega))
  clear hP h0 h1
  go_enter Tryd.func35, Tryd.ntmps35
  go_wp2_with (go_at_call 54; refine (HAL.out _ _ _ (grownCap_ge _ _ _ _)).mono ?_; rintro e w2 ⟨rfl, hb2⟩; dsimp only [fdV]; have HFB2 := Lib.hid (HFBb.out.kept hb2); have HROW2 := Lib.hid (HROW.out.keep hb2); clear hb2; obtain ⟨c0, c1, c2, c3, c4, c5, c6, c7, c8, c9, c10, c11⟩ := HFB2.out.cells; obtain ⟨f0, f1, f2, f3, f4, f5, f6, f7, f8, f9, f10, f11⟩ := HFB2.out.free)
  have HBB := Lib.hid HROW2.out.bel
  obtain ⟨w5, hw5, hb5, ho5, d0, d1, d2, d3, d4, d5, d6, d7, d8, d9, d10, d11⟩ := HFB2.out.named HBB.out (Nat.le_refl _) (.int .u8 2) (.int .u8 0) (.string P) (.int .i64 0) (.int .i64 0) (.bool false) (.bool false) (.bool false) (.bool false) (.bool false) (.int .i64 s.size) (.slice (some ⟨w.heap.size + 1, 0, none⟩) s.size s.size)
  rw [← hw5]
  clear hw5
  refine bodyPost_ret (by simp [results, Tryd.results35, go_sem, d0, d1, d2, d3, d4, d5, d6, d7, d8, d9, d10, d11]; try rfl) rfl ?_
  exact ⟨w.heap.size + 1, rfl, HROW2.out.other ho5 (by omega) hb5⟩
end Go.Proofs.YtahmcjgehhfknaaDoor
