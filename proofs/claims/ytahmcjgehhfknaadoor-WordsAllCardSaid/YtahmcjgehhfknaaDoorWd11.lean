/-
  The law's own functions shows and lives: the examples of the chapter.
-/
import Derived.Test.YtahmcjgehhfknaaDoorWd10
import Derived.Test.YtahmcjgehhfknaaDoorWd3
namespace Go.Proofs.YtahmcjgehhfknaaDoor
open Go.RowKit
set_option linter.unusedVariables false
set_option linter.unusedSimpArgs false

/-- What a token's field is. -/
structure LitOK (k : Nat) (s : ByteArray) (cat : Int) (p : ByteArray) (dg sc : Int) (sg : Bool) (n : Nat) (bs : List UInt8) : Prop where
  out : ∀ W, MaxLenAt W → Calls Tryd.prog 17 #[tkV k s 0 0 false] W fun e w' => ∃ g : Nat, e = .returned (.tuple #[fdV cat p dg sc sg n (.slice (some ⟨g, 0, none⟩) n n), .int .i64 0]) ∧ Row2 W w' g bs
structure LitBad (k : Nat) (s : ByteArray) (code : Int) : Prop where
  out : ∀ W, MaxLenAt W → Calls Tryd.prog 17 #[tkV k s 0 0 false] W fun e w' => e = .returned (.tuple #[zeroF, .int .i64 code]) ∧ Below W.heap.size W w'
structure ShowsOK (k : Nat) (s p b : ByteArray) : Prop where
  out : ∀ W, MaxLenAt W → Calls Tryd.prog 20 #[.int .u8 k, .string s, .string p, .string b] W fun e w' => e = .returned (.bool true) ∧ Below W.heap.size W w'

theorem Row2.txt {w W : World} {g : Nat} {l : List UInt8} (h : Row2 w W g l) : Txt W (some ⟨g, 0, none⟩) l := fun _ => ⟨g, 0, rfl, h.lt, fun j c hj => by simpa using h.cell j c hj⟩

set_option maxRecDepth 100000 in
set_option maxHeartbeats 4000000 in
theorem c_shows (k : Nat) (s p b : ByteArray) (cat dg sc : Int) (sg : Bool) (HL : LitOK k s cat p dg sc sg b.size b.data.toList) : ShowsOK k s p b := by
  refine ⟨fun w hm => ?_⟩
  have hst : strB b.data.toList = b := rfl
  have hbl : b.data.toList.length = b.size := (Lib.size_eq b).symm
  have HLL := Lib.hid (HL.out w hm)
  clear HL hm
  unfold tkV at HLL
  go_enter Tryd.func20, Tryd.ntmps20
  go_wp2_with (go_at_call 17; refine HLL.out.mono ?_; rintro e w1 ⟨g, rfl, hrow⟩; dsimp only [fdV]; have HB1 := Lib.hid hrow.bel; have hcv : ∀ o : Obj, (convert 41 9 (.slice (some ⟨g, 0, none⟩) b.size b.size)).run Tryd.prog (w1.alloc o) = .ok (.string b) (w1.alloc o) := (fun o => by
      have h := run_str (some ⟨g, 0, none⟩) b.data.toList b.size (w1.alloc o) (hrow.txt.alloc o)
      rw [hbl, hst] at h
      exact h); clear hrow hst hbl)
  go_ret
  exact ⟨rfl, HB1.out.alloc HB1.out.size _⟩
/-! ### lives -/
theorem lit_num (s : ByteArray) (P : ByteArray) (dg sc : Int) (sg : Bool) (n : Nat) (bs : List UInt8) (hs : s.size ≤ 1000000) (hb : badB s.data.toList = false) (hn : (digsB s.data.toList).length ≤ 18)
    (h1 : strB (picB (signB s.data.toList) (cutB s.data.toList).1 (cutB s.data.toList).2.1) = P) (h2 : ((digsB s.data.toList).length : Int) = dg) (h3 : ((cutB s.data.toList).2.1.length : Int) = sc) (h4 : (!(signB s.data.toList).isEmpty) = sg)
    (h5 : (digsB s.data.toList).length = n) (h6 : bytesB (signB s.data.toList) (digsB s.data.toList) = bs) : LitOK 2 s 4 P dg sc sg n bs := by
  refine ⟨fun W hm => ?_⟩
  subst h1 h2 h3 h4 h5 h6
  exact c_lit_num s 0 0 false 4 _ _ _ _ _ _ W fun W' hb' => c_number s hs hb hn W' (hm.below hb')
theorem lit_num_bad (s : ByteArray) (hs : s.size ≤ 1000000) (hb : badB s.data.toList = true) : LitBad 2 s 4 :=
  ⟨fun W hm => c_lit_num_err s 0 0 false 4 W fun W' hb' => c_number_bad s hs hb W' (hm.below hb')⟩
theorem lit_quo (s : ByteArray) (h0 : 1 ≤ s.size) (h1 : s.size ≤ 256) : LitOK 3 s 2 (strB (List.replicate s.size 88)) 0 0 false s.size s.data.toList :=
  ⟨fun W hm => c_lit_quo s 0 0 false 2 _ 0 0 false _ _ W fun W' _ => c_quote s h0 h1 W'⟩
theorem lit_fig_bad (s : ByteArray) (hs : s.size ≤ maxLen) (h : isFig s.data.toList = false) : LitBad 1 s 11 :=
  ⟨fun W hm => c_lit_fig_err s 0 0 false 11 W fun W' _ => c_fig_bad s hs h W'⟩
theorem lit_fig_zero (s : ByteArray) (h : s.data.toList ∈ zeroW) : LitOK 1 s 4 ⟨#[57]⟩ 1 0 false 1 [48] :=
  ⟨fun W hm => c_lit_fig s 0 0 false 4 _ 1 0 false 1 _ W fun W' hb => c_fig_zero s h W' (hm.below hb)⟩
theorem lit_fig (s : ByteArray) (hs : s.size ≤ maxLen) (h : isFig s.data.toList = true) (hz : s.data.toList ∉ zeroW) (b : UInt8) (hb : byteI s.data.toList = (b.toNat : Int)) : LitOK 1 s 2 ⟨#[88]⟩ 0 0 false 1 [b] :=
  ⟨fun W hm => c_lit_fig s 0 0 false 2 _ 0 0 false 1 _ W fun W' _ => c_fig s hs h hz b hb W'⟩
theorem lit_other (k : Nat) (s : ByteArray) (h1 : k ≠ 1) (h2 : k ≠ 2) (h3 : k ≠ 3) : LitBad k s 12 := ⟨fun W _ => c_lit_other k h1 h2 h3 s 0 0 false W⟩
structure OfOK (s : ByteArray) (v : Int) : Prop where
  out : ∀ W, SpTab W → Calls Tryd.prog 13 #[.string s] W fun e w' => e = .returned (.int .u8 v) ∧ Below W.heap.size W w'
theorem of_ok (s : ByteArray) (v : Int) (hs : s.size ≤ maxLen) (h : ofI s.data.toList = v) : OfOK s v := ⟨fun W hT => by rw [← h]; exact c_of s hs W hT⟩
structure ByteOK (s : ByteArray) (v : Int) (b : Bool) : Prop where
  out : ∀ W, Calls Tryd.prog 12 #[.string s] W fun e w' => e = .returned (.tuple #[.int .u8 v, .bool b]) ∧ Below W.heap.size W w'
theorem byte_ok (s : ByteArray) (v : Int) (b : Bool) (hs : s.size ≤ maxLen) (h : byteI s.data.toList = v) (h2 : isFig s.data.toList = b) : ByteOK s v b := ⟨fun W => by rw [← h, ← h2]; exact c_byte s hs W⟩

theorem ex_by1 : ByteOK ⟨#[81, 85, 79, 84, 69]⟩ 34 true := byte_ok _ _ _ (by decide) (by decide +kernel) (by decide +kernel)
theorem ex_by2 : ByteOK ⟨#[65, 76, 76]⟩ 0 false := byte_ok _ _ _ (by decide) (by decide +kernel) (by decide +kernel)
theorem ex_l1 : LitOK 2 ⟨#[45, 49, 46, 53, 48]⟩ 4 ⟨#[83, 57, 86, 57, 57]⟩ 3 2 true 3 [49, 53, 125] := lit_num _ _ _ _ _ _ _ (by decide) (by decide +kernel) (by decide +kernel) (by decide +kernel) (by decide +kernel) (by decide +kernel) (by decide +kernel) (by decide +kernel) (by decide +kernel)
theorem ex_l2 : LitBad 1 ⟨#[65]⟩ 11 := lit_fig_bad _ (by decide) (by decide +kernel)
theorem ex_l3 : LitBad 6 ⟨#[46]⟩ 12 := lit_other _ _ (by decide) (by decide) (by decide)
theorem ex_l4 : LitBad 2 ⟨#[53, 46]⟩ 4 := lit_num_bad _ (by decide) (by decide +kernel)
theorem ex_o1 : OfOK ⟨#[77, 79, 86, 69]⟩ 2 := of_ok _ _ (by decide) (by decide +kernel)
theorem ex_o2 : OfOK ⟨#[84, 79]⟩ 1 := of_ok _ _ (by decide) (by decide +kernel)
theorem ex_o3 : OfOK ⟨#[83, 80, 65, 67, 69, 83]⟩ 3 := of_ok _ _ (by decide) (by decide +kernel)
theorem ex_o4 : OfOK ⟨#[84, 79, 84, 65, 76]⟩ 0 := of_ok _ _ (by decide) (by decide +kernel)
theorem ex_o5 : OfOK ⟨#[109, 111, 118, 101]⟩ 0 := of_ok _ _ (by decide) (by decide +kernel)
theorem ex_s1 : ShowsOK 2 ⟨#[48, 48, 55]⟩ ⟨#[57, 57, 57]⟩ ⟨#[48, 48, 55]⟩ := c_shows _ _ _ _ 4 3 0 false (lit_num _ _ _ _ _ _ _ (by decide) (by decide +kernel) (by decide +kernel) (by decide +kernel) (by decide +kernel) (by decide +kernel) (by decide +kernel) (by decide +kernel) (by decide +kernel))
theorem ex_s2 : ShowsOK 2 ⟨#[43, 46, 53]⟩ ⟨#[83, 86, 57]⟩ ⟨#[69]⟩ := c_shows _ _ _ _ 4 1 1 true (lit_num _ _ _ _ _ _ _ (by decide) (by decide +kernel) (by decide +kernel) (by decide +kernel) (by decide +kernel) (by decide +kernel) (by decide +kernel) (by decide +kernel) (by decide +kernel))
theorem ex_s3 : ShowsOK 3 ⟨#[65, 66]⟩ ⟨#[88, 88]⟩ ⟨#[65, 66]⟩ := c_shows _ _ _ _ 2 0 0 false (lit_quo ⟨#[65, 66]⟩ (by decide) (by decide))
theorem ex_s4 : ShowsOK 1 ⟨#[90, 69, 82, 79]⟩ ⟨#[57]⟩ ⟨#[48]⟩ := c_shows _ _ _ _ 4 1 0 false (lit_fig_zero ⟨#[90, 69, 82, 79]⟩ (by decide))
theorem ex_s5 : ShowsOK 1 ⟨#[72, 73, 71, 72, 45, 86, 65, 76, 85, 69]⟩ ⟨#[88]⟩ ⟨#[255]⟩ := c_shows _ _ _ _ 2 0 0 false (lit_fig ⟨#[72, 73, 71, 72, 45, 86, 65, 76, 85, 69]⟩ (by decide) (by decide +kernel) (by decide +kernel) 255 (by decide +kernel))

set_option maxRecDepth 100000 in
set_option maxHeartbeats 8000000 in
theorem c_lives (w : World) (hm : MaxLenAt w) (hT : SpTab w) : Calls Tryd.prog 9 #[] w fun e w' => e = .returned (.bool true) ∧ Below w.heap.size w w' := by
  have HMX := Lib.hid hm
  have HTX := Lib.hid hT
  clear hm hT
  have HE := Lib.hid (Below.refl w.heap.size w)
  go_enter Tryd.func9, Tryd.ntmps9
  go_upto_region 3 with (go_at_call 12; refine ((by first | with_reducible exact ex_by1 | with_reducible exact ex_by2 : ByteOK _ _ _).out _).mono ?_; rintro e w2 ⟨rfl, hb2⟩; have HE2 := Lib.hid ((by first | with_reducible exact HE.out | with_reducible exact HE.out.alloc HE.out.size _ : Below w.heap.size w _).trans (hb2.mono (by first | with_reducible exact HE.out.size | with_reducible exact (HE.out.alloc HE.out.size _).size))); clear hb2 HE; have HE := HE2; clear HE2)
  go_upto_region 4 with (go_at_call 17; refine (ex_l1.out _ (HMX.out.below HE.out)).mono ?_; rintro e w3 ⟨g, rfl, hrow⟩; dsimp only [fdV])
  have HE3 := HE.out.trans (hrow.bel.mono HE.out.size)
  obtain ⟨B, hB⟩ : ∃ B, B = w3.alloc (.cells #[.int .u8 4, .int .u8 0, .string ⟨#[83, 57, 86, 57, 57]⟩, .int .i64 3, .int .i64 2, .bool true, .bool false, .bool false, .bool false, .bool false, .int .i64 3, .slice (some ⟨g, 0, none⟩) 3 3] 43) := ⟨_, rfl⟩
  obtain ⟨N, hN⟩ : ∃ N, N = w3.heap.size := ⟨_, rfl⟩
  rw [← hB, ← hN]
  have HFB : Hid (B.heap[N]? = some (.cells #[.int .u8 4, .int .u8 0, .string ⟨#[83, 57, 86, 57, 57]⟩, .int .i64 3, .int .i64 2, .bool true, .bool false, .bool false, .bool false, .bool false, .int .i64 3, .slice (some ⟨g, 0, none⟩) 3 3] 43 (0, 0))) := Lib.hid (by rw [hB, hN]; exact (MapKept.heap_alloc w3 _).1)
  have HRB : Hid (Txt B (some ⟨g, 0, none⟩) [49, 53, 125]) := Lib.hid (by rw [hB]; exact hrow.txt.alloc _)
  have HWB : Hid (Below w.heap.size w B) := Lib.hid (by rw [hB]; exact HE3.alloc HE3.size _)
  have HMB := Lib.hid (HMX.out.below HWB.out)
  have HTB := Lib.hid (HTX.out.below HWB.out)
  clear hrow HE3 hB hN HE HMX HTX
  have HMX := HMB
  have HTX := HTB
  have HE := Lib.hid (Below.refl B.heap.size B)
  clear HMB HTB
  go_upto_region 5 with (go_at_call 17; refine (ex_l2.out _ (by first | with_reducible exact HMX.out.below HE.out | with_reducible exact HMX.out.below (HE.out.alloc HE.out.size _))).mono ?_; rintro e w2 ⟨rfl, hb2⟩; dsimp only [zeroF, fdV]; have HE2 := Lib.hid ((by first | with_reducible exact HE.out | with_reducible exact HE.out.alloc HE.out.size _ : Below B.heap.size B _).trans (hb2.mono (by first | with_reducible exact HE.out.size | with_reducible exact (HE.out.alloc HE.out.size _).size))); clear hb2 HE; have HE := HE2; clear HE2)
  go_upto_region 6 with (go_at_call 17; refine (ex_l3.out _ (by first | with_reducible exact HMX.out.below HE.out | with_reducible exact HMX.out.below (HE.out.alloc HE.out.size _))).mono ?_; rintro e w2 ⟨rfl, hb2⟩; dsimp only [zeroF, fdV]; have HE2 := Lib.hid ((by first | with_reducible exact HE.out | with_reducible exact HE.out.alloc HE.out.size _ : Below B.heap.size B _).trans (hb2.mono (by first | with_reducible exact HE.out.size | with_reducible exact (HE.out.alloc HE.out.size _).size))); clear hb2 HE; have HE := HE2; clear HE2)
  go_upto_region 7 with (go_at_call 17; refine (ex_l4.out _ (by first | with_reducible exact HMX.out.below HE.out | with_reducible exact HMX.out.below (HE.out.alloc HE.out.size _))).mono ?_; rintro e w2 ⟨rfl, hb2⟩; dsimp only [zeroF, fdV]; have HE2 := Lib.hid ((by first | with_reducible exact HE.out | with_reducible exact HE.out.alloc HE.out.size _ : Below B.heap.size B _).trans (hb2.mono (by first | with_reducible exact HE.out.size | with_reducible exact (HE.out.alloc HE.out.size _).size))); clear hb2 HE; have HE := HE2; clear HE2)
  go_upto_region 9 with (go_at_call 13; refine ((by first | with_reducible exact ex_o1 | with_reducible exact ex_o2 | with_reducible exact ex_o3 | with_reducible exact ex_o4 | with_reducible exact ex_o5 : OfOK _ _).out _ (by first | with_reducible exact HTX.out.below HE.out | with_reducible exact HTX.out.below (HE.out.alloc HE.out.size _))).mono ?_; rintro e w2 ⟨rfl, hb2⟩; have HE2 := Lib.hid ((by first | with_reducible exact HE.out | with_reducible exact HE.out.alloc HE.out.size _ : Below B.heap.size B _).trans (hb2.mono (by first | with_reducible exact HE.out.size | with_reducible exact (HE.out.alloc HE.out.size _).size))); clear hb2 HE; have HE := HE2; clear HE2)
  obtain ⟨W9, hW9⟩ : ∃ W9, W9 = w2 := ⟨_, rfl⟩
  have hNB : N < B.heap.size := (Array.getElem?_eq_some_iff.1 HFB.out).1
  have hfw := (HE.out.block N hNB).trans HFB.out
  have d0 := Joins.cell_of_block hfw 0
  have d1 := Joins.cell_of_block hfw 1
  have d2 := Joins.cell_of_block hfw 2
  have d3 := Joins.cell_of_block hfw 3
  have d4 := Joins.cell_of_block hfw 4
  have d5 := Joins.cell_of_block hfw 5
  have d6 := Joins.cell_of_block hfw 6
  have d7 := Joins.cell_of_block hfw 7
  have d8 := Joins.cell_of_block hfw 8
  have d9 := Joins.cell_of_block hfw 9
  have d10 := Joins.cell_of_block hfw 10
  have d11 := Joins.cell_of_block hfw 11
  have hcv : (convert 41 9 (.slice (some ⟨g, 0, none⟩) 3 3)).run Tryd.prog w2 = .ok (.string ⟨#[49, 53, 125]⟩) w2 := run_str (some ⟨g, 0, none⟩) [49, 53, 125] 3 _ (HRB.out.below HE.out)
  clear hfw hNB hW9
  go_wp2_with (go_at_call 20; refine ((by first | with_reducible exact ex_s1 | with_reducible exact ex_s2 | with_reducible exact ex_s3 | with_reducible exact ex_s4 | with_reducible exact ex_s5 : ShowsOK _ _ _ _).out _ (by first | with_reducible exact HMX.out.below HE.out | with_reducible exact HMX.out.below (HE.out.alloc HE.out.size _))).mono ?_; rintro e w2 ⟨rfl, hb2⟩; have HE2 := Lib.hid ((by first | with_reducible exact HE.out | with_reducible exact HE.out.alloc HE.out.size _ : Below B.heap.size B _).trans (hb2.mono (by first | with_reducible exact HE.out.size | with_reducible exact (HE.out.alloc HE.out.size _).size))); clear hb2 HE; have HE := HE2; clear HE2)
  go_ret
  exact ⟨rfl, HWB.out.trans (HE.out.mono HWB.out.size)⟩
end Go.Proofs.YtahmcjgehhfknaaDoor
