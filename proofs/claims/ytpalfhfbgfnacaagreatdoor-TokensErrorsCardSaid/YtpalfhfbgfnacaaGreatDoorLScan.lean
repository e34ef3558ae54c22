/-
  The law TokensScan (columnsevenlaw03), walked.
-/
import Derived.Test.YtpalfhfbgfnacaaGreatDoorGL
import Derived.Test.YtpalfhfbgfnacaaGreatDoorGR
import Derived.Test.YtpalfhfbgfnacaaGreatDoorEqT
namespace Go.Proofs.YtpalfhfbgfnacaaGreatDoor
open Go.RowKit
set_option linter.unusedVariables false
set_option linter.unusedSimpArgs false
attribute [local go_sem] eqFault guardFault neqFault eqlFault

/-- A fault's block. -/
def FB (F : Nat) (a b c : Int) (w : World) : Prop := w.heap[F]? = some (.cells #[.int .i64 a, .int .i64 b, .int .i64 c] 28 (0, 0))
theorem FB.below {F : Nat} {a b c : Int} {w w' : World} (h : FB F a b c w) (hb : Below w.heap.size w w') : FB F a b c w' := (hb.block F (lt_of_block h)).trans h
theorem FB.cells {F : Nat} {a b c : Int} {w : World} (h : FB F a b c w) : w.cell? ⟨F, 0, none⟩ = some (.int .i64 a) ∧ w.cell? ⟨F, 1, none⟩ = some (.int .i64 b) ∧ w.cell? ⟨F, 2, none⟩ = some (.int .i64 c) := fcells h
theorem fb_new (w : World) (a b c : Int) : FB w.heap.size a b c (w.alloc (.cells #[.int .i64 a, .int .i64 b, .int .i64 c] 28)) := heap_alloc_new w _
theorem fb_bel (w : World) (a b c : Int) : Below w.heap.size w (w.alloc (.cells #[.int .i64 a, .int .i64 b, .int .i64 c] 28)) := (Below.refl _ _).alloc (Nat.le_refl _) _
theorem up2 {w0 w w' : World} (h : Below w0.heap.size w0 w) (hb : Below w.heap.size w w') : Below w0.heap.size w0 w' := h.trans (hb.mono h.size)
theorem TkOut.toks {w : World} {v : Value} {L : List Tok} (h : TkOut w v L) : ToksAt w v L := by obtain ⟨_, _, h1, _⟩ := h; exact h1
/-- The cards of a source text and the reference: one result. -/
theorem scan_ref {text : List UInt8} {ks : List Kard} (ht : text.length ≤ 2000) (h : readBU true text false = .inr ks) :
    sourceB text false = scanB true (ks.map Kard.toI) [] ∧ scanB false (ks.map Kard.toI) [] = scanB true (ks.map Kard.toI) [] ∧ totI (ks.map Kard.toI) ≤ 65536 ∧ ∀ c ∈ ks.map Kard.toI, c.ok = true := by
  have h1 := cards_sum (by omega) h
  have h2 : totI (ks.map Kard.toI) ≤ 65536 := by rw [totI_toI]; omega
  refine ⟨by unfold sourceB; rw [h], (scanB_free _ _ (by simpa using h2)).symm, h2, fun c hc => ?_⟩
  obtain ⟨k, hk, rfl⟩ := List.mem_map.1 hc
  exact cards_ok (by omega) h k hk
set_option maxHeartbeats 4000000 in
set_option maxRecDepth 100000 in
theorem l3scan (text : ByteArray) (ht : text.size ≤ 9223372036854775807) (w : World) (hx : MaxLenAt w) (hg : SignsAt w) :
    Calls Tryz.prog 3 #[.string text] w fun e w' => e = .returned (.bool true) ∧ Below w.heap.size w w' := by
  have hml : 1 < w.heap.size := by obtain ⟨m, hm⟩ := hx; exact lt_of_cellR hm
  have HML := Lib.hid hml
  have HLIVE : Hid (∀ w1, Below w.heap.size w w1 → Calls Tryz.prog 7 #[] w1 fun e w' => e = .returned (.bool true) ∧ Below w.heap.size w w') := fun w1 hb =>
    (l3lives w1 (hx.bel hml hb) (hg.below hg.lt hb)).mono fun e w' h => ⟨h.1, hb.trans (h.2.mono hb.size)⟩
  have HX := Lib.hid hx
  have HG := Lib.hid hg
  clear hx hg hml
  by_cases hbig : (2000 : Int) < text.size
  · go_enter Tryz.func3, Tryz.ntmps3
    go_wp2_with (go_at_call 7; refine (HLIVE.out _ (Below.refl _ _)).mono ?_; rintro e w1 ⟨rfl, hb⟩)
    go_ret
    exact ⟨rfl, hb⟩
  have hT : text.size ≤ 2000 := by omega
  have HTS := Lib.hid (size_data text)
  clear hbig ht
  have HREAD := Lib.hid (c_Read text false w HX.out)
  have HSRC : Hid (∀ W, Below w.heap.size w W → Calls Tryz.prog 9 #[.string text, .bool false] W (ScanAll (sourceB text.data.toList false) W)) := fun W hW => c_Source text false W (HX.out.bel HML.out hW) (HG.out.below HG.out.lt hW)
  cases hres : readBU true text.data.toList false with
  | inl f =>
    obtain ⟨f1, f2, f3⟩ := f
    have hs : sourceB text.data.toList false = .inl (f1, f2, f3) := by unfold sourceB; rw [hres]
    rw [hs] at HSRC
    go_enter Tryz.func3, Tryz.ntmps3
    go_upto_region 4 with (go_at_call 8; refine HREAD.out.mono ?_; rintro e w5 hp; unfold ReadPost at hp; rw [hres] at hp; unfold faultN at hp; obtain ⟨hb5, rfl, hf0⟩ := hp)
    have e0 : ((f1 : Int) == 0) = false := by rw [beq_eq_false_iff_ne]; have : f1 ≠ 0 := hf0; omega
    have HB6 := Lib.hid (up2 hb5 (fb_bel w5 f1 f2 f3))
    have HF6 := Lib.hid (fb_new w5 f1 f2 f3)
    obtain ⟨F, hF⟩ : ∃ F, F = w5.heap.size := ⟨_, rfl⟩
    rw [← hF] at HF6 ⊢
    clear hF hb5 HREAD hres hs
    generalize w5.alloc (.cells #[.int .i64 f1, .int .i64 f2, .int .i64 f3] 28) = w6 at *
    go_upto_region 5 with (go_at_call 9; refine (HSRC.out _ HB6.out).mono ?_; rintro e w7 ⟨hb7, rfl, hg0⟩)
    have HB8 := Lib.hid (up2 (up2 HB6.out hb7) (fb_bel w7 f1 f2 f3))
    have HF8 := Lib.hid ((HF6.out.below hb7).below (fb_bel w7 f1 f2 f3))
    have HG8 := Lib.hid (fb_new w7 f1 f2 f3)
    obtain ⟨G, hG⟩ : ∃ F, F = w7.heap.size := ⟨_, rfl⟩
    rw [← hG] at HG8 ⊢
    clear hG hb7 HSRC HB6 HF6
    generalize w7.alloc (.cells #[.int .i64 f1, .int .i64 f2, .int .i64 f3] 28) = w8 at *
    obtain ⟨k0, k1, k2⟩ := HF8.out.cells
    obtain ⟨j0, j1, j2⟩ := HG8.out.cells
    go_wp2_with (go_at_call 7; refine (HLIVE.out _ HB8.out).mono ?_; rintro e w9 ⟨rfl, hb⟩)
    go_ret
    exact ⟨rfl, hb⟩
  | inr ks =>
    obtain ⟨s1, s2, s3, s4⟩ := scan_ref (by rw [← size_data]; omega) hres
    have hbn := readBU_bnd true false _ ks hres
    obtain ⟨L, hL⟩ : ∃ L, L = ks.map Kard.toI := ⟨_, rfl⟩
    rw [← hL] at s1 s2 s3 s4
    obtain ⟨r, hr⟩ : ∃ r, r = scanB true L [] := ⟨_, rfl⟩
    rw [← hr] at s1 s2
    rw [s1] at HSRC
    have HR1 := Lib.hid s2
    have HR2 := Lib.hid hr
    have HTOT := Lib.hid s3
    have HOK := Lib.hid s4
    clear s1 s2 s3 s4 hr
    go_enter Tryz.func3, Tryz.ntmps3
    go_upto_region 4 with (go_at_call 8; refine HREAD.out.mono ?_; rintro e w5 hp; unfold ReadPost at hp; rw [hres] at hp; unfold zeroF at hp; obtain ⟨hb5, v, rfl, hka, _⟩ := hp; have hvs : ∃ a n c, v = .slice a n c := (by rcases hka with ⟨e, _⟩ | ⟨b, o, cap, e, _⟩ <;> exact ⟨_, _, _, e⟩))
    have hci := cardsIn_of hka (fun c hc => by have := hbn.2.2 c hc; rw [← size_data] at this; omega)
    rw [← hL] at hci
    have HB6 := Lib.hid (up2 hb5 (fb_bel w5 0 0 0))
    have HF6 := Lib.hid (fb_new w5 0 0 0)
    have HC6 := Lib.hid (hci.lift (fb_bel w5 0 0 0))
    obtain ⟨F, hF⟩ : ∃ F, F = w5.heap.size := ⟨_, rfl⟩
    rw [← hF] at HF6 ⊢
    clear hF hb5 HREAD hres hka hci hbn hL
    obtain ⟨va, vn, vcap, rfl⟩ := hvs
    generalize w5.alloc (.cells #[.int .i64 0, .int .i64 0, .int .i64 0] 28) = w6 at *
    have HREF : Hid (∀ W, Below w6.heap.size w6 W → Calls Tryz.prog 10 #[.slice va vn vcap] W (ScanRef r W)) := fun W hW => by
      have := r3scan (.slice va vn vcap) L W (HC6.out.lift hW) HOK.out HTOT.out
      rw [HR1.out] at this
      exact this
    have HSCN : Hid (∀ W, Below w6.heap.size w6 W → Calls Tryz.prog 11 #[.slice va vn vcap] W (ScanAll r W)) := fun W hW => by
      have hw := up2 HB6.out hW
      have := c_Scan (.slice va vn vcap) L W (HC6.out.lift hW) (HX.out.bel HML.out hw) (HG.out.below HG.out.lt hw)
      rw [← HR2.out] at this
      exact this
    have HEQ : Hid (∀ (u v : Value) (T : List Tok) (W : World), ToksAt W u T → ToksAt W v T → Calls Tryz.prog 12 #[u, v] W fun e w' => e = .returned (.int .i64 0) ∧ Below W.heap.size W w') := fun u v T W h1 h2 => l3equal u v T T 0 (by simp) W h1 h2
    have hbb : Below w6.heap.size w6 w6 := Below.refl _ _
    have HB66 := Lib.hid hbb
    clear hbb HC6 HOK HTOT HR1 HR2
    cases r with
    | inl f =>
      obtain ⟨f1, f2, f3⟩ := f
      go_upto_region 5 with (go_at_call 9; refine (HSRC.out _ HB6.out).mono ?_; rintro e w7 ⟨hb7, rfl, hg0⟩)
      have HB8 := Lib.hid (up2 (up2 HB6.out hb7) (fb_bel w7 f1 f2 f3))
      have HV8 := Lib.hid (up2 hb7 (fb_bel w7 f1 f2 f3))
      have HF8 := Lib.hid ((HF6.out.below hb7).below (fb_bel w7 f1 f2 f3))
      have HG8 := Lib.hid (fb_new w7 f1 f2 f3)
      obtain ⟨G, hG⟩ : ∃ F, F = w7.heap.size := ⟨_, rfl⟩
      rw [← hG] at HG8 ⊢
      clear hG hb7 HSRC HB6 HF6 HB66
      generalize w7.alloc (.cells #[.int .i64 f1, .int .i64 f2, .int .i64 f3] 28) = w8 at *
      obtain ⟨k0, k1, k2⟩ := HF8.out.cells
      go_upto_region 7 with fail
      clear k0 k1 k2 HF8
      go_upto_region 8 with (go_at_call 10; refine (HREF.out _ HV8.out).mono ?_; rintro e w9 ⟨hb9, rfl, hh0⟩)
      have HB10 := Lib.hid (up2 (up2 HB8.out hb9) (fb_bel w9 f1 f2 f3))
      have HV10 := Lib.hid (up2 (up2 HV8.out hb9) (fb_bel w9 f1 f2 f3))
      have HG10 := Lib.hid ((HG8.out.below hb9).below (fb_bel w9 f1 f2 f3))
      have HH10 := Lib.hid (fb_new w9 f1 f2 f3)
      obtain ⟨H, hH⟩ : ∃ F, F = w9.heap.size := ⟨_, rfl⟩
      rw [← hH] at HH10 ⊢
      clear hH hb9 HREF HB8 HV8 HG8
      generalize w9.alloc (.cells #[.int .i64 f1, .int .i64 f2, .int .i64 f3] 28) = w10 at *
      go_upto_region 9 with (go_at_call 11; refine (HSCN.out _ HV10.out).mono ?_; rintro e w11 ⟨hb11, rfl, hi0⟩)
      have HB12 := Lib.hid (up2 (up2 HB10.out hb11) (fb_bel w11 f1 f2 f3))
      have HG12 := Lib.hid ((HG10.out.below hb11).below (fb_bel w11 f1 f2 f3))
      have HH12 := Lib.hid ((HH10.out.below hb11).below (fb_bel w11 f1 f2 f3))
      have HI12 := Lib.hid (fb_new w11 f1 f2 f3)
      obtain ⟨I, hI⟩ : ∃ F, F = w11.heap.size := ⟨_, rfl⟩
      rw [← hI] at HI12 ⊢
      clear hI hb11 HSCN HB10 HV10 HG10 HH10
      generalize w11.alloc (.cells #[.int .i64 f1, .int .i64 f2, .int .i64 f3] 28) = w12 at *
      have HN : Hid (∀ W : World, ToksAt W (.slice none 0 0) []) := fun W => ⟨none, 0, rfl, Nat.le_refl _, by simp, fun h => absurd h (by simp)⟩
      go_wp2_with fail
      refine (HEQ.out _ _ [] _ (HN.out _) (HN.out _)).mono ?_
      rintro e w13 ⟨rfl, hb13⟩
      go_wp2_with fail
      refine (HEQ.out _ _ [] _ (HN.out _) (HN.out _)).mono ?_
      rintro e w14 ⟨rfl, hb14⟩
      have HB14 := Lib.hid (up2 (up2 HB12.out hb13) hb14)
      obtain ⟨g0, g1, g2⟩ := ((HG12.out.below hb13).below hb14).cells
      obtain ⟨h0, h1, h2⟩ := ((HH12.out.below hb13).below hb14).cells
      obtain ⟨i0, i1, i2⟩ := ((HI12.out.below hb13).below hb14).cells
      clear hb13 hb14 HEQ HB12 HG12 HH12 HI12
      go_wp2_with (go_at_call 7; refine (HLIVE.out _ HB14.out).mono ?_; rintro e w15 ⟨rfl, hb⟩)
      go_ret
      exact ⟨rfl, hb⟩
    | inr T =>
      go_upto_region 5 with (go_at_call 9; refine (HSRC.out _ HB6.out).mono ?_; rintro e w7 ⟨hb7, v7, rfl, ho7⟩)
      have HB8 := Lib.hid (up2 (up2 HB6.out hb7) (fb_bel w7 0 0 0))
      have HV8 := Lib.hid (up2 hb7 (fb_bel w7 0 0 0))
      have HF8 := Lib.hid ((HF6.out.below hb7).below (fb_bel w7 0 0 0))
      have HG8 := Lib.hid (fb_new w7 0 0 0)
      have hT8 := ho7.below (fb_bel w7 0 0 0)
      obtain ⟨a7, rfl, ht7, _⟩ := hT8
      have HT8 := Lib.hid ht7
      clear ht7 ho7
      obtain ⟨G, hG⟩ : ∃ F, F = w7.heap.size := ⟨_, rfl⟩
      rw [← hG] at HG8 ⊢
      clear hG hb7 HSRC HB6 HF6 HB66
      generalize w7.alloc (.cells #[.int .i64 0, .int .i64 0, .int .i64 0] 28) = w8 at *
      obtain ⟨k0, k1, k2⟩ := HF8.out.cells
      go_upto_region 7 with fail
      clear k0 k1 k2 HF8
      go_upto_region 8 with (go_at_call 10; refine (HREF.out _ HV8.out).mono ?_; rintro e w9 ⟨hb9, v9, rfl, ho9, hl9⟩)
      have HB10 := Lib.hid (up2 (up2 HB8.out hb9) (fb_bel w9 0 0 0))
      have HV10 := Lib.hid (up2 (up2 HV8.out hb9) (fb_bel w9 0 0 0))
      have HG10 := Lib.hid ((HG8.out.below hb9).below (fb_bel w9 0 0 0))
      have HH10 := Lib.hid (fb_new w9 0 0 0)
      have HT10 := Lib.hid ((HT8.out.below hb9).below (fb_bel w9 0 0 0))
      have HU10 := Lib.hid (ho9.below (fb_bel w9 0 0 0))
      have hv9 : ∃ a n c, v9 = .slice a n c := by obtain ⟨a, c, e, _⟩ := ho9; exact ⟨a, _, c, e⟩
      obtain ⟨a9, n9, c9, rfl⟩ := hv9
      clear HT8 ho9 hl9
      obtain ⟨H, hH⟩ : ∃ F, F = w9.heap.size := ⟨_, rfl⟩
      rw [← hH] at HH10 ⊢
      clear hH hb9 HREF HB8 HV8 HG8
      generalize w9.alloc (.cells #[.int .i64 0, .int .i64 0, .int .i64 0] 28) = w10 at *
      go_upto_region 9 with (go_at_call 11; refine (HSCN.out _ HV10.out).mono ?_; rintro e w11 ⟨hb11, v11, rfl, ho11⟩)
      have HB12 := Lib.hid (up2 (up2 HB10.out hb11) (fb_bel w11 0 0 0))
      have HG12 := Lib.hid ((HG10.out.below hb11).below (fb_bel w11 0 0 0))
      have HH12 := Lib.hid ((HH10.out.below hb11).below (fb_bel w11 0 0 0))
      have HI12 := Lib.hid (fb_new w11 0 0 0)
      have HT12 := Lib.hid ((HT10.out.below hb11).below (fb_bel w11 0 0 0))
      have HU12 := Lib.hid ((HU10.out.below hb11).below (fb_bel w11 0 0 0))
      have hV12 := ho11.below (fb_bel w11 0 0 0)
      obtain ⟨a11, rfl, ht11, _⟩ := hV12
      have HV12 := Lib.hid ht11
      clear HT10 HU10 ht11 ho11
      obtain ⟨I, hI⟩ : ∃ F, F = w11.heap.size := ⟨_, rfl⟩
      rw [← hI] at HI12 ⊢
      clear hI hb11 HSCN HB10 HV10 HG10 HH10
      generalize w11.alloc (.cells #[.int .i64 0, .int .i64 0, .int .i64 0] 28) = w12 at *
      go_wp2_with fail
      refine (HEQ.out _ _ T _ HT12.out HU12.out).mono ?_
      rintro e w13 ⟨rfl, hb13⟩
      go_wp2_with fail
      refine (HEQ.out _ _ T _ (HV12.out.below hb13) (HU12.out.below hb13)).mono ?_
      rintro e w14 ⟨rfl, hb14⟩
      have HB14 := Lib.hid (up2 (up2 HB12.out hb13) hb14)
      obtain ⟨g0, g1, g2⟩ := ((HG12.out.below hb13).below hb14).cells
      obtain ⟨h0, h1, h2⟩ := ((HH12.out.below hb13).below hb14).cells
      obtain ⟨i0, i1, i2⟩ := ((HI12.out.below hb13).below hb14).cells
      clear hb13 hb14 HEQ HB12 HG12 HH12 HI12
      go_wp2_with (go_at_call 7; refine (HLIVE.out _ HB14.out).mono ?_; rintro e w15 ⟨rfl, hb⟩)
      go_ret
      exact ⟨rfl, hb⟩
end Go.Proofs.YtpalfhfbgfnacaaGreatDoor
