/-
  The law TokensBack (columnsevenlaw03), walked.
-/
import Derived.Test.YtpalfhfbgfnacaaGreatDoorGL
import Derived.Test.YtpalfhfbgfnacaaGreatDoorLLines
import Derived.Test.YtpalfhfbgfnacaaGreatDoorTxt
import Derived.Test.YtpalfhfbgfnacaaGreatDoorOf
namespace Go.Proofs.YtpalfhfbgfnacaaGreatDoor
open Go.RowKit
set_option linter.unusedVariables false
set_option linter.unusedSimpArgs false
attribute [local go_sem] eqFault guardFault neqFault eqlFault

theorem dblQ_ge : ∀ l : List UInt8, l.length ≤ (dblQ l).length
  | [] => by simp [dblQ]
  | c :: l => by
    have := dblQ_ge l
    rw [dblQ]
    split <;> simp <;> omega
theorem read_txt {e x sep : Bool} {r : List UInt8} {k n : Nat} {y : List UInt8} (h : readT e x sep r = .got k y n) : y.length ≤ n := by
  unfold readT at h
  split at h
  · unfold picT at h
    split at h
    · cases h
    · injection h with h1 h2 h3
      subst h2
      rw [foldB_len]; omega
  split at h
  · unfold litT at h
    split at h
    · cases h
    · rename_i t' n' hl
      split at h
      · cases h
      · injection h with h1 h2 h3
        subst h2
        have := litE_len _ _ _ hl
        have := dblQ_ge t'
        omega
  split at h
  · injection h with h1 h2 h3
    subst h2; rw [← h3]; decide
  split at h
  · injection h with h1 h2 h3
    subst h2; rw [← h3]; decide
  split at h
  · unfold numT at h
    split at h
    · cases h
    split at h
    · cases h
    · injection h with h1 h2 h3
      subst h2
      rw [List.length_take]; omega
  split at h
  · unfold wordT at h
    split at h
    · injection h with h1 h2 h3
      subst h2
      rw [foldB_len]; omega
    split at h <;> cases h
  · obtain ⟨rfl, _, rfl, _⟩ := signT_got h
    exact Nat.le_refl _
theorem textT_mem : ∀ (T : List Tok) (t : Tok), t ∈ T → (fmtT t.kind t.text).length ≤ (textT T).length
  | [t], u, h => by
    rw [List.mem_singleton] at h
    subst h; rw [textT_one]; exact Nat.le_refl _
  | t :: v :: T, u, h => by
    rw [textT_more, List.length_append, List.length_cons]
    rcases List.mem_cons.1 h with rfl | h
    · omega
    · have := textT_mem (v :: T) u h; omega
theorem backOK_mem : ∀ (T acc : List Tok), BackOK acc T → ∀ t ∈ T, t.text.length ≤ (fmtT t.kind t.text).length
  | [], _, _, t, ht => by cases ht
  | u :: T, acc, h, t, ht => by
    rcases List.mem_cons.1 ht with rfl | ht
    · exact read_txt h.1.read
    · exact backOK_mem T _ h.2 t ht
theorem Bk.txt {T : List Tok} (h : Bk T) : ∀ t ∈ T, t.text.length ≤ 134217729 := fun t ht => by
  have h1 := backOK_mem T [] h.ok t ht
  have h2 := textT_mem T t ht
  have := h.len
  omega
/-- The source text of tokens. -/
def laidS (left : Bool) (T : List Tok) : ByteArray := strL (layAll [(left, textT T)] ([], 0)).1
set_option maxHeartbeats 4000000 in
set_option maxRecDepth 100000 in
theorem c_Laid (v : Value) (left : Bool) (T : List Tok) (hb : Bk T) (w : World) (h : ToksAt w v T) (hx : MaxLenAt w) (htab : Lib.TabIs Tryz.prog w "internal/strconv.uint64pow10" .u64 Lib.pow10Tab) :
    Calls Tryz.prog 14 #[v, .bool left] w fun e w' => e = .returned (.string (laidS left T)) ∧ Below w.heap.size w w' := by
  have HTXT := Lib.hid (c_textT v T w h (by have := hb.cnt; omega) hb.txt hx)
  obtain ⟨S, hS⟩ : ∃ S, S = strL (textT T) := ⟨_, rfl⟩
  have hSl : S.data.toList = textT T := by rw [hS]; rfl
  rw [← hS] at HTXT
  have HTB := Lib.hid (Lib.tabBelow_of_tabIs htab)
  have HWR : Hid (∀ W b, Below w.heap.size w W → W.heap[b]? = some (.cells #[.bool left, .string S] 49 (0, 0)) → Calls Tryz.prog 16 #[.slice (some ⟨b, 0, none⟩) 1 1] W fun e w' => e = .returned (.tuple #[.string (laidS left T), .int .i64 0]) ∧ Below W.heap.size W w') := fun W b hW hblk => by
    have hlen := hb.len
    have hr := hb.right
    have := c_writeS b 1 [(left, S.data.toList)] W (w1_lines hblk) (HTB.out _ hW) (fun x hx => by simp at hx; subst hx; show S.data.toList.length ≤ 32768; rw [hSl]; omega) (by simp)
      (by show (S.data.toList.length / 2 + 1) * 80 + 0 ≤ _; rw [hSl]; omega) (by show S.data.toList.length + 1 + 0 ≤ _; rw [hSl]; omega)
    refine this.mono ?_
    rintro e w' ⟨rfl, hb2⟩
    refine ⟨?_, hb2⟩
    unfold writeV
    rw [hSl, if_pos (by simp [hr])]
    rfl
  obtain ⟨R, hR⟩ : ∃ R, R = laidS left T := ⟨_, rfl⟩
  rw [← hR] at HWR ⊢
  obtain ⟨a, cap, rfl, _⟩ := h
  clear hx htab hS hSl hR hb
  go_enter Tryz.func14, Tryz.ntmps14
  go_wp2_with (first
    | (go_at_call 35; refine HTXT.out.mono ?_; rintro e w1 ⟨rfl, hb1⟩; have HB1 := Lib.hid hb1; clear hb1)
    | (go_at_call 16; refine (HWR.out _ _ (HB1.out.alloc HB1.out.size _) (heap_alloc_new _ _)).mono ?_; rintro e w2 ⟨rfl, hb2⟩; have HB2 := Lib.hid ((HB1.out.alloc HB1.out.size _).trans (hb2.mono (by have := HB1.out.size; simp; omega))); clear hb2))
  go_ret
  exact ⟨rfl, HB2.out⟩
set_option maxHeartbeats 8000000 in
set_option maxRecDepth 100000 in
theorem l3back (v : Value) (S : List (Nat × Nat)) (text : ByteArray) (left : Bool) (ht : text.size ≤ 9223372036854775807) (w : World) (hps : PsIn w.heap.size w v S) (hx : MaxLenAt w) (hg : SignsAt w) (htab : Lib.TabIs Tryz.prog w "internal/strconv.uint64pow10" .u64 Lib.pow10Tab) :
    Calls Tryz.prog 4 #[v, .string text, .bool left] w fun e w' => e = .returned (.bool true) ∧ Below w.heap.size w w' := by
  have hml : 1 < w.heap.size := by obtain ⟨m, hm⟩ := hx; exact lt_of_cellR hm
  have HML := Lib.hid hml
  have HLIVE : Hid (∀ w1, Below w.heap.size w w1 → Calls Tryz.prog 7 #[] w1 fun e w' => e = .returned (.bool true) ∧ Below w.heap.size w w') := fun w1 hb =>
    (l3lives w1 (hx.bel hml hb) (hg.below hg.lt hb)).mono fun e w' h => ⟨h.1, hb.trans (h.2.mono hb.size)⟩
  have HX := Lib.hid hx
  have HG := Lib.hid hg
  have HTAB := Lib.hid (Lib.tabBelow_of_tabIs htab)
  have HOF := Lib.hid (c_Of v S w hps)
  obtain ⟨sa, scap, rfl, hSl, _⟩ := hps
  clear hx hg htab hml
  by_cases hbig : (2000 : Int) < text.size
  · go_enter Tryz.func4, Tryz.ntmps4
    go_wp2_with (go_at_call 7; refine (HLIVE.out _ (Below.refl _ _)).mono ?_; rintro e w1 ⟨rfl, hb⟩)
    go_ret
    exact ⟨rfl, hb⟩
  have hT : text.size ≤ 2000 := by omega
  have HTS := Lib.hid (size_data text)
  clear hbig ht
  have HSRC : Hid (∀ s W, Below w.heap.size w W → Calls Tryz.prog 9 #[.string s, .bool false] W (ScanAll (sourceB s.data.toList false) W)) := fun s W hW => c_Source s false W (HX.out.bel HML.out hW) (HG.out.below HG.out.lt hW)
  have HLAID : Hid (∀ v T W, Bk T → Below w.heap.size w W → ToksAt W v T → Calls Tryz.prog 14 #[v, .bool left] W fun e w' => e = .returned (.string (laidS left T)) ∧ Below W.heap.size W w') := fun v T W hb hW hv => c_Laid v left T hb W hv (HX.out.bel HML.out hW) (HTAB.out _ hW)
  go_enter Tryz.func4, Tryz.ntmps4
  go_upto_region 4 with (go_at_call 13; refine HOF.out.mono ?_; rintro e w1 ⟨hb1, ov, rfl, ho1⟩)
  have HB1 := Lib.hid hb1
  obtain ⟨oa, ocap, rfl, hoc, hol, _⟩ := id ho1
  obtain ⟨m, hm⟩ : ∃ m, m = (OfT S).length := ⟨_, rfl⟩
  rw [← hm] at hoc hol
  have HM := Lib.hid hm
  rw [← hm] at ho1 ⊢
  have HO1 := Lib.hid ho1
  clear hb1 ho1 HOF hm
  by_cases h0 : OfT S = []
  · have hm0 : m ≤ 0 := by rw [HM.out, h0]; exact Nat.le_refl _
    clear h0
    clear HM HO1
    cases hr : sourceB text.data.toList false with
    | inl f =>
      obtain ⟨g1, g2, g3⟩ := f
      have HS3 := Lib.hid (HSRC.out text w1 HB1.out)
      rw [hr] at HS3
      clear hr
      go_upto_region 9 with (go_at_call 9; refine HS3.out.mono ?_; rintro e w6 ⟨hb6, rfl, hg0⟩)
      have HB6 : Hid (Below w.heap.size w w6) := HB1.out.trans (hb6.mono HB1.out.size)
      have HG7 : Hid ((w6.alloc (.cells #[.int .i64 g1, .int .i64 g2, .int .i64 g3] 28)).heap[w6.heap.size]? = some (.cells #[.int .i64 g1, .int .i64 g2, .int .i64 g3] 28 (0, 0))) := heap_alloc_new w6 _
      have HB7 : Hid (Below w.heap.size w (w6.alloc (.cells #[.int .i64 g1, .int .i64 g2, .int .i64 g3] 28))) := HB6.out.alloc HB6.out.size _
      obtain ⟨E, hE⟩ : ∃ E, E = w6.heap.size := ⟨_, rfl⟩
      rw [← hE] at HG7 ⊢
      clear hE hb6 HB6 HS3
      generalize w6.alloc (.cells #[.int .i64 g1, .int .i64 g2, .int .i64 g3] 28) = w7 at *
      obtain ⟨e0, e1, e2⟩ := fcells HG7.out
      have q0 : ((g1 : Int) != 0) = true := by have h0 : g1 ≠ 0 := hg0; simp; omega
      clear hg0
      go_wp2_with (go_at_call 7; refine (HLIVE.out _ HB7.out).mono ?_; rintro e w8 ⟨rfl, hb⟩)
      all_goals
        go_ret
        exact ⟨rfl, hb⟩
    | inr T =>
      have HS3 := Lib.hid (HSRC.out text w1 HB1.out)
      rw [hr] at HS3
      have HTR := Lib.hid hr
      clear hr
      go_upto_region 9 with (go_at_call 9; refine HS3.out.mono ?_; rintro e w6 ⟨hb6, v6, rfl, ho6⟩)
      have HB6 : Hid (Below w.heap.size w w6) := HB1.out.trans (hb6.mono HB1.out.size)
      have HG7 : Hid ((w6.alloc (.cells #[.int .i64 0, .int .i64 0, .int .i64 0] 28)).heap[w6.heap.size]? = some (.cells #[.int .i64 0, .int .i64 0, .int .i64 0] 28 (0, 0))) := heap_alloc_new w6 _
      have hb7 : Below w6.heap.size w6 (w6.alloc (.cells #[.int .i64 0, .int .i64 0, .int .i64 0] 28)) := (Below.refl _ _).alloc (Nat.le_refl _) _
      have HB7 : Hid (Below w.heap.size w (w6.alloc (.cells #[.int .i64 0, .int .i64 0, .int .i64 0] 28))) := HB6.out.alloc HB6.out.size _
      have hO7 := ho6.below hb7
      obtain ⟨a6, hv6, hta6, _⟩ := id hO7
      obtain ⟨m6, hm6⟩ : ∃ x, x = T.length := ⟨_, rfl⟩
      have HM6 := Lib.hid hm6
      rw [← hm6] at hv6
      subst hv6
      have HO7 := Lib.hid hta6
      obtain ⟨E, hE⟩ : ∃ E, E = w6.heap.size := ⟨_, rfl⟩
      rw [← hE] at HG7 ⊢
      clear hE hb6 hb7 HB6 HS3 ho6 hO7 hta6 hm6
      generalize w6.alloc (.cells #[.int .i64 0, .int .i64 0, .int .i64 0] 28) = w7 at *
      obtain ⟨e0, e1, e2⟩ := fcells HG7.out
      by_cases h0 : T = []
      · obtain rfl : m6 = 0 := by rw [HM6.out, h0]; rfl
        clear h0
        go_wp2_with (go_at_call 7; refine (HLIVE.out _ HB7.out).mono ?_; rintro e w8 ⟨rfl, hb⟩)
        go_ret
        exact ⟨rfl, hb⟩
      · have hm1 : 0 < m6 := by rw [HM6.out]; exact List.length_pos_iff.2 h0
        have hml : m6 ≤ 134217728 := by rw [HM6.out]; obtain ⟨_, _, _, _, h, _⟩ := HO7.out; exact h
        have HBK : Hid (Bk T) := bk_source (by rw [← HTS.out]; exact hT) HTR.out h0
        clear h0
        obtain ⟨R, hR, hSm⟩ := HBK.out.again left
        have hRl : R.length = m6 := by rw [HM6.out]; exact hSm.len.symm
        have HSM : Hid (sameT R T = true) := SamT.same (show SamT R T from (show T.map kt = R.map kt from hSm).symm)
        have HLA : Hid (Calls Tryz.prog 14 #[.slice a6 m6 m6, .bool left] w7 fun e w' => e = .returned (.string (laidS left T)) ∧ Below w7.heap.size w7 w') := HLAID.out _ _ _ HBK.out HB7.out HO7.out
        have HS2 : Hid (∀ W, Below w.heap.size w W → Calls Tryz.prog 9 #[.string (laidS left T), .bool false] W (ScanAll (.inr R) W)) := fun W hW => by
          have h1 := HSRC.out (laidS left T) W hW
          rw [show sourceB (laidS left T).data.toList false = .inr R from hR] at h1
          exact h1
        obtain ⟨LS, hLS⟩ : ∃ x, x = laidS left T := ⟨_, rfl⟩
        rw [← hLS] at HLA HS2
        have HRL := Lib.hid hRl
        clear hR hSm hRl hLS HBK
        go_upto_region 12 with (first
          | (go_at_call 14; refine HLA.out.mono ?_; rintro e w8 ⟨rfl, hb8⟩; have HB8 := Lib.hid (HB7.out.trans (hb8.mono HB7.out.size)); have HO8 := Lib.hid (HO7.out.below hb8); clear hb8)
          | (go_at_call 9; refine (HS2.out _ HB8.out).mono ?_; rintro e w9 ⟨hb9, v9, rfl, ho9⟩; have HB9 := Lib.hid (HB8.out.trans (hb9.mono HB8.out.size)); have HO9 := Lib.hid (HO8.out.below hb9); have HV9 := Lib.hid ho9; clear hb9 ho9))
        have hb10 : Below w9.heap.size w9 (w9.alloc (.cells #[.int .i64 0, .int .i64 0, .int .i64 0] 28)) := (Below.refl _ _).alloc (Nat.le_refl _) _
        have HF10 : Hid ((w9.alloc (.cells #[.int .i64 0, .int .i64 0, .int .i64 0] 28)).heap[w9.heap.size]? = some (.cells #[.int .i64 0, .int .i64 0, .int .i64 0] 28 (0, 0))) := heap_alloc_new w9 _
        have HB10 := Lib.hid (HB9.out.trans (hb10.mono HB9.out.size))
        have hO10 := HO9.out.below hb10
        have HV10 := Lib.hid (HV9.out.below hb10)
        obtain ⟨D, hD⟩ : ∃ D, D = w9.heap.size := ⟨_, rfl⟩
        rw [← hD] at HF10 ⊢
        have HSAME : Hid (Calls Tryz.prog 15 #[v9, .slice a6 m6 m6] (w9.alloc (.cells #[.int .i64 0, .int .i64 0, .int .i64 0] 28)) fun e w' => e = .returned (.bool true) ∧ Below (w9.alloc (.cells #[.int .i64 0, .int .i64 0, .int .i64 0] 28)).heap.size (w9.alloc (.cells #[.int .i64 0, .int .i64 0, .int .i64 0] 28)) w') := by
          obtain ⟨_, _, h8, _⟩ := HV10.out
          have := c_same v9 _ R T _ h8 hO10
          rw [HSM.out] at this
          exact this
        obtain ⟨a9, hv9, _, _⟩ := HV10.out
        rw [HRL.out] at hv9
        subst hv9
        clear hD hb10 hO10 HV10 HV9 HO9 HO8 HB9 HB8 HLA HS2 HSM
        generalize w9.alloc (.cells #[.int .i64 0, .int .i64 0, .int .i64 0] 28) = w10 at *
        obtain ⟨d0, d1, d2⟩ := fcells HF10.out
        go_wp2_with (first
          | (go_at_call 15; refine HSAME.out.mono ?_; rintro e w11 ⟨rfl, hb11⟩; have HB11 := Lib.hid (HB10.out.trans (hb11.mono HB10.out.size)); clear hb11)
          | (go_at_call 7; refine (HLIVE.out _ HB11.out).mono ?_; rintro e w12 ⟨rfl, hb⟩))
        go_ret
        exact ⟨rfl, hb⟩
  · have hm1 : 0 < m := by rw [HM.out]; exact List.length_pos_iff.2 h0
    have HBK : Hid (Bk (OfT S)) := bk_of h0
    clear h0
    obtain ⟨R, hR, hSm⟩ := HBK.out.again left
    obtain ⟨t0, ht0, htl⟩ := HBK.out.first left hR
    have hRl : R.length = m := by rw [HM.out]; exact hSm.len.symm
    have HSM : Hid (sameT R (OfT S) = true) := SamT.same (show SamT R (OfT S) from (show (OfT S).map kt = R.map kt from hSm).symm)
    have HLA : Hid (Calls Tryz.prog 14 #[.slice oa m ocap, .bool left] w1 fun e w' => e = .returned (.string (laidS left (OfT S))) ∧ Below w1.heap.size w1 w') := HLAID.out _ _ _ HBK.out HB1.out HO1.out
    have HS2 : Hid (∀ W, Below w.heap.size w W → Calls Tryz.prog 9 #[.string (laidS left (OfT S)), .bool false] W (ScanAll (.inr R) W)) := fun W hW => by
      have h1 := HSRC.out (laidS left (OfT S)) W hW
      rw [show sourceB (laidS left (OfT S)).data.toList false = .inr R from hR] at h1
      exact h1
    obtain ⟨LS, hLS⟩ : ∃ x, x = laidS left (OfT S) := ⟨_, rfl⟩
    rw [← hLS] at HLA HS2
    have HT0 := Lib.hid ht0
    have HTL := Lib.hid htl
    have HRL := Lib.hid hRl
    clear hR hSm ht0 htl hRl hLS HBK
    go_upto_region 6 with (first
      | (go_at_call 14; refine HLA.out.mono ?_; rintro e w2 ⟨rfl, hb2⟩; have HB2 := Lib.hid (HB1.out.trans (hb2.mono HB1.out.size)); have HO2 := Lib.hid (HO1.out.below hb2); clear hb2)
      | (go_at_call 9; refine (HS2.out _ HB2.out).mono ?_; rintro e w3 ⟨hb3, v3, rfl, ho3⟩; have HB3 := Lib.hid (HB2.out.trans (hb3.mono HB2.out.size)); have HO3 := Lib.hid (HO2.out.below hb3); have HV3 := Lib.hid ho3; clear hb3 ho3))
    have hb4 : Below w3.heap.size w3 (w3.alloc (.cells #[.int .i64 0, .int .i64 0, .int .i64 0] 28)) := (Below.refl _ _).alloc (Nat.le_refl _) _
    have HF4 : Hid ((w3.alloc (.cells #[.int .i64 0, .int .i64 0, .int .i64 0] 28)).heap[w3.heap.size]? = some (.cells #[.int .i64 0, .int .i64 0, .int .i64 0] 28 (0, 0))) := heap_alloc_new w3 _
    have HB4 := Lib.hid (HB3.out.trans (hb4.mono HB3.out.size))
    have hO4 := HO3.out.below hb4
    have HV4 := Lib.hid (HV3.out.below hb4)
    obtain ⟨D, hD⟩ : ∃ D, D = w3.heap.size := ⟨_, rfl⟩
    rw [← hD] at HF4 ⊢
    have HSAME : Hid (Calls Tryz.prog 15 #[v3, .slice oa m ocap] (w3.alloc (.cells #[.int .i64 0, .int .i64 0, .int .i64 0] 28)) fun e w' => e = .returned (.bool true) ∧ Below (w3.alloc (.cells #[.int .i64 0, .int .i64 0, .int .i64 0] 28)).heap.size (w3.alloc (.cells #[.int .i64 0, .int .i64 0, .int .i64 0] 28)) w') := by
      obtain ⟨_, _, h8, _⟩ := HV4.out
      have := c_same v3 _ R (OfT S) _ h8 hO4
      rw [HSM.out] at this
      exact this
    obtain ⟨a3, hv3, hta, _⟩ := HV4.out
    obtain ⟨a3', cap3, e3, _, _, hcl⟩ := hta
    obtain ⟨b, o, e4, hb, hcells⟩ := hcl (by rw [HRL.out]; exact hm1)
    have hcc := (hcells 0 t0 HT0.out).2.2.2.2.2
    rw [HTL.out] at hcc
    have e5 : a3 = some ⟨b, o, none⟩ := by
      rw [hv3] at e3; injection e3 with e3; rw [e3, e4]
    have HCL : Hid ((w3.alloc (.cells #[.int .i64 0, .int .i64 0, .int .i64 0] 28)).cell? ⟨b, o + 4, none⟩ = some (.bool left)) := by
      show _ = _
      rw [← hcc, Nat.zero_mul, Nat.add_zero]
    have HBS := Lib.hid hb
    subst e5
    rw [HRL.out] at hv3
    subst hv3
    clear hD hb4 hO4 HV4 HV3 HO3 HO2 HB3 HB2 e3 e4 hcl hcells hcc hb HLA HS2 HT0 HTL HSM
    generalize w3.alloc (.cells #[.int .i64 0, .int .i64 0, .int .i64 0] 28) = w4 at *
    obtain ⟨d0, d1, d2⟩ := fcells HF4.out
    go_upto_region 8 with (go_at_call 15; refine HSAME.out.mono ?_; rintro e w5 ⟨rfl, hb5⟩; have HB5 := Lib.hid (HB4.out.trans (hb5.mono HB4.out.size)); have c4 := (hb5.cell (p := ⟨b, o + 4, none⟩) HBS.out).trans HCL.out; clear hb5)
    clear HM HO1 HSAME HCL HBS HF4 HB4 d0 d1 d2 hoc hol HRL
    try clear c4
    cases hr : sourceB text.data.toList false with
    | inl f =>
      obtain ⟨g1, g2, g3⟩ := f
      have HS3 := Lib.hid (HSRC.out text w5 HB5.out)
      rw [hr] at HS3
      clear hr
      go_upto_region 9 with (go_at_call 9; refine HS3.out.mono ?_; rintro e w6 ⟨hb6, rfl, hg0⟩)
      have HB6 : Hid (Below w.heap.size w w6) := HB5.out.trans (hb6.mono HB5.out.size)
      have HG7 : Hid ((w6.alloc (.cells #[.int .i64 g1, .int .i64 g2, .int .i64 g3] 28)).heap[w6.heap.size]? = some (.cells #[.int .i64 g1, .int .i64 g2, .int .i64 g3] 28 (0, 0))) := heap_alloc_new w6 _
      have HB7 : Hid (Below w.heap.size w (w6.alloc (.cells #[.int .i64 g1, .int .i64 g2, .int .i64 g3] 28))) := HB6.out.alloc HB6.out.size _
      obtain ⟨E, hE⟩ : ∃ E, E = w6.heap.size := ⟨_, rfl⟩
      rw [← hE] at HG7 ⊢
      clear hE hb6 HB6 HS3
      generalize w6.alloc (.cells #[.int .i64 g1, .int .i64 g2, .int .i64 g3] 28) = w7 at *
      obtain ⟨e0, e1, e2⟩ := fcells HG7.out
      have q0 : ((g1 : Int) != 0) = true := by have h0 : g1 ≠ 0 := hg0; simp; omega
      clear hg0
      go_wp2_with (go_at_call 7; refine (HLIVE.out _ HB7.out).mono ?_; rintro e w8 ⟨rfl, hb⟩)
      all_goals
        go_ret
        exact ⟨rfl, hb⟩
    | inr T =>
      have HS3 := Lib.hid (HSRC.out text w5 HB5.out)
      rw [hr] at HS3
      have HTR := Lib.hid hr
      clear hr
      go_upto_region 9 with (go_at_call 9; refine HS3.out.mono ?_; rintro e w6 ⟨hb6, v6, rfl, ho6⟩)
      have HB6 : Hid (Below w.heap.size w w6) := HB5.out.trans (hb6.mono HB5.out.size)
      have HG7 : Hid ((w6.alloc (.cells #[.int .i64 0, .int .i64 0, .int .i64 0] 28)).heap[w6.heap.size]? = some (.cells #[.int .i64 0, .int .i64 0, .int .i64 0] 28 (0, 0))) := heap_alloc_new w6 _
      have hb7 : Below w6.heap.size w6 (w6.alloc (.cells #[.int .i64 0, .int .i64 0, .int .i64 0] 28)) := (Below.refl _ _).alloc (Nat.le_refl _) _
      have HB7 : Hid (Below w.heap.size w (w6.alloc (.cells #[.int .i64 0, .int .i64 0, .int .i64 0] 28))) := HB6.out.alloc HB6.out.size _
      have hO7 := ho6.below hb7
      obtain ⟨a6, hv6, hta6, _⟩ := id hO7
      obtain ⟨m6, hm6⟩ : ∃ x, x = T.length := ⟨_, rfl⟩
      have HM6 := Lib.hid hm6
      rw [← hm6] at hv6
      subst hv6
      have HO7 := Lib.hid hta6
      obtain ⟨E, hE⟩ : ∃ E, E = w6.heap.size := ⟨_, rfl⟩
      rw [← hE] at HG7 ⊢
      clear hE hb6 hb7 HB6 HS3 ho6 hO7 hta6 hm6
      generalize w6.alloc (.cells #[.int .i64 0, .int .i64 0, .int .i64 0] 28) = w7 at *
      obtain ⟨e0, e1, e2⟩ := fcells HG7.out
      by_cases h0 : T = []
      · obtain rfl : m6 = 0 := by rw [HM6.out, h0]; rfl
        clear h0
        go_wp2_with (go_at_call 7; refine (HLIVE.out _ HB7.out).mono ?_; rintro e w8 ⟨rfl, hb⟩)
        go_ret
        exact ⟨rfl, hb⟩
      · have hm1 : 0 < m6 := by rw [HM6.out]; exact List.length_pos_iff.2 h0
        have hml : m6 ≤ 134217728 := by rw [HM6.out]; obtain ⟨_, _, _, _, h, _⟩ := HO7.out; exact h
        have HBK : Hid (Bk T) := bk_source (by rw [← HTS.out]; exact hT) HTR.out h0
        clear h0
        obtain ⟨R, hR, hSm⟩ := HBK.out.again left
        have hRl : R.length = m6 := by rw [HM6.out]; exact hSm.len.symm
        have HSM : Hid (sameT R T = true) := SamT.same (show SamT R T from (show T.map kt = R.map kt from hSm).symm)
        have HLA : Hid (Calls Tryz.prog 14 #[.slice a6 m6 m6, .bool left] w7 fun e w' => e = .returned (.string (laidS left T)) ∧ Below w7.heap.size w7 w') := HLAID.out _ _ _ HBK.out HB7.out HO7.out
        have HS2 : Hid (∀ W, Below w.heap.size w W → Calls Tryz.prog 9 #[.string (laidS left T), .bool false] W (ScanAll (.inr R) W)) := fun W hW => by
          have h1 := HSRC.out (laidS left T) W hW
          rw [show sourceB (laidS left T).data.toList false = .inr R from hR] at h1
          exact h1
        obtain ⟨LS, hLS⟩ : ∃ x, x = laidS left T := ⟨_, rfl⟩
        rw [← hLS] at HLA HS2
        have HRL := Lib.hid hRl
        clear hR hSm hRl hLS HBK
        go_upto_region 12 with (first
          | (go_at_call 14; refine HLA.out.mono ?_; rintro e w8 ⟨rfl, hb8⟩; have HB8 := Lib.hid (HB7.out.trans (hb8.mono HB7.out.size)); have HO8 := Lib.hid (HO7.out.below hb8); clear hb8)
          | (go_at_call 9; refine (HS2.out _ HB8.out).mono ?_; rintro e w9 ⟨hb9, v9, rfl, ho9⟩; have HB9 := Lib.hid (HB8.out.trans (hb9.mono HB8.out.size)); have HO9 := Lib.hid (HO8.out.below hb9); have HV9 := Lib.hid ho9; clear hb9 ho9))
        have hb10 : Below w9.heap.size w9 (w9.alloc (.cells #[.int .i64 0, .int .i64 0, .int .i64 0] 28)) := (Below.refl _ _).alloc (Nat.le_refl _) _
        have HF10 : Hid ((w9.alloc (.cells #[.int .i64 0, .int .i64 0, .int .i64 0] 28)).heap[w9.heap.size]? = some (.cells #[.int .i64 0, .int .i64 0, .int .i64 0] 28 (0, 0))) := heap_alloc_new w9 _
        have HB10 := Lib.hid (HB9.out.trans (hb10.mono HB9.out.size))
        have hO10 := HO9.out.below hb10
        have HV10 := Lib.hid (HV9.out.below hb10)
        obtain ⟨D, hD⟩ : ∃ D, D = w9.heap.size := ⟨_, rfl⟩
        rw [← hD] at HF10 ⊢
        have HSAME : Hid (Calls Tryz.prog 15 #[v9, .slice a6 m6 m6] (w9.alloc (.cells #[.int .i64 0, .int .i64 0, .int .i64 0] 28)) fun e w' => e = .returned (.bool true) ∧ Below (w9.alloc (.cells #[.int .i64 0, .int .i64 0, .int .i64 0] 28)).heap.size (w9.alloc (.cells #[.int .i64 0, .int .i64 0, .int .i64 0] 28)) w') := by
          obtain ⟨_, _, h8, _⟩ := HV10.out
          have := c_same v9 _ R T _ h8 hO10
          rw [HSM.out] at this
          exact this
        obtain ⟨a9, hv9, _, _⟩ := HV10.out
        rw [HRL.out] at hv9
        subst hv9
        clear hD hb10 hO10 HV10 HV9 HO9 HO8 HB9 HB8 HLA HS2 HSM
        generalize w9.alloc (.cells #[.int .i64 0, .int .i64 0, .int .i64 0] 28) = w10 at *
        obtain ⟨d0, d1, d2⟩ := fcells HF10.out
        go_wp2_with (first
          | (go_at_call 15; refine HSAME.out.mono ?_; rintro e w11 ⟨rfl, hb11⟩; have HB11 := Lib.hid (HB10.out.trans (hb11.mono HB10.out.size)); clear hb11)
          | (go_at_call 7; refine (HLIVE.out _ HB11.out).mono ?_; rintro e w12 ⟨rfl, hb⟩))
        go_ret
        exact ⟨rfl, hb⟩
end Go.Proofs.YtpalfhfbgfnacaaGreatDoor
