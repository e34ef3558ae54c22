/-
  The law TokensLines (columnsevenlaw03), walked.
-/
import Derived.Test.YtpalfhfbgfnacaaGreatDoorGL
import Derived.Test.YtpalfhfbgfnacaaGreatDoorGK
import Derived.Test.YtpalfhfbgfnacaaGreatDoorWrite
import Derived.Test.YtpalfhfbgfnacaaGreatDoorSme
namespace Go.Proofs.YtpalfhfbgfnacaaGreatDoor
open Go.RowKit
set_option linter.unusedVariables false
set_option linter.unusedSimpArgs false
attribute [local go_sem] eqFault guardFault neqFault

/-- Write of one text. -/
theorem w1_write (b : Nat) (left : Bool) (text : ByteArray) (S : ByteArray) (hS : S = strL (layAll [(left, text.data.toList)] ([], 0)).1) (w : World) (hL : LinesIn w b 1 [(left, text.data.toList)]) (htab : Lib.TabIs Tryz.prog w "internal/strconv.uint64pow10" .u64 Lib.pow10Tab) (hl : text.size ≤ 2048) (rb : Bool) (hrb : rb = rightB text.data.toList) :
    Calls Tryz.prog 16 #[.slice (some ⟨b, 0, none⟩) 1 1] w fun e w' => e = .returned (.tuple #[.string (if rb = true then S else ⟨#[]⟩), .int .i64 (if rb = true then 0 else 1)]) ∧ Below w.heap.size w w' := by
  have := c_write b 1 [(left, text.data.toList)] w hL htab (fun x hx => by simp at hx; subst hx; show text.data.toList.length ≤ 2048; rw [← size_data]; exact hl) (by simp)
  refine this.mono ?_
  rintro e w' ⟨rfl, hb⟩
  refine ⟨?_, hb⟩
  unfold writeV
  have e1 : ([(left, text.data.toList)] : List (Bool × List UInt8)).all (fun x => rightB x.2) = rb := by simp [hrb]
  rw [e1, hS]
  cases rb <;> rfl
theorem w1_lines {w : World} {b : Nat} {left : Bool} {text : ByteArray} {t : TypeId} {fr : Nat × Nat} (h : w.heap[b]? = some (.cells #[.bool left, .string text] t fr)) : LinesIn w b 1 [(left, text.data.toList)] := by
  refine ⟨lt_of_block h, fun k x hx => ?_⟩
  match k, hx with
  | 0, hx =>
    injection hx with hx
    subst hx
    exact ⟨Joins.cell_of_block h 0, Joins.cell_of_block h 1⟩
  | k + 1, hx => simp at hx
/-- One card in a block. -/
theorem w1_cards {w : World} {B b mb : Nat} {left : Bool} {text : ByteArray} {t t2 : TypeId} {fr fr2 : Nat × Nat} (hm : w.heap[mb]? = some (.cells #[.int .i64 0, .int .i64 1, .int .i64 12] t2 fr2)) (h : w.heap[b]? = some (.cells #[.bool left, .string text, .slice (some ⟨mb, 0, none⟩) 1 1] t fr)) (hb : b < B) (hmb : mb < B) (ht : text.size ≤ 134217728) :
    CardsIn B w (.slice (some ⟨b, 0, none⟩) 1 1) [⟨left, text.data.toList, [(0, 1, 12)]⟩] := by
  refine ⟨some ⟨b, 0, none⟩, 1, rfl, by simp, fun _ => ⟨b, 0, rfl, hb, fun k c hc => ?_⟩⟩
  match k, hc with
  | 0, hc =>
    injection hc with hc
    subst hc
    refine ⟨by show text.data.toList.length ≤ _; rw [← size_data]; exact ht, Joins.cell_of_block h 0, Joins.cell_of_block h 1, _, Joins.cell_of_block h 2, some ⟨mb, 0, none⟩, 1, rfl, by simp, by simp, fun _ => ⟨mb, 0, rfl, hmb, fun j x hx => ?_⟩⟩
    match j, hx with
    | 0, hx =>
      injection hx with hx
      subst hx
      exact ⟨Joins.cell_of_block hm 0, Joins.cell_of_block hm 1, Joins.cell_of_block hm 2⟩
    | j + 1, hx => simp at hx
  | k + 1, hc => simp at hc
theorem one_ok (left : Bool) {text : List UInt8} (h : text ≠ []) : (⟨left, text, [(0, 1, 12)]⟩ : ICard).ok = true := by
  cases text with
  | nil => exact absurd rfl h
  | cons c r => rfl
theorem one_scan (left : Bool) {text : List UInt8} (h : text ≠ []) : scanB true [⟨left, text, [(0, 1, 12)]⟩] [] = scanC true text [(0, 1, 12)] [] := by
  show (if (⟨left, text, [(0, 1, 12)]⟩ : ICard).ok = true then _ else _) = _
  rw [if_pos (one_ok left h)]
  cases h2 : scanC true text [(0, 1, 12)] [] <;> rfl
set_option maxHeartbeats 4000000 in
set_option maxRecDepth 100000 in
theorem l3lines (text : ByteArray) (left : Bool) (ht : text.size ≤ 9223372036854775807) (w : World) (hx : MaxLenAt w) (hg : SignsAt w) (htab : Lib.TabIs Tryz.prog w "internal/strconv.uint64pow10" .u64 Lib.pow10Tab) :
    Calls Tryz.prog 5 #[.string text, .bool left] w fun e w' => e = .returned (.bool true) ∧ Below w.heap.size w w' := by
  have hml : 1 < w.heap.size := by obtain ⟨m, hm⟩ := hx; exact lt_of_cellR hm
  have HML := Lib.hid hml
  have HLIVE : Hid (∀ w1, Below w.heap.size w w1 → Calls Tryz.prog 7 #[] w1 fun e w' => e = .returned (.bool true) ∧ Below w.heap.size w w') := fun w1 hb =>
    (l3lives w1 (hx.bel hml hb) (hg.below hg.lt hb)).mono fun e w' h => ⟨h.1, hb.trans (h.2.mono hb.size)⟩
  have HX := Lib.hid hx
  have HG := Lib.hid hg
  have HTAB := Lib.hid (Lib.tabBelow_of_tabIs htab)
  clear hx hg htab hml
  by_cases hbig : (600 : Int) < text.size
  · go_enter Tryz.func5, Tryz.ntmps5
    go_wp2_with (go_at_call 7; refine (HLIVE.out _ (Below.refl _ _)).mono ?_; rintro e w1 ⟨rfl, hb⟩)
    go_ret
    exact ⟨rfl, hb⟩
  have hT : text.size ≤ 600 := by omega
  have HTS := Lib.hid (size_data text)
  clear hbig ht
  obtain ⟨S, hS⟩ : ∃ S, S = strL (layAll [(left, text.data.toList)] ([], 0)).1 := ⟨_, rfl⟩
  have HS := Lib.hid hS
  clear hS
  obtain ⟨rb, hrb⟩ : ∃ rb, rb = rightB text.data.toList := ⟨_, rfl⟩
  have HRB := Lib.hid hrb
  clear hrb
  go_enter Tryz.func5, Tryz.ntmps5
  go_upto_region 3 with fail
  have HL1 := Lib.hid (w1_write w.heap.size left text S HS.out (w.alloc (.cells #[.bool left, .string text] 49)) (w1_lines (heap_alloc_new w _)) (HTAB.out _ ((Below.refl _ _).alloc (Nat.le_refl _) _)) (by omega) rb HRB.out)
  go_upto_region 4 with (go_at_call 16; refine HL1.out.mono ?_; rintro e w1 ⟨rfl, hb1⟩)
  have HB1 : Hid (Below w.heap.size w w1) := ((Below.refl _ _).alloc (Nat.le_refl _) _).trans (hb1.mono (by simp))
  clear hb1 HL1
  cases rb
  · go_wp2_with (go_at_call 7; refine (HLIVE.out _ HB1.out).mono ?_; rintro e w2 ⟨rfl, hb⟩)
    go_ret
    exact ⟨rfl, hb⟩
  simp only [if_true]
  have hne : text.data.toList ≠ [] := by
    intro e
    have := HRB.out
    rw [e] at this; exact absurd this (by decide)
  have HR : Hid (SamR (sourceB S.data.toList false) (scanB true [⟨left, text.data.toList, [(0, 1, 12)]⟩] [])) := by
    show SamR _ _
    rw [one_scan left hne, HS.out]
    exact lines_source text.data.toList left HRB.out.symm (by have := lay_len text.data.toList left; rw [← size_data] at this; omega) [(0, 1, 12)]
  clear hne
  go_upto_region 6 with fail
  go_upto_region 7 with fail
  obtain ⟨MB, hMB⟩ : ∃ n, n = w1.heap.size := ⟨_, rfl⟩
  have HB2 : Hid (Below w.heap.size w ((w1.alloc (.cells #[.int .i64 0, .int .i64 1, .int .i64 12] 52)).alloc (.cells #[.bool left, .string text, .slice (some ⟨w1.heap.size, 0, none⟩) 1 1] 55))) :=
    (HB1.out.alloc HB1.out.size _).alloc (by have := HB1.out.size; simp; omega) _
  have HM2 : Hid (((w1.alloc (.cells #[.int .i64 0, .int .i64 1, .int .i64 12] 52)).alloc (.cells #[.bool left, .string text, .slice (some ⟨w1.heap.size, 0, none⟩) 1 1] 55)).heap[w1.heap.size]? = some (.cells #[.int .i64 0, .int .i64 1, .int .i64 12] 52 (0, 0))) := (Below.heap_alloc _ _ _ (by simp)).trans (heap_alloc_new _ _)
  have HC2 : Hid (((w1.alloc (.cells #[.int .i64 0, .int .i64 1, .int .i64 12] 52)).alloc (.cells #[.bool left, .string text, .slice (some ⟨w1.heap.size, 0, none⟩) 1 1] 55)).heap[w1.heap.size + 1]? = some (.cells #[.bool left, .string text, .slice (some ⟨w1.heap.size, 0, none⟩) 1 1] 55 (0, 0))) := by
    have h0 := heap_alloc_new (w1.alloc (.cells #[.int .i64 0, .int .i64 1, .int .i64 12] 52)) (.cells #[.bool left, .string text, .slice (some ⟨w1.heap.size, 0, none⟩) 1 1] 55)
    have e0 : (w1.alloc (.cells #[.int .i64 0, .int .i64 1, .int .i64 12] 52)).heap.size = w1.heap.size + 1 := by simp
    rw [e0] at h0
    exact h0
  generalize (w1.alloc (.cells #[.int .i64 0, .int .i64 1, .int .i64 12] 52)).alloc (.cells #[.bool left, .string text, .slice (some ⟨w1.heap.size, 0, none⟩) 1 1] 55) = w2 at *
  rw [← hMB] at HM2 HC2 ⊢
  have hmb2 : MB < w2.heap.size := lt_of_block HM2.out
  have hcb2 : MB + 1 < w2.heap.size := lt_of_block HC2.out
  clear hMB HB1
  obtain ⟨k0, k1, k2⟩ : w2.cell? ⟨MB + 1, 0, none⟩ = some (.bool left) ∧ w2.cell? ⟨MB + 1, 1, none⟩ = some (.string text) ∧ w2.cell? ⟨MB + 1, 2, none⟩ = some (.slice (some ⟨MB, 0, none⟩) 1 1) := ⟨Joins.cell_of_block HC2.out 0, Joins.cell_of_block HC2.out 1, Joins.cell_of_block HC2.out 2⟩
  have HSCAN : Hid (Calls Tryz.prog 11 #[.slice (some ⟨w2.heap.size, 0, none⟩) 1 1] (w2.alloc (.cells #[.bool left, .string text, .slice (some ⟨MB, 0, none⟩) 1 1] 55)) (ScanAll (scanB true [⟨left, text.data.toList, [(0, 1, 12)]⟩] []) (w2.alloc (.cells #[.bool left, .string text, .slice (some ⟨MB, 0, none⟩) 1 1] 55)))) := by
    have hb3 : Below w2.heap.size w2 (w2.alloc (.cells #[.bool left, .string text, .slice (some ⟨MB, 0, none⟩) 1 1] 55)) := (Below.refl _ _).alloc (Nat.le_refl _) _
    have hbw : Below w.heap.size w (w2.alloc (.cells #[.bool left, .string text, .slice (some ⟨MB, 0, none⟩) 1 1] 55)) := HB2.out.trans (hb3.mono HB2.out.size)
    exact c_Scan _ _ _ (w1_cards ((hb3.block MB hmb2).trans HM2.out) (heap_alloc_new w2 _) (by simp) (by simp; omega) (by omega)) (HX.out.bel HML.out hbw) (HG.out.below HG.out.lt hbw)
  have HB3 : Hid (Below w.heap.size w (w2.alloc (.cells #[.bool left, .string text, .slice (some ⟨MB, 0, none⟩) 1 1] 55))) := HB2.out.alloc HB2.out.size _
  clear HM2 HC2
  have HSRC : Hid (∀ W, Below w.heap.size w W → Calls Tryz.prog 9 #[.string S, .bool false] W (ScanAll (sourceB S.data.toList false) W)) := fun W hW => c_Source S false W (HX.out.bel HML.out hW) (HG.out.below HG.out.lt hW)
  cases hr1 : scanB true [⟨left, text.data.toList, [(0, 1, 12)]⟩] [] with
  | inl f =>
    cases hr2 : sourceB S.data.toList false with
    | inr T => rw [hr1, hr2] at HR; exact HR.out.elim
    | inl g =>
      obtain ⟨f1, f2, f3⟩ := f
      obtain ⟨g1, g2, g3⟩ := g
      have hfg : g1 = f1 := by have := HR.out; rw [hr1, hr2] at this; exact this
      subst hfg
      rw [hr1] at HSCAN
      rw [hr2] at HSRC
      clear HR hr1 hr2
      go_upto_region 8 with (go_at_call 11; refine HSCAN.out.mono ?_; rintro e w4 ⟨hb4, rfl, hf0⟩)
      have HB4 : Hid (Below w.heap.size w w4) := HB3.out.trans (hb4.mono HB3.out.size)
      have HF5 : Hid ((w4.alloc (.cells #[.int .i64 g1, .int .i64 f2, .int .i64 f3] 28)).heap[w4.heap.size]? = some (.cells #[.int .i64 g1, .int .i64 f2, .int .i64 f3] 28 (0, 0))) := heap_alloc_new w4 _
      have HB5 : Hid (Below w.heap.size w (w4.alloc (.cells #[.int .i64 g1, .int .i64 f2, .int .i64 f3] 28))) := HB4.out.alloc HB4.out.size _
      obtain ⟨D, hD⟩ : ∃ D, D = w4.heap.size := ⟨_, rfl⟩
      rw [← hD] at HF5 ⊢
      clear hD hb4 HSCAN HB3 HB2 k0 k1 k2 hmb2 hcb2 HB4
      generalize w4.alloc (.cells #[.int .i64 g1, .int .i64 f2, .int .i64 f3] 28) = w5 at *
      have hD5 : D < w5.heap.size := lt_of_block HF5.out
      go_upto_region 9 with (go_at_call 9; refine (HSRC.out _ HB5.out).mono ?_; rintro e w6 ⟨hb6, rfl, hg0⟩)
      have HB6 : Hid (Below w.heap.size w w6) := HB5.out.trans (hb6.mono HB5.out.size)
      have hF6 : w6.heap[D]? = some (.cells #[.int .i64 g1, .int .i64 f2, .int .i64 f3] 28 (0, 0)) := (hb6.block D hD5).trans HF5.out
      have hb7 : Below w6.heap.size w6 (w6.alloc (.cells #[.int .i64 g1, .int .i64 g2, .int .i64 g3] 28)) := (Below.refl _ _).alloc (Nat.le_refl _) _
      have HF7 : Hid ((w6.alloc (.cells #[.int .i64 g1, .int .i64 g2, .int .i64 g3] 28)).heap[D]? = some (.cells #[.int .i64 g1, .int .i64 f2, .int .i64 f3] 28 (0, 0))) := (hb7.block D (lt_of_block hF6)).trans hF6
      have HG7 : Hid ((w6.alloc (.cells #[.int .i64 g1, .int .i64 g2, .int .i64 g3] 28)).heap[w6.heap.size]? = some (.cells #[.int .i64 g1, .int .i64 g2, .int .i64 g3] 28 (0, 0))) := heap_alloc_new w6 _
      have HB7 : Hid (Below w.heap.size w (w6.alloc (.cells #[.int .i64 g1, .int .i64 g2, .int .i64 g3] 28))) := HB6.out.alloc HB6.out.size _
      obtain ⟨E, hE⟩ : ∃ E, E = w6.heap.size := ⟨_, rfl⟩
      rw [← hE] at HG7 ⊢
      clear hE hb6 hb7 hF6 HB6 HB5 HF5 HSRC hD5
      generalize w6.alloc (.cells #[.int .i64 g1, .int .i64 g2, .int .i64 g3] 28) = w7 at *
      obtain ⟨d0, d1, d2⟩ := fcells HF7.out
      obtain ⟨e0, e1, e2⟩ := fcells HG7.out
      have q0 : ((g1 : Int) != 0) = true := by have h0 : g1 ≠ 0 := hg0; simp; omega
      go_wp2_with (go_at_call 7; refine (HLIVE.out _ HB7.out).mono ?_; rintro e w8 ⟨rfl, hb⟩)
      go_ret
      exact ⟨rfl, hb⟩
  | inr T =>
    cases hr2 : sourceB S.data.toList false with
    | inl g => rw [hr1, hr2] at HR; exact HR.out.elim
    | inr T2 =>
      have HSM : Hid (sameT T2 T = true) := by have := HR.out; rw [hr1, hr2] at this; exact SamT.same this
      rw [hr1] at HSCAN
      rw [hr2] at HSRC
      clear HR hr1 hr2
      go_upto_region 8 with (go_at_call 11; refine HSCAN.out.mono ?_; rintro e w4 ⟨hb4, v4, rfl, ho4⟩)
      have HB4 : Hid (Below w.heap.size w w4) := HB3.out.trans (hb4.mono HB3.out.size)
      have HF5 : Hid ((w4.alloc (.cells #[.int .i64 0, .int .i64 0, .int .i64 0] 28)).heap[w4.heap.size]? = some (.cells #[.int .i64 0, .int .i64 0, .int .i64 0] 28 (0, 0))) := heap_alloc_new w4 _
      have HB5 : Hid (Below w.heap.size w (w4.alloc (.cells #[.int .i64 0, .int .i64 0, .int .i64 0] 28))) := HB4.out.alloc HB4.out.size _
      have HT5 := Lib.hid (ho4.below ((Below.refl w4.heap.size w4).alloc (Nat.le_refl _) (.cells #[.int .i64 0, .int .i64 0, .int .i64 0] 28)))
      obtain ⟨D, hD⟩ : ∃ D, D = w4.heap.size := ⟨_, rfl⟩
      rw [← hD] at HF5 ⊢
      clear hD hb4 HSCAN HB3 HB2 k0 k1 k2 hmb2 hcb2 HB4 ho4
      generalize w4.alloc (.cells #[.int .i64 0, .int .i64 0, .int .i64 0] 28) = w5 at *
      have hD5 : D < w5.heap.size := lt_of_block HF5.out
      go_upto_region 9 with (go_at_call 9; refine (HSRC.out _ HB5.out).mono ?_; rintro e w6 ⟨hb6, v6, rfl, ho6⟩)
      have HB6 : Hid (Below w.heap.size w w6) := HB5.out.trans (hb6.mono HB5.out.size)
      have hF6 : w6.heap[D]? = some (.cells #[.int .i64 0, .int .i64 0, .int .i64 0] 28 (0, 0)) := (hb6.block D hD5).trans HF5.out
      have hb7 : Below w6.heap.size w6 (w6.alloc (.cells #[.int .i64 0, .int .i64 0, .int .i64 0] 28)) := (Below.refl _ _).alloc (Nat.le_refl _) _
      have HF7 : Hid ((w6.alloc (.cells #[.int .i64 0, .int .i64 0, .int .i64 0] 28)).heap[D]? = some (.cells #[.int .i64 0, .int .i64 0, .int .i64 0] 28 (0, 0))) := (hb7.block D (lt_of_block hF6)).trans hF6
      have HG7 : Hid ((w6.alloc (.cells #[.int .i64 0, .int .i64 0, .int .i64 0] 28)).heap[w6.heap.size]? = some (.cells #[.int .i64 0, .int .i64 0, .int .i64 0] 28 (0, 0))) := heap_alloc_new w6 _
      have HB7 : Hid (Below w.heap.size w (w6.alloc (.cells #[.int .i64 0, .int .i64 0, .int .i64 0] 28))) := HB6.out.alloc HB6.out.size _
      have hT7 := (HT5.out.below hb6).below hb7
      have hT8 := ho6.below hb7
      have HSAME : Hid (Calls Tryz.prog 15 #[v6, v4] (w6.alloc (.cells #[.int .i64 0, .int .i64 0, .int .i64 0] 28)) fun e w' => e = .returned (.bool true) ∧ Below (w6.alloc (.cells #[.int .i64 0, .int .i64 0, .int .i64 0] 28)).heap.size (w6.alloc (.cells #[.int .i64 0, .int .i64 0, .int .i64 0] 28)) w') := by
        obtain ⟨_, _, h8, _⟩ := hT8
        obtain ⟨_, _, h7, _⟩ := hT7
        have := c_same v6 v4 T2 T _ h8 h7
        rw [HSM.out] at this
        exact this
      obtain ⟨a4, hv4, _⟩ := HT5.out
      subst hv4
      obtain ⟨a6, hv6, _⟩ := hT8
      subst hv6
      obtain ⟨E, hE⟩ : ∃ E, E = w6.heap.size := ⟨_, rfl⟩
      rw [← hE] at HG7 ⊢
      clear hE hb6 hb7 hF6 HB6 HB5 HF5 HSRC hD5 hT7 HT5 HSM
      generalize w6.alloc (.cells #[.int .i64 0, .int .i64 0, .int .i64 0] 28) = w7 at *
      obtain ⟨d0, d1, d2⟩ := fcells HF7.out
      obtain ⟨e0, e1, e2⟩ := fcells HG7.out
      go_wp2_with (first | (go_at_call 15; refine HSAME.out.mono ?_; rintro e w8 ⟨rfl, hb8⟩; have HB8 : Hid (Below w.heap.size w w8) := HB7.out.trans (hb8.mono HB7.out.size)) | (go_at_call 7; refine (HLIVE.out _ HB8.out).mono ?_; rintro e w9 ⟨rfl, hb⟩))
      go_ret
      exact ⟨rfl, hb⟩
end Go.Proofs.YtpalfhfbgfnacaaGreatDoor
