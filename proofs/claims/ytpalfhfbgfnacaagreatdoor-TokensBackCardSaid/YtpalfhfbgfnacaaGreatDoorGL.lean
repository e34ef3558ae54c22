/-
  Texts of this seat, merged: Show Lives3.
-/
import Derived.Test.YtpalfhfbgfnacaaGreatDoorSrc
import Derived.Test.YtpalfhfbgfnacaaGreatDoorGA
import Derived.Test.YtpalfhfbgfnacaaGreatDoorGC
/-
  The contract of the law's show (columnsevenlaw03).
-/
namespace Go.Proofs.YtpalfhfbgfnacaaGreatDoor
open Go.RowKit
set_option linter.unusedVariables false
set_option linter.unusedSimpArgs false

theorem sourceB_wf {text : List UInt8} {debug : Bool} {acc : List Tok} (h : sourceB text debug = .inr acc) : ∀ t ∈ acc, t.Wf := by
  unfold sourceB at h
  cases hr : readBU true text debug with
  | inl f => rw [hr] at h; cases h
  | inr ks =>
    rw [hr] at h
    refine scanB_wf true _ [] acc ?_ (fun t ht => by cases ht) h
    intro c hc
    obtain ⟨k, hk, rfl⟩ := List.mem_map.1 hc
    have := readBU_bnd true debug _ ks hr
    have h2 := this.2.2 k hk
    show k.text.length ≤ _
    omega
def sp11 : ByteArray := ⟨#[32, 32, 32, 32, 32, 32, 32, 32, 32, 32, 32]⟩
/-- What show returns. -/
def showV (s : List UInt8) : Value :=
  match sourceB (sp11.data.toList ++ s) false with
  | .inl f => .tuple #[.string ⟨#[]⟩, .agg #[.int .i64 f.1, .int .i64 f.2.1, .int .i64 f.2.2]]
  | .inr acc => .tuple #[.string (strL (showL acc)), .agg #[.int .i64 0, .int .i64 0, .int .i64 0]]
theorem kind_slice (k : Nat) (hk : k ≤ 7) : ((⟨#[63, 87, 78, 81, 80, 83, 46, 61]⟩ : ByteArray).extract k (k + 1)).data.toList = [([63, 87, 78, 81, 80, 83, 46, 61] : List UInt8).getD k 0] := by
  have hc : k = 0 ∨ k = 1 ∨ k = 2 ∨ k = 3 ∨ k = 4 ∨ k = 5 ∨ k = 6 ∨ k = 7 := by omega
  rcases hc with rfl | rfl | rfl | rfl | rfl | rfl | rfl | rfl <;> decide +kernel
set_option maxHeartbeats 4000000 in
set_option maxRecDepth 100000 in
theorem c_show (s : ByteArray) (hs : s.size ≤ 1000000) (w : World) (hx : MaxLenAt w) (hg : SignsAt w) :
    Calls Tryz.prog 19 #[.string s] w fun e w' => e = .returned (showV s.data.toList) ∧ Below w.heap.size w w' := by
  obtain ⟨W, hW⟩ : ∃ W, W = w.alloc (.cells #[.int .i64 0, .int .i64 0, .int .i64 0] 28) := ⟨_, rfl⟩
  have hWB : Below w.heap.size w W := by rw [hW]; exact (Below.refl _ _).alloc (Nat.le_refl _) _
  have hWF : FltBlk W w.heap.size := by rw [hW]; exact heap_alloc_new w _
  have hml : 1 < w.heap.size := by obtain ⟨m, hm⟩ := hx; exact lt_of_cellR hm
  have hgl := hg.lt
  have hwW : w.heap.size < W.heap.size := lt_of_block hWF
  obtain ⟨u, hu⟩ : ∃ u, u = sp11 ++ s := ⟨_, rfl⟩
  have hud : u.data.toList = sp11.data.toList ++ s.data.toList := by rw [hu, append_data]
  have hus : u.size ≤ 1000011 := by rw [hu, ByteArray.size_append]; show 11 + _ ≤ _; omega
  have HSRC := Lib.hid (c_Source u false W (hx.bel hml hWB) (hg.below hgl hWB))
  have HU : Hid (showV s.data.toList = match sourceB u.data.toList false with
      | .inl f => .tuple #[.string ⟨#[]⟩, .agg #[.int .i64 f.1, .int .i64 f.2.1, .int .i64 f.2.2]]
      | .inr acc => .tuple #[.string (strL (showL acc)), .agg #[.int .i64 0, .int .i64 0, .int .i64 0]]) := by
    show _ = _
    unfold showV
    rw [hud]
  have HUE : Hid ((⟨#[32, 32, 32, 32, 32, 32, 32, 32, 32, 32, 32]⟩ : ByteArray) ++ s = u) := hu.symm
  have HWB := Lib.hid hWB
  have HWF := Lib.hid hWF
  clear hx hg hWB hWF hu hud
  go_enter Tryz.func19, Tryz.ntmps19
  go_upto_region 1 with fail
  rw [← hW]
  clear hW
  cases hres : sourceB u.data.toList false with
  | inl f =>
    obtain ⟨f1, f2, f3⟩ := f
    rw [hres] at HSRC HU
    go_upto_region 2 with (go_at_call 9; rw [HUE.out]; refine HSRC.out.mono ?_; rintro e w5 ⟨hb5, rfl, hf0⟩)
    have hF5 : FltBlk w5 w.heap.size := (hb5.block _ hwW).trans HWF.out
    have hwF : w.heap.size < w5.heap.size := lt_of_block hF5
    have hB6 : Below w5.heap.size w5 (w5.alloc (.cells #[.int .i64 f1, .int .i64 f2, .int .i64 f3] 28)) := (Below.refl _ _).alloc (Nat.le_refl _) _
    have HB6 : Hid (Below w.heap.size w (w5.alloc (.cells #[.int .i64 f1, .int .i64 f2, .int .i64 f3] 28))) := (HWB.out.trans (hb5.mono (by omega))).trans (hB6.mono (Nat.le_of_lt hwF))
    have HF6 : Hid (FltBlk (w5.alloc (.cells #[.int .i64 f1, .int .i64 f2, .int .i64 f3] 28)) w.heap.size) := (hB6.block _ hwF).trans hF5
    have HD6 : Hid ((w5.alloc (.cells #[.int .i64 f1, .int .i64 f2, .int .i64 f3] 28)).heap[w5.heap.size]? = some (.cells #[.int .i64 f1, .int .i64 f2, .int .i64 f3] 28 (0, 0))) := heap_alloc_new w5 _
    obtain ⟨D, hD⟩ : ∃ D, D = w5.heap.size := ⟨_, rfl⟩
    have hFD : w.heap.size < D := by rw [hD]; exact hwF
    rw [← hD] at HD6 ⊢
    clear hF5 hwF hB6 hD hb5 HSRC hres
    generalize w5.alloc (.cells #[.int .i64 f1, .int .i64 f2, .int .i64 f3] 28) = w6 at *
    obtain ⟨k0, k1, k2⟩ : w6.cell? ⟨D, 0, none⟩ = some (.int .i64 f1) ∧ w6.cell? ⟨D, 1, none⟩ = some (.int .i64 f2) ∧ w6.cell? ⟨D, 2, none⟩ = some (.int .i64 f3) := ⟨Joins.cell_of_block HD6.out 0, Joins.cell_of_block HD6.out 1, Joins.cell_of_block HD6.out 2⟩
    obtain ⟨⟨y0, y1, y2⟩, q0, q1, q2⟩ := HF6.out.cells
    have hDne : D ≠ w.heap.size := by omega
    go_wp2
    go_loopw [6, 7] (fun o i wr => o = .string ⟨#[]⟩ ∧ i = .int .i64 0 ∧ wr = w6) (fun _ _ _ => 0)
    case atStart => exact ⟨rfl, rfl, rfl⟩
    case round =>
      obtain ⟨rfl, rfl, rfl⟩ := hrel
      go_upto_region 9 with fail
      have HEND := Lib.hid (flt_end HF6.out HB6.out (.int .i64 f1) (.int .i64 f2) (.int .i64 f3))
      go_cut [2] (fun s2 wx => s2 = .string ⟨#[]⟩ ∧ Hid (FltEnd w w.heap.size (.int .i64 f1) (.int .i64 f2) (.int .i64 f3) wx))
      case first =>
        go_region_law (fail)
        all_goals
          go_wp2_with fail
          go_meet
          exact ⟨rfl, HEND.out⟩
      case rest =>
        obtain ⟨rfl, HE⟩ := hcut
        obtain ⟨hb9, d0, d1, d2⟩ := HE.out
        go_wp2
        refine bodyPost_ret (by simp [results, Tryz.results19, go_sem, d0, d1, d2]; try rfl) rfl ?_
        rw [HU.out]
        exact ⟨rfl, hb9⟩
  | inr acc =>
    rw [hres] at HSRC HU
    have HWF3 := Lib.hid (sourceB_wf hres)
    go_upto_region 2 with (go_at_call 9; rw [HUE.out]; refine HSRC.out.mono ?_; rintro e w5 ⟨hb5, v, rfl, ho5⟩)
    have hF5 : FltBlk w5 w.heap.size := (hb5.block _ hwW).trans HWF.out
    have hwF : w.heap.size < w5.heap.size := lt_of_block hF5
    have hB6 : Below w5.heap.size w5 (w5.alloc (.cells #[.int .i64 0, .int .i64 0, .int .i64 0] 28)) := (Below.refl _ _).alloc (Nat.le_refl _) _
    have HB6 : Hid (Below w.heap.size w (w5.alloc (.cells #[.int .i64 0, .int .i64 0, .int .i64 0] 28))) := (HWB.out.trans (hb5.mono (by omega))).trans (hB6.mono (Nat.le_of_lt hwF))
    have HF6 : Hid (FltBlk (w5.alloc (.cells #[.int .i64 0, .int .i64 0, .int .i64 0] 28)) w.heap.size) := (hB6.block _ hwF).trans hF5
    have HD6 : Hid (FltBlk (w5.alloc (.cells #[.int .i64 0, .int .i64 0, .int .i64 0] 28)) w5.heap.size) := heap_alloc_new w5 _
    have HO6 := Lib.hid (ho5.below hB6)
    obtain ⟨D, hD⟩ : ∃ D, D = w5.heap.size := ⟨_, rfl⟩
    have hFD : w.heap.size < D := by rw [hD]; exact hwF
    rw [← hD] at HD6 ⊢
    clear hF5 hwF hB6 hD hb5 HSRC hres ho5
    generalize w5.alloc (.cells #[.int .i64 0, .int .i64 0, .int .i64 0] 28) = w6 at *
    have hDne : D ≠ w.heap.size := by omega
    obtain ⟨va, rfl, _, hal⟩ := HO6.out
    go_wp2
    go_loopw [6, 7] (fun o i wr => ∃ (k : Nat) (os : ByteArray), k ≤ acc.length ∧ i = .int .i64 k ∧ o = .string os ∧ Hid (os.data.toList = showL (acc.take k)) ∧ Hid (TkOut wr (.slice va acc.length acc.length) acc) ∧ Hid (FltBlk wr w.heap.size) ∧ Hid (FltBlk wr D) ∧ Hid (Below w.heap.size w wr)) (fun _ i _ => acc.length - (intOf i).toNat)
    case atStart => exact ⟨0, ⟨#[]⟩, Nat.zero_le _, rfl, rfl, rfl, HO6, HF6, HD6, HB6⟩
    case round =>
      obtain ⟨k, os, hk, rfl, rfl, HOS, HO, HF, HD, HB⟩ := hrel
      clear HO6 HF6 HD6 HB6
      by_cases hlt : k < acc.length
      · obtain ⟨t, ht⟩ : ∃ t, acc[k]? = some t := ⟨_, List.getElem?_eq_getElem hlt⟩
        obtain ⟨a', e', htk, _⟩ := HO.out
        obtain ⟨x, cap, e1, _, _, e4⟩ := htk
        obtain ⟨b, o, e5, hbw, hc⟩ := e4 (by omega)
        injection e1 with e1 e1n e1c
        clear e1n e1c
        subst e1
        subst e5
        obtain ⟨_, c0, c1, _, _, _⟩ := hc k t ht
        have hwf := HWF3.out t (List.mem_of_getElem? ht)
        obtain ⟨kk, hkk⟩ : ∃ n, n = t.kind := ⟨_, rfl⟩
        rw [← hkk] at c0
        have hk7 : kk ≤ 7 := by rw [hkk]; exact hwf.2.1
        obtain ⟨xt, hxt⟩ : ∃ y, y = strL t.text := ⟨_, rfl⟩
        rw [← hxt] at c1
        have hxs : xt.size ≤ 134217729 := by rw [hxt, strL_size]; exact hwf.2.2
        have hos : os.size ≤ 65536 * 134217732 := by
          rw [size_data, HOS.out]
          have := showL_len (acc.take k) (fun t ht => HWF3.out t (List.mem_of_mem_take ht))
          have h2 : (acc.take k).length ≤ 65536 := by rw [List.length_take]; omega
          exact Nat.le_trans this (Nat.mul_le_mul_right _ h2)
        obtain ⟨ex, hex⟩ : ∃ y, y = ((⟨#[63, 87, 78, 81, 80, 83, 46, 61]⟩ : ByteArray).extract kk (kk + 1)) := ⟨_, rfl⟩
        have hexd : ex.data.toList = [([63, 87, 78, 81, 80, 83, 46, 61] : List UInt8).getD kk 0] := by rw [hex]; exact kind_slice kk hk7
        have hexs : ex.size = 1 := by rw [size_data, hexd]; rfl
        have HEX : Hid ((⟨#[63, 87, 78, 81, 80, 83, 46, 61]⟩ : ByteArray).extract kk (kk + 1) = ex) := hex.symm
        have HNEXT : Hid ((os ++ ex ++ xt ++ (⟨#[124]⟩ : ByteArray)).data.toList = showL (acc.take (k + 1))) := by
          show _ = _
          rw [showL_take acc k t ht, append_data, append_data, append_data, HOS.out, hexd, hxt, strL_data, showT, ← hkk]
          simp
        have hgt : decide ((7 : Int) < kk) = false := by simp; omega
        have hq : IntKind.u8.wrap ((kk : Int) + 1) = ((kk + 1 : Nat) : Int) := by
          have hcs : kk = 0 ∨ kk = 1 ∨ kk = 2 ∨ kk = 3 ∨ kk = 4 ∨ kk = 5 ∨ kk = 6 ∨ kk = 7 := by omega
          rcases hcs with h | h | h | h | h | h | h | h <;> rw [h] <;> rfl
        clear hc e4 ht hkk hxt hex hexd hwf e'
        have hexs2 : ((⟨#[63, 87, 78, 81, 80, 83, 46, 61]⟩ : ByteArray).extract kk (kk + 1)).size = 1 := by rw [HEX.out]; exact hexs
        go_upto_region 8 with fail
        go_quiet (fail)
        rw [HEX.out]
        obtain ⟨ns, hns⟩ : ∃ y, y = os ++ ex ++ xt ++ (⟨#[124]⟩ : ByteArray) := ⟨_, rfl⟩
        rw [← hns] at HNEXT ⊢
        clear hns
        have HO5 : Hid (TkOut (wr.drewN nq) (.slice (some ⟨b, o, none⟩) acc.length acc.length) acc) := HO.out.below (bdrewN nq (Below.refl _ _))
        have HF5 : Hid (FltBlk (wr.drewN nq) w.heap.size) := HF.out
        have HD5 : Hid (FltBlk (wr.drewN nq) D) := HD.out
        have HB5 := Lib.hid (bdrewN nq HB.out)
        clear c0 c1 HO HF HD HB hexs2 HEX
        generalize wr.drewN nq = w7 at *
        go_wp2
        go_roundw
        case rel => exact ⟨k + 1, ns, by omega, by go_num, rfl, HNEXT, HO5, HF5, HD5, HB5⟩
        case measure => simp [intOf]; omega
      · have HZ : Hid (os = strL (showL acc)) := by
          show _ = _
          apply str_ext
          rw [strL_data, HOS.out, List.take_of_length_le (by omega)]
        obtain ⟨⟨k0, k1, k2⟩, _, _, _⟩ := HD.out.cells
        obtain ⟨⟨y0, y1, y2⟩, q0, q1, q2⟩ := HF.out.cells
        go_upto_region 9 with fail
        have HEND := Lib.hid (flt_end HF.out HB.out (.int .i64 0) (.int .i64 0) (.int .i64 0))
        go_cut [2] (fun s2 wx => s2 = .string os ∧ Hid (FltEnd w w.heap.size (.int .i64 0) (.int .i64 0) (.int .i64 0) wx))
        case first =>
          go_region_law (fail)
          all_goals
            go_wp2_with fail
            go_meet
            exact ⟨rfl, HEND.out⟩
        case rest =>
          obtain ⟨rfl, HE⟩ := hcut
          obtain ⟨hb9, d0, d1, d2⟩ := HE.out
          go_wp2
          refine bodyPost_ret (by simp [results, Tryz.results19, go_sem, d0, d1, d2]; try rfl) rfl ?_
          rw [HU.out]
          exact ⟨ret_eq (by rw [HZ.out]), hb9⟩
end Go.Proofs.YtpalfhfbgfnacaaGreatDoor

/-
  The contract of the law's lives (columnsevenlaw03): the examples of the chapter.
-/
namespace Go.Proofs.YtpalfhfbgfnacaaGreatDoor
open Go.RowKit
set_option linter.unusedVariables false
set_option linter.unusedSimpArgs false
attribute [local go_sem] eqFault guardFault neqFault

theorem liveT1 : (match sourceB (sp11.data.toList ++ [109, 111, 118, 101, 32, 45, 49, 46, 53, 48, 32, 116, 111, 32, 65, 45, 49, 44, 32, 98, 40, 50, 41, 46]) false with | .inl _ => [] | .inr acc => showL acc) = [87, 77, 79, 86, 69, 124, 78, 45, 49, 46, 53, 48, 124, 87, 84, 79, 124, 87, 65, 45, 49, 124, 87, 66, 124, 83, 40, 124, 78, 50, 124, 83, 41, 124, 46, 46, 124] ∧ (match sourceB (sp11.data.toList ++ [109, 111, 118, 101, 32, 45, 49, 46, 53, 48, 32, 116, 111, 32, 65, 45, 49, 44, 32, 98, 40, 50, 41, 46]) false with | .inl _ => false | .inr _ => true) = true := by decide +kernel
theorem liveV1 : showV (⟨#[109, 111, 118, 101, 32, 45, 49, 46, 53, 48, 32, 116, 111, 32, 65, 45, 49, 44, 32, 98, 40, 50, 41, 46]⟩ : ByteArray).data.toList = .tuple #[.string (⟨#[87, 77, 79, 86, 69, 124, 78, 45, 49, 46, 53, 48, 124, 87, 84, 79, 124, 87, 65, 45, 49, 124, 87, 66, 124, 83, 40, 124, 78, 50, 124, 83, 41, 124, 46, 46, 124]⟩ : ByteArray), .agg #[.int .i64 0, .int .i64 0, .int .i64 0]] := by
  have h := liveT1
  show showV [109, 111, 118, 101, 32, 45, 49, 46, 53, 48, 32, 116, 111, 32, 65, 45, 49, 44, 32, 98, 40, 50, 41, 46] = _
  unfold showV
  cases hs : sourceB (sp11.data.toList ++ [109, 111, 118, 101, 32, 45, 49, 46, 53, 48, 32, 116, 111, 32, 65, 45, 49, 44, 32, 98, 40, 50, 41, 46]) false with
  | inl f => rw [hs] at h; exact absurd (show false = true from h.2) (by decide)
  | inr acc =>
    rw [hs] at h
    show Value.tuple #[.string (strL (showL acc)), _] = _
    rw [show showL acc = _ from h.1]
    rfl
theorem liveT2 : (match sourceB (sp11.data.toList ++ [48, 53, 32, 88, 32, 80, 73, 67, 32, 57, 40, 51, 41, 118, 57, 57, 46]) false with | .inl _ => [] | .inr acc => showL acc) = [78, 48, 53, 124, 87, 88, 124, 87, 80, 73, 67, 124, 80, 57, 40, 51, 41, 86, 57, 57, 124, 46, 46, 124] ∧ (match sourceB (sp11.data.toList ++ [48, 53, 32, 88, 32, 80, 73, 67, 32, 57, 40, 51, 41, 118, 57, 57, 46]) false with | .inl _ => false | .inr _ => true) = true := by decide +kernel
theorem liveV2 : showV (⟨#[48, 53, 32, 88, 32, 80, 73, 67, 32, 57, 40, 51, 41, 118, 57, 57, 46]⟩ : ByteArray).data.toList = .tuple #[.string (⟨#[78, 48, 53, 124, 87, 88, 124, 87, 80, 73, 67, 124, 80, 57, 40, 51, 41, 86, 57, 57, 124, 46, 46, 124]⟩ : ByteArray), .agg #[.int .i64 0, .int .i64 0, .int .i64 0]] := by
  have h := liveT2
  show showV [48, 53, 32, 88, 32, 80, 73, 67, 32, 57, 40, 51, 41, 118, 57, 57, 46] = _
  unfold showV
  cases hs : sourceB (sp11.data.toList ++ [48, 53, 32, 88, 32, 80, 73, 67, 32, 57, 40, 51, 41, 118, 57, 57, 46]) false with
  | inl f => rw [hs] at h; exact absurd (show false = true from h.2) (by decide)
  | inr acc =>
    rw [hs] at h
    show Value.tuple #[.string (strL (showL acc)), _] = _
    rw [show showL acc = _ from h.1]
    rfl
theorem liveT3 : (match sourceB (sp11.data.toList ++ [65, 32, 45, 32, 49, 32, 42, 42, 32, 46, 53, 32, 60, 61, 32, 34, 66, 34, 34, 67, 34]) false with | .inl _ => [] | .inr acc => showL acc) = [87, 65, 124, 83, 45, 124, 78, 49, 124, 83, 42, 42, 124, 78, 46, 53, 124, 83, 60, 61, 124, 81, 66, 34, 67, 124] ∧ (match sourceB (sp11.data.toList ++ [65, 32, 45, 32, 49, 32, 42, 42, 32, 46, 53, 32, 60, 61, 32, 34, 66, 34, 34, 67, 34]) false with | .inl _ => false | .inr _ => true) = true := by decide +kernel
theorem liveV3 : showV (⟨#[65, 32, 45, 32, 49, 32, 42, 42, 32, 46, 53, 32, 60, 61, 32, 34, 66, 34, 34, 67, 34]⟩ : ByteArray).data.toList = .tuple #[.string (⟨#[87, 65, 124, 83, 45, 124, 78, 49, 124, 83, 42, 42, 124, 78, 46, 53, 124, 83, 60, 61, 124, 81, 66, 34, 67, 124]⟩ : ByteArray), .agg #[.int .i64 0, .int .i64 0, .int .i64 0]] := by
  have h := liveT3
  show showV [65, 32, 45, 32, 49, 32, 42, 42, 32, 46, 53, 32, 60, 61, 32, 34, 66, 34, 34, 67, 34] = _
  unfold showV
  cases hs : sourceB (sp11.data.toList ++ [65, 32, 45, 32, 49, 32, 42, 42, 32, 46, 53, 32, 60, 61, 32, 34, 66, 34, 34, 67, 34]) false with
  | inl f => rw [hs] at h; exact absurd (show false = true from h.2) (by decide)
  | inr acc =>
    rw [hs] at h
    show Value.tuple #[.string (strL (showL acc)), _] = _
    rw [show showL acc = _ from h.1]
    rfl
theorem liveT4 : (match sourceB (sp11.data.toList ++ [61, 61, 49, 65, 61, 61, 32, 66, 89, 32, 55, 46]) false with | .inl _ => [] | .inr acc => showL acc) = [61, 61, 61, 124, 87, 49, 65, 124, 61, 61, 61, 124, 87, 66, 89, 124, 78, 55, 124, 46, 46, 124] ∧ (match sourceB (sp11.data.toList ++ [61, 61, 49, 65, 61, 61, 32, 66, 89, 32, 55, 46]) false with | .inl _ => false | .inr _ => true) = true := by decide +kernel
theorem liveV4 : showV (⟨#[61, 61, 49, 65, 61, 61, 32, 66, 89, 32, 55, 46]⟩ : ByteArray).data.toList = .tuple #[.string (⟨#[61, 61, 61, 124, 87, 49, 65, 124, 61, 61, 61, 124, 87, 66, 89, 124, 78, 55, 124, 46, 46, 124]⟩ : ByteArray), .agg #[.int .i64 0, .int .i64 0, .int .i64 0]] := by
  have h := liveT4
  show showV [61, 61, 49, 65, 61, 61, 32, 66, 89, 32, 55, 46] = _
  unfold showV
  cases hs : sourceB (sp11.data.toList ++ [61, 61, 49, 65, 61, 61, 32, 66, 89, 32, 55, 46]) false with
  | inl f => rw [hs] at h; exact absurd (show false = true from h.2) (by decide)
  | inr acc =>
    rw [hs] at h
    show Value.tuple #[.string (strL (showL acc)), _] = _
    rw [show showL acc = _ from h.1]
    rfl
theorem liveT5 : (match sourceB (sp11.data.toList ++ [88, 32, 65, 45, 44, 32, 89]) false with | .inl f => f | .inr _ => (0, 0, 0)) = (4, 1, 14) := by decide +kernel
theorem liveV5 : showV (⟨#[88, 32, 65, 45, 44, 32, 89]⟩ : ByteArray).data.toList = .tuple #[.string ⟨#[]⟩, .agg #[.int .i64 4, .int .i64 1, .int .i64 14]] := by
  have h := liveT5
  show showV [88, 32, 65, 45, 44, 32, 89] = _
  unfold showV
  cases hs : sourceB (sp11.data.toList ++ [88, 32, 65, 45, 44, 32, 89]) false with
  | inl f =>
    rw [hs] at h
    show Value.tuple #[_, .agg #[.int .i64 f.1, .int .i64 f.2.1, .int .i64 f.2.2]] = _
    rw [show f = _ from h]
    rfl
  | inr acc =>
    rw [hs] at h
    injection h with h1 _
    exact absurd h1 (by decide)
theorem liveT6 : (match sourceB (sp11.data.toList ++ [34, 34]) false with | .inl f => f | .inr _ => (0, 0, 0)) = (4, 1, 12) := by decide +kernel
theorem liveV6 : showV (⟨#[34, 34]⟩ : ByteArray).data.toList = .tuple #[.string ⟨#[]⟩, .agg #[.int .i64 4, .int .i64 1, .int .i64 12]] := by
  have h := liveT6
  show showV [34, 34] = _
  unfold showV
  cases hs : sourceB (sp11.data.toList ++ [34, 34]) false with
  | inl f =>
    rw [hs] at h
    show Value.tuple #[_, .agg #[.int .i64 f.1, .int .i64 f.2.1, .int .i64 f.2.2]] = _
    rw [show f = _ from h]
    rfl
  | inr acc =>
    rw [hs] at h
    injection h with h1 _
    exact absurd h1 (by decide)
theorem liveT7 : (match sourceB (sp11.data.toList ++ [49, 45, 50]) false with | .inl f => f | .inr _ => (0, 0, 0)) = (4, 1, 12) := by decide +kernel
theorem liveV7 : showV (⟨#[49, 45, 50]⟩ : ByteArray).data.toList = .tuple #[.string ⟨#[]⟩, .agg #[.int .i64 4, .int .i64 1, .int .i64 12]] := by
  have h := liveT7
  show showV [49, 45, 50] = _
  unfold showV
  cases hs : sourceB (sp11.data.toList ++ [49, 45, 50]) false with
  | inl f =>
    rw [hs] at h
    show Value.tuple #[_, .agg #[.int .i64 f.1, .int .i64 f.2.1, .int .i64 f.2.2]] = _
    rw [show f = _ from h]
    rfl
  | inr acc =>
    rw [hs] at h
    injection h with h1 _
    exact absurd h1 (by decide)
theorem liveT8 : (match sourceB (sp11.data.toList ++ [80, 73, 67, 32, 46]) false with | .inl f => f | .inr _ => (0, 0, 0)) = (4, 1, 16) := by decide +kernel
theorem liveV8 : showV (⟨#[80, 73, 67, 32, 46]⟩ : ByteArray).data.toList = .tuple #[.string ⟨#[]⟩, .agg #[.int .i64 4, .int .i64 1, .int .i64 16]] := by
  have h := liveT8
  show showV [80, 73, 67, 32, 46] = _
  unfold showV
  cases hs : sourceB (sp11.data.toList ++ [80, 73, 67, 32, 46]) false with
  | inl f =>
    rw [hs] at h
    show Value.tuple #[_, .agg #[.int .i64 f.1, .int .i64 f.2.1, .int .i64 f.2.2]] = _
    rw [show f = _ from h]
    rfl
  | inr acc =>
    rw [hs] at h
    injection h with h1 _
    exact absurd h1 (by decide)
theorem liveT9 : (match sourceB (sp11.data.toList ++ [80, 73, 67, 32, 65, 34, 66, 34]) false with | .inl f => f | .inr _ => (0, 0, 0)) = (4, 1, 16) := by decide +kernel
theorem liveV9 : showV (⟨#[80, 73, 67, 32, 65, 34, 66, 34]⟩ : ByteArray).data.toList = .tuple #[.string ⟨#[]⟩, .agg #[.int .i64 4, .int .i64 1, .int .i64 16]] := by
  have h := liveT9
  show showV [80, 73, 67, 32, 65, 34, 66, 34] = _
  unfold showV
  cases hs : sourceB (sp11.data.toList ++ [80, 73, 67, 32, 65, 34, 66, 34]) false with
  | inl f =>
    rw [hs] at h
    show Value.tuple #[_, .agg #[.int .i64 f.1, .int .i64 f.2.1, .int .i64 f.2.2]] = _
    rw [show f = _ from h]
    rfl
  | inr acc =>
    rw [hs] at h
    injection h with h1 _
    exact absurd h1 (by decide)
theorem live_show (s : ByteArray) (V : Value) (h : showV s.data.toList = V) (hs : s.size ≤ 1000000) (w : World) (hm : MaxLenAt w) (hg : SignsAt w) :
    Calls Tryz.prog 19 #[.string s] w fun e w' => e = .returned V ∧ Below w.heap.size w w' := by
  subst h; exact c_show s hs w hm hg
theorem fcells {w : World} {N : Nat} {a b c : Value} {t : TypeId} (h : w.heap[N]? = some (.cells #[a, b, c] t (0, 0))) : w.cell? ⟨N, 0, none⟩ = some a ∧ w.cell? ⟨N, 1, none⟩ = some b ∧ w.cell? ⟨N, 2, none⟩ = some c :=
  ⟨Joins.cell_of_block h 0, Joins.cell_of_block h 1, Joins.cell_of_block h 2⟩
set_option maxHeartbeats 4000000 in
set_option maxRecDepth 100000 in
theorem l3lives (w : World) (hm : MaxLenAt w) (hg : SignsAt w) :
    Calls Tryz.prog 7 #[] w fun e w' => e = .returned (.bool true) ∧ Below w.heap.size w w' := by
  have hml : 1 < w.heap.size := by obtain ⟨m, hx⟩ := hm; exact lt_of_cellR hx
  have hgl := hg.lt
  have HML := Lib.hid hml
  have HGL := Lib.hid hgl
  have HM := Lib.hid hm
  have HG := Lib.hid hg
  clear hm hg hml hgl
  have HB0 : Hid (Below w.heap.size w w) := Below.refl _ _
  go_enter Tryz.func7, Tryz.ntmps7
  go_wp2_with fail
  have hz := HB0.out.size
  clear hz
  refine (live_show (⟨#[109, 111, 118, 101, 32, 45, 49, 46, 53, 48, 32, 116, 111, 32, 65, 45, 49, 44, 32, 98, 40, 50, 41, 46]⟩ : ByteArray) _ liveV1 (by decide) w (HM.out.bel HML.out HB0.out) (HG.out.below HGL.out HB0.out)).mono ?_
  rintro e u1 ⟨rfl, hb⟩
  have hz := HB0.out.size
  have HBu1 : Hid (Below w.heap.size w u1) := HB0.out.trans (hb.mono hz)
  clear hb hz
  go_wp2_with fail
  have hz := HBu1.out.size
  obtain ⟨c2, hc2⟩ : ∃ c, c = u1.alloc (.cells #[.int .i64 0, .int .i64 0, .int .i64 0] 28) := ⟨_, rfl⟩
  have HC2 : Hid (Below w.heap.size w c2) := by show Below _ _ _; rw [hc2]; exact HBu1.out.alloc hz _
  obtain ⟨F1, hF1⟩ : ∃ n, n = u1.heap.size := ⟨_, rfl⟩
  have KF1c : c2.heap[F1]? = some (.cells #[.int .i64 0, .int .i64 0, .int .i64 0] 28 (0, 0)) := by rw [hc2, hF1]; exact heap_alloc_new _ _
  rw [← hc2, ← hF1]
  clear hc2 hF1 hz 
  refine (live_show (⟨#[48, 53, 32, 88, 32, 80, 73, 67, 32, 57, 40, 51, 41, 118, 57, 57, 46]⟩ : ByteArray) _ liveV2 (by decide) c2 (HM.out.bel HML.out HC2.out) (HG.out.below HGL.out HC2.out)).mono ?_
  rintro e u2 ⟨rfl, hb⟩
  have hz := HC2.out.size
  have HBu2 : Hid (Below w.heap.size w u2) := HC2.out.trans (hb.mono hz)
  have KF1 := Lib.hid ((hb.block F1 (lt_of_block KF1c)).trans KF1c)
  clear hb hz KF1c HC2  HBu1
  go_wp2_with fail
  have hz := HBu2.out.size
  obtain ⟨c3, hc3⟩ : ∃ c, c = u2.alloc (.cells #[.int .i64 0, .int .i64 0, .int .i64 0] 28) := ⟨_, rfl⟩
  have HC3 : Hid (Below w.heap.size w c3) := by show Below _ _ _; rw [hc3]; exact HBu2.out.alloc hz _
  obtain ⟨F2, hF2⟩ : ∃ n, n = u2.heap.size := ⟨_, rfl⟩
  have KF2c : c3.heap[F2]? = some (.cells #[.int .i64 0, .int .i64 0, .int .i64 0] 28 (0, 0)) := by rw [hc3, hF2]; exact heap_alloc_new _ _
  have KF1c : c3.heap[F1]? = some (.cells #[.int .i64 0, .int .i64 0, .int .i64 0] 28 (0, 0)) := by rw [hc3]; exact (Below.heap_alloc _ _ _ (lt_of_block KF1.out)).trans KF1.out
  rw [← hc3, ← hF2]
  clear hc3 hF2 hz KF1
  refine (live_show (⟨#[65, 32, 45, 32, 49, 32, 42, 42, 32, 46, 53, 32, 60, 61, 32, 34, 66, 34, 34, 67, 34]⟩ : ByteArray) _ liveV3 (by decide) c3 (HM.out.bel HML.out HC3.out) (HG.out.below HGL.out HC3.out)).mono ?_
  rintro e u3 ⟨rfl, hb⟩
  have hz := HC3.out.size
  have HBu3 : Hid (Below w.heap.size w u3) := HC3.out.trans (hb.mono hz)
  have KF1 := Lib.hid ((hb.block F1 (lt_of_block KF1c)).trans KF1c)
  have KF2 := Lib.hid ((hb.block F2 (lt_of_block KF2c)).trans KF2c)
  clear hb hz KF1c KF2c HC3  HBu2
  go_wp2_with fail
  have hz := HBu3.out.size
  obtain ⟨c4, hc4⟩ : ∃ c, c = u3.alloc (.cells #[.int .i64 0, .int .i64 0, .int .i64 0] 28) := ⟨_, rfl⟩
  have HC4 : Hid (Below w.heap.size w c4) := by show Below _ _ _; rw [hc4]; exact HBu3.out.alloc hz _
  obtain ⟨F3, hF3⟩ : ∃ n, n = u3.heap.size := ⟨_, rfl⟩
  have KF3c : c4.heap[F3]? = some (.cells #[.int .i64 0, .int .i64 0, .int .i64 0] 28 (0, 0)) := by rw [hc4, hF3]; exact heap_alloc_new _ _
  have KF1c : c4.heap[F1]? = some (.cells #[.int .i64 0, .int .i64 0, .int .i64 0] 28 (0, 0)) := by rw [hc4]; exact (Below.heap_alloc _ _ _ (lt_of_block KF1.out)).trans KF1.out
  have KF2c : c4.heap[F2]? = some (.cells #[.int .i64 0, .int .i64 0, .int .i64 0] 28 (0, 0)) := by rw [hc4]; exact (Below.heap_alloc _ _ _ (lt_of_block KF2.out)).trans KF2.out
  rw [← hc4, ← hF3]
  clear hc4 hF3 hz KF1 KF2
  refine (live_show (⟨#[61, 61, 49, 65, 61, 61, 32, 66, 89, 32, 55, 46]⟩ : ByteArray) _ liveV4 (by decide) c4 (HM.out.bel HML.out HC4.out) (HG.out.below HGL.out HC4.out)).mono ?_
  rintro e u4 ⟨rfl, hb⟩
  have hz := HC4.out.size
  have HBu4 : Hid (Below w.heap.size w u4) := HC4.out.trans (hb.mono hz)
  have KF1 := Lib.hid ((hb.block F1 (lt_of_block KF1c)).trans KF1c)
  have KF2 := Lib.hid ((hb.block F2 (lt_of_block KF2c)).trans KF2c)
  have KF3 := Lib.hid ((hb.block F3 (lt_of_block KF3c)).trans KF3c)
  clear hb hz KF1c KF2c KF3c HC4  HBu3
  go_wp2_with fail
  have hz := HBu4.out.size
  obtain ⟨c5, hc5⟩ : ∃ c, c = u4.alloc (.cells #[.int .i64 0, .int .i64 0, .int .i64 0] 28) := ⟨_, rfl⟩
  have HC5 : Hid (Below w.heap.size w c5) := by show Below _ _ _; rw [hc5]; exact HBu4.out.alloc hz _
  obtain ⟨F4, hF4⟩ : ∃ n, n = u4.heap.size := ⟨_, rfl⟩
  have KF4c : c5.heap[F4]? = some (.cells #[.int .i64 0, .int .i64 0, .int .i64 0] 28 (0, 0)) := by rw [hc5, hF4]; exact heap_alloc_new _ _
  have KF1c : c5.heap[F1]? = some (.cells #[.int .i64 0, .int .i64 0, .int .i64 0] 28 (0, 0)) := by rw [hc5]; exact (Below.heap_alloc _ _ _ (lt_of_block KF1.out)).trans KF1.out
  have KF2c : c5.heap[F2]? = some (.cells #[.int .i64 0, .int .i64 0, .int .i64 0] 28 (0, 0)) := by rw [hc5]; exact (Below.heap_alloc _ _ _ (lt_of_block KF2.out)).trans KF2.out
  have KF3c : c5.heap[F3]? = some (.cells #[.int .i64 0, .int .i64 0, .int .i64 0] 28 (0, 0)) := by rw [hc5]; exact (Below.heap_alloc _ _ _ (lt_of_block KF3.out)).trans KF3.out
  rw [← hc5, ← hF4]
  clear hc5 hF4 hz KF1 KF2 KF3
  refine (live_show (⟨#[88, 32, 65, 45, 44, 32, 89]⟩ : ByteArray) _ liveV5 (by decide) c5 (HM.out.bel HML.out HC5.out) (HG.out.below HGL.out HC5.out)).mono ?_
  rintro e u5 ⟨rfl, hb⟩
  have hz := HC5.out.size
  have HBu5 : Hid (Below w.heap.size w u5) := HC5.out.trans (hb.mono hz)
  have KF1 := Lib.hid ((hb.block F1 (lt_of_block KF1c)).trans KF1c)
  have KF2 := Lib.hid ((hb.block F2 (lt_of_block KF2c)).trans KF2c)
  have KF3 := Lib.hid ((hb.block F3 (lt_of_block KF3c)).trans KF3c)
  have KF4 := Lib.hid ((hb.block F4 (lt_of_block KF4c)).trans KF4c)
  clear hb hz KF1c KF2c KF3c KF4c HC5  HBu4
  go_wp2_with fail
  have hz := HBu5.out.size
  obtain ⟨c6, hc6⟩ : ∃ c, c = u5.alloc (.cells #[.int .i64 4, .int .i64 1, .int .i64 14] 28) := ⟨_, rfl⟩
  have HC6 : Hid (Below w.heap.size w c6) := by show Below _ _ _; rw [hc6]; exact HBu5.out.alloc hz _
  obtain ⟨F5, hF5⟩ : ∃ n, n = u5.heap.size := ⟨_, rfl⟩
  have KF5c : c6.heap[F5]? = some (.cells #[.int .i64 4, .int .i64 1, .int .i64 14] 28 (0, 0)) := by rw [hc6, hF5]; exact heap_alloc_new _ _
  have KF1c : c6.heap[F1]? = some (.cells #[.int .i64 0, .int .i64 0, .int .i64 0] 28 (0, 0)) := by rw [hc6]; exact (Below.heap_alloc _ _ _ (lt_of_block KF1.out)).trans KF1.out
  have KF2c : c6.heap[F2]? = some (.cells #[.int .i64 0, .int .i64 0, .int .i64 0] 28 (0, 0)) := by rw [hc6]; exact (Below.heap_alloc _ _ _ (lt_of_block KF2.out)).trans KF2.out
  have KF3c : c6.heap[F3]? = some (.cells #[.int .i64 0, .int .i64 0, .int .i64 0] 28 (0, 0)) := by rw [hc6]; exact (Below.heap_alloc _ _ _ (lt_of_block KF3.out)).trans KF3.out
  have KF4c : c6.heap[F4]? = some (.cells #[.int .i64 0, .int .i64 0, .int .i64 0] 28 (0, 0)) := by rw [hc6]; exact (Below.heap_alloc _ _ _ (lt_of_block KF4.out)).trans KF4.out
  rw [← hc6, ← hF5]
  clear hc6 hF5 hz KF1 KF2 KF3 KF4
  refine (live_show (⟨#[34, 34]⟩ : ByteArray) _ liveV6 (by decide) c6 (HM.out.bel HML.out HC6.out) (HG.out.below HGL.out HC6.out)).mono ?_
  rintro e u6 ⟨rfl, hb⟩
  have hz := HC6.out.size
  have HBu6 : Hid (Below w.heap.size w u6) := HC6.out.trans (hb.mono hz)
  have KF1 := Lib.hid ((hb.block F1 (lt_of_block KF1c)).trans KF1c)
  have KF2 := Lib.hid ((hb.block F2 (lt_of_block KF2c)).trans KF2c)
  have KF3 := Lib.hid ((hb.block F3 (lt_of_block KF3c)).trans KF3c)
  have KF4 := Lib.hid ((hb.block F4 (lt_of_block KF4c)).trans KF4c)
  have KF5 := Lib.hid ((hb.block F5 (lt_of_block KF5c)).trans KF5c)
  clear hb hz KF1c KF2c KF3c KF4c KF5c HC6  HBu5
  go_wp2_with fail
  have hz := HBu6.out.size
  obtain ⟨c7, hc7⟩ : ∃ c, c = u6.alloc (.cells #[.int .i64 4, .int .i64 1, .int .i64 12] 28) := ⟨_, rfl⟩
  have HC7 : Hid (Below w.heap.size w c7) := by show Below _ _ _; rw [hc7]; exact HBu6.out.alloc hz _
  obtain ⟨F6, hF6⟩ : ∃ n, n = u6.heap.size := ⟨_, rfl⟩
  have KF6c : c7.heap[F6]? = some (.cells #[.int .i64 4, .int .i64 1, .int .i64 12] 28 (0, 0)) := by rw [hc7, hF6]; exact heap_alloc_new _ _
  have KF1c : c7.heap[F1]? = some (.cells #[.int .i64 0, .int .i64 0, .int .i64 0] 28 (0, 0)) := by rw [hc7]; exact (Below.heap_alloc _ _ _ (lt_of_block KF1.out)).trans KF1.out
  have KF2c : c7.heap[F2]? = some (.cells #[.int .i64 0, .int .i64 0, .int .i64 0] 28 (0, 0)) := by rw [hc7]; exact (Below.heap_alloc _ _ _ (lt_of_block KF2.out)).trans KF2.out
  have KF3c : c7.heap[F3]? = some (.cells #[.int .i64 0, .int .i64 0, .int .i64 0] 28 (0, 0)) := by rw [hc7]; exact (Below.heap_alloc _ _ _ (lt_of_block KF3.out)).trans KF3.out
  have KF4c : c7.heap[F4]? = some (.cells #[.int .i64 0, .int .i64 0, .int .i64 0] 28 (0, 0)) := by rw [hc7]; exact (Below.heap_alloc _ _ _ (lt_of_block KF4.out)).trans KF4.out
  have KF5c : c7.heap[F5]? = some (.cells #[.int .i64 4, .int .i64 1, .int .i64 14] 28 (0, 0)) := by rw [hc7]; exact (Below.heap_alloc _ _ _ (lt_of_block KF5.out)).trans KF5.out
  rw [← hc7, ← hF6]
  clear hc7 hF6 hz KF1 KF2 KF3 KF4 KF5
  refine (live_show (⟨#[49, 45, 50]⟩ : ByteArray) _ liveV7 (by decide) c7 (HM.out.bel HML.out HC7.out) (HG.out.below HGL.out HC7.out)).mono ?_
  rintro e u7 ⟨rfl, hb⟩
  have hz := HC7.out.size
  have HBu7 : Hid (Below w.heap.size w u7) := HC7.out.trans (hb.mono hz)
  have KF1 := Lib.hid ((hb.block F1 (lt_of_block KF1c)).trans KF1c)
  have KF2 := Lib.hid ((hb.block F2 (lt_of_block KF2c)).trans KF2c)
  have KF3 := Lib.hid ((hb.block F3 (lt_of_block KF3c)).trans KF3c)
  have KF4 := Lib.hid ((hb.block F4 (lt_of_block KF4c)).trans KF4c)
  have KF5 := Lib.hid ((hb.block F5 (lt_of_block KF5c)).trans KF5c)
  have KF6 := Lib.hid ((hb.block F6 (lt_of_block KF6c)).trans KF6c)
  clear hb hz KF1c KF2c KF3c KF4c KF5c KF6c HC7  HBu6
  go_wp2_with fail
  have hz := HBu7.out.size
  obtain ⟨c8, hc8⟩ : ∃ c, c = u7.alloc (.cells #[.int .i64 4, .int .i64 1, .int .i64 12] 28) := ⟨_, rfl⟩
  have HC8 : Hid (Below w.heap.size w c8) := by show Below _ _ _; rw [hc8]; exact HBu7.out.alloc hz _
  obtain ⟨F7, hF7⟩ : ∃ n, n = u7.heap.size := ⟨_, rfl⟩
  have KF7c : c8.heap[F7]? = some (.cells #[.int .i64 4, .int .i64 1, .int .i64 12] 28 (0, 0)) := by rw [hc8, hF7]; exact heap_alloc_new _ _
  have KF1c : c8.heap[F1]? = some (.cells #[.int .i64 0, .int .i64 0, .int .i64 0] 28 (0, 0)) := by rw [hc8]; exact (Below.heap_alloc _ _ _ (lt_of_block KF1.out)).trans KF1.out
  have KF2c : c8.heap[F2]? = some (.cells #[.int .i64 0, .int .i64 0, .int .i64 0] 28 (0, 0)) := by rw [hc8]; exact (Below.heap_alloc _ _ _ (lt_of_block KF2.out)).trans KF2.out
  have KF3c : c8.heap[F3]? = some (.cells #[.int .i64 0, .int .i64 0, .int .i64 0] 28 (0, 0)) := by rw [hc8]; exact (Below.heap_alloc _ _ _ (lt_of_block KF3.out)).trans KF3.out
  have KF4c : c8.heap[F4]? = some (.cells #[.int .i64 0, .int .i64 0, .int .i64 0] 28 (0, 0)) := by rw [hc8]; exact (Below.heap_alloc _ _ _ (lt_of_block KF4.out)).trans KF4.out
  have KF5c : c8.heap[F5]? = some (.cells #[.int .i64 4, .int .i64 1, .int .i64 14] 28 (0, 0)) := by rw [hc8]; exact (Below.heap_alloc _ _ _ (lt_of_block KF5.out)).trans KF5.out
  have KF6c : c8.heap[F6]? = some (.cells #[.int .i64 4, .int .i64 1, .int .i64 12] 28 (0, 0)) := by rw [hc8]; exact (Below.heap_alloc _ _ _ (lt_of_block KF6.out)).trans KF6.out
  rw [← hc8, ← hF7]
  clear hc8 hF7 hz KF1 KF2 KF3 KF4 KF5 KF6
  refine (live_show (⟨#[80, 73, 67, 32, 46]⟩ : ByteArray) _ liveV8 (by decide) c8 (HM.out.bel HML.out HC8.out) (HG.out.below HGL.out HC8.out)).mono ?_
  rintro e u8 ⟨rfl, hb⟩
  have hz := HC8.out.size
  have HBu8 : Hid (Below w.heap.size w u8) := HC8.out.trans (hb.mono hz)
  have KF1 := Lib.hid ((hb.block F1 (lt_of_block KF1c)).trans KF1c)
  have KF2 := Lib.hid ((hb.block F2 (lt_of_block KF2c)).trans KF2c)
  have KF3 := Lib.hid ((hb.block F3 (lt_of_block KF3c)).trans KF3c)
  have KF4 := Lib.hid ((hb.block F4 (lt_of_block KF4c)).trans KF4c)
  have KF5 := Lib.hid ((hb.block F5 (lt_of_block KF5c)).trans KF5c)
  have KF6 := Lib.hid ((hb.block F6 (lt_of_block KF6c)).trans KF6c)
  have KF7 := Lib.hid ((hb.block F7 (lt_of_block KF7c)).trans KF7c)
  clear hb hz KF1c KF2c KF3c KF4c KF5c KF6c KF7c HC8  HBu7
  go_wp2_with fail
  have hz := HBu8.out.size
  obtain ⟨c9, hc9⟩ : ∃ c, c = u8.alloc (.cells #[.int .i64 4, .int .i64 1, .int .i64 16] 28) := ⟨_, rfl⟩
  have HC9 : Hid (Below w.heap.size w c9) := by show Below _ _ _; rw [hc9]; exact HBu8.out.alloc hz _
  obtain ⟨F8, hF8⟩ : ∃ n, n = u8.heap.size := ⟨_, rfl⟩
  have KF8c : c9.heap[F8]? = some (.cells #[.int .i64 4, .int .i64 1, .int .i64 16] 28 (0, 0)) := by rw [hc9, hF8]; exact heap_alloc_new _ _
  have KF1c : c9.heap[F1]? = some (.cells #[.int .i64 0, .int .i64 0, .int .i64 0] 28 (0, 0)) := by rw [hc9]; exact (Below.heap_alloc _ _ _ (lt_of_block KF1.out)).trans KF1.out
  have KF2c : c9.heap[F2]? = some (.cells #[.int .i64 0, .int .i64 0, .int .i64 0] 28 (0, 0)) := by rw [hc9]; exact (Below.heap_alloc _ _ _ (lt_of_block KF2.out)).trans KF2.out
  have KF3c : c9.heap[F3]? = some (.cells #[.int .i64 0, .int .i64 0, .int .i64 0] 28 (0, 0)) := by rw [hc9]; exact (Below.heap_alloc _ _ _ (lt_of_block KF3.out)).trans KF3.out
  have KF4c : c9.heap[F4]? = some (.cells #[.int .i64 0, .int .i64 0, .int .i64 0] 28 (0, 0)) := by rw [hc9]; exact (Below.heap_alloc _ _ _ (lt_of_block KF4.out)).trans KF4.out
  have KF5c : c9.heap[F5]? = some (.cells #[.int .i64 4, .int .i64 1, .int .i64 14] 28 (0, 0)) := by rw [hc9]; exact (Below.heap_alloc _ _ _ (lt_of_block KF5.out)).trans KF5.out
  have KF6c : c9.heap[F6]? = some (.cells #[.int .i64 4, .int .i64 1, .int .i64 12] 28 (0, 0)) := by rw [hc9]; exact (Below.heap_alloc _ _ _ (lt_of_block KF6.out)).trans KF6.out
  have KF7c : c9.heap[F7]? = some (.cells #[.int .i64 4, .int .i64 1, .int .i64 12] 28 (0, 0)) := by rw [hc9]; exact (Below.heap_alloc _ _ _ (lt_of_block KF7.out)).trans KF7.out
  rw [← hc9, ← hF8]
  clear hc9 hF8 hz KF1 KF2 KF3 KF4 KF5 KF6 KF7
  refine (live_show (⟨#[80, 73, 67, 32, 65, 34, 66, 34]⟩ : ByteArray) _ liveV9 (by decide) c9 (HM.out.bel HML.out HC9.out) (HG.out.below HGL.out HC9.out)).mono ?_
  rintro e u9 ⟨rfl, hb⟩
  have hz := HC9.out.size
  have HBu9 : Hid (Below w.heap.size w u9) := HC9.out.trans (hb.mono hz)
  have KF1 := Lib.hid ((hb.block F1 (lt_of_block KF1c)).trans KF1c)
  have KF2 := Lib.hid ((hb.block F2 (lt_of_block KF2c)).trans KF2c)
  have KF3 := Lib.hid ((hb.block F3 (lt_of_block KF3c)).trans KF3c)
  have KF4 := Lib.hid ((hb.block F4 (lt_of_block KF4c)).trans KF4c)
  have KF5 := Lib.hid ((hb.block F5 (lt_of_block KF5c)).trans KF5c)
  have KF6 := Lib.hid ((hb.block F6 (lt_of_block KF6c)).trans KF6c)
  have KF7 := Lib.hid ((hb.block F7 (lt_of_block KF7c)).trans KF7c)
  have KF8 := Lib.hid ((hb.block F8 (lt_of_block KF8c)).trans KF8c)
  clear hb hz KF1c KF2c KF3c KF4c KF5c KF6c KF7c KF8c HC9  HBu8
  obtain ⟨xF10, xF11, xF12⟩ := fcells KF1.out
  have lF1 := lt_of_block KF1.out
  obtain ⟨xF20, xF21, xF22⟩ := fcells KF2.out
  have lF2 := lt_of_block KF2.out
  obtain ⟨xF30, xF31, xF32⟩ := fcells KF3.out
  have lF3 := lt_of_block KF3.out
  obtain ⟨xF40, xF41, xF42⟩ := fcells KF4.out
  have lF4 := lt_of_block KF4.out
  obtain ⟨xF50, xF51, xF52⟩ := fcells KF5.out
  have lF5 := lt_of_block KF5.out
  obtain ⟨xF60, xF61, xF62⟩ := fcells KF6.out
  have lF6 := lt_of_block KF6.out
  obtain ⟨xF70, xF71, xF72⟩ := fcells KF7.out
  have lF7 := lt_of_block KF7.out
  obtain ⟨xF80, xF81, xF82⟩ := fcells KF8.out
  have lF8 := lt_of_block KF8.out
  have hz := HBu9.out.size
  have HBX : Hid (Below w.heap.size w (u9.alloc (.cells #[.int .i64 4, .int .i64 1, .int .i64 16] 28))) := HBu9.out.alloc hz _
  go_wp2_with fail
  go_ret
  exact ⟨rfl, HBX.out.alloc (by simp; omega) _⟩
end Go.Proofs.YtpalfhfbgfnacaaGreatDoor
