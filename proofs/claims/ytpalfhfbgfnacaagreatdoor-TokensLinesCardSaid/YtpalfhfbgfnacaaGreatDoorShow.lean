/-
  The contract of the law's show (columnsevenlaw03).
-/
import Derived.Test.YtpalfhfbgfnacaaGreatDoorSrc
import Derived.Test.YtpalfhfbgfnacaaGreatDoorGA
namespace Go.Proofs.YtpalfhfbgfnacaaGreatDoor
open Go.RowKit
set_option linter.unusedVariables false
set_option linter.unusedSimpArgs false

theorem sourceB_wf {text : List UInt8} {debug : Bool} {acc : List Tok} (h : sourceB text debug = .inr acc) : ∀ t ∈ acc, t.Wf := by
  unfold sourceB at h
  cases hr : readBU true text debug with
  | inl f => rw [hr] at h; cases h
  | inr ks =>
    rw [hr] at h
    refine scanB_wf true _ [] acc ?_ (fun t ht => by cases ht) h
    intro c hc
    obtain ⟨k, hk, rfl⟩ := List.mem_map.1 hc
    have := readBU_bnd true debug _ ks hr
    have h2 := this.2.2 k hk
    show k.text.length ≤ _
    omega
def sp11 : ByteArray := ⟨#[32, 32, 32, 32, 32, 32, 32, 32, 32, 32, 32]⟩
/-- What show returns. -/
def showV (s : List UInt8) : Value :=
  match sourceB (sp11.data.toList ++ s) false with
  | .inl f => .tuple #[.string ⟨#[]⟩, .agg #[.int .i64 f.1, .int .i64 f.2.1, .int .i64 f.2.2]]
  | .inr acc => .tuple #[.string (strL (showL acc)), .agg #[.int .i64 0, .int .i64 0, .int .i64 0]]
theorem kind_slice (k : Nat) (hk : k ≤ 7) : ((⟨#[63, 87, 78, 81, 80, 83, 46, 61]⟩ : ByteArray).extract k (k + 1)).data.toList = [([63, 87, 78, 81, 80, 83, 46, 61] : List UInt8).getD k 0] := by
  have hc : k = 0 ∨ k = 1 ∨ k = 2 ∨ k = 3 ∨ k = 4 ∨ k = 5 ∨ k = 6 ∨ k = 7 := by omega
  rcases hc with rfl | rfl | rfl | rfl | rfl | rfl | rfl | rfl <;> decide +kernel
set_option maxHeartbeats 4000000 in
set_option maxRecDepth 100000 in
theorem c_show (s : ByteArray) (hs : s.size ≤ 1000000) (w : World) (hx : MaxLenAt w) (hg : SignsAt w) :
    Calls Tryz.prog 19 #[.string s] w fun e w' => e = .returned (showV s.data.toList) ∧ Below w.heap.size w w' := by
  obtain ⟨W, hW⟩ : ∃ W, W = w.alloc (.cells #[.int .i64 0, .int .i64 0, .int .i64 0] 28) := ⟨_, rfl⟩
  have hWB : Below w.heap.size w W := by rw [hW]; exact (Below.refl _ _).alloc (Nat.le_refl _) _
  have hWF : FltBlk W w.heap.size := by rw [hW]; exact heap_alloc_new w _
  have hml : 1 < w.heap.size := by obtain ⟨m, hm⟩ := hx; exact lt_of_cellR hm
  have hgl := hg.lt
  have hwW : w.heap.size < W.heap.size := lt_of_block hWF
  obtain ⟨u, hu⟩ : ∃ u, u = sp11 ++ s := ⟨_, rfl⟩
  have hud : u.data.toList = sp11.data.toList ++ s.data.toList := by rw [hu, append_data]
  have hus : u.size ≤ 1000011 := by rw [hu, ByteArray.size_append]; show 11 + _ ≤ _; omega
  have HSRC := Lib.hid (c_Source u false W (hx.bel hml hWB) (hg.below hgl hWB))
  have HU : Hid (showV s.data.toList = match sourceB u.data.toList false with
      | .inl f => .tuple #[.string ⟨#[]⟩, .agg #[.int .i64 f.1, .int .i64 f.2.1, .int .i64 f.2.2]]
      | .inr acc => .tuple #[.string (strL (showL acc)), .agg #[.int .i64 0, .int .i64 0, .int .i64 0]]) := by
    show _ = _
    unfold showV
    rw [hud]
  have HUE : Hid ((⟨#[32, 32, 32, 32, 32, 32, 32, 32, 32, 32, 32]⟩ : ByteArray) ++ s = u) := hu.symm
  have HWB := Lib.hid hWB
  have HWF := Lib.hid hWF
  clear hx hg hWB hWF hu hud
  go_enter Tryz.func19, Tryz.ntmps19
  go_upto_region 1 with fail
  rw [← hW]
  clear hW
  cases hres : sourceB u.data.toList false with
  | inl f =>
    obtain ⟨f1, f2, f3⟩ := f
    rw [hres] at HSRC HU
    go_upto_region 2 with (go_at_call 9; rw [HUE.out]; refine HSRC.out.mono ?_; rintro e w5 ⟨hb5, rfl, hf0⟩)
    have hF5 : FltBlk w5 w.heap.size := (hb5.block _ hwW).trans HWF.out
    have hwF : w.heap.size < w5.heap.size := lt_of_block hF5
    have hB6 : Below w5.heap.size w5 (w5.alloc (.cells #[.int .i64 f1, .int .i64 f2, .int .i64 f3] 28)) := (Below.refl _ _).alloc (Nat.le_refl _) _
    have HB6 : Hid (Below w.heap.size w (w5.alloc (.cells #[.int .i64 f1, .int .i64 f2, .int .i64 f3] 28))) := (HWB.out.trans (hb5.mono (by omega))).trans (hB6.mono (Nat.le_of_lt hwF))
    have HF6 : Hid (FltBlk (w5.alloc (.cells #[.int .i64 f1, .int .i64 f2, .int .i64 f3] 28)) w.heap.size) := (hB6.block _ hwF).trans hF5
    have HD6 : Hid ((w5.alloc (.cells #[.int .i64 f1, .int .i64 f2, .int .i64 f3] 28)).heap[w5.heap.size]? = some (.cells #[.int .i64 f1, .int .i64 f2, .int .i64 f3] 28 (0, 0))) := heap_alloc_new w5 _
    obtain ⟨D, hD⟩ : ∃ D, D = w5.heap.size := ⟨_, rfl⟩
    have hFD : w.heap.size < D := by rw [hD]; exact hwF
    rw [← hD] at HD6 ⊢
    clear hF5 hwF hB6 hD hb5 HSRC hres
    generalize w5.alloc (.cells #[.int .i64 f1, .int .i64 f2, .int .i64 f3] 28) = w6 at *
    obtain ⟨k0, k1, k2⟩ : w6.cell? ⟨D, 0, none⟩ = some (.int .i64 f1) ∧ w6.cell? ⟨D, 1, none⟩ = some (.int .i64 f2) ∧ w6.cell? ⟨D, 2, none⟩ = some (.int .i64 f3) := ⟨Joins.cell_of_block HD6.out 0, Joins.cell_of_block HD6.out 1, Joins.cell_of_block HD6.out 2⟩
    obtain ⟨⟨y0, y1, y2⟩, q0, q1, q2⟩ := HF6.out.cells
    have hDne : D ≠ w.heap.size := by omega
    go_wp2
    go_loopw [6, 7] (fun o i wr => o = .string ⟨#[]⟩ ∧ i = .int .i64 0 ∧ wr = w6) (fun _ _ _ => 0)
    case atStart => exact ⟨rfl, rfl, rfl⟩
    case round =>
      obtain ⟨rfl, rfl, rfl⟩ := hrel
      go_upto_region 9 with fail
      have HEND := Lib.hid (flt_end HF6.out HB6.out (.int .i64 f1) (.int .i64 f2) (.int .i64 f3))
      go_cut [2] (fun s2 wx => s2 = .string ⟨#[]⟩ ∧ Hid (FltEnd w w.heap.size (.int .i64 f1) (.int .i64 f2) (.int .i64 f3) wx))
      case first =>
        go_region_law (fail)
        all_goals
          go_wp2_with fail
          go_meet
          exact ⟨rfl, HEND.out⟩
      case rest =>
        obtain ⟨rfl, HE⟩ := hcut
        obtain ⟨hb9, d0, d1, d2⟩ := HE.out
        go_wp2
        refine bodyPost_ret (by simp [results, Tryz.results19, go_sem, d0, d1, d2]; try rfl) rfl ?_
        rw [HU.out]
        exact ⟨rfl, hb9⟩
  | inr acc =>
    rw [hres] at HSRC HU
    have HWF3 := Lib.hid (sourceB_wf hres)
    go_upto_region 2 with (go_at_call 9; rw [HUE.out]; refine HSRC.out.mono ?_; rintro e w5 ⟨hb5, v, rfl, ho5⟩)
    have hF5 : FltBlk w5 w.heap.size := (hb5.block _ hwW).trans HWF.out
    have hwF : w.heap.size < w5.heap.size := lt_of_block hF5
    have hB6 : Below w5.heap.size w5 (w5.alloc (.cells #[.int .i64 0, .int .i64 0, .int .i64 0] 28)) := (Below.refl _ _).alloc (Nat.le_refl _) _
    have HB6 : Hid (Below w.heap.size w (w5.alloc (.cells #[.int .i64 0, .int .i64 0, .int .i64 0] 28))) := (HWB.out.trans (hb5.mono (by omega))).trans (hB6.mono (Nat.le_of_lt hwF))
    have HF6 : Hid (FltBlk (w5.alloc (.cells #[.int .i64 0, .int .i64 0, .int .i64 0] 28)) w.heap.size) := (hB6.block _ hwF).trans hF5
    have HD6 : Hid (FltBlk (w5.alloc (.cells #[.int .i64 0, .int .i64 0, .int .i64 0] 28)) w5.heap.size) := heap_alloc_new w5 _
    have HO6 := Lib.hid (ho5.below hB6)
    obtain ⟨D, hD⟩ : ∃ D, D = w5.heap.size := ⟨_, rfl⟩
    have hFD : w.heap.size < D := by rw [hD]; exact hwF
    rw [← hD] at HD6 ⊢
    clear hF5 hwF hB6 hD hb5 HSRC hres ho5
    generalize w5.alloc (.cells #[.int .i64 0, .int .i64 0, .int .i64 0] 28) = w6 at *
    have hDne : D ≠ w.heap.size := by omega
    obtain ⟨va, rfl, _, hal⟩ := HO6.out
    go_wp2
    go_loopw [6, 7] (fun o i wr => ∃ (k : Nat) (os : ByteArray), k ≤ acc.length ∧ i = .int .i64 k ∧ o = .string os ∧ Hid (os.data.toList = showL (acc.take k)) ∧ Hid (TkOut wr (.slice va acc.length acc.length) acc) ∧ Hid (FltBlk wr w.heap.size) ∧ Hid (FltBlk wr D) ∧ Hid (Below w.heap.size w wr)) (fun _ i _ => acc.length - (intOf i).toNat)
    case atStart => exact ⟨0, ⟨#[]⟩, Nat.zero_le _, rfl, rfl, rfl, HO6, HF6, HD6, HB6⟩
    case round =>
      obtain ⟨k, os, hk, rfl, rfl, HOS, HO, HF, HD, HB⟩ := hrel
      clear HO6 HF6 HD6 HB6
      by_cases hlt : k < acc.length
      · obtain ⟨t, ht⟩ : ∃ t, acc[k]? = some t := ⟨_, List.getElem?_eq_getElem hlt⟩
        obtain ⟨a', e', htk, _⟩ := HO.out
        obtain ⟨x, cap, e1, _, _, e4⟩ := htk
        obtain ⟨b, o, e5, hbw, hc⟩ := e4 (by omega)
        injection e1 with e1 e1n e1c
        clear e1n e1c
        subst e1
        subst e5
        obtain ⟨_, c0, c1, _, _, _⟩ := hc k t ht
        have hwf := HWF3.out t (List.mem_of_getElem? ht)
        obtain ⟨kk, hkk⟩ : ∃ n, n = t.kind := ⟨_, rfl⟩
        rw [← hkk] at c0
        have hk7 : kk ≤ 7 := by rw [hkk]; exact hwf.2.1
        obtain ⟨xt, hxt⟩ : ∃ y, y = strL t.text := ⟨_, rfl⟩
        rw [← hxt] at c1
        have hxs : xt.size ≤ 134217729 := by rw [hxt, strL_size]; exact hwf.2.2
        have hos : os.size ≤ 65536 * 134217732 := by
          rw [size_data, HOS.out]
          have := showL_len (acc.take k) (fun t ht => HWF3.out t (List.mem_of_mem_take ht))
          have h2 : (acc.take k).length ≤ 65536 := by rw [List.length_take]; omega
          exact Nat.le_trans this (Nat.mul_le_mul_right _ h2)
        obtain ⟨ex, hex⟩ : ∃ y, y = ((⟨#[63, 87, 78, 81, 80, 83, 46, 61]⟩ : ByteArray).extract kk (kk + 1)) := ⟨_, rfl⟩
        have hexd : ex.data.toList = [([63, 87, 78, 81, 80, 83, 46, 61] : List UInt8).getD kk 0] := by rw [hex]; exact kind_slice kk hk7
        have hexs : ex.size = 1 := by rw [size_data, hexd]; rfl
        have HEX : Hid ((⟨#[63, 87, 78, 81, 80, 83, 46, 61]⟩ : ByteArray).extract kk (kk + 1) = ex) := hex.symm
        have HNEXT : Hid ((os ++ ex ++ xt ++ (⟨#[124]⟩ : ByteArray)).data.toList = showL (acc.take (k + 1))) := by
          show _ = _
          rw [showL_take acc k t ht, append_data, append_data, append_data, HOS.out, hexd, hxt, strL_data, showT, ← hkk]
          simp
        have hgt : decide ((7 : Int) < kk) = false := by simp; omega
        have hq : IntKind.u8.wrap ((kk : Int) + 1) = ((kk + 1 : Nat) : Int) := by
          have hcs : kk = 0 ∨ kk = 1 ∨ kk = 2 ∨ kk = 3 ∨ kk = 4 ∨ kk = 5 ∨ kk = 6 ∨ kk = 7 := by omega
          rcases hcs with h | h | h | h | h | h | h | h <;> rw [h] <;> rfl
        clear hc e4 ht hkk hxt hex hexd hwf e'
        have hexs2 : ((⟨#[63, 87, 78, 81, 80, 83, 46, 61]⟩ : ByteArray).extract kk (kk + 1)).size = 1 := by rw [HEX.out]; exact hexs
        go_upto_region 8 with fail
        go_quiet (fail)
        rw [HEX.out]
        obtain ⟨ns, hns⟩ : ∃ y, y = os ++ ex ++ xt ++ (⟨#[124]⟩ : ByteArray) := ⟨_, rfl⟩
        rw [← hns] at HNEXT ⊢
        clear hns
        have HO5 : Hid (TkOut (wr.drewN nq) (.slice (some ⟨b, o, none⟩) acc.length acc.length) acc) := HO.out.below (bdrewN nq (Below.refl _ _))
        have HF5 : Hid (FltBlk (wr.drewN nq) w.heap.size) := HF.out
        have HD5 : Hid (FltBlk (wr.drewN nq) D) := HD.out
        have HB5 := Lib.hid (bdrewN nq HB.out)
        clear c0 c1 HO HF HD HB hexs2 HEX
        generalize wr.drewN nq = w7 at *
        go_wp2
        go_roundw
        case rel => exact ⟨k + 1, ns, by omega, by go_num, rfl, HNEXT, HO5, HF5, HD5, HB5⟩
        case measure => simp [intOf]; omega
      · have HZ : Hid (os = strL (showL acc)) := by
          show _ = _
          apply str_ext
          rw [strL_data, HOS.out, List.take_of_length_le (by omega)]
        obtain ⟨⟨k0, k1, k2⟩, _, _, _⟩ := HD.out.cells
        obtain ⟨⟨y0, y1, y2⟩, q0, q1, q2⟩ := HF.out.cells
        go_upto_region 9 with fail
        have HEND := Lib.hid (flt_end HF.out HB.out (.int .i64 0) (.int .i64 0) (.int .i64 0))
        go_cut [2] (fun s2 wx => s2 = .string os ∧ Hid (FltEnd w w.heap.size (.int .i64 0) (.int .i64 0) (.int .i64 0) wx))
        case first =>
          go_region_law (fail)
          all_goals
            go_wp2_with fail
            go_meet
            exact ⟨rfl, HEND.out⟩
        case rest =>
          obtain ⟨rfl, HE⟩ := hcut
          obtain ⟨hb9, d0, d1, d2⟩ := HE.out
          go_wp2
          refine bodyPost_ret (by simp [results, Tryz.results19, go_sem, d0, d1, d2]; try rfl) rfl ?_
          rw [HU.out]
          exact ⟨ret_eq (by rw [HZ.out]), hb9⟩
end Go.Proofs.YtpalfhfbgfnacaaGreatDoor
