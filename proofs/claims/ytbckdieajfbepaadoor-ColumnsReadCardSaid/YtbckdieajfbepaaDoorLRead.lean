/-
  The law ColumnsRead (columnsevenlaw02), walked.
-/
import Derived.Test.YtbckdieajfbepaaDoorLives2
import Derived.Test.YtbckdieajfbepaaDoorR2r
import Derived.Deep.QuietTactic
import Derived.BigQuiet
namespace Go.Proofs.YtbckdieajfbepaaDoor
open Go.RowKit
set_option linter.unusedVariables false
set_option linter.unusedSimpArgs false
attribute [local go_sem] eqFault guardFault neqFault eqlFault

theorem tabUpR {w w1 : World} {name : String} {kd : IntKind} {zs : List Int} (h : Lib.TabBelow Tryd.prog w.heap.size w name kd zs) (hb : Below w.heap.size w w1) : Lib.TabBelow Tryd.prog w1.heap.size w1 name kd zs := fun w' h' => h w' (hb.trans (h'.mono hb.size))
theorem kards_len {w : World} {v : Value} {L : List Kard} (h : KardsAt w v L) : ∃ a cap, v = .slice a L.length cap ∧ L.length ≤ 1048576 := by
  rcases h with ⟨rfl, rfl⟩ | ⟨b, o, cap, rfl, _, h, _⟩
  · exact ⟨none, 0, rfl, Nat.zero_le _⟩
  · exact ⟨_, cap, rfl, h⟩
set_option maxHeartbeats 4000000 in
set_option maxRecDepth 100000 in
theorem l2readlaw (text : ByteArray) (debug : Bool) (ht : text.size ≤ 9223372036854775807) (w : World) (hml : MaxLenAt w) (htab : Lib.TabBelow Tryd.prog w.heap.size w "internal/strconv.uint64pow10" .u64 Lib.pow10Tab) :
    Calls Tryd.prog 3 #[.string text, .bool debug] w fun e w' => e = .returned (.bool true) ∧ Below w.heap.size w w' := by
  have HLIVE : Hid (∀ w1, Below w.heap.size w w1 → Calls Tryd.prog 9 #[] w1 fun e w' => e = .returned (.bool true) ∧ Below w.heap.size w w') := fun w1 hb =>
    (l2lives w1 (hml.below hb) (tabUpR htab hb)).mono fun e w' h => ⟨h.1, hb.trans (h.2.mono hb.size)⟩
  have HMAX := Lib.hid hml
  clear htab hml
  by_cases hbig : (3000 : Int) < text.size
  · go_enter Tryd.func3, Tryd.ntmps3
    go_wp2_with fail
    refine (HLIVE.out _ (Below.refl _ _)).mono ?_; rintro e w1 ⟨rfl, hb⟩
    go_wp2
    go_ret
    exact ⟨rfl, hb⟩
  have hT : text.size ≤ 3000 := by omega
  clear hbig ht
  go_enter Tryd.func3, Tryd.ntmps3
  go_wp2_with fail
  refine (r2Read text debug hT _).mono ?_
  rintro e w1 ⟨hb1, hr1⟩
  have HB1 := Lib.hid hb1
  clear hb1
  cases hR : readB text.data.toList debug with
  | inl f =>
    rw [hR] at hr1
    subst hr1
    have HRU : Hid (readBU true text.data.toList debug = .inl f) := by show _ = _; rw [readBU_true, hR]
    clear hR
    unfold faultN
    go_wp2_with fail
    refine (c_Read text debug _ (HMAX.out.below (HB1.out.alloc HB1.out.size _))).mono ?_
    rintro e w2 ⟨hb2, hr2⟩
    rw [HRU.out] at hr2
    obtain ⟨rfl, hf0⟩ := hr2
    have hk1 : w2.heap[w1.heap.size]? = some (.cells #[.int .i64 f.1, .int .i64 f.2.1, .int .i64 f.2.2] 28 (0, 0)) := (hb2.block w1.heap.size (by simp)).trans (heap_alloc_new w1 _)
    have HB2 : Hid (Below w.heap.size w w2) := (HB1.out.alloc HB1.out.size _).trans (hb2.mono (by have := HB1.out.size; simp; omega))
    obtain ⟨x0, x1, x2, hx, _, _, _⟩ := flt_cells hk1
    clear hb2 hf0 hk1
    unfold faultN
    go_wp2_with fail
    refine (r2same _ _ [] [] _ (.inl ⟨rfl, rfl⟩) (.inl ⟨rfl, rfl⟩)).mono ?_; rintro e w3 ⟨rfl, nn, rfl⟩
    rw [sameI_eq rfl]
    go_wp2_with fail
    go_loopw [9] (fun i wr => i = .int .i64 0 ∧ Hid (Below w.heap.size w wr)) (fun i _ => 0)
    case atStart => exact ⟨rfl, bdrewN nn (HB2.out.alloc HB2.out.size _)⟩
    case round =>
      obtain ⟨rfl, HBW⟩ := hrel
      go_wp2_with fail
      refine (HLIVE.out _ HBW.out).mono ?_; rintro e w9 ⟨rfl, hb⟩
      go_wp2
      go_ret
      exact ⟨rfl, hb⟩
  | inr ks =>
    rw [hR] at hr1
    obtain ⟨v1, rfl, hK1⟩ := hr1
    have HRU : Hid (readBU true text.data.toList debug = .inr ks) := by show _ = _; rw [readBU_true, hR]
    have HK1 := Lib.hid hK1
    clear hR hK1
    unfold zeroF
    go_wp2_with fail
    refine (c_Read text debug _ (HMAX.out.below (HB1.out.alloc HB1.out.size _))).mono ?_
    rintro e w2 ⟨hb2, hr2⟩
    rw [HRU.out] at hr2
    obtain ⟨v2, rfl, hK2, a2, rfl, htg⟩ := hr2
    have hk1 : w2.heap[w1.heap.size]? = some (.cells #[.int .i64 0, .int .i64 0, .int .i64 0] 28 (0, 0)) := (hb2.block w1.heap.size (by simp)).trans (heap_alloc_new w1 _)
    have HB2 : Hid (Below w.heap.size w w2) := (HB1.out.alloc HB1.out.size _).trans (hb2.mono (by have := HB1.out.size; simp; omega))
    have HK12 : Hid (KardsAt w2 v1 ks) := kards_below HK1.out (((Below.refl _ _).alloc (Nat.le_refl _) _).trans (hb2.mono (by simp)))
    have HK2 := Lib.hid hK2
    have HTG := Lib.hid htg
    obtain ⟨x0, x1, x2, hx, _, _, _⟩ := flt_cells hk1
    obtain ⟨a1, cap1, rfl, hl1⟩ := kards_len HK12.out
    have hkl := kards_form hK2
    obtain ⟨NC, hNC⟩ : ∃ q, q = ks.length := ⟨_, rfl⟩
    have HCELL : Hid (∀ W, Below w2.heap.size w2 W → ∀ k, k < NC → ∃ b o m ml, a2 = some ⟨b, o, none⟩ ∧ W.cell? ⟨b, o + k * 3 + 2, none⟩ = some (.slice m ml ml)) := fun W hW k hk => by
      obtain ⟨a, cap, he, _, hc⟩ := hkl
      injection he with he1 he2 he3
      subst he1
      obtain ⟨b, o, rfl, hb, _⟩ := hc (by omega)
      obtain ⟨m, hm⟩ := htg b o rfl k ks[k] (List.getElem?_eq_getElem (by omega))
      exact ⟨b, o, m, _, rfl, (hW.cell (p := ⟨b, o + k * 3 + 2, none⟩) hb).trans hm⟩
    have HSAME : Hid (∀ W, Below w2.heap.size w2 W → Calls Tryd.prog 12 #[.slice a2 NC NC, .slice a1 NC cap1] W fun e w' => e = .returned (.int .i64 0) ∧ ∃ n, w' = W.drewN n) := fun W hW => by
      have := r2same _ _ ks ks W (kards_below hK2 hW) (kards_below HK12.out hW)
      rw [sameI_eq rfl] at this
      rw [hNC]; exact this
    rw [← hNC]
    have hNCl : NC ≤ 1048576 := by omega
    clear hb2 hK2 htg HK1 hk1 hkl hl1 hNC HK12 HRU HK2 HTG
    unfold zeroF
    go_wp2_with fail
    refine (HSAME.out _ (by go_grown)).mono ?_; rintro e w3 ⟨rfl, nn, rfl⟩
    go_wp2_with fail
    go_loopw [9] (fun i wr => ∃ k : Nat, k ≤ NC ∧ i = .int .i64 k ∧ Hid (Below w2.heap.size w2 wr)) (fun i _ => NC - (intOf i).toNat)
    case atStart => exact ⟨0, Nat.zero_le _, rfl, bdrewN nn ((Below.refl _ _).alloc (Nat.le_refl _) _)⟩
    case round =>
      obtain ⟨k, hk, rfl, HBW⟩ := hrel
      by_cases hlt : k < NC
      · obtain ⟨b, o, m, ml, rfl, hc⟩ := HCELL.out wr HBW.out k hlt
        go_wp2_with fail
        go_quiet (fail)
        go_wp2_with fail
        go_roundw
        case rel => exact ⟨k + 1, by omega, by go_num, bdrewN _ HBW.out⟩
        case measure => simp [intOf]; omega
      · obtain rfl : k = NC := by omega
        go_wp2_with fail
        refine (HLIVE.out _ (HB2.out.trans (HBW.out.mono HB2.out.size))).mono ?_; rintro e w9 ⟨rfl, hb⟩
        go_wp2
        go_ret
        exact ⟨rfl, hb⟩
end Go.Proofs.YtbckdieajfbepaaDoor
