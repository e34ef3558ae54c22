/-
  The walk of the law CharsFill: true for any text and any number.
-/
import Derived.Test.YtmcehldfeppkbaaWNames
import Derived.Deep.QuietTactic
import Derived.BigQuiet
namespace Go.Proofs.Ytmcehldfeppkbaa
open Go.RowKit
set_option linter.unusedVariables false
set_option linter.unusedSimpArgs false

theorem below_drewN_trans {B q : Nat} {a w w' : World} (h : Below B a w) (h' : Below (w.drewN q).heap.size (w.drewN q) w') (hB : B ≤ a.heap.size := by omega) : Below B a w' := by
  have hd : Below B a (w.drewN q) := ⟨h.os, h.tape, h.output, h.size, h.block⟩
  exact hd.trans (h'.mono (Nat.le_trans hB h.size))

set_option maxRecDepth 100000 in
set_option maxHeartbeats 4000000 in
theorem fill_walk (A : Option Addr) (xs : List UInt8) (cap : Nat) (n : Int) (w : World) (h : Txt w A xs) (hl0 : xs.length ≤ maxLen) (n0 : -9223372036854775808 ≤ n) (n1 : n ≤ 9223372036854775807) :
    Calls Try.prog 6 #[.slice A xs.length cap, .int .i64 n] w fun e w' => e = .returned (.bool true) ∧ Below w.heap.size w w' := by
  by_cases h100 : (100 : Int) < xs.length
  · unfold maxLen at hl0
    go_enter Try.func6, Try.ntmps6
    go_wp2_with fail
    refine (lives_any _).mono ?_; rintro e w' ⟨rfl, hb⟩
    go_wp2
    go_ret
    exact ⟨rfl, hb⟩
  have hl : xs.length ≤ 140737488355328 := by omega
  clear hl0
  by_cases h1000 : 1000 < n ∧ n ≤ 1048576
  · obtain ⟨g1, g2⟩ := h1000
    go_enter Try.func6, Try.ntmps6
    go_wp2_with fail
    refine (lives_any _).mono ?_; rintro e w' ⟨rfl, hb⟩
    go_wp2
    go_ret
    exact ⟨rfl, hb⟩
  have hcv := run_str A xs cap w h
  obtain ⟨t, ht⟩ : ∃ t, t = strB xs := ⟨_, rfl⟩
  rw [← ht] at hcv
  have HT := Lib.hid ht; clear ht
  have HX := Lib.hid h; clear h
  by_cases hneg : n < 0
  · clear h1000
    go_enter Try.func6, Try.ntmps6
    go_wp2_with fail
    refine (fill_neg _ n hneg _).mono ?_; rintro e w' ⟨rfl, rfl⟩
    go_wp2
    refine wp_loop_rounds 1 ?_; rw [rounds_succ]
    go_wp2_with fail
    refine (lives_any _).mono ?_; rintro e w' ⟨rfl, hb⟩
    go_wp2
    go_ret
    exact ⟨rfl, hb⟩
  by_cases hbig : 1048576 < n
  · clear h1000
    go_enter Try.func6, Try.ntmps6
    go_wp2_with fail
    refine (fill_big _ n hbig _).mono ?_; rintro e w' ⟨rfl, rfl⟩
    go_wp2
    refine wp_loop_rounds 1 ?_; rw [rounds_succ]
    go_wp2_with fail
    refine (lives_any _).mono ?_; rintro e w' ⟨rfl, hb⟩
    go_wp2
    go_ret
    exact ⟨rfl, hb⟩
  have hn : n ≤ 1000 := by omega
  clear h1000 hbig
  rcases Nat.eq_zero_or_pos xs.length with h0 | h0
  · have hxs : xs = [] := List.eq_nil_of_length_eq_zero h0
    subst hxs
    simp only [List.length_nil] at hcv h100
    by_cases hz : n = 0
    · subst hz
      have hcv2 := run_str A [] cap (w.alloc (.cells (cellsB []) 5)) (Txt.nil _ _)
      rw [← HT.out] at hcv2
      simp only [List.length_nil] at hcv2
      clear hneg
      go_enter Try.func6, Try.ntmps6
      go_wp2_with fail
      refine (fill_none _ _ _).mono ?_; rintro e w' ⟨rfl, rfl⟩
      go_wp2
      refine wp_loop_rounds 1 ?_; rw [rounds_succ]
      go_wp2_with fail
      refine (lives_any _).mono ?_; rintro e w' ⟨rfl, hb⟩
      go_wp2
      go_ret
      exact ⟨rfl, ((Below.refl _ _).alloc (Nat.le_refl _) _).trans (hb.mono (by simp))⟩
    · have hpos : 0 < n := by omega
      clear hneg hz
      go_enter Try.func6, Try.ntmps6
      go_wp2_with fail
      refine (fill_width _ _ n hpos (by omega) _).mono ?_; rintro e w' ⟨rfl, rfl⟩
      go_wp2
      refine wp_loop_rounds 1 ?_; rw [rounds_succ]
      go_wp2_with fail
      refine (lives_any _).mono ?_; rintro e w' ⟨rfl, hb⟩
      go_wp2
      go_ret
      exact ⟨rfl, hb⟩
  · obtain ⟨m, rfl⟩ := Int.eq_ofNat_of_zero_le (Int.not_lt.1 hneg)
    have hm : m ≤ 1000 := by omega
    have hlz : ((xs.length : Int) == 0) = false := by simp; intro e; simp [e] at h0
    have HX2 : Hid (Txt (w.alloc (.cells (cellsB (fillB xs m)) 5)) A xs) := HX.out.alloc _
    have hcv2 := run_str A xs cap (w.alloc (.cells (cellsB (fillB xs m)) 5)) HX2.out
    rw [← HT.out] at hcv2
    have HG : Hid (∀ k c, (fillB xs m)[k]? = some c → (w.alloc (.cells (cellsB (fillB xs m)) 5)).cell? ⟨w.heap.size, k, none⟩ = some (.int .u8 c.toNat)) := fun k c hk => by
      obtain ⟨b, off, e, _, hc⟩ := Txt.new w 5 (fillB xs m) (by
        rcases Nat.eq_zero_or_pos (fillB xs m).length with h0 | h0
        · rw [List.eq_nil_of_length_eq_zero h0] at hk; simp at hk
        · exact h0)
      injection e with e; injection e with e1 e2
      have := hc k c hk
      rw [← e1, ← e2, Nat.zero_add] at this
      exact this
    have HB : Hid (Below w.heap.size w (w.alloc (.cells (cellsB (fillB xs m)) 5))) := (Below.refl _ _).alloc (Nat.le_refl _) _
    clear hneg
    by_cases hm0 : 0 < (m : Int)
    all_goals
      go_enter Try.func6, Try.ntmps6
      go_wp2_with fail
      refine (fill_any A xs cap m _ HX.out h0 hl (by omega)).mono ?_; rintro e w' ⟨rfl, rfl⟩
      go_wp2
      go_loopw [9] (fun i wr => ∃ k : Nat, k ≤ m ∧ i = .int .i64 k ∧ ∃ q, wr = (w.alloc (.cells (cellsB (fillB xs m)) 5)).drewN q) (fun i _ => m - (intOf i).toNat)
      case atStart => exact ⟨0, Nat.zero_le _, rfl, 0, rfl⟩
      case round =>
        obtain ⟨k, hk, rfl, q, rfl⟩ := hrel
        have HX3 := HX2.out; have HG3 := HG.out; have HB3 := HB.out
        clear HX HX2 HG HB hcv hcv2
        generalize hW : w.alloc (.cells (cellsB (fillB xs m)) 5) = W1 at *
        have HB := Lib.hid HB3; have HG := Lib.hid HG3; have HX := Lib.hid HX3
        clear HB3 HG3 HX3 hW
        by_cases hlt : k < m
        · have hmod : k % xs.length < xs.length := Nat.mod_lt _ h0
          obtain ⟨b, off, c, rfl, hb, hc, hcell⟩ := HX.out.at_ hmod
          have hgot := HG.out k c (by
            unfold fillB
            rw [List.getElem?_map, List.getElem?_range hlt]
            simp [fillB_at hc])
          clear hc
          go_wp2
          go_quiet (fail)
          go_wp2
          go_roundw
          case rel => exact ⟨k + 1, by omega, by go_num, _, rfl⟩
          case measure => simp [intOf]; omega
        · go_wp2_with fail
          refine (lives_any _).mono ?_; rintro e w' ⟨rfl, hb⟩
          have hbl : Below w.heap.size w w' := below_drewN_trans HB.out hb
          clear hb
          go_wp2
          go_ret
          exact ⟨rfl, hbl⟩
end Go.Proofs.Ytmcehldfeppkbaa
