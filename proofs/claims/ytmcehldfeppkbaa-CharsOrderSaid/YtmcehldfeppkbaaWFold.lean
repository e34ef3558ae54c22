/-
  The walk of the law CharsFold: true for every text.
-/
import Derived.Test.YtmcehldfeppkbaaWNames
namespace Go.Proofs.Ytmcehldfeppkbaa
open Go.RowKit
set_option linter.unusedVariables false
set_option linter.unusedSimpArgs false

theorem upB_upB (c : UInt8) : upB (upB c) = upB c := by
  by_cases h : 97 ≤ (c.toNat : Int) ∧ (c.toNat : Int) ≤ 122
  · refine upB_else _ ?_
    rw [upB_small c h.1 h.2]; omega
  · rw [upB_else c h, upB_else c h]
theorem foldB_foldB (l : List UInt8) : foldB (foldB l) = foldB l := by
  simp [foldB, upB_upB, Function.comp_def]
theorem foldB_name (l : List UInt8) (h : isNameB l = true) : foldB l = l := by
  simp only [isNameB, Bool.and_eq_true] at h
  have hall := h.1.2
  rw [List.all_eq_true] at hall
  unfold foldB
  conv => rhs; rw [← List.map_id l]
  refine List.map_congr_left fun c hc => ?_
  have := hall c hc
  refine upB_else c ?_
  unfold nameB at this
  simp only [Bool.or_eq_true, decide_eq_true_eq, capB_iff, digB_iff] at this
  omega
theorem foldB_length (l : List UInt8) : (foldB l).length = l.length := by simp [foldB]

set_option maxRecDepth 100000 in
set_option maxHeartbeats 4000000 in
theorem fold_walk (s : ByteArray) (hs0 : s.size ≤ maxLen) (w : World) : Calls Try.prog 4 #[.string s] w fun e w' => e = .returned (.bool true) ∧ Below w.heap.size w w' := by
  by_cases h300 : (300 : Int) < s.size
  · unfold maxLen at hs0
    go_enter Try.func4, Try.ntmps4
    go_wp2_with fail
    refine (lives_any _).mono ?_; rintro e w' ⟨rfl, hb⟩
    go_wp2
    go_ret
    exact ⟨rfl, hb⟩
  have hs : s.size ≤ 140737488355328 := by omega
  clear hs0
  have HN : Hid (s.size = s.data.toList.length) := Array.length_toList.symm
  obtain ⟨t, ht⟩ : ∃ t, t = strB (foldB s.data.toList) := ⟨_, rfl⟩
  have hts : t.size = s.size := by rw [ht, strB_size, foldB_length]; exact HN.out.symm
  have htt : strB (foldB t.data.toList) = t := by rw [ht, strB_data, foldB_foldB]
  have hnm : isNameB s.data.toList = true → t = s := fun h => by rw [ht, foldB_name _ h]; rfl
  have hat : ∀ (k : Nat) (h : k < s.size) (h' : k < t.size), t[k]'h' = upB (s[k]'h) := fun k h h' => by
    subst ht
    show (foldB s.data.toList).toArray[k] = _
    simp [foldB]
    rfl
  have hne : ((t.size : Int) != (s.size : Int)) = false := by rw [hts]; simp
  have HT := Lib.hid ht
  have HTT := Lib.hid htt; clear htt
  have HTS := Lib.hid hts
  have HNM := Lib.hid hnm
  have HA := Lib.hid hat
  clear hnm hts ht hat
  cases hn : isNameB s.data.toList
  all_goals
    have HNN := Lib.hid hn; clear hn
    go_enter Try.func4, Try.ntmps4
    go_wp2_with fail
    refine (fold_any s hs _).mono ?_; rintro e w1 ⟨rfl, b1⟩
    rw [← HT.out]
    go_wp2_with fail
    refine (fold_any t (by rw [HTS.out]; exact hs) _).mono ?_; rintro e w2 ⟨rfl, b2⟩
    rw [HTT.out]
    have b2 := b1.trans (b2.mono b1.size); clear b1
    go_wp2_with fail
    refine (isName_any s hs _).mono ?_; rintro e w' ⟨rfl, rfl⟩
    rw [HNN.out]
    first | (have heq : (t.toList == s.toList) = true := by (rw [HNM.out HNN.out]; simp)) | skip
    go_wp2
    go_loop [4] (fun i => ∃ k : Nat, k ≤ s.size ∧ i = .int .i64 k) (fun i => s.size - (intOf i).toNat)
    case atStart => exact ⟨0, Nat.zero_le _, rfl⟩
    case round =>
      obtain ⟨k, hk, rfl⟩ := hrel
      by_cases hlt : k < s.size
      · have hkt : k < t.size := by rw [HTS.out]; exact hlt
        by_cases g : 97 ≤ (s[k].toNat : Int) ∧ (s[k].toNat : Int) ≤ 122
        · obtain ⟨g1, g2⟩ := g
          have hq : ((t[k].toNat : Int) != (s[k].toNat : Int) - 97 + 65) = false := by rw [HA.out k hlt hkt, upB_small _ g1 g2]; simp
          go_wp2
          go_round
          case rel => exact ⟨k + 1, by omega, by go_num⟩
          case measure => simp [intOf]; omega
        · have hq : ((t[k].toNat : Int) != (s[k].toNat : Int)) = false := by rw [HA.out k hlt hkt, upB_else _ g]; simp
          by_cases g1 : 97 ≤ (s[k].toNat : Int)
          · have g2 : 122 < (s[k].toNat : Int) := by omega
            clear g
            go_wp2
            go_round
            case rel => exact ⟨k + 1, by omega, by go_num⟩
            case measure => simp [intOf]; omega
          · clear g
            go_wp2
            go_round
            case rel => exact ⟨k + 1, by omega, by go_num⟩
            case measure => simp [intOf]; omega
      · go_wp2_with fail
        refine (lives_any _).mono ?_; rintro e w' ⟨rfl, hb⟩
        have hb := b2.trans (hb.mono b2.size); clear b2
        go_wp2
        go_ret
        exact ⟨rfl, hb⟩
end Go.Proofs.Ytmcehldfeppkbaa
