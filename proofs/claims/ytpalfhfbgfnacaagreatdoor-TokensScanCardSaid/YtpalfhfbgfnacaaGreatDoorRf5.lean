/-
  The contract of the reference's picture (columnsevenref03).
-/
import Derived.Test.YtpalfhfbgfnacaaGreatDoorRf4
import Derived.Test.YtpalfhfbgfnacaaGreatDoorSme
namespace Go.Proofs.YtpalfhfbgfnacaaGreatDoor
open Go.RowKit
set_option linter.unusedVariables false
set_option linter.unusedSimpArgs false

theorem picW_bool (k : Nat) (x : ByteArray) (l c : Int) (f : Bool) : picW ⟨k, x.data.toList, l, c, f⟩ = (decide (k = 1) && ((x.toList == [80, 73, 67]) || (x.toList == [80, 73, 67, 84, 85, 82, 69]))) := by
  unfold picW isWd
  rw [ByteArray.toList_eq]
  have h : ∀ y : List UInt8, decide (x.data.toList = y) = (x.data.toList == y) := fun y => by rw [Bool.eq_iff_iff]; simp
  simp only [h]
  cases decide (k = 1) <;> simp
theorem isW_bool (k : Nat) (x : ByteArray) (l c : Int) (f : Bool) : isWd [73, 83] ⟨k, x.data.toList, l, c, f⟩ = (decide (k = 1) && (x.toList == [73, 83])) := by
  unfold isWd
  rw [ByteArray.toList_eq]
  have h : ∀ y : List UInt8, decide (x.data.toList = y) = (x.data.toList == y) := fun y => by rw [Bool.eq_iff_iff]; simp
  simp only [h]
theorem kind_bool (k : Nat) : decide (k = 1) = ((k : Int) == 1) := by rw [Bool.eq_iff_iff]; simp; omega
set_option maxHeartbeats 4000000 in
set_option maxRecDepth 100000 in
theorem r3picture (v : Value) (L : List Tok) (w : World) (h : ToksAt w v L) : Calls Tryz.prog 29 #[v] w fun e w' => e = .returned (.tuple #[.bool (expPic L), .bool (endPic L)]) ∧ w = w' := by
  obtain ⟨a, cap, rfl, hcap, hlen, hcells⟩ := h
  rcases Nat.eq_zero_or_pos L.length with h0 | h0
  · have hL : L = [] := List.eq_nil_of_length_eq_zero h0
    subst hL
    clear hcells
    go_enter Tryz.func29, Tryz.ntmps29
    go_wp2
    go_returns
    exact ⟨rfl, rfl⟩
  · obtain ⟨n, hn⟩ : ∃ n, L.length = n + 1 := ⟨L.length - 1, by omega⟩
    obtain ⟨b, o, rfl, hb, hc⟩ := hcells h0
    obtain ⟨t, hg⟩ : ∃ t, L[n]? = some t := ⟨_, List.getElem?_eq_getElem (by omega)⟩
    obtain ⟨c0, c1, c2, _, _, _⟩ := hc n _ hg
    have hlast : L.getLast? = some t := by
      rw [List.getLast?_eq_getElem?, show L.length - 1 = n from by omega]; exact hg
    have HE : Hid (endPic L = picW t) := by show _ = _; unfold endPic; rw [hlast]
    have HX : Hid (expPic L = (picW t || (isWd [73, 83] t && endPic L.dropLast))) := by show _ = _; unfold expPic; rw [HE.out, hlast]
    obtain ⟨tk, tt, tl, tc, tf⟩ := t
    simp only at c0 c1 c2
    obtain ⟨x, hx⟩ : ∃ x, x = strL tt := ⟨_, rfl⟩
    have hxt : tt = x.data.toList := by rw [hx]; rfl
    rw [← hx] at c2
    rw [hxt, picW_bool, kind_bool] at HE
    rw [hxt, picW_bool, isW_bool, kind_bool] at HX
    obtain ⟨k1, hk1⟩ : ∃ k1, ((tk : Int) == 1) = k1 := ⟨_, rfl⟩
    obtain ⟨p1, hp1⟩ : ∃ p1, (x.toList == [80, 73, 67]) = p1 := ⟨_, rfl⟩
    obtain ⟨p2, hp2⟩ : ∃ p2, (x.toList == [80, 73, 67, 84, 85, 82, 69]) = p2 := ⟨_, rfl⟩
    obtain ⟨i1, hi1⟩ : ∃ i1, (x.toList == [73, 83]) = i1 := ⟨_, rfl⟩
    rw [hk1, hp1, hp2] at HE
    rw [hk1, hp1, hp2, hi1] at HX
    have HCN := Lib.hid hc
    have HLL := Lib.hid hn
    clear hx hxt hg hlast hc
    rw [hn] at hcap hlen ⊢
    clear hn h0 hcells
    rcases Nat.eq_zero_or_pos n with hn0 | hn0
    · subst hn0
      have HDL : Hid (endPic L.dropLast = false) := by
        show _ = _
        have : L.dropLast = [] := List.eq_nil_of_length_eq_zero (by rw [List.length_dropLast]; have := HLL.out; omega)
        rw [this]; rfl
      simp only [Nat.zero_mul, Nat.add_zero, Nat.zero_add] at c1 c2 hcap hlen ⊢
      cases k1 <;> cases p1 <;> cases p2 <;> cases i1
      all_goals
        go_enter Tryz.func29, Tryz.ntmps29
        go_wp2
        go_returns
        refine ⟨?_, rfl⟩
        rw [HX.out, HE.out]
        try rw [HDL.out]
        rfl
    · obtain ⟨m, rfl⟩ : ∃ m, n = m + 1 := ⟨n - 1, by omega⟩
      obtain ⟨t, hg⟩ : ∃ t, L[m]? = some t := ⟨_, List.getElem?_eq_getElem (by have := HLL.out; omega)⟩
      obtain ⟨_, d1, d2, _, _, _⟩ := HCN.out m _ hg
      have HDL : Hid (endPic L.dropLast = picW t) := by
        show _ = _
        unfold endPic
        have : L.dropLast.getLast? = some t := by
          have hl := HLL.out
          rw [List.getLast?_eq_getElem?, List.length_dropLast, show L.length - 1 - 1 = m from by omega, List.getElem?_dropLast, if_pos (by omega)]
          exact hg
        rw [this]
      obtain ⟨sk, st, sl, sc, sf⟩ := t
      simp only at d1 d2
      obtain ⟨y, hy⟩ : ∃ y, y = strL st := ⟨_, rfl⟩
      have hyt : st = y.data.toList := by rw [hy]; rfl
      rw [← hy] at d2
      rw [hyt, picW_bool, kind_bool] at HDL
      obtain ⟨m1, hm1⟩ : ∃ m1, ((sk : Int) == 1) = m1 := ⟨_, rfl⟩
      obtain ⟨q1, hq1⟩ : ∃ q1, (y.toList == [80, 73, 67]) = q1 := ⟨_, rfl⟩
      obtain ⟨q2, hq2⟩ : ∃ q2, (y.toList == [80, 73, 67, 84, 85, 82, 69]) = q2 := ⟨_, rfl⟩
      rw [hm1, hq1, hq2] at HDL
      rw [HDL.out] at HX
      clear hy hyt hg HDL HCN HLL hn0
      cases k1
      · clear hp1 hp2 hi1 hm1 hq1 hq2
        go_enter Tryz.func29, Tryz.ntmps29
        go_wp2
        go_returns
        refine ⟨?_, rfl⟩
        rw [HX.out, HE.out]
        rfl
      · cases p1
        · cases p2
          · cases i1
            · clear hm1 hq1 hq2
              go_enter Tryz.func29, Tryz.ntmps29
              go_wp2
              go_returns
              refine ⟨?_, rfl⟩
              rw [HX.out, HE.out]
              rfl
            · cases m1 <;> cases q1 <;> cases q2
              all_goals
                go_enter Tryz.func29, Tryz.ntmps29
                go_wp2
                go_returns
                refine ⟨?_, rfl⟩
                rw [HX.out, HE.out]
                rfl
          · clear hi1 hm1 hq1 hq2
            go_enter Tryz.func29, Tryz.ntmps29
            go_wp2
            go_returns
            refine ⟨?_, rfl⟩
            rw [HX.out, HE.out]
            rfl
        · clear hp2 hi1 hm1 hq1 hq2
          go_enter Tryz.func29, Tryz.ntmps29
          go_wp2
          go_returns
          refine ⟨?_, rfl⟩
          rw [HX.out, HE.out]
          rfl
end Go.Proofs.YtpalfhfbgfnacaaGreatDoor
