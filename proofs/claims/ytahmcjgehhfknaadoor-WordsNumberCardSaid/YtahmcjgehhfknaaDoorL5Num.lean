/-
  The law WordsNumber (columnsevenlaw05), walked.
-/
import Derived.Test.YtahmcjgehhfknaaDoorWd11
import Derived.Test.YtahmcjgehhfknaaDoorWd12
namespace Go.Proofs.YtahmcjgehhfknaaDoor
open Go.RowKit
set_option linter.unusedVariables false
set_option linter.unusedSimpArgs false

def segL (l : List UInt8) (i k : Nat) : List UInt8 := (l.take k).drop i
theorem segL_start (l : List UInt8) (i : Nat) : segL l i i = [] := by
  unfold segL; apply List.drop_eq_nil_of_le; simp; omega
theorem segL_succ {l : List UInt8} {i k : Nat} {c : UInt8} (hik : i ≤ k) (h : l[k]? = some c) : segL l i (k + 1) = segL l i k ++ [c] := by
  unfold segL
  have hk : k < l.length := by
    rcases Nat.lt_or_ge k l.length with hk | hk
    · exact hk
    · rw [List.getElem?_eq_none hk] at h; cases h
  rw [List.take_add_one, h, List.drop_append_of_le_length (by simp; omega)]
  rfl
theorem segL_full {l : List UInt8} {i k : Nat} (hk : k = l.length) : segL l i k = l.drop i := by
  unfold segL; rw [hk, List.take_length]
theorem countP_le' (l : List UInt8) (i k : Nat) : numR (segL l i k) ≤ l.length ∧ perR (segL l i k) ≤ l.length := by
  have h : (segL l i k).length ≤ l.length := by unfold segL; simp; omega
  exact ⟨Nat.le_trans List.countP_le_length h, Nat.le_trans List.countP_le_length h⟩
theorem lit_num_wide (s : ByteArray) (hs : s.size ≤ 1000000) (hb : badB s.data.toList = false) (hn : 18 < (digsB s.data.toList).length) : LitBad 2 s 5 :=
  ⟨fun W hm => c_lit_num_err s 0 0 false 5 W fun W' hb' => c_number_wide s hs hb hn W' (hm.below hb')⟩
theorem lit_num_ok (s : ByteArray) (hs : s.size ≤ 1000000) (hb : badB s.data.toList = false) (hn : (digsB s.data.toList).length ≤ 18) :
    LitOK 2 s 4 (strB (picB (signB s.data.toList) (cutB s.data.toList).1 (cutB s.data.toList).2.1)) (digsB s.data.toList).length (cutB s.data.toList).2.1.length (!(signB s.data.toList).isEmpty) (digsB s.data.toList).length (bytesB (signB s.data.toList) (digsB s.data.toList)) :=
  lit_num s _ _ _ _ _ _ hs hb hn rfl rfl rfl rfl rfl rfl

/-- The four ways in which a text may begin. -/
theorem head_cases (s : ByteArray) : ∃ i, i ≤ s.size ∧ restB s.data.toList = s.data.toList.drop i ∧
    ((i = 0 ∧ s.toList = []) ∨ (∃ h : 0 < s.size, s.toList.isEmpty = false ∧ ((i = 1 ∧ (s[0].toNat : Int) = 43) ∨ (i = 1 ∧ (s[0].toNat : Int) ≠ 43 ∧ (s[0].toNat : Int) = 45) ∨ (i = 0 ∧ (s[0].toNat : Int) ≠ 43 ∧ (s[0].toNat : Int) ≠ 45)))) := by
  rcases emp_cases s with ⟨h1, h2⟩ | ⟨h1, h2⟩
  · exact ⟨0, Nat.zero_le _, by rw [h1]; rfl, .inl ⟨rfl, h2⟩⟩
  · have hpos : 0 < s.size := by rw [Lib.size_eq]; exact List.length_pos_iff.2 h1
    have hx : s.data.toList[0]? = some s[0] := Lib.data_getElem? s 0 hpos
    obtain ⟨l, hl⟩ : ∃ l, s.data.toList = s[0] :: l := by
      cases h : s.data.toList with
      | nil => exact absurd h h1
      | cons y l => rw [h] at hx; injection hx with hx; exact ⟨l, by rw [hx]⟩
    have hsg : signedB s.data.toList = (decide (s[0] = 43) || decide (s[0] = 45)) := by
      rw [hl]
      unfold signedB Lib.hasPrefix
      simp only [List.isPrefixOf, Bool.and_true]
      rw [show ((43 : UInt8) == s[0]) = decide (s[0] = 43) from by rw [Bool.eq_iff_iff]; simp; exact eq_comm, show ((45 : UInt8) == s[0]) = decide (s[0] = 45) from by rw [Bool.eq_iff_iff]; simp; exact eq_comm]
    by_cases h43 : s[0] = 43
    · exact ⟨1, hpos, by unfold restB; rw [hsg, h43]; rfl, .inr ⟨hpos, h2, .inl ⟨rfl, by rw [h43]; rfl⟩⟩⟩
    · have n43 : (s[0].toNat : Int) ≠ 43 := fun e => h43 (u8_eq (by have : s[0].toNat = 43 := by omega
                                                                    rw [this]; rfl))
      by_cases h45 : s[0] = 45
      · exact ⟨1, hpos, by unfold restB; rw [hsg, h45]; rfl, .inr ⟨hpos, h2, .inr (.inl ⟨rfl, n43, by rw [h45]; rfl⟩)⟩⟩
      · have n45 : (s[0].toNat : Int) ≠ 45 := fun e => h45 (u8_eq (by have : s[0].toNat = 45 := by omega
                                                                      rw [this]; rfl))
        refine ⟨0, Nat.zero_le _, ?_, .inr ⟨hpos, h2, .inr (.inr ⟨rfl, n43, n45⟩)⟩⟩
        unfold restB
        rw [hsg, if_neg (by simp [h43, h45])]
        rfl

set_option maxRecDepth 100000 in
set_option maxHeartbeats 8000000 in
theorem l5number (s : ByteArray) (hs : s.size ≤ maxLen) (w : World) (hm : MaxLenAt w) (hT : SpTab w) :
    Calls Tryd.prog 6 #[.string s] w fun e w' => e = .returned (.bool true) ∧ Below w.heap.size w w' := by
  have HMX := Lib.hid hm
  have HTX := Lib.hid hT
  clear hm hT
  by_cases h60 : (60 : Int) < (s.size : Int)
  · go_enter Tryd.func6, Tryd.ntmps6
    go_wp2_with (go_at_call 9; refine (c_lives _ HMX.out HTX.out).mono ?_; rintro e w2 ⟨rfl, hb2⟩)
    go_ret
    exact ⟨rfl, hb2⟩
  have hs60 : (s.size : Int) ≤ 60 := by omega
  clear hs h60
  have HLN : Hid (s.data.toList.length = s.size) := (Lib.size_eq s).symm
  obtain ⟨i, hi, hrest, hcase⟩ := head_cases s
  have HR := Lib.hid hrest
  clear hrest
  rcases hcase with ⟨rfl, he⟩ | ⟨hpos, he, ⟨rfl, h43⟩ | ⟨rfl, h43, h45⟩ | ⟨rfl, h43, h45⟩⟩
  · skip
    go_enter Tryd.func6, Tryd.ntmps6
    go_wp2
    go_loopw [4, 5, 6, 7, 8] (fun s4 s5 s6 s7 s8 wr => wr = w ∧ ∃ k : Nat, 0 ≤ k ∧ k ≤ s.size ∧ s8 = .int .i64 k ∧ s4 = .int .i64 (numR (segL s.data.toList 0 k) : Nat) ∧ s5 = .int .i64 (perR (segL s.data.toList 0 k) : Nat) ∧
        s6 = .int .u8 (lastR (segL s.data.toList 0 k)).toNat ∧ s7 = .bool (rightR (segL s.data.toList 0 k))) (fun _ _ _ _ s8 _ => s.size - (iOf s8).toNat)
    case atStart => exact ⟨rfl, 0, Nat.le_refl _, hi, rfl, by rw [segL_start]; rfl, by rw [segL_start]; rfl, by rw [segL_start]; rfl, by rw [segL_start]; rfl⟩
    case round =>
      obtain ⟨rfl, k, hik, hk, rfl, rfl, rfl, rfl, rfl⟩ := hrel
      obtain ⟨n, hn⟩ : ∃ n, n = numR (segL s.data.toList 0 k) := ⟨_, rfl⟩
      obtain ⟨pp, hpp⟩ : ∃ n, n = perR (segL s.data.toList 0 k) := ⟨_, rfl⟩
      obtain ⟨lb, hlb⟩ : ∃ n, n = lastR (segL s.data.toList 0 k) := ⟨_, rfl⟩
      obtain ⟨rt, hrt⟩ : ∃ n, n = rightR (segL s.data.toList 0 k) := ⟨_, rfl⟩
      have hle := countP_le' s.data.toList 0 k
      rw [HLN.out, ← hn, ← hpp] at hle
      obtain ⟨hn60, hp60⟩ := hle
      rw [← hn, ← hpp, ← hlb, ← hrt]
      have HN := Lib.hid hn
      have HP := Lib.hid hpp
      have HLB := Lib.hid hlb
      have HRT := Lib.hid hrt
      clear hn hpp hlb hrt
      by_cases hkn : k < s.size
      · have hkz : (k : Int) < (s.size : Int) := by omega
        obtain ⟨c, hc⟩ : ∃ c : UInt8, s[k] = c := ⟨_, rfl⟩
        have hcl : s.data.toList[k]? = some c := by rw [← hc]; exact Lib.data_getElem? s k hkn
        have HC := Lib.hid hcl
        clear hcl
        have hclt := u8lt c
        by_cases hd : digB c = true
        · have h1 : 48 ≤ (c.toNat : Int) := by simp [digB] at hd; omega
          have h2 : (c.toNat : Int) ≤ 57 := by simp [digB] at hd; omega
          have hx : decide (c.toNat = 46) = false := by simp; omega
          have HX : Hid (numR (segL s.data.toList 0 (k + 1)) = n + 1 ∧ perR (segL s.data.toList 0 (k + 1)) = pp ∧ lastR (segL s.data.toList 0 (k + 1)) = c ∧ rightR (segL s.data.toList 0 (k + 1)) = rt) := Lib.hid (by
            rw [segL_succ hik HC.out, numR_snoc, perR_snoc, lastR_snoc, rightR_snoc, ← HN.out, ← HP.out, ← HRT.out, hd, hx]; simp [okR, hd])
          clear hd hx
          go_wp2
          go_roundw
          case rel => exact ⟨by first | trivial | rfl, k + 1, by omega, by omega, by go_num, by rw [HX.out.1]; go_num, by rw [HX.out.2.1], by rw [HX.out.2.2.1], by rw [HX.out.2.2.2]⟩
          case measure => simp [iOf]; omega
        · by_cases h46 : c.toNat = 46
          · have h1 : (c.toNat : Int) = 46 := by omega
            have hd' : digB c = false := by simpa using hd
            have HX : Hid (numR (segL s.data.toList 0 (k + 1)) = n ∧ perR (segL s.data.toList 0 (k + 1)) = pp + 1 ∧ lastR (segL s.data.toList 0 (k + 1)) = c ∧ rightR (segL s.data.toList 0 (k + 1)) = rt) := Lib.hid (by
              rw [segL_succ hik HC.out, numR_snoc, perR_snoc, lastR_snoc, rightR_snoc, ← HN.out, ← HP.out, ← HRT.out, hd']; simp [okR, h46])
            clear hd hd' h46
            go_wp2
            go_roundw
            case rel => exact ⟨by first | trivial | rfl, k + 1, by omega, by omega, by go_num, by rw [HX.out.1], by rw [HX.out.2.1]; go_num, by rw [HX.out.2.2.1]; first | rfl | (rw [h1]), by rw [HX.out.2.2.2]⟩
            case measure => simp [iOf]; omega
          · have hd' : digB c = false := by simpa using hd
            have hnd : (decide (48 ≤ (c.toNat : Int)) && decide ((c.toNat : Int) ≤ 57)) = false := by
              unfold digB at hd'
              rw [← hd']
              congr 1 <;> simp <;> omega
            have hne : ¬ (c.toNat : Int) = 46 := by omega
            have hne2 : ((c.toNat : Int) == 46) = false := by simpa using hne
            have HX : Hid (numR (segL s.data.toList 0 (k + 1)) = n ∧ perR (segL s.data.toList 0 (k + 1)) = pp ∧ lastR (segL s.data.toList 0 (k + 1)) = c ∧ rightR (segL s.data.toList 0 (k + 1)) = false) := Lib.hid (by
              rw [segL_succ hik HC.out, numR_snoc, perR_snoc, lastR_snoc, rightR_snoc, ← HN.out, ← HP.out, ← HRT.out, hd']; simp [okR, h46, hd'])
            have hcase : (c.toNat : Int) < 48 ∨ 57 < (c.toNat : Int) := by simp [digB] at hd; omega
            clear hd hd' h46 hnd
            rcases hcase with hcs | hcs
            · go_wp2
              go_roundw
              case rel => exact ⟨by first | trivial | rfl, k + 1, by omega, by omega, by go_num, by rw [HX.out.1], by rw [HX.out.2.1], by rw [HX.out.2.2.1], by rw [HX.out.2.2.2]⟩
              case measure => simp [iOf]; omega
            · have hcs2 : 48 ≤ (c.toNat : Int) := by omega
              go_wp2
              go_roundw
              case rel => exact ⟨by first | trivial | rfl, k + 1, by omega, by omega, by go_num, by rw [HX.out.1], by rw [HX.out.2.1], by rw [HX.out.2.2.1], by rw [HX.out.2.2.2]⟩
              case measure => simp [iOf]; omega
      · obtain rfl : k = s.size := by omega
        have hfull : segL s.data.toList 0 s.size = restB s.data.toList := by rw [segL_full HLN.out.symm, HR.out]
        rw [hfull] at HN HP HLB HRT
        have hsc := bad_scan (restB s.data.toList)
        rw [← HN.out, ← HP.out, ← HLB.out, ← HRT.out] at hsc
        have HSC := Lib.hid hsc
        clear hsc hfull HN HP HLB HRT
        have hs6 : s.size ≤ 1000000 := by omega
        rcases HSC.out with ⟨hbad, hw⟩ | ⟨hok, hrt, hn0, hp1, hl46, hlen⟩
        · have HLIT := Lib.hid (lit_num_bad s hs6 hbad)
          have HW := Lib.hid hw
          clear hbad hw HSC
          cases hrt : rt
          · clear hrt
            go_wp2_with (first
              | (go_at_call 17; refine (HLIT.out.out _ HMX.out).mono ?_; rintro e w2 ⟨rfl, hb2⟩; dsimp only [zeroF, fdV]; have HB2 := Lib.hid hb2; clear hb2)
              | (go_at_call 9; refine (c_lives _ (HMX.out.below (HB2.out.alloc HB2.out.size _)) (HTX.out.below (HB2.out.alloc HB2.out.size _))).mono ?_; rintro e w3 ⟨rfl, hb3⟩; have HB3 := Lib.hid ((HB2.out.alloc HB2.out.size _).trans (hb3.mono (HB2.out.alloc HB2.out.size _).size)); clear hb3))
            go_ret
            exact ⟨rfl, HB3.out⟩
          · rw [hrt] at HW
            clear hrt
            by_cases h0 : n = 0
            · subst h0
              go_wp2_with (first
                | (go_at_call 17; refine (HLIT.out.out _ HMX.out).mono ?_; rintro e w2 ⟨rfl, hb2⟩; dsimp only [zeroF, fdV]; have HB2 := Lib.hid hb2; clear hb2)
                | (go_at_call 9; refine (c_lives _ (HMX.out.below (HB2.out.alloc HB2.out.size _)) (HTX.out.below (HB2.out.alloc HB2.out.size _))).mono ?_; rintro e w3 ⟨rfl, hb3⟩; have HB3 := Lib.hid ((HB2.out.alloc HB2.out.size _).trans (hb3.mono (HB2.out.alloc HB2.out.size _).size)); clear hb3))
              go_ret
              exact ⟨rfl, HB3.out⟩
            · have hn0 : ¬ ((n : Int) = 0) := by omega
              have hn0b : ((n : Int) == 0) = false := by simpa using h0
              by_cases h1 : 1 < pp
              · have hp1 : (1 : Int) < (pp : Int) := by omega
                go_wp2_with (first
                  | (go_at_call 17; refine (HLIT.out.out _ HMX.out).mono ?_; rintro e w2 ⟨rfl, hb2⟩; dsimp only [zeroF, fdV]; have HB2 := Lib.hid hb2; clear hb2)
                  | (go_at_call 9; refine (c_lives _ (HMX.out.below (HB2.out.alloc HB2.out.size _)) (HTX.out.below (HB2.out.alloc HB2.out.size _))).mono ?_; rintro e w3 ⟨rfl, hb3⟩; have HB3 := Lib.hid ((HB2.out.alloc HB2.out.size _).trans (hb3.mono (HB2.out.alloc HB2.out.size _).size)); clear hb3))
                go_ret
                exact ⟨rfl, HB3.out⟩
              · have hp1 : ¬ (1 : Int) < (pp : Int) := by omega
                have hl : (lb.toNat : Int) = 46 := by
                  rcases HW.out with h | h | h | h
                  · cases h
                  · exact absurd h h0
                  · exact absurd h h1
                  · omega
                go_wp2_with (first
                  | (go_at_call 17; refine (HLIT.out.out _ HMX.out).mono ?_; rintro e w2 ⟨rfl, hb2⟩; dsimp only [zeroF, fdV]; have HB2 := Lib.hid hb2; clear hb2)
                  | (go_at_call 9; refine (c_lives _ (HMX.out.below (HB2.out.alloc HB2.out.size _)) (HTX.out.below (HB2.out.alloc HB2.out.size _))).mono ?_; rintro e w3 ⟨rfl, hb3⟩; have HB3 := Lib.hid ((HB2.out.alloc HB2.out.size _).trans (hb3.mono (HB2.out.alloc HB2.out.size _).size)); clear hb3))
                go_ret
                exact ⟨rfl, HB3.out⟩
        · have hn0z : ¬ ((n : Int) = 0) := by omega
          have hn0b : ((n : Int) == 0) = false := by simpa using hn0
          have hp1z : ¬ (1 : Int) < (pp : Int) := by omega
          have hlz : ¬ ((lb.toNat : Int) = 46) := by omega
          have hlb : ((lb.toNat : Int) == 46) = false := by simpa using hlz
          subst hrt
          by_cases h18 : 18 < n
          · have h18z : (18 : Int) < (n : Int) := by omega
            have HLIT := Lib.hid (lit_num_wide s hs6 hok (by show 18 < (digR (restB s.data.toList)).length; rw [hlen]; exact h18))
            clear hok hlen HSC hn0 hp1 hl46 h18
            go_wp2_with (first
              | (go_at_call 17; refine (HLIT.out.out _ HMX.out).mono ?_; rintro e w2 ⟨rfl, hb2⟩; dsimp only [zeroF, fdV]; have HB2 := Lib.hid hb2; clear hb2)
              | (go_at_call 9; refine (c_lives _ (HMX.out.below (HB2.out.alloc HB2.out.size _)) (HTX.out.below (HB2.out.alloc HB2.out.size _))).mono ?_; rintro e w3 ⟨rfl, hb3⟩; have HB3 := Lib.hid ((HB2.out.alloc HB2.out.size _).trans (hb3.mono (HB2.out.alloc HB2.out.size _).size)); clear hb3))
            go_ret
            exact ⟨rfl, HB3.out⟩
          · have h18z : ¬ (18 : Int) < (n : Int) := by omega
            have hpos2 : (0 : Int) < (n : Int) := by omega
            have h := lit_num_ok s hs6 hok (by show (digR (restB s.data.toList)).length ≤ 18; rw [hlen]; omega)
            rw [show (digsB s.data.toList).length = n from hlen] at h
            obtain ⟨P, kk, sg, bs, h⟩ : ∃ P kk sg bs, LitOK 2 s 4 P n kk sg n bs := ⟨_, _, _, _, h⟩
            have HLIT := Lib.hid h
            clear hok hlen HSC hn0 hp1 hl46 h18 h
            go_wp2_with (first
              | (go_at_call 17; refine (HLIT.out.out _ HMX.out).mono ?_; rintro e w2 ⟨g, rfl, hrow⟩; dsimp only [fdV]; have HB2 := Lib.hid hrow.bel; clear hrow)
              | (go_at_call 9; refine (c_lives _ (HMX.out.below (HB2.out.alloc HB2.out.size _)) (HTX.out.below (HB2.out.alloc HB2.out.size _))).mono ?_; rintro e w3 ⟨rfl, hb3⟩; have HB3 := Lib.hid ((HB2.out.alloc HB2.out.size _).trans (hb3.mono (HB2.out.alloc HB2.out.size _).size)); clear hb3))
            go_ret
            exact ⟨rfl, HB3.out⟩
  · skip
    go_enter Tryd.func6, Tryd.ntmps6
    go_wp2
    go_loopw [4, 5, 6, 7, 8] (fun s4 s5 s6 s7 s8 wr => wr = w ∧ ∃ k : Nat, 1 ≤ k ∧ k ≤ s.size ∧ s8 = .int .i64 k ∧ s4 = .int .i64 (numR (segL s.data.toList 1 k) : Nat) ∧ s5 = .int .i64 (perR (segL s.data.toList 1 k) : Nat) ∧
        s6 = .int .u8 (lastR (segL s.data.toList 1 k)).toNat ∧ s7 = .bool (rightR (segL s.data.toList 1 k))) (fun _ _ _ _ s8 _ => s.size - (iOf s8).toNat)
    case atStart => exact ⟨rfl, 1, Nat.le_refl _, hi, rfl, by rw [segL_start]; rfl, by rw [segL_start]; rfl, by rw [segL_start]; rfl, by rw [segL_start]; rfl⟩
    case round =>
      obtain ⟨rfl, k, hik, hk, rfl, rfl, rfl, rfl, rfl⟩ := hrel
      obtain ⟨n, hn⟩ : ∃ n, n = numR (segL s.data.toList 1 k) := ⟨_, rfl⟩
      obtain ⟨pp, hpp⟩ : ∃ n, n = perR (segL s.data.toList 1 k) := ⟨_, rfl⟩
      obtain ⟨lb, hlb⟩ : ∃ n, n = lastR (segL s.data.toList 1 k) := ⟨_, rfl⟩
      obtain ⟨rt, hrt⟩ : ∃ n, n = rightR (segL s.data.toList 1 k) := ⟨_, rfl⟩
      have hle := countP_le' s.data.toList 1 k
      rw [HLN.out, ← hn, ← hpp] at hle
      obtain ⟨hn60, hp60⟩ := hle
      rw [← hn, ← hpp, ← hlb, ← hrt]
      have HN := Lib.hid hn
      have HP := Lib.hid hpp
      have HLB := Lib.hid hlb
      have HRT := Lib.hid hrt
      clear hn hpp hlb hrt
      by_cases hkn : k < s.size
      · have hkz : (k : Int) < (s.size : Int) := by omega
        obtain ⟨c, hc⟩ : ∃ c : UInt8, s[k] = c := ⟨_, rfl⟩
        have hcl : s.data.toList[k]? = some c := by rw [← hc]; exact Lib.data_getElem? s k hkn
        have HC := Lib.hid hcl
        clear hcl
        have hclt := u8lt c
        by_cases hd : digB c = true
        · have h1 : 48 ≤ (c.toNat : Int) := by simp [digB] at hd; omega
          have h2 : (c.toNat : Int) ≤ 57 := by simp [digB] at hd; omega
          have hx : decide (c.toNat = 46) = false := by simp; omega
          have HX : Hid (numR (segL s.data.toList 1 (k + 1)) = n + 1 ∧ perR (segL s.data.toList 1 (k + 1)) = pp ∧ lastR (segL s.data.toList 1 (k + 1)) = c ∧ rightR (segL s.data.toList 1 (k + 1)) = rt) := Lib.hid (by
            rw [segL_succ hik HC.out, numR_snoc, perR_snoc, lastR_snoc, rightR_snoc, ← HN.out, ← HP.out, ← HRT.out, hd, hx]; simp [okR, hd])
          clear hd hx
          go_wp2
          go_roundw
          case rel => exact ⟨by first | trivial | rfl, k + 1, by omega, by omega, by go_num, by rw [HX.out.1]; go_num, by rw [HX.out.2.1], by rw [HX.out.2.2.1], by rw [HX.out.2.2.2]⟩
          case measure => simp [iOf]; omega
        · by_cases h46 : c.toNat = 46
          · have h1 : (c.toNat : Int) = 46 := by omega
            have hd' : digB c = false := by simpa using hd
            have HX : Hid (numR (segL s.data.toList 1 (k + 1)) = n ∧ perR (segL s.data.toList 1 (k + 1)) = pp + 1 ∧ lastR (segL s.data.toList 1 (k + 1)) = c ∧ rightR (segL s.data.toList 1 (k + 1)) = rt) := Lib.hid (by
              rw [segL_succ hik HC.out, numR_snoc, perR_snoc, lastR_snoc, rightR_snoc, ← HN.out, ← HP.out, ← HRT.out, hd']; simp [okR, h46])
            clear hd hd' h46
            go_wp2
            go_roundw
            case rel => exact ⟨by first | trivial | rfl, k + 1, by omega, by omega, by go_num, by rw [HX.out.1], by rw [HX.out.2.1]; go_num, by rw [HX.out.2.2.1]; first | rfl | (rw [h1]), by rw [HX.out.2.2.2]⟩
            case measure => simp [iOf]; omega
          · have hd' : digB c = false := by simpa using hd
            have hnd : (decide (48 ≤ (c.toNat : Int)) && decide ((c.toNat : Int) ≤ 57)) = false := by
              unfold digB at hd'
              rw [← hd']
              congr 1 <;> simp <;> omega
            have hne : ¬ (c.toNat : Int) = 46 := by omega
            have hne2 : ((c.toNat : Int) == 46) = false := by simpa using hne
            have HX : Hid (numR (segL s.data.toList 1 (k + 1)) = n ∧ perR (segL s.data.toList 1 (k + 1)) = pp ∧ lastR (segL s.data.toList 1 (k + 1)) = c ∧ rightR (segL s.data.toList 1 (k + 1)) = false) := Lib.hid (by
              rw [segL_succ hik HC.out, numR_snoc, perR_snoc, lastR_snoc, rightR_snoc, ← HN.out, ← HP.out, ← HRT.out, hd']; simp [okR, h46, hd'])
            have hcase : (c.toNat : Int) < 48 ∨ 57 < (c.toNat : Int) := by simp [digB] at hd; omega
            clear hd hd' h46 hnd
            rcases hcase with hcs | hcs
            · go_wp2
              go_roundw
              case rel => exact ⟨by first | trivial | rfl, k + 1, by omega, by omega, by go_num, by rw [HX.out.1], by rw [HX.out.2.1], by rw [HX.out.2.2.1], by rw [HX.out.2.2.2]⟩
              case measure => simp [iOf]; omega
            · have hcs2 : 48 ≤ (c.toNat : Int) := by omega
              go_wp2
              go_roundw
              case rel => exact ⟨by first | trivial | rfl, k + 1, by omega, by omega, by go_num, by rw [HX.out.1], by rw [HX.out.2.1], by rw [HX.out.2.2.1], by rw [HX.out.2.2.2]⟩
              case measure => simp [iOf]; omega
      · obtain rfl : k = s.size := by omega
        have hfull : segL s.data.toList 1 s.size = restB s.data.toList := by rw [segL_full HLN.out.symm, HR.out]
        rw [hfull] at HN HP HLB HRT
        have hsc := bad_scan (restB s.data.toList)
        rw [← HN.out, ← HP.out, ← HLB.out, ← HRT.out] at hsc
        have HSC := Lib.hid hsc
        clear hsc hfull HN HP HLB HRT
        have hs6 : s.size ≤ 1000000 := by omega
        rcases HSC.out with ⟨hbad, hw⟩ | ⟨hok, hrt, hn0, hp1, hl46, hlen⟩
        · have HLIT := Lib.hid (lit_num_bad s hs6 hbad)
          have HW := Lib.hid hw
          clear hbad hw HSC
          cases hrt : rt
          · clear hrt
            go_wp2_with (first
              | (go_at_call 17; refine (HLIT.out.out _ HMX.out).mono ?_; rintro e w2 ⟨rfl, hb2⟩; dsimp only [zeroF, fdV]; have HB2 := Lib.hid hb2; clear hb2)
              | (go_at_call 9; refine (c_lives _ (HMX.out.below (HB2.out.alloc HB2.out.size _)) (HTX.out.below (HB2.out.alloc HB2.out.size _))).mono ?_; rintro e w3 ⟨rfl, hb3⟩; have HB3 := Lib.hid ((HB2.out.alloc HB2.out.size _).trans (hb3.mono (HB2.out.alloc HB2.out.size _).size)); clear hb3))
            go_ret
            exact ⟨rfl, HB3.out⟩
          · rw [hrt] at HW
            clear hrt
            by_cases h0 : n = 0
            · subst h0
              go_wp2_with (first
                | (go_at_call 17; refine (HLIT.out.out _ HMX.out).mono ?_; rintro e w2 ⟨rfl, hb2⟩; dsimp only [zeroF, fdV]; have HB2 := Lib.hid hb2; clear hb2)
                | (go_at_call 9; refine (c_lives _ (HMX.out.below (HB2.out.alloc HB2.out.size _)) (HTX.out.below (HB2.out.alloc HB2.out.size _))).mono ?_; rintro e w3 ⟨rfl, hb3⟩; have HB3 := Lib.hid ((HB2.out.alloc HB2.out.size _).trans (hb3.mono (HB2.out.alloc HB2.out.size _).size)); clear hb3))
              go_ret
              exact ⟨rfl, HB3.out⟩
            · have hn0 : ¬ ((n : Int) = 0) := by omega
              have hn0b : ((n : Int) == 0) = false := by simpa using h0
              by_cases h1 : 1 < pp
              · have hp1 : (1 : Int) < (pp : Int) := by omega
                go_wp2_with (first
                  | (go_at_call 17; refine (HLIT.out.out _ HMX.out).mono ?_; rintro e w2 ⟨rfl, hb2⟩; dsimp only [zeroF, fdV]; have HB2 := Lib.hid hb2; clear hb2)
                  | (go_at_call 9; refine (c_lives _ (HMX.out.below (HB2.out.alloc HB2.out.size _)) (HTX.out.below (HB2.out.alloc HB2.out.size _))).mono ?_; rintro e w3 ⟨rfl, hb3⟩; have HB3 := Lib.hid ((HB2.out.alloc HB2.out.size _).trans (hb3.mono (HB2.out.alloc HB2.out.size _).size)); clear hb3))
                go_ret
                exact ⟨rfl, HB3.out⟩
              · have hp1 : ¬ (1 : Int) < (pp : Int) := by omega
                have hl : (lb.toNat : Int) = 46 := by
                  rcases HW.out with h | h | h | h
                  · cases h
                  · exact absurd h h0
                  · exact absurd h h1
                  · omega
                go_wp2_with (first
                  | (go_at_call 17; refine (HLIT.out.out _ HMX.out).mono ?_; rintro e w2 ⟨rfl, hb2⟩; dsimp only [zeroF, fdV]; have HB2 := Lib.hid hb2; clear hb2)
                  | (go_at_call 9; refine (c_lives _ (HMX.out.below (HB2.out.alloc HB2.out.size _)) (HTX.out.below (HB2.out.alloc HB2.out.size _))).mono ?_; rintro e w3 ⟨rfl, hb3⟩; have HB3 := Lib.hid ((HB2.out.alloc HB2.out.size _).trans (hb3.mono (HB2.out.alloc HB2.out.size _).size)); clear hb3))
                go_ret
                exact ⟨rfl, HB3.out⟩
        · have hn0z : ¬ ((n : Int) = 0) := by omega
          have hn0b : ((n : Int) == 0) = false := by simpa using hn0
          have hp1z : ¬ (1 : Int) < (pp : Int) := by omega
          have hlz : ¬ ((lb.toNat : Int) = 46) := by omega
          have hlb : ((lb.toNat : Int) == 46) = false := by simpa using hlz
          subst hrt
          by_cases h18 : 18 < n
          · have h18z : (18 : Int) < (n : Int) := by omega
            have HLIT := Lib.hid (lit_num_wide s hs6 hok (by show 18 < (digR (restB s.data.toList)).length; rw [hlen]; exact h18))
            clear hok hlen HSC hn0 hp1 hl46 h18
            go_wp2_with (first
              | (go_at_call 17; refine (HLIT.out.out _ HMX.out).mono ?_; rintro e w2 ⟨rfl, hb2⟩; dsimp only [zeroF, fdV]; have HB2 := Lib.hid hb2; clear hb2)
              | (go_at_call 9; refine (c_lives _ (HMX.out.below (HB2.out.alloc HB2.out.size _)) (HTX.out.below (HB2.out.alloc HB2.out.size _))).mono ?_; rintro e w3 ⟨rfl, hb3⟩; have HB3 := Lib.hid ((HB2.out.alloc HB2.out.size _).trans (hb3.mono (HB2.out.alloc HB2.out.size _).size)); clear hb3))
            go_ret
            exact ⟨rfl, HB3.out⟩
          · have h18z : ¬ (18 : Int) < (n : Int) := by omega
            have hpos2 : (0 : Int) < (n : Int) := by omega
            have h := lit_num_ok s hs6 hok (by show (digR (restB s.data.toList)).length ≤ 18; rw [hlen]; omega)
            rw [show (digsB s.data.toList).length = n from hlen] at h
            obtain ⟨P, kk, sg, bs, h⟩ : ∃ P kk sg bs, LitOK 2 s 4 P n kk sg n bs := ⟨_, _, _, _, h⟩
            have HLIT := Lib.hid h
            clear hok hlen HSC hn0 hp1 hl46 h18 h
            go_wp2_with (first
              | (go_at_call 17; refine (HLIT.out.out _ HMX.out).mono ?_; rintro e w2 ⟨g, rfl, hrow⟩; dsimp only [fdV]; have HB2 := Lib.hid hrow.bel; clear hrow)
              | (go_at_call 9; refine (c_lives _ (HMX.out.below (HB2.out.alloc HB2.out.size _)) (HTX.out.below (HB2.out.alloc HB2.out.size _))).mono ?_; rintro e w3 ⟨rfl, hb3⟩; have HB3 := Lib.hid ((HB2.out.alloc HB2.out.size _).trans (hb3.mono (HB2.out.alloc HB2.out.size _).size)); clear hb3))
            go_ret
            exact ⟨rfl, HB3.out⟩
  · skip
    have y43 : ((s[0].toNat : Int) == 43) = false := by simpa using h43
    go_enter Tryd.func6, Tryd.ntmps6
    go_wp2
    go_loopw [4, 5, 6, 7, 8] (fun s4 s5 s6 s7 s8 wr => wr = w ∧ ∃ k : Nat, 1 ≤ k ∧ k ≤ s.size ∧ s8 = .int .i64 k ∧ s4 = .int .i64 (numR (segL s.data.toList 1 k) : Nat) ∧ s5 = .int .i64 (perR (segL s.data.toList 1 k) : Nat) ∧
        s6 = .int .u8 (lastR (segL s.data.toList 1 k)).toNat ∧ s7 = .bool (rightR (segL s.data.toList 1 k))) (fun _ _ _ _ s8 _ => s.size - (iOf s8).toNat)
    case atStart => exact ⟨rfl, 1, Nat.le_refl _, hi, rfl, by rw [segL_start]; rfl, by rw [segL_start]; rfl, by rw [segL_start]; rfl, by rw [segL_start]; rfl⟩
    case round =>
      obtain ⟨rfl, k, hik, hk, rfl, rfl, rfl, rfl, rfl⟩ := hrel
      obtain ⟨n, hn⟩ : ∃ n, n = numR (segL s.data.toList 1 k) := ⟨_, rfl⟩
      obtain ⟨pp, hpp⟩ : ∃ n, n = perR (segL s.data.toList 1 k) := ⟨_, rfl⟩
      obtain ⟨lb, hlb⟩ : ∃ n, n = lastR (segL s.data.toList 1 k) := ⟨_, rfl⟩
      obtain ⟨rt, hrt⟩ : ∃ n, n = rightR (segL s.data.toList 1 k) := ⟨_, rfl⟩
      have hle := countP_le' s.data.toList 1 k
      rw [HLN.out, ← hn, ← hpp] at hle
      obtain ⟨hn60, hp60⟩ := hle
      rw [← hn, ← hpp, ← hlb, ← hrt]
      have HN := Lib.hid hn
      have HP := Lib.hid hpp
      have HLB := Lib.hid hlb
      have HRT := Lib.hid hrt
      clear hn hpp hlb hrt
      by_cases hkn : k < s.size
      · have hkz : (k : Int) < (s.size : Int) := by omega
        obtain ⟨c, hc⟩ : ∃ c : UInt8, s[k] = c := ⟨_, rfl⟩
        have hcl : s.data.toList[k]? = some c := by rw [← hc]; exact Lib.data_getElem? s k hkn
        have HC := Lib.hid hcl
        clear hcl
        have hclt := u8lt c
        by_cases hd : digB c = true
        · have h1 : 48 ≤ (c.toNat : Int) := by simp [digB] at hd; omega
          have h2 : (c.toNat : Int) ≤ 57 := by simp [digB] at hd; omega
          have hx : decide (c.toNat = 46) = false := by simp; omega
          have HX : Hid (numR (segL s.data.toList 1 (k + 1)) = n + 1 ∧ perR (segL s.data.toList 1 (k + 1)) = pp ∧ lastR (segL s.data.toList 1 (k + 1)) = c ∧ rightR (segL s.data.toList 1 (k + 1)) = rt) := Lib.hid (by
            rw [segL_succ hik HC.out, numR_snoc, perR_snoc, lastR_snoc, rightR_snoc, ← HN.out, ← HP.out, ← HRT.out, hd, hx]; simp [okR, hd])
          clear hd hx
          go_wp2
          go_roundw
          case rel => exact ⟨by first | trivial | rfl, k + 1, by omega, by omega, by go_num, by rw [HX.out.1]; go_num, by rw [HX.out.2.1], by rw [HX.out.2.2.1], by rw [HX.out.2.2.2]⟩
          case measure => simp [iOf]; omega
        · by_cases h46 : c.toNat = 46
          · have h1 : (c.toNat : Int) = 46 := by omega
            have hd' : digB c = false := by simpa using hd
            have HX : Hid (numR (segL s.data.toList 1 (k + 1)) = n ∧ perR (segL s.data.toList 1 (k + 1)) = pp + 1 ∧ lastR (segL s.data.toList 1 (k + 1)) = c ∧ rightR (segL s.data.toList 1 (k + 1)) = rt) := Lib.hid (by
              rw [segL_succ hik HC.out, numR_snoc, perR_snoc, lastR_snoc, rightR_snoc, ← HN.out, ← HP.out, ← HRT.out, hd']; simp [okR, h46])
            clear hd hd' h46
            go_wp2
            go_roundw
            case rel => exact ⟨by first | trivial | rfl, k + 1, by omega, by omega, by go_num, by rw [HX.out.1], by rw [HX.out.2.1]; go_num, by rw [HX.out.2.2.1]; first | rfl | (rw [h1]), by rw [HX.out.2.2.2]⟩
            case measure => simp [iOf]; omega
          · have hd' : digB c = false := by simpa using hd
            have hnd : (decide (48 ≤ (c.toNat : Int)) && decide ((c.toNat : Int) ≤ 57)) = false := by
              unfold digB at hd'
              rw [← hd']
              congr 1 <;> simp <;> omega
            have hne : ¬ (c.toNat : Int) = 46 := by omega
            have hne2 : ((c.toNat : Int) == 46) = false := by simpa using hne
            have HX : Hid (numR (segL s.data.toList 1 (k + 1)) = n ∧ perR (segL s.data.toList 1 (k + 1)) = pp ∧ lastR (segL s.data.toList 1 (k + 1)) = c ∧ rightR (segL s.data.toList 1 (k + 1)) = false) := Lib.hid (by
              rw [segL_succ hik HC.out, numR_snoc, perR_snoc, lastR_snoc, rightR_snoc, ← HN.out, ← HP.out, ← HRT.out, hd']; simp [okR, h46, hd'])
            have hcase : (c.toNat : Int) < 48 ∨ 57 < (c.toNat : Int) := by simp [digB] at hd; omega
            clear hd hd' h46 hnd
            rcases hcase with hcs | hcs
            · go_wp2
              go_roundw
              case rel => exact ⟨by first | trivial | rfl, k + 1, by omega, by omega, by go_num, by rw [HX.out.1], by rw [HX.out.2.1], by rw [HX.out.2.2.1], by rw [HX.out.2.2.2]⟩
              case measure => simp [iOf]; omega
            · have hcs2 : 48 ≤ (c.toNat : Int) := by omega
              go_wp2
              go_roundw
              case rel => exact ⟨by first | trivial | rfl, k + 1, by omega, by omega, by go_num, by rw [HX.out.1], by rw [HX.out.2.1], by rw [HX.out.2.2.1], by rw [HX.out.2.2.2]⟩
              case measure => simp [iOf]; omega
      · obtain rfl : k = s.size := by omega
        have hfull : segL s.data.toList 1 s.size = restB s.data.toList := by rw [segL_full HLN.out.symm, HR.out]
        rw [hfull] at HN HP HLB HRT
        have hsc := bad_scan (restB s.data.toList)
        rw [← HN.out, ← HP.out, ← HLB.out, ← HRT.out] at hsc
        have HSC := Lib.hid hsc
        clear hsc hfull HN HP HLB HRT
        have hs6 : s.size ≤ 1000000 := by omega
        rcases HSC.out with ⟨hbad, hw⟩ | ⟨hok, hrt, hn0, hp1, hl46, hlen⟩
        · have HLIT := Lib.hid (lit_num_bad s hs6 hbad)
          have HW := Lib.hid hw
          clear hbad hw HSC
          cases hrt : rt
          · clear hrt
            go_wp2_with (first
              | (go_at_call 17; refine (HLIT.out.out _ HMX.out).mono ?_; rintro e w2 ⟨rfl, hb2⟩; dsimp only [zeroF, fdV]; have HB2 := Lib.hid hb2; clear hb2)
              | (go_at_call 9; refine (c_lives _ (HMX.out.below (HB2.out.alloc HB2.out.size _)) (HTX.out.below (HB2.out.alloc HB2.out.size _))).mono ?_; rintro e w3 ⟨rfl, hb3⟩; have HB3 := Lib.hid ((HB2.out.alloc HB2.out.size _).trans (hb3.mono (HB2.out.alloc HB2.out.size _).size)); clear hb3))
            go_ret
            exact ⟨rfl, HB3.out⟩
          · rw [hrt] at HW
            clear hrt
            by_cases h0 : n = 0
            · subst h0
              go_wp2_with (first
                | (go_at_call 17; refine (HLIT.out.out _ HMX.out).mono ?_; rintro e w2 ⟨rfl, hb2⟩; dsimp only [zeroF, fdV]; have HB2 := Lib.hid hb2; clear hb2)
                | (go_at_call 9; refine (c_lives _ (HMX.out.below (HB2.out.alloc HB2.out.size _)) (HTX.out.below (HB2.out.alloc HB2.out.size _))).mono ?_; rintro e w3 ⟨rfl, hb3⟩; have HB3 := Lib.hid ((HB2.out.alloc HB2.out.size _).trans (hb3.mono (HB2.out.alloc HB2.out.size _).size)); clear hb3))
              go_ret
              exact ⟨rfl, HB3.out⟩
            · have hn0 : ¬ ((n : Int) = 0) := by omega
              have hn0b : ((n : Int) == 0) = false := by simpa using h0
              by_cases h1 : 1 < pp
              · have hp1 : (1 : Int) < (pp : Int) := by omega
                go_wp2_with (first
                  | (go_at_call 17; refine (HLIT.out.out _ HMX.out).mono ?_; rintro e w2 ⟨rfl, hb2⟩; dsimp only [zeroF, fdV]; have HB2 := Lib.hid hb2; clear hb2)
                  | (go_at_call 9; refine (c_lives _ (HMX.out.below (HB2.out.alloc HB2.out.size _)) (HTX.out.below (HB2.out.alloc HB2.out.size _))).mono ?_; rintro e w3 ⟨rfl, hb3⟩; have HB3 := Lib.hid ((HB2.out.alloc HB2.out.size _).trans (hb3.mono (HB2.out.alloc HB2.out.size _).size)); clear hb3))
                go_ret
                exact ⟨rfl, HB3.out⟩
              · have hp1 : ¬ (1 : Int) < (pp : Int) := by omega
                have hl : (lb.toNat : Int) = 46 := by
                  rcases HW.out with h | h | h | h
                  · cases h
                  · exact absurd h h0
                  · exact absurd h h1
                  · omega
                go_wp2_with (first
                  | (go_at_call 17; refine (HLIT.out.out _ HMX.out).mono ?_; rintro e w2 ⟨rfl, hb2⟩; dsimp only [zeroF, fdV]; have HB2 := Lib.hid hb2; clear hb2)
                  | (go_at_call 9; refine (c_lives _ (HMX.out.below (HB2.out.alloc HB2.out.size _)) (HTX.out.below (HB2.out.alloc HB2.out.size _))).mono ?_; rintro e w3 ⟨rfl, hb3⟩; have HB3 := Lib.hid ((HB2.out.alloc HB2.out.size _).trans (hb3.mono (HB2.out.alloc HB2.out.size _).size)); clear hb3))
                go_ret
                exact ⟨rfl, HB3.out⟩
        · have hn0z : ¬ ((n : Int) = 0) := by omega
          have hn0b : ((n : Int) == 0) = false := by simpa using hn0
          have hp1z : ¬ (1 : Int) < (pp : Int) := by omega
          have hlz : ¬ ((lb.toNat : Int) = 46) := by omega
          have hlb : ((lb.toNat : Int) == 46) = false := by simpa using hlz
          subst hrt
          by_cases h18 : 18 < n
          · have h18z : (18 : Int) < (n : Int) := by omega
            have HLIT := Lib.hid (lit_num_wide s hs6 hok (by show 18 < (digR (restB s.data.toList)).length; rw [hlen]; exact h18))
            clear hok hlen HSC hn0 hp1 hl46 h18
            go_wp2_with (first
              | (go_at_call 17; refine (HLIT.out.out _ HMX.out).mono ?_; rintro e w2 ⟨rfl, hb2⟩; dsimp only [zeroF, fdV]; have HB2 := Lib.hid hb2; clear hb2)
              | (go_at_call 9; refine (c_lives _ (HMX.out.below (HB2.out.alloc HB2.out.size _)) (HTX.out.below (HB2.out.alloc HB2.out.size _))).mono ?_; rintro e w3 ⟨rfl, hb3⟩; have HB3 := Lib.hid ((HB2.out.alloc HB2.out.size _).trans (hb3.mono (HB2.out.alloc HB2.out.size _).size)); clear hb3))
            go_ret
            exact ⟨rfl, HB3.out⟩
          · have h18z : ¬ (18 : Int) < (n : Int) := by omega
            have hpos2 : (0 : Int) < (n : Int) := by omega
            have h := lit_num_ok s hs6 hok (by show (digR (restB s.data.toList)).length ≤ 18; rw [hlen]; omega)
            rw [show (digsB s.data.toList).length = n from hlen] at h
            obtain ⟨P, kk, sg, bs, h⟩ : ∃ P kk sg bs, LitOK 2 s 4 P n kk sg n bs := ⟨_, _, _, _, h⟩
            have HLIT := Lib.hid h
            clear hok hlen HSC hn0 hp1 hl46 h18 h
            go_wp2_with (first
              | (go_at_call 17; refine (HLIT.out.out _ HMX.out).mono ?_; rintro e w2 ⟨g, rfl, hrow⟩; dsimp only [fdV]; have HB2 := Lib.hid hrow.bel; clear hrow)
              | (go_at_call 9; refine (c_lives _ (HMX.out.below (HB2.out.alloc HB2.out.size _)) (HTX.out.below (HB2.out.alloc HB2.out.size _))).mono ?_; rintro e w3 ⟨rfl, hb3⟩; have HB3 := Lib.hid ((HB2.out.alloc HB2.out.size _).trans (hb3.mono (HB2.out.alloc HB2.out.size _).size)); clear hb3))
            go_ret
            exact ⟨rfl, HB3.out⟩
  · skip
    have y43 : ((s[0].toNat : Int) == 43) = false := by simpa using h43
    have y45 : ((s[0].toNat : Int) == 45) = false := by simpa using h45
    go_enter Tryd.func6, Tryd.ntmps6
    go_wp2
    go_loopw [4, 5, 6, 7, 8] (fun s4 s5 s6 s7 s8 wr => wr = w ∧ ∃ k : Nat, 0 ≤ k ∧ k ≤ s.size ∧ s8 = .int .i64 k ∧ s4 = .int .i64 (numR (segL s.data.toList 0 k) : Nat) ∧ s5 = .int .i64 (perR (segL s.data.toList 0 k) : Nat) ∧
        s6 = .int .u8 (lastR (segL s.data.toList 0 k)).toNat ∧ s7 = .bool (rightR (segL s.data.toList 0 k))) (fun _ _ _ _ s8 _ => s.size - (iOf s8).toNat)
    case atStart => exact ⟨rfl, 0, Nat.le_refl _, hi, rfl, by rw [segL_start]; rfl, by rw [segL_start]; rfl, by rw [segL_start]; rfl, by rw [segL_start]; rfl⟩
    case round =>
      obtain ⟨rfl, k, hik, hk, rfl, rfl, rfl, rfl, rfl⟩ := hrel
      obtain ⟨n, hn⟩ : ∃ n, n = numR (segL s.data.toList 0 k) := ⟨_, rfl⟩
      obtain ⟨pp, hpp⟩ : ∃ n, n = perR (segL s.data.toList 0 k) := ⟨_, rfl⟩
      obtain ⟨lb, hlb⟩ : ∃ n, n = lastR (segL s.data.toList 0 k) := ⟨_, rfl⟩
      obtain ⟨rt, hrt⟩ : ∃ n, n = rightR (segL s.data.toList 0 k) := ⟨_, rfl⟩
      have hle := countP_le' s.data.toList 0 k
      rw [HLN.out, ← hn, ← hpp] at hle
      obtain ⟨hn60, hp60⟩ := hle
      rw [← hn, ← hpp, ← hlb, ← hrt]
      have HN := Lib.hid hn
      have HP := Lib.hid hpp
      have HLB := Lib.hid hlb
      have HRT := Lib.hid hrt
      clear hn hpp hlb hrt
      by_cases hkn : k < s.size
      · have hkz : (k : Int) < (s.size : Int) := by omega
        obtain ⟨c, hc⟩ : ∃ c : UInt8, s[k] = c := ⟨_, rfl⟩
        have hcl : s.data.toList[k]? = some c := by rw [← hc]; exact Lib.data_getElem? s k hkn
        have HC := Lib.hid hcl
        clear hcl
        have hclt := u8lt c
        by_cases hd : digB c = true
        · have h1 : 48 ≤ (c.toNat : Int) := by simp [digB] at hd; omega
          have h2 : (c.toNat : Int) ≤ 57 := by simp [digB] at hd; omega
          have hx : decide (c.toNat = 46) = false := by simp; omega
          have HX : Hid (numR (segL s.data.toList 0 (k + 1)) = n + 1 ∧ perR (segL s.data.toList 0 (k + 1)) = pp ∧ lastR (segL s.data.toList 0 (k + 1)) = c ∧ rightR (segL s.data.toList 0 (k + 1)) = rt) := Lib.hid (by
            rw [segL_succ hik HC.out, numR_snoc, perR_snoc, lastR_snoc, rightR_snoc, ← HN.out, ← HP.out, ← HRT.out, hd, hx]; simp [okR, hd])
          clear hd hx
          go_wp2
          go_roundw
          case rel => exact ⟨by first | trivial | rfl, k + 1, by omega, by omega, by go_num, by rw [HX.out.1]; go_num, by rw [HX.out.2.1], by rw [HX.out.2.2.1], by rw [HX.out.2.2.2]⟩
          case measure => simp [iOf]; omega
        · by_cases h46 : c.toNat = 46
          · have h1 : (c.toNat : Int) = 46 := by omega
            have hd' : digB c = false := by simpa using hd
            have HX : Hid (numR (segL s.data.toList 0 (k + 1)) = n ∧ perR (segL s.data.toList 0 (k + 1)) = pp + 1 ∧ lastR (segL s.data.toList 0 (k + 1)) = c ∧ rightR (segL s.data.toList 0 (k + 1)) = rt) := Lib.hid (by
              rw [segL_succ hik HC.out, numR_snoc, perR_snoc, lastR_snoc, rightR_snoc, ← HN.out, ← HP.out, ← HRT.out, hd']; simp [okR, h46])
            clear hd hd' h46
            go_wp2
            go_roundw
            case rel => exact ⟨by first | trivial | rfl, k + 1, by omega, by omega, by go_num, by rw [HX.out.1], by rw [HX.out.2.1]; go_num, by rw [HX.out.2.2.1]; first | rfl | (rw [h1]), by rw [HX.out.2.2.2]⟩
            case measure => simp [iOf]; omega
          · have hd' : digB c = false := by simpa using hd
            have hnd : (decide (48 ≤ (c.toNat : Int)) && decide ((c.toNat : Int) ≤ 57)) = false := by
              unfold digB at hd'
              rw [← hd']
              congr 1 <;> simp <;> omega
            have hne : ¬ (c.toNat : Int) = 46 := by omega
            have hne2 : ((c.toNat : Int) == 46) = false := by simpa using hne
            have HX : Hid (numR (segL s.data.toList 0 (k + 1)) = n ∧ perR (segL s.data.toList 0 (k + 1)) = pp ∧ lastR (segL s.data.toList 0 (k + 1)) = c ∧ rightR (segL s.data.toList 0 (k + 1)) = false) := Lib.hid (by
              rw [segL_succ hik HC.out, numR_snoc, perR_snoc, lastR_snoc, rightR_snoc, ← HN.out, ← HP.out, ← HRT.out, hd']; simp [okR, h46, hd'])
            have hcase : (c.toNat : Int) < 48 ∨ 57 < (c.toNat : Int) := by simp [digB] at hd; omega
            clear hd hd' h46 hnd
            rcases hcase with hcs | hcs
            · go_wp2
              go_roundw
              case rel => exact ⟨by first | trivial | rfl, k + 1, by omega, by omega, by go_num, by rw [HX.out.1], by rw [HX.out.2.1], by rw [HX.out.2.2.1], by rw [HX.out.2.2.2]⟩
              case measure => simp [iOf]; omega
            · have hcs2 : 48 ≤ (c.toNat : Int) := by omega
              go_wp2
              go_roundw
              case rel => exact ⟨by first | trivial | rfl, k + 1, by omega, by omega, by go_num, by rw [HX.out.1], by rw [HX.out.2.1], by rw [HX.out.2.2.1], by rw [HX.out.2.2.2]⟩
              case measure => simp [iOf]; omega
      · obtain rfl : k = s.size := by omega
        have hfull : segL s.data.toList 0 s.size = restB s.data.toList := by rw [segL_full HLN.out.symm, HR.out]
        rw [hfull] at HN HP HLB HRT
        have hsc := bad_scan (restB s.data.toList)
        rw [← HN.out, ← HP.out, ← HLB.out, ← HRT.out] at hsc
        have HSC := Lib.hid hsc
        clear hsc hfull HN HP HLB HRT
        have hs6 : s.size ≤ 1000000 := by omega
        rcases HSC.out with ⟨hbad, hw⟩ | ⟨hok, hrt, hn0, hp1, hl46, hlen⟩
        · have HLIT := Lib.hid (lit_num_bad s hs6 hbad)
          have HW := Lib.hid hw
          clear hbad hw HSC
          cases hrt : rt
          · clear hrt
            go_wp2_with (first
              | (go_at_call 17; refine (HLIT.out.out _ HMX.out).mono ?_; rintro e w2 ⟨rfl, hb2⟩; dsimp only [zeroF, fdV]; have HB2 := Lib.hid hb2; clear hb2)
              | (go_at_call 9; refine (c_lives _ (HMX.out.below (HB2.out.alloc HB2.out.size _)) (HTX.out.below (HB2.out.alloc HB2.out.size _))).mono ?_; rintro e w3 ⟨rfl, hb3⟩; have HB3 := Lib.hid ((HB2.out.alloc HB2.out.size _).trans (hb3.mono (HB2.out.alloc HB2.out.size _).size)); clear hb3))
            go_ret
            exact ⟨rfl, HB3.out⟩
          · rw [hrt] at HW
            clear hrt
            by_cases h0 : n = 0
            · subst h0
              go_wp2_with (first
                | (go_at_call 17; refine (HLIT.out.out _ HMX.out).mono ?_; rintro e w2 ⟨rfl, hb2⟩; dsimp only [zeroF, fdV]; have HB2 := Lib.hid hb2; clear hb2)
                | (go_at_call 9; refine (c_lives _ (HMX.out.below (HB2.out.alloc HB2.out.size _)) (HTX.out.below (HB2.out.alloc HB2.out.size _))).mono ?_; rintro e w3 ⟨rfl, hb3⟩; have HB3 := Lib.hid ((HB2.out.alloc HB2.out.size _).trans (hb3.mono (HB2.out.alloc HB2.out.size _).size)); clear hb3))
              go_ret
              exact ⟨rfl, HB3.out⟩
            · have hn0 : ¬ ((n : Int) = 0) := by omega
              have hn0b : ((n : Int) == 0) = false := by simpa using h0
              by_cases h1 : 1 < pp
              · have hp1 : (1 : Int) < (pp : Int) := by omega
                go_wp2_with (first
                  | (go_at_call 17; refine (HLIT.out.out _ HMX.out).mono ?_; rintro e w2 ⟨rfl, hb2⟩; dsimp only [zeroF, fdV]; have HB2 := Lib.hid hb2; clear hb2)
                  | (go_at_call 9; refine (c_lives _ (HMX.out.below (HB2.out.alloc HB2.out.size _)) (HTX.out.below (HB2.out.alloc HB2.out.size _))).mono ?_; rintro e w3 ⟨rfl, hb3⟩; have HB3 := Lib.hid ((HB2.out.alloc HB2.out.size _).trans (hb3.mono (HB2.out.alloc HB2.out.size _).size)); clear hb3))
                go_ret
                exact ⟨rfl, HB3.out⟩
              · have hp1 : ¬ (1 : Int) < (pp : Int) := by omega
                have hl : (lb.toNat : Int) = 46 := by
                  rcases HW.out with h | h | h | h
                  · cases h
                  · exact absurd h h0
                  · exact absurd h h1
                  · omega
                go_wp2_with (first
                  | (go_at_call 17; refine (HLIT.out.out _ HMX.out).mono ?_; rintro e w2 ⟨rfl, hb2⟩; dsimp only [zeroF, fdV]; have HB2 := Lib.hid hb2; clear hb2)
                  | (go_at_call 9; refine (c_lives _ (HMX.out.below (HB2.out.alloc HB2.out.size _)) (HTX.out.below (HB2.out.alloc HB2.out.size _))).mono ?_; rintro e w3 ⟨rfl, hb3⟩; have HB3 := Lib.hid ((HB2.out.alloc HB2.out.size _).trans (hb3.mono (HB2.out.alloc HB2.out.size _).size)); clear hb3))
                go_ret
                exact ⟨rfl, HB3.out⟩
        · have hn0z : ¬ ((n : Int) = 0) := by omega
          have hn0b : ((n : Int) == 0) = false := by simpa using hn0
          have hp1z : ¬ (1 : Int) < (pp : Int) := by omega
          have hlz : ¬ ((lb.toNat : Int) = 46) := by omega
          have hlb : ((lb.toNat : Int) == 46) = false := by simpa using hlz
          subst hrt
          by_cases h18 : 18 < n
          · have h18z : (18 : Int) < (n : Int) := by omega
            have HLIT := Lib.hid (lit_num_wide s hs6 hok (by show 18 < (digR (restB s.data.toList)).length; rw [hlen]; exact h18))
            clear hok hlen HSC hn0 hp1 hl46 h18
            go_wp2_with (first
              | (go_at_call 17; refine (HLIT.out.out _ HMX.out).mono ?_; rintro e w2 ⟨rfl, hb2⟩; dsimp only [zeroF, fdV]; have HB2 := Lib.hid hb2; clear hb2)
              | (go_at_call 9; refine (c_lives _ (HMX.out.below (HB2.out.alloc HB2.out.size _)) (HTX.out.below (HB2.out.alloc HB2.out.size _))).mono ?_; rintro e w3 ⟨rfl, hb3⟩; have HB3 := Lib.hid ((HB2.out.alloc HB2.out.size _).trans (hb3.mono (HB2.out.alloc HB2.out.size _).size)); clear hb3))
            go_ret
            exact ⟨rfl, HB3.out⟩
          · have h18z : ¬ (18 : Int) < (n : Int) := by omega
            have hpos2 : (0 : Int) < (n : Int) := by omega
            have h := lit_num_ok s hs6 hok (by show (digR (restB s.data.toList)).length ≤ 18; rw [hlen]; omega)
            rw [show (digsB s.data.toList).length = n from hlen] at h
            obtain ⟨P, kk, sg, bs, h⟩ : ∃ P kk sg bs, LitOK 2 s 4 P n kk sg n bs := ⟨_, _, _, _, h⟩
            have HLIT := Lib.hid h
            clear hok hlen HSC hn0 hp1 hl46 h18 h
            go_wp2_with (first
              | (go_at_call 17; refine (HLIT.out.out _ HMX.out).mono ?_; rintro e w2 ⟨g, rfl, hrow⟩; dsimp only [fdV]; have HB2 := Lib.hid hrow.bel; clear hrow)
              | (go_at_call 9; refine (c_lives _ (HMX.out.below (HB2.out.alloc HB2.out.size _)) (HTX.out.below (HB2.out.alloc HB2.out.size _))).mono ?_; rintro e w3 ⟨rfl, hb3⟩; have HB3 := Lib.hid ((HB2.out.alloc HB2.out.size _).trans (hb3.mono (HB2.out.alloc HB2.out.size _).size)); clear hb3))
            go_ret
            exact ⟨rfl, HB3.out⟩
end Go.Proofs.YtahmcjgehhfknaaDoor
