/-
  Texts of this seat, merged: Tok1 Tok2 Tok3 Tok4.
-/
import Derived.Test.YtpalfhfbgfnacaaGreatDoorGA
import Derived.Deep.DeepCutAuto
import Derived.IntWalk
import Derived.Handy
/-
  The contracts of package tokens' functions that only read a text: span and what counts with it.
-/
namespace Go.Proofs.YtpalfhfbgfnacaaGreatDoor
open Go.RowKit
set_option linter.unusedVariables false
set_option linter.unusedSimpArgs false

theorem strB_L (l : List UInt8) : strB l = strL l := rfl
theorem tIsDigit_any (c : UInt8) (w : World) : Calls Tryz.prog 115 #[.int .u8 c.toNat] w fun e w' => e = .returned (.bool (digB c)) ∧ w = w' := by
  have hlt := u8lt c
  by_cases h : 48 ≤ (c.toNat : Int)
  · go_enter Tryz.func115, Tryz.ntmps115
    go_wp2
    go_ret
    exact ⟨ret_bool (by have h1 : 48 ≤ c.toNat := by omega
                        simp only [digB, h1, decide_true, Bool.true_and]; exact (dec_le _ _).symm), rfl⟩
  · go_enter Tryz.func115, Tryz.ntmps115
    go_wp2
    go_ret
    exact ⟨ret_bool (by have h1 : ¬ 48 ≤ c.toNat := by omega
                        simp [digB, h1]), rfl⟩
theorem tDigit_any : Tests 115 digB := ⟨fun args w => by kernel_rfl, fun c w => tIsDigit_any c w⟩
theorem tInWord_any : Tests 116 inwB := by
  refine ⟨fun args w => by kernel_rfl, ?_⟩
  intro c w
  have hlt := u8lt c
  have ret : ∀ b : Bool, b = inwB c → (Ending.returned (.bool b) = .returned (.bool (inwB c)) ∧ w = w) := fun b h => ⟨by rw [h], rfl⟩
  obtain ⟨d, hd⟩ : ∃ d, d = digB c := ⟨_, rfl⟩
  have HD := tIsDigit_any c
  rw [← hd] at HD
  obtain ⟨x, hx⟩ : ∃ x, x = inwB c := ⟨_, rfl⟩
  rw [← hx]
  have HX : Hid (x = ((decide (65 ≤ c.toNat) && decide (c.toNat ≤ 90) || decide (97 ≤ c.toNat) && decide (c.toNat ≤ 122)) || d || decide (c.toNat = 45))) := by
    rw [hx, hd]; rfl
  have HDD := Lib.hid HD
  clear HD hd hx ret
  by_cases h1 : 65 ≤ (c.toNat : Int) <;> by_cases h2 : (c.toNat : Int) ≤ 90 <;> by_cases h3 : 97 ≤ (c.toNat : Int) <;> by_cases h4 : (c.toNat : Int) ≤ 122 <;> cases d <;> first
    | omega
    | (go_enter Tryz.func116, Tryz.ntmps116
       go_wp2_with (go_at_call 115; refine (HDD.out _).mono ?_; rintro e w' ⟨rfl, rfl⟩)
       go_ret
       refine ⟨ret_bool ?_, rfl⟩
       rw [HX.out]
       have e1 : decide (65 ≤ c.toNat) = decide (65 ≤ (c.toNat : Int)) := by rw [Bool.eq_iff_iff]; simp; omega
       have e2 : decide (c.toNat ≤ 90) = decide ((c.toNat : Int) ≤ 90) := by rw [Bool.eq_iff_iff]; simp; omega
       have e3 : decide (97 ≤ c.toNat) = decide (97 ≤ (c.toNat : Int)) := by rw [Bool.eq_iff_iff]; simp; omega
       have e4 : decide (c.toNat ≤ 122) = decide ((c.toNat : Int) ≤ 122) := by rw [Bool.eq_iff_iff]; simp; omega
       rw [e1, e2, e3, e4]
       simp [h1, h2, h3, h4] <;> first | done | (rw [Bool.eq_iff_iff]; simp; omega))

set_option maxHeartbeats 400000 in
theorem span_any (s : ByteArray) (K : Nat) (p : UInt8 → Bool) (hp : Tests K p) (hs : s.size ≤ 140737488355328) (w : World) :
    Calls Tryz.prog 113 #[.string s, .func (.func K) #[] #[]] w fun e w' => e = .returned (.int .i64 (spn p s.data.toList)) ∧ w = w' := by
  have hen := hp.enter
  have HP := Lib.hid hp.calls; clear hp
  go_enter Tryz.func113, Tryz.ntmps113
  go_wp2
  go_loop [8] (fun i => ∃ k : Nat, k ≤ s.size ∧ i = .int .i64 k ∧ spn p s.data.toList = k + spn p (s.data.toList.drop k)) (fun i => s.size - (intOf i).toNat)
  case atStart => exact ⟨0, Nat.zero_le _, rfl, by simp⟩
  case round =>
    obtain ⟨k, hk, rfl, he⟩ := hrel
    have HE := Lib.hid he; clear he
    by_cases hlt : k < s.size
    · have hd := spn_drop p s.data.toList k s[k] (get_data s k hlt)
      have HD := Lib.hid hd; clear hd
      go_wp2_with fail
      refine (HP.out _ _).mono ?_
      rintro e w' ⟨rfl, rfl⟩
      cases hpb : p s[k]
      · go_wp2
        go_ret
        exact ⟨ret_int (by rw [HE.out, HD.out, hpb]; simp), rfl⟩
      · go_wp2
        go_round
        case rel => exact ⟨k + 1, by omega, by go_num, by rw [HE.out, HD.out, hpb]; simp; omega⟩
        case measure => simp [intOf]; omega
    · go_wp2
      go_ret
      have hke : k = s.size := by omega
      exact ⟨ret_int (by rw [HE.out, List.drop_of_length_le (by rw [← size_data]; omega), hke]; simp [spn]), rfl⟩
theorem span_n (s : ByteArray) (K : Nat) (p : UInt8 → Bool) (hp : Tests K p) (hs : s.size ≤ 140737488355328) (n : Nat) (hn : spn p s.data.toList = n) (w : World) :
    Calls Tryz.prog 113 #[.string s, .func (.func K) #[] #[]] w fun e w' => e = .returned (.int .i64 n) ∧ w = w' := by
  subst hn; exact span_any s K p hp hs w
end Go.Proofs.YtpalfhfbgfnacaaGreatDoor

/-
  The contracts of package tokens' wordLength, numberLength, number.
-/
namespace Go.Proofs.YtpalfhfbgfnacaaGreatDoor
open Go.RowKit
set_option linter.unusedVariables false
set_option linter.unusedSimpArgs false

theorem isEnd_any (s : ByteArray) (w : World) : Calls Tryz.prog 85 #[.string s] w fun e w' => e = .returned (.bool (endT s.data.toList)) ∧ w = w' := by
  by_cases h0 : s.size = 0
  · have hl : s.data.toList = [] := List.eq_nil_of_length_eq_zero (by rw [← size_data]; exact h0)
    have h1 : s.toList.isEmpty = true := by rw [ByteArray.toList_eq]; rw [show s.data.toList = [] from hl]; rfl
    rw [hl]; clear hl
    go_enter Tryz.func85, Tryz.ntmps85
    go_wp2
    go_ret
    exact ⟨rfl, rfl⟩
  · have hp : 0 < s.size := by omega
    have hg := get_data s 0 hp
    have h1 : s.toList.isEmpty = false := by
      rw [ByteArray.toList_eq]
      cases hh : s.data.toList with
      | nil => rw [hh] at hg; simp at hg
      | cons c l => rfl
    have HE : Hid (endT s.data.toList = decide (s[0].toNat = 32)) := by
      show _ = _
      cases hh : s.data.toList with
      | nil => rw [hh] at hg; simp at hg
      | cons c l => rw [hh] at hg; simp at hg; rw [← hg]; rfl
    clear hg h0
    go_enter Tryz.func85, Tryz.ntmps85
    go_wp2
    go_ret
    exact ⟨ret_bool (by rw [HE.out, Bool.eq_iff_iff]; simp; omega), rfl⟩
theorem head_get (s : ByteArray) (h : 0 < s.size) : s.data.toList.getD 0 0 = s[0] := by
  have := get_data s 0 h
  simp [List.getD, this]
theorem get_getD (s : ByteArray) (k : Nat) (h : k < s.size) : s.data.toList.getD k 0 = s[k] := by
  have := get_data s k h
  simp [List.getD, this]
theorem suffix_data (s : ByteArray) (i : Nat) : (s.extract i s.size).data.toList = s.data.toList.drop i := by
  rw [extract_data, List.take_of_length_le (by rw [← size_data]; exact Nat.le_refl _)]
theorem suffix_size (s : ByteArray) (i : Nat) (h : i ≤ s.size) : (s.extract i s.size).size = s.size - i := by
  rw [ByteArray.size_extract]; omega
set_option maxHeartbeats 400000 in
theorem wordLength_any (s : ByteArray) (h0 : 0 < s.size) (hs : s.size ≤ 134217728) (w : World) : Calls Tryz.prog 92 #[.string s] w fun e w' => e = .returned (.int .i64 (wrdN s.data.toList)) ∧ w = w' := by
  have HG := Lib.hid (head_get s h0)
  by_cases h : (s[0].toNat : Int) = 45
  · go_enter Tryz.func92, Tryz.ntmps92
    go_wp2
    go_ret
    exact ⟨ret_int (by unfold wrdN; rw [HG.out, if_pos (by omega)]; rfl), rfl⟩
  · go_enter Tryz.func92, Tryz.ntmps92
    go_wp2_with (go_at_call 113; refine (span_any s _ _ tInWord_any (by omega) _).mono ?_; rintro e w' ⟨rfl, rfl⟩)
    go_ret
    exact ⟨ret_int (by unfold wrdN; rw [HG.out, if_neg (by omega)]), rfl⟩

theorem wordLength_n (s : ByteArray) (h0 : 0 < s.size) (hs : s.size ≤ 134217728) (n : Nat) (hn : n = wrdN s.data.toList) (w : World) : Calls Tryz.prog 92 #[.string s] w fun e w' => e = .returned (.int .i64 n) ∧ w = w' := by
  subst hn; exact wordLength_any s h0 hs w
set_option maxHeartbeats 1000000 in
set_option maxRecDepth 100000 in
theorem numberLength_any (s : ByteArray) (sep : Bool) (h0 : 0 < s.size) (hs : s.size ≤ 134217728) (w : World) : Calls Tryz.prog 89 #[.string s, .bool sep] w fun e w' => e = .returned (.int .i64 (numN s.data.toList sep)) ∧ w = w' := by
  have HG := Lib.hid (head_get s h0)
  have HNE : Hid (s.data.toList ≠ []) := by
    show _ ≠ _
    intro hh
    have h5 : s.size = 0 := by rw [size_data, hh]; rfl
    omega
  obtain ⟨g, hg⟩ : ∃ g, g = sgN s.data.toList sep := ⟨_, rfl⟩
  have HGG := Lib.hid hg
  have hg1 : g ≤ 1 := by rw [hg]; exact sgN_le _ _
  clear hg
  go_enter Tryz.func89, Tryz.ntmps89
  go_upto_region 2 with fail
  go_cut [18] (fun s18 wx => s18 = .bool (decide (g = 1)) ∧ wx = w)
  case first =>
    cases sep
    · go_wp2
      go_meet
      exact ⟨by rw [HGG.out]; simp [sgN], rfl⟩
    · by_cases h1 : (s[0].toNat : Int) = 43
      · go_wp2
        go_meet
        exact ⟨by rw [HGG.out]; unfold sgN; rw [HG.out, if_pos ⟨rfl, .inl (by omega)⟩]; rfl, rfl⟩
      · by_cases h2 : (s[0].toNat : Int) = 45
        · go_wp2
          go_meet
          exact ⟨by rw [HGG.out]; unfold sgN; rw [HG.out, if_pos ⟨rfl, .inr (by omega)⟩]; rfl, rfl⟩
        · go_wp2
          go_meet
          refine ⟨?_, rfl⟩
          rw [HGG.out]; unfold sgN; rw [HG.out, if_neg (by omega)]
          have e1 : ((s[0].toNat : Int) == 43) = false := by simpa using h1
          have e2 : ((s[0].toNat : Int) == 45) = false := by simpa using h2
          rw [e1, e2]; rfl
  case rest =>
  obtain ⟨rfl, rfl⟩ := hcut
  go_upto_if 18 with fail
  go_cut [5] (fun s5 wx => s5 = .int .i64 g ∧ wx = wc)
  case first =>
    by_cases h1 : g = 1
    · have hd : decide (g = 1) = true := by simpa using h1
      go_wp2
      go_meet
      exact ⟨by rw [h1]; rfl, rfl⟩
    · have hd : decide (g = 1) = false := by simpa using h1
      go_wp2
      go_meet
      exact ⟨by rw [show g = 0 from by omega]; rfl, rfl⟩
  case rest =>
    obtain ⟨rfl, rfl⟩ := hcut
    have hgl : g ≤ s.size := by omega
    obtain ⟨n, hn⟩ : ∃ n, n = g + spn digB (s.data.toList.drop g) := ⟨_, rfl⟩
    have hns : n ≤ s.size := by
      have := spn_le digB (s.data.toList.drop g)
      rw [List.length_drop, ← size_data] at this
      omega
    obtain ⟨m, hm⟩ : ∃ m, m = spn digB (s.data.toList.drop g) := ⟨_, rfl⟩
    have hmn : n = g + m := by rw [hn, hm]
    have HF : Hid (numN s.data.toList sep = if n < wrdN s.data.toList then 0 else if (s.data.toList.getD n 0).toNat = 46 ∧ 0 < spn digB (s.data.toList.drop (n + 1)) then n + 1 + spn digB (s.data.toList.drop (n + 1)) else if n = g then 0 else n) := by
      show _ = _
      unfold numN
      dsimp only
      rw [← HGG.out, ← hn]
    have HM := Lib.hid (show spn digB (s.extract g s.size).data.toList = m from by rw [hm, suffix_data])
    have hwl := wrdN_le s.data.toList
    rw [← size_data] at hwl
    obtain ⟨wl, hwl2⟩ : ∃ wl, wl = wrdN s.data.toList := ⟨_, rfl⟩
    rw [← hwl2] at hwl
    have HW := Lib.hid hwl2
    clear hn hm hwl2
    have hss := suffix_size s g hgl
    clear HG HNE HGG
    have HF2 : Hid (numN s.data.toList sep = if n < wl then 0 else if (s.data.toList.getD n 0).toNat = 46 ∧ 0 < spn digB (s.data.toList.drop (n + 1)) then n + 1 + spn digB (s.data.toList.drop (n + 1)) else if n = g then 0 else n) := by
      show _ = _
      rw [HF.out, ← HW.out]
    clear HF
    by_cases h1 : n < wl
    · go_wp2_with (first
        | (go_at_call 113; refine (span_n _ _ _ tDigit_any ?hz m ?hq _).mono ?_; (case hz => omega); (case hq => exact HM.out); rintro e w' ⟨rfl, rfl⟩)
        | (go_at_call 92; refine (wordLength_n s h0 hs wl HW.out _).mono ?_; rintro e w' ⟨rfl, rfl⟩))
      go_ret
      exact ⟨ret_int (by rw [HF2.out, if_pos h1]; rfl), rfl⟩
    by_cases h2 : n < s.size
    · by_cases h3 : (s[n].toNat : Int) = 46
      · obtain ⟨fr, hfr⟩ : ∃ fr, fr = spn digB (s.data.toList.drop (n + 1)) := ⟨_, rfl⟩
        have hfl : fr ≤ s.size - (n + 1) := by
          have := spn_le digB (s.data.toList.drop (n + 1))
          rw [List.length_drop, ← size_data] at this
          omega
        have HFR := Lib.hid (show spn digB (s.extract (n + 1) s.size).data.toList = fr from by rw [hfr, suffix_data])
        have HF3 : Hid (numN s.data.toList sep = if 0 < fr then n + 1 + fr else if n = g then 0 else n) := by
          show _ = _
          rw [HF2.out, if_neg h1, get_getD s n h2, ← hfr]
          by_cases h4 : 0 < fr
          · rw [if_pos ⟨by omega, h4⟩, if_pos h4]
          · rw [if_neg (fun h => h4 h.2), if_neg h4]
        have hss2 := suffix_size s (n + 1) (by omega)
        clear HF2 hfr
        subst hmn
        go_upto_if 38 with (first
            | (go_at_call 113; refine (span_n _ _ _ tDigit_any ?hz m ?hq _).mono ?_; (case hz => omega); (case hq => exact HM.out); rintro e w' ⟨rfl, rfl⟩)
            | (go_at_call 92; refine (wordLength_n s h0 hs wl HW.out _).mono ?_; rintro e w' ⟨rfl, rfl⟩))
        by_cases h4 : 0 < fr
        · go_wp2_with (go_at_call 113; refine (span_n _ _ _ tDigit_any ?hz fr ?hq _).mono ?_; (case hz => omega); (case hq => exact HFR.out); rintro e w' ⟨rfl, rfl⟩)
          go_ret
          exact ⟨ret_int (by rw [HF3.out, if_pos h4]; omega), rfl⟩
        · go_upto_if 52 with (go_at_call 113; refine (span_n _ _ _ tDigit_any ?hz fr ?hq _).mono ?_; (case hz => omega); (case hq => exact HFR.out); rintro e w' ⟨rfl, rfl⟩)
          by_cases h5 : g + m = g
          · go_wp2
            go_ret
            exact ⟨ret_int (by rw [HF3.out, if_neg h4, if_pos h5]; rfl), rfl⟩
          · go_wp2
            go_ret
            exact ⟨ret_int (by rw [HF3.out, if_neg h4, if_neg h5]; omega), rfl⟩
      · have HF3 : Hid (numN s.data.toList sep = if n = g then 0 else n) := by
          show _ = _
          rw [HF2.out, if_neg h1, get_getD s n h2, if_neg (by omega)]
        clear HF2
        subst hmn
        go_upto_if 38 with (first
            | (go_at_call 113; refine (span_n _ _ _ tDigit_any ?hz m ?hq _).mono ?_; (case hz => omega); (case hq => exact HM.out); rintro e w' ⟨rfl, rfl⟩)
            | (go_at_call 92; refine (wordLength_n s h0 hs wl HW.out _).mono ?_; rintro e w' ⟨rfl, rfl⟩))
        by_cases h5 : g + m = g
        · go_wp2
          go_ret
          exact ⟨ret_int (by rw [HF3.out, if_pos h5]; rfl), rfl⟩
        · go_wp2
          go_ret
          exact ⟨ret_int (by rw [HF3.out, if_neg h5]; omega), rfl⟩
    · have HF3 : Hid (numN s.data.toList sep = if n = g then 0 else n) := by
        show _ = _
        rw [HF2.out, if_neg h1, if_neg]
        rintro ⟨h, _⟩
        rw [show s.data.toList.getD n 0 = 0 from by rw [List.getD, List.getElem?_eq_none (by rw [← size_data]; omega)]; rfl] at h
        simp at h
      clear HF2
      subst hmn
      go_upto_if 38 with (first
          | (go_at_call 113; refine (span_n _ _ _ tDigit_any ?hz m ?hq _).mono ?_; (case hz => omega); (case hq => exact HM.out); rintro e w' ⟨rfl, rfl⟩)
          | (go_at_call 92; refine (wordLength_n s h0 hs wl HW.out _).mono ?_; rintro e w' ⟨rfl, rfl⟩))
      by_cases h5 : g + m = g
      · go_wp2
        go_ret
        exact ⟨ret_int (by rw [HF3.out, if_pos h5]; rfl), rfl⟩
      · go_wp2
        go_ret
        exact ⟨ret_int (by rw [HF3.out, if_neg h5]; omega), rfl⟩
end Go.Proofs.YtpalfhfbgfnacaaGreatDoor

/-
  The contract of package tokens' number.
-/
namespace Go.Proofs.YtpalfhfbgfnacaaGreatDoor
open Go.RowKit
set_option linter.unusedVariables false
set_option linter.unusedSimpArgs false

/-- A token without a position. -/
def tokV (k : Nat) (x : ByteArray) : Value := .agg #[.int .u8 k, .string x, .int .i64 0, .int .i64 0, .bool false]
def rdV : RdT → Value
  | .bad e => .tuple #[tokV 0 ⟨#[]⟩, .int .i64 0, .int .i64 e]
  | .got k x n => .tuple #[tokV k (strL x), .int .i64 n, .int .i64 0]
theorem ret_eq {a b : Value} (h : a = b) : Ending.returned a = .returned b := by rw [h]
theorem prefix_data (s : ByteArray) (n : Nat) : (s.extract 0 n).data.toList = s.data.toList.take n := by
  rw [extract_data, List.drop_zero]
theorem count_drop (p : UInt8 → Bool) (l : List UInt8) (k : Nat) (c : UInt8) (h : l[k]? = some c) : (l.take (k + 1)).countP p = (l.take k).countP p + if p c = true then 1 else 0 := by
  have hk := lt_of_get h
  rw [List.take_succ_eq_append_getElem hk, List.countP_append]
  rw [List.getElem?_eq_getElem hk] at h
  injection h with h
  rw [h]
  simp [List.countP_cons]
set_option maxHeartbeats 1000000 in
set_option maxRecDepth 100000 in
theorem number_any (s : ByteArray) (n : Nat) (hn : n ≤ s.size) (hs : s.size ≤ 134217728) (w : World) : Calls Tryz.prog 91 #[.string s, .int .i64 n] w fun e w' => e = .returned (rdV (numT s.data.toList n)) ∧ Below w.heap.size w w' := by
  obtain ⟨m, hm⟩ : ∃ m, m = spn inwB (s.data.toList.drop n) := ⟨_, rfl⟩
  have HM := Lib.hid (show spn inwB (s.extract n s.size).data.toList = m from by rw [hm, suffix_data])
  have hml : m ≤ s.size - n := by
    have := spn_le inwB (s.data.toList.drop n)
    rw [List.length_drop, ← size_data] at this
    omega
  have HF : Hid (numT s.data.toList n = if 0 < m then .bad 4 else if 18 < (s.data.toList.take n).countP digB then .bad 5 else .got 2 (s.data.toList.take n) n) := by
    show _ = _
    unfold numT
    rw [hm]
  have hss := suffix_size s n hn
  clear hm
  by_cases h1 : 0 < m
  · go_enter Tryz.func91, Tryz.ntmps91
    go_upto_if 14 with (go_at_call 113; refine (span_n _ _ _ tInWord_any ?hz m ?hq _).mono ?_; (case hz => omega); (case hq => exact HM.out); rintro e w' ⟨rfl, rfl⟩)
    go_wp2
    go_returns
    refine ⟨ret_eq (by rw [HF.out, if_pos h1]; rfl), ?_⟩
    go_grown
  · obtain ⟨x, hx⟩ : ∃ x, x = s.extract 0 n := ⟨_, rfl⟩
    have HX : Hid (x.data.toList = s.data.toList.take n) := by show _ = _; rw [hx, prefix_data]
    have HSX : Hid (s.extract 0 n = x) := hx.symm
    have hxs : x.size = n := by rw [hx, ByteArray.size_extract]; omega
    have HF2 : Hid (numT s.data.toList n = if 18 < x.data.toList.countP digB then .bad 5 else .got 2 x.data.toList n) := by
      show _ = _
      rw [HF.out, if_neg h1, HX.out]
    clear HF hx
    obtain rfl : m = 0 := by omega
    clear h1
    go_enter Tryz.func91, Tryz.ntmps91
    go_upto_if 14 with (go_at_call 113; refine (span_n _ _ _ tInWord_any ?hz 0 ?hq _).mono ?_; (case hz => omega); (case hq => exact HM.out); rintro e w' ⟨rfl, rfl⟩)
    clear HM
    go_wp2
    rw [HSX.out]
    obtain ⟨w1, hw1⟩ : ∃ w1, w1 = (w.alloc (Obj.cells #[Value.int IntKind.u8 0, Value.string { data := #[] }, Value.int IntKind.i64 0, Value.int IntKind.i64 0, Value.bool false] 44)) := ⟨_, rfl⟩
    go_loop [8, 20] (fun d i => ∃ k : Nat, k ≤ n ∧ i = .int .i64 k ∧ d = .int .i64 ((x.data.toList.take k).countP digB)) (fun d i => n - (intOf i).toNat)
    case atStart => exact ⟨0, Nat.zero_le _, rfl, rfl⟩
    case round =>
      obtain ⟨k, hk, rfl, rfl⟩ := hrel
      have hcl : (x.data.toList.take k).countP digB ≤ k := Nat.le_trans List.countP_le_length (by simp; omega)
      obtain ⟨d, hd⟩ : ∃ d, d = (x.data.toList.take k).countP digB := ⟨_, rfl⟩
      rw [← hd] at hcl ⊢
      by_cases hlt : k < n
      · have HS : Hid ((x.data.toList.take (k + 1)).countP digB = d + if digB x[k] = true then 1 else 0) := by
          show _ = _
          rw [count_drop digB _ k _ (get_data x k (by omega)), hd]
        clear hd
        obtain ⟨b, hb⟩ : ∃ b, b = digB x[k] := ⟨_, rfl⟩
        have HB := Lib.hid hb
        have hks : k < x.size := by omega
        go_upto_if 26 with (go_at_call 115; refine (tIsDigit_any _ _).mono ?_; rintro e w' ⟨rfl, rfl⟩)
        rw [← hb]
        clear hb
        cases b
        · go_wp2
          go_round
          case rel => exact ⟨k + 1, by omega, by go_num, by rw [HS.out, ← HB.out]; simp⟩
          case measure => simp [intOf]; omega
        · go_wp2
          go_round
          case rel => exact ⟨k + 1, by omega, by go_num, by rw [HS.out, ← HB.out]; go_num⟩
          case measure => simp [intOf]; omega
      · have hke : k = n := by omega
        have HD : Hid (d = x.data.toList.countP digB) := by
          show _ = _
          rw [hd, List.take_of_length_le (by rw [← size_data]; omega)]
        clear hd
        by_cases h18 : 18 < d
        · go_wp2
          go_returns
          refine ⟨ret_eq (by rw [HF2.out, if_pos (by rw [← HD.out]; exact h18)]; rfl), ?_⟩
          go_grown
        · go_wp2
          go_returns
          refine ⟨ret_eq (by rw [HF2.out, if_neg (by rw [← HD.out]; exact h18)]; rfl), ?_⟩
          go_grown
end Go.Proofs.YtpalfhfbgfnacaaGreatDoor

/-
  Slices of tokens in memory; the contracts of package tokens' cutWord, endsWithPic.
-/
namespace Go.Proofs.YtpalfhfbgfnacaaGreatDoor
open Go.RowKit
set_option linter.unusedVariables false
set_option linter.unusedSimpArgs false

/-- The slice v reads as the tokens L. -/
def ToksAt (w : World) (v : Value) (L : List Tok) : Prop :=
  ∃ a cap, v = .slice a L.length cap ∧ L.length ≤ cap ∧ L.length ≤ 134217728 ∧ (0 < L.length → ∃ b o, a = some ⟨b, o, none⟩ ∧ b < w.heap.size ∧
    ∀ k t, L[k]? = some t → t.kind < 256 ∧ w.cell? ⟨b, o + k * 5, none⟩ = some (.int .u8 t.kind) ∧ w.cell? ⟨b, o + k * 5 + 1, none⟩ = some (.string (strL t.text)) ∧ w.cell? ⟨b, o + k * 5 + 2, none⟩ = some (.int .i64 t.line) ∧ w.cell? ⟨b, o + k * 5 + 3, none⟩ = some (.int .i64 t.col) ∧ w.cell? ⟨b, o + k * 5 + 4, none⟩ = some (.bool t.left))
theorem ToksAt.kept {w w' : World} {v : Value} {L : List Tok} (h : ToksAt w v L) (hs : w.heap.size ≤ w'.heap.size) (hk : ∀ p : Addr, p.block < w.heap.size → w'.cell? p = w.cell? p) : ToksAt w' v L := by
  obtain ⟨a, cap, h1, h2, h3, h4⟩ := h
  refine ⟨a, cap, h1, h2, h3, fun hl => ?_⟩
  obtain ⟨b, o, e, hb, hc⟩ := h4 hl
  refine ⟨b, o, e, by omega, fun k t hk2 => ?_⟩
  obtain ⟨c0, c1, c2, c3, c4, c5⟩ := hc k t hk2
  exact ⟨c0, (hk _ hb).trans c1, (hk _ hb).trans c2, (hk _ hb).trans c3, (hk _ hb).trans c4, (hk _ hb).trans c5⟩
theorem ToksAt.below {w w' : World} {v : Value} {L : List Tok} (h : ToksAt w v L) (hb : Below w.heap.size w w') : ToksAt w' v L := h.kept hb.size fun _ hp => hb.cell hp
theorem ToksAt.nil (w : World) : ToksAt w (.slice none 0 0) [] := ⟨none, 0, rfl, Nat.le_refl _, by simp, fun h => absurd h (by simp)⟩
theorem ToksAt.dropLast {w : World} {a : Option Addr} {cap : Nat} {L : List Tok} (h : ToksAt w (.slice a L.length cap) L) : ToksAt w (.slice a (L.length - 1) cap) L.dropLast := by
  obtain ⟨a', cap', h1, h2, h3, h4⟩ := h
  injection h1 with e1 e2 e3
  subst e1; subst e3
  refine ⟨a, cap, by rw [List.length_dropLast], by rw [List.length_dropLast]; omega, by rw [List.length_dropLast]; omega, fun hl => ?_⟩
  rw [List.length_dropLast] at hl
  obtain ⟨b, o, e, hb, hc⟩ := h4 (by omega)
  refine ⟨b, o, e, hb, fun k t hk => hc k t ?_⟩
  have := lt_of_get hk
  rw [List.length_dropLast] at this
  rw [List.getElem?_dropLast] at hk
  rw [if_pos this] at hk
  exact hk
/-- The last token is the word s. -/
def lastIs (s : List UInt8) (L : List Tok) : Bool := match L.getLast? with | some t => isWd s t | none => false
def CutPost (s : List UInt8) (L : List Tok) (w : World) (e : Ending) (w' : World) : Prop :=
  w = w' ∧ ∃ v, e = .returned (.tuple #[v, .bool (lastIs s L)]) ∧ ToksAt w v (if lastIs s L = true then L.dropLast else [])
set_option maxHeartbeats 1000000 in
set_option maxRecDepth 100000 in
theorem cutWord_any (v : Value) (L : List Tok) (s : ByteArray) (w : World) (h : ToksAt w v L) :
    Calls Tryz.prog 110 #[v, .string s] w (CutPost s.data.toList L w) := by
  obtain ⟨a, cap, rfl, hcap, hlen, hcells⟩ := h
  rcases Nat.eq_zero_or_pos L.length with h0 | h0
  · have hL : L = [] := List.eq_nil_of_length_eq_zero h0
    subst hL
    clear hcells
    go_enter Tryz.func110, Tryz.ntmps110
    go_wp2
    go_returns
    exact ⟨rfl, .slice none 0 0, rfl, ToksAt.nil _⟩
  · obtain ⟨n, hn⟩ : ∃ n, L.length = n + 1 := ⟨L.length - 1, by omega⟩
    obtain ⟨b, o, rfl, hb, hc⟩ := hcells h0
    obtain ⟨t, hg⟩ : ∃ t, L[n]? = some t := ⟨_, List.getElem?_eq_getElem (by omega)⟩
    obtain ⟨c0, c1, c2, _, _, _⟩ := hc n _ hg
    have HT : Hid (ToksAt w (.slice (some ⟨b, o, none⟩) L.length cap) L) := ⟨_, _, rfl, hcap, hlen, fun _ => ⟨b, o, rfl, hb, hc⟩⟩
    have HL : Hid (L.getLast? = some t) := by
      show _ = _
      rw [List.getLast?_eq_getElem?, show L.length - 1 = n from by omega]; exact hg
    have HD : Hid (ToksAt w (.slice (some ⟨b, o, none⟩) n cap) L.dropLast) := by
      have := HT.out.dropLast
      rw [show L.length - 1 = n from by omega] at this
      exact this
    clear hc hg hcells
    obtain ⟨x, hx⟩ : ∃ x, x = strL t.text := ⟨_, rfl⟩
    rw [← hx] at c2
    have HX : Hid (x.data.toList = t.text) := by show _ = _; rw [hx]; rfl
    clear hx
    rw [hn] at hcap hlen ⊢
    have HN := Lib.hid hn; clear hn h0
    have hfin : ∀ (r : Bool) (v : Value), lastIs s.data.toList L = r → ToksAt w v (if r = true then L.dropLast else []) → CutPost s.data.toList L w (.returned (.tuple #[v, .bool r])) w := by
      rintro r v rfl hv
      exact ⟨rfl, v, rfl, hv⟩
    have HFIN := Lib.hid hfin; clear hfin
    by_cases h1 : t.kind = 1
    · rw [h1] at c1
      by_cases h2 : x = s
      · have HR : Hid (lastIs s.data.toList L = true) := by
          show _ = _
          unfold lastIs
          rw [HL.out]
          simp [isWd, h1, ← HX.out, h2]
        subst h2
        clear h1
        go_enter Tryz.func110, Tryz.ntmps110
        go_wp2
        go_returns
        exact HFIN.out true _ HR.out HD.out
      · have HR : Hid (lastIs s.data.toList L = false) := by
          show _ = _
          unfold lastIs
          rw [HL.out]
          have : t.text ≠ s.data.toList := fun e => h2 (str_ext (HX.out.trans e))
          simp [isWd, this]
        have hne : (x.toList == s.toList) = false := by
          rw [beq_eq_false_iff_ne, ByteArray.toList_eq, ByteArray.toList_eq]
          exact fun e => h2 (str_ext e)
        have hne2 : (x.toList != s.toList) = true := by rw [bne, hne]; rfl
        clear h1 h2
        go_enter Tryz.func110, Tryz.ntmps110
        go_wp2
        go_returns
        exact HFIN.out false _ HR.out (ToksAt.nil _)
    · have HR : Hid (lastIs s.data.toList L = false) := by
        show _ = _
        unfold lastIs
        rw [HL.out]
        simp [isWd, h1]
      have hk1 : ((t.kind : Int) != 1) = true := by simp; omega
      clear h1
      go_enter Tryz.func110, Tryz.ntmps110
      go_wp2
      go_returns
      exact HFIN.out false _ HR.out (ToksAt.nil _)
theorem endPic_last (L : List Tok) : endPic L = (lastIs [80, 73, 67] L || lastIs [80, 73, 67, 84, 85, 82, 69] L) := by
  unfold endPic lastIs
  cases L.getLast? with
  | none => rfl
  | some t => rfl
theorem expPic_last (L : List Tok) : expPic L = (endPic L || (lastIs [73, 83] L && endPic L.dropLast)) := by
  unfold expPic lastIs
  cases L.getLast? with
  | none => rfl
  | some t => rfl
set_option maxHeartbeats 1000000 in
set_option maxRecDepth 100000 in
theorem endsWithPic_any (v : Value) (L : List Tok) (w : World) (h : ToksAt w v L) :
    Calls Tryz.prog 111 #[v] w fun e w' => e = .returned (.bool (endPic L)) ∧ w = w' := by
  obtain ⟨b1, hb1⟩ : ∃ b, b = lastIs [80, 73, 67] L := ⟨_, rfl⟩
  obtain ⟨b2, hb2⟩ : ∃ b, b = lastIs [80, 73, 67, 84, 85, 82, 69] L := ⟨_, rfl⟩
  have HR : Hid (endPic L = (b1 || b2)) := by show _ = _; rw [endPic_last, hb1, hb2]
  have HC1 : Hid (Calls Tryz.prog 110 #[v, .string ⟨#[80, 73, 67]⟩] w fun e w' => w = w' ∧ ∃ v, e = .returned (.tuple #[v, .bool b1])) := by
    refine (cutWord_any v L _ w h).mono ?_
    rintro e w' ⟨h1, v, h2, _⟩
    exact ⟨h1, v, by rw [hb1]; exact h2⟩
  have HC2 : Hid (Calls Tryz.prog 110 #[v, .string ⟨#[80, 73, 67, 84, 85, 82, 69]⟩] w fun e w' => w = w' ∧ ∃ v, e = .returned (.tuple #[v, .bool b2])) := by
    refine (cutWord_any v L _ w h).mono ?_
    rintro e w' ⟨h1, v, h2, _⟩
    exact ⟨h1, v, by rw [hb2]; exact h2⟩
  clear h hb1 hb2
  cases b1
  · go_enter Tryz.func111, Tryz.ntmps111
    go_upto_region 2 with (go_at_call 110; refine HC1.out.mono ?_; rintro e w' ⟨rfl, v1, rfl⟩)
    go_wp2_with (go_at_call 110; refine HC2.out.mono ?_; rintro e w' ⟨rfl, v2, rfl⟩)
    go_ret
    exact ⟨ret_bool (by rw [HR.out]; rfl), rfl⟩
  · go_enter Tryz.func111, Tryz.ntmps111
    go_upto_region 2 with (go_at_call 110; refine HC1.out.mono ?_; rintro e w' ⟨rfl, v1, rfl⟩)
    go_wp2_with (go_at_call 110; refine HC2.out.mono ?_; rintro e w' ⟨rfl, v2, rfl⟩)
    go_ret
    exact ⟨ret_bool (by rw [HR.out]; rfl), rfl⟩
end Go.Proofs.YtpalfhfbgfnacaaGreatDoor
