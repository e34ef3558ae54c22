/-
  Texts of this seat, merged: LinL LinS SumL.
-/
import Derived.Test.YtpalfhfbgfnacaaGreatDoorGW
import Derived.Test.YtpalfhfbgfnacaaGreatDoorGA
import Derived.Test.YtpalfhfbgfnacaaGreatDoorSqzL
import Derived.Test.YtpalfhfbgfnacaaGreatDoorPlcL
/-
  Plain lemmas: tokens do not depend on how their text is distributed to cards. No program is named here.
-/
namespace Go.Proofs.YtpalfhfbgfnacaaGreatDoor
open Go.RowKit
set_option linter.unusedVariables false
set_option linter.unusedSimpArgs false

/-! ### Bytes in front of a space -/
theorem spn_cut {p : UInt8 → Bool} (hp : p 32 = false) : ∀ (r z : List UInt8), spn p (r ++ 32 :: z) = spn p r
  | [], z => by simp [spn, hp]
  | c :: r, z => by
    simp only [List.cons_append, spn]
    rw [spn_cut hp r z]
theorem prefix_cut : ∀ (x r z : List UInt8), (∀ c ∈ x, c ≠ 32) → x.isPrefixOf (r ++ 32 :: z) = x.isPrefixOf r
  | [], r, z, _ => by simp [List.isPrefixOf]
  | c :: x, [], z, h => by
    have : c ≠ 32 := h c (by simp)
    simp [List.isPrefixOf, this]
  | c :: x, d :: r, z, h => by
    simp only [List.cons_append, List.isPrefixOf]
    rw [prefix_cut x r z (fun y hy => h y (by simp [hy]))]
theorem take_cut {r z : List UInt8} {n : Nat} (h : n ≤ r.length) : (r ++ z).take n = r.take n := List.take_append_of_le_length h
theorem drop_cut {r z : List UInt8} {n : Nat} (h : n ≤ r.length) : (r ++ z).drop n = r.drop n ++ z := List.drop_append_of_le_length h
theorem getD_cut {r z : List UInt8} {n : Nat} (h : n < r.length) : (r ++ z).getD n 0 = r.getD n 0 := by
  simp [List.getD, List.getElem?_append_left h]
theorem allT_cut (r z : List UInt8) : allT (r ++ 32 :: z) = allT r := by
  unfold allT
  rw [spn_cut (by decide), take_cut (spn_le _ _)]
theorem wrdN_cut {r : List UInt8} (z : List UInt8) (hr : r ≠ []) : wrdN (r ++ 32 :: z) = wrdN r := by
  unfold wrdN
  rw [getD_cut (List.length_pos_iff.2 hr), spn_cut (by decide)]
theorem sgN_cut {r : List UInt8} (z : List UInt8) (sep : Bool) (hr : r ≠ []) : sgN (r ++ 32 :: z) sep = sgN r sep := by
  unfold sgN
  rw [getD_cut (List.length_pos_iff.2 hr)]
theorem point_cut {r : List UInt8} (z : List UInt8) {n : Nat} (hn : n ≤ r.length) :
    (((r ++ 32 :: z).getD n 0).toNat = 46 ∧ 0 < spn digB ((r ++ 32 :: z).drop (n + 1))) ↔ ((r.getD n 0).toNat = 46 ∧ 0 < spn digB (r.drop (n + 1))) := by
  rcases Nat.lt_or_ge n r.length with h | h
  · rw [getD_cut h, drop_cut (by omega), spn_cut (by decide)]
  · obtain rfl : n = r.length := by omega
    have h1 : (r ++ 32 :: z).getD r.length 0 = 32 := by simp [List.getD]
    have h2 : r.getD r.length 0 = 0 := by simp [List.getD]
    rw [h1, h2]
    constructor
    · rintro ⟨h, _⟩; exact absurd h (by decide)
    · rintro ⟨h, _⟩; exact absurd h (by decide)
theorem numN_cut {r : List UInt8} (z : List UInt8) (sep : Bool) (hr : r ≠ []) : numN (r ++ 32 :: z) sep = numN r sep := by
  have hg := sgN_len sep hr
  have hs := spn_le digB (r.drop (sgN r sep))
  rw [List.length_drop] at hs
  unfold numN
  rw [sgN_cut z sep hr, wrdN_cut z hr]
  dsimp only
  rw [drop_cut hg, spn_cut (by decide)]
  generalize hn : sgN r sep + spn digB (r.drop (sgN r sep)) = n
  have hp := point_cut z (r := r) (n := n) (by omega)
  by_cases h1 : n < wrdN r
  · rw [if_pos h1, if_pos h1]
  · rw [if_neg h1, if_neg h1]
    by_cases h2 : (r.getD n 0).toNat = 46 ∧ 0 < spn digB (r.drop (n + 1))
    · rw [if_pos (hp.2 h2), if_pos h2]
      have hl : n < r.length := by
        rcases Nat.lt_or_ge n r.length with h | h
        · exact h
        · have : r.getD n 0 = 0 := by simp [List.getD, List.getElem?_eq_none h]
          rw [this] at h2; exact absurd h2.1 (by decide)
      rw [drop_cut (by omega), spn_cut (by decide)]
    · rw [if_neg (fun h => h2 (hp.1 h)), if_neg h2]
theorem numT_cut {r : List UInt8} (z : List UInt8) {n : Nat} (hn : n ≤ r.length) : numT (r ++ 32 :: z) n = numT r n := by
  unfold numT
  rw [drop_cut hn, spn_cut (by decide), take_cut hn]
theorem endT_cut {r : List UInt8} (z : List UInt8) (hr : r ≠ []) : endT ((r ++ 32 :: z).drop 1) = endT (r.drop 1) := by
  match r, hr with
  | [c], _ => simp [endT]
  | c :: d :: r, _ => simp [endT]
theorem isIS_cut {r : List UInt8} (z : List UInt8) (hr : r ≠ []) : isIS (r ++ 32 :: z) = isIS r := by
  unfold isIS
  rw [wrdN_cut z hr, take_cut (wrdN_le r)]
theorem eqs_cut (r z : List UInt8) : eqs (r ++ 32 :: z) = eqs r := by
  unfold eqs
  exact prefix_cut _ r z (by decide)
theorem signs_no32 : ∀ x ∈ signsL, ∀ c ∈ x, c ≠ (32 : UInt8) := by decide
theorem find_congr {α : Type} {p q : α → Bool} : ∀ (l : List α), (∀ x ∈ l, p x = q x) → l.find? p = l.find? q
  | [], _ => rfl
  | x :: l, h => by
    simp only [List.find?]
    rw [h x (by simp), find_congr l (fun y hy => h y (by simp [hy]))]
theorem signT_cut (r z : List UInt8) : signT (r ++ 32 :: z) = signT r := by
  unfold signT
  rw [find_congr (q := fun x => x.isPrefixOf r) signsL (fun x hx => prefix_cut x r z (signs_no32 x hx))]
theorem qn_cons (c : UInt8) (l : List UInt8) : qn (c :: l) = qn l + if c.toNat = 34 then 1 else 0 := by
  simp [qn, List.countP_cons]
theorem litE_cut : ∀ (l z : List UInt8), qn l % 2 = 1 → litE (l ++ 32 :: z) = litE l
  | [], z, h => by simp [qn] at h
  | [c], z, h => by
    rw [qn_cons] at h
    by_cases hc : c.toNat = 34
    · simp [litE, hc]
    · rw [if_neg hc] at h; simp [qn] at h
  | c :: d :: l, z, h => by
    by_cases hc : c.toNat = 34
    · by_cases hd : d.toNat = 34
      · have ih := litE_cut l z (by rw [qn_cons, qn_cons, if_pos hc, if_pos hd] at h; omega)
        simp only [List.cons_append, litE]
        rw [if_pos hc, if_pos hc, if_pos hd, if_pos hd, ih]
      · simp only [List.cons_append, litE]
        rw [if_pos hc, if_pos hc, if_neg hd, if_neg hd]
    · have ih := litE_cut (d :: l) z (by rw [qn_cons, if_neg hc] at h; omega)
      rw [List.cons_append] at ih
      have e1 : litE (c :: d :: l ++ 32 :: z) = (litE (d :: (l ++ 32 :: z))).map (fun x => (c :: x.1, x.2 + 1)) := by
        rw [List.cons_append, List.cons_append, litE, if_neg hc]
      have e2 : litE (c :: d :: l) = (litE (d :: l)).map (fun x => (c :: x.1, x.2 + 1)) := by
        rw [litE, if_neg hc]
      rw [e1, e2, ih]
theorem odd_of_open {c : UInt8} {l : List UInt8} (hc : c.toNat = 34) (h : openB (c :: l) = false) : qn l % 2 = 1 := by
  unfold openB at h
  rw [qn_cons, if_pos hc] at h
  have := of_decide_eq_false h
  omega
/-- What is read does not depend on what stands behind a space that is in no literal. -/
theorem readT_cut (e x sep : Bool) {r : List UInt8} (z : List UInt8) (hr : r ≠ []) (ho : openB r = false) : readT e x sep (r ++ 32 :: z) = readT e x sep r := by
  have h0 := getD_cut (z := 32 :: z) (List.length_pos_iff.2 hr)
  unfold readT
  rw [eqs_cut, isIS_cut z hr, h0, endT_cut z hr, numN_cut z sep hr, wrdN_cut z hr, signT_cut, numT_cut z (numN_le hr), take_cut (wrdN_le r)]
  have hp : picT (r ++ 32 :: z) = picT r := by unfold picT; rw [allT_cut]
  rw [hp]
  by_cases h1 : x = true ∧ eqs r = false ∧ ¬(isIS r = true ∧ e = true)
  · rw [if_pos h1, if_pos h1]
  · rw [if_neg h1, if_neg h1]
    by_cases h2 : (r.getD 0 0).toNat = 34
    · rw [if_pos h2, if_pos h2]
      unfold litT
      match r, hr with
      | c :: l, _ =>
        have hc : c.toNat = 34 := by simpa using h2
        have := litE_cut l z (odd_of_open hc ho)
        simp only [List.cons_append, List.drop_succ_cons, List.drop_zero]
        rw [this]
    · rw [if_neg h2, if_neg h2]

/-! ### Quotes of a token -/
def noQ (l : List UInt8) : Prop := ∀ c ∈ l, c.toNat ≠ 34
theorem noQ_open {l : List UInt8} (h : noQ l) : openB l = false := by
  have : qn l = 0 := by
    unfold qn
    rw [List.countP_eq_zero]
    intro c hc
    simpa using h c hc
  unfold openB; rw [this]; rfl
theorem noQ_spn {p : UInt8 → Bool} (hp : ∀ c, p c = true → c.toNat ≠ 34) (l : List UInt8) : noQ (l.take (spn p l)) := fun c hc => by
  obtain ⟨j, hj⟩ := List.mem_iff_getElem?.1 hc
  have hl := lt_of_get hj
  rw [List.length_take] at hl
  rw [List.getElem?_take_of_lt (by omega)] at hj
  exact hp c (spn_all p l j c (by omega) hj)
theorem noQ_app {a b : List UInt8} (h1 : noQ a) (h2 : noQ b) : noQ (a ++ b) := fun c hc => by
  rcases List.mem_append.1 hc with h | h
  · exact h1 c h
  · exact h2 c h
theorem take_add' (l : List UInt8) (i j : Nat) : l.take (i + j) = l.take i ++ (l.drop i).take j := List.take_add
theorem inw_noQ (c : UInt8) (h : inwB c = true) : c.toNat ≠ 34 := fun e => by
  unfold inwB letB capB smallB digB at h; rw [e] at h; revert h; decide
theorem dig_noQ (c : UInt8) (h : digB c = true) : c.toNat ≠ 34 := fun e => by
  unfold digB at h; rw [e] at h; revert h; decide
theorem noQ_one {l : List UInt8} {k : Nat} (h : (l.getD k 0).toNat ≠ 34) : noQ ((l.drop k).take 1) := fun c hc => by
  cases hd : l.drop k with
  | nil => rw [hd] at hc; simp at hc
  | cons d r =>
    rw [hd] at hc
    simp at hc
    subst hc
    have : l[k]? = some c := by have := congrArg (·[0]?) hd; simpa using this
    simpa [List.getD, this] using h
theorem num_noQ (r : List UInt8) (sep : Bool) : noQ (r.take (numN r sep)) := by
  have hg : noQ (r.take (sgN r sep)) := by
    rcases sg_cases r sep with h | h
    · rw [h]; intro c hc; simp at hc
    · rw [h]
      have h2 : (r.getD 0 0).toNat ≠ 34 := by
        unfold sgN at h
        split at h
        · rename_i hh; omega
        · cases h
      have := noQ_one h2
      simpa using this
  have hi : noQ (r.take (sgN r sep + spn digB (r.drop (sgN r sep)))) := by
    rw [take_add']
    exact noQ_app hg (noQ_spn dig_noQ _)
  unfold numN
  dsimp only
  split
  · intro c hc; simp at hc
  split
  · rename_i hh
    rw [take_add', take_add']
    refine noQ_app (noQ_app hi (noQ_one (by omega))) (noQ_spn dig_noQ _)
  split
  · intro c hc; simp at hc
  · exact hi
theorem litE_open : ∀ (l x : List UInt8) (n : Nat), litE l = some (x, n) → qn (l.take n) % 2 = 1
  | [], x, n, h => by simp [litE] at h
  | [c], x, n, h => by
    by_cases hc : c.toNat = 34
    · rw [litE, if_pos hc] at h
      simp at h
      rw [← h.2]
      simp [qn, hc]
    · rw [litE, if_neg hc] at h
      simp [litE] at h
  | c :: d :: l, x, n, h => by
    by_cases hc : c.toNat = 34
    · by_cases hd : d.toNat = 34
      · rw [litE, if_pos hc, if_pos hd] at h
        cases hl : litE l with
        | none => rw [hl] at h; simp at h
        | some y =>
          rw [hl] at h; simp at h
          have ih := litE_open l y.1 y.2 (by rw [hl])
          rw [← h.2]
          simp only [List.take_succ_cons]
          rw [qn_cons, qn_cons, if_pos hc, if_pos hd]; omega
      · rw [litE, if_pos hc, if_neg hd] at h
        simp at h
        rw [← h.2]
        simp [qn, hc]
    · rw [litE, if_neg hc] at h
      cases hl : litE (d :: l) with
      | none => rw [hl] at h; simp at h
      | some y =>
        rw [hl] at h; simp at h
        have ih := litE_open (d :: l) y.1 y.2 (by rw [hl])
        rw [← h.2]
        simp only [List.take_succ_cons]
        rw [qn_cons, if_neg hc]; omega
theorem trimP_prefix2 (l : List UInt8) : l.take (trimP l).length = trimP l := by
  have h : ∃ s, l = trimP l ++ s := by
    unfold trimP
    refine ⟨(l.reverse.takeWhile ptB).reverse, ?_⟩
    rw [← List.reverse_append, List.takeWhile_append_dropWhile, List.reverse_reverse]
  obtain ⟨s, hs⟩ := h
  conv => lhs; arg 2; rw [hs]
  simp
/-- A token has its quotes in pairs. -/
theorem read_open {e x sep : Bool} {r : List UInt8} {k n : Nat} {y : List UInt8} (hr : r ≠ []) (h : readT e x sep r = .got k y n) : openB (r.take n) = false := by
  unfold readT at h
  split at h
  · unfold picT at h
    split at h
    · cases h
    · rename_i hh
      injection h with h1 h2 h3
      have e1 : r.take n = trimP (allT r) := by
        have h4 := trimP_prefix2 (allT r)
        have h5 := trimP_le (allT r)
        rw [h3] at h4 h5
        rw [← h4]
        have h6 : (allT r).length ≤ spn (fun c => !spcB c) r := by unfold allT; rw [List.length_take]; omega
        show r.take n = (r.take (spn (fun c => !spcB c) r)).take n
        rw [List.take_take, Nat.min_eq_left (by omega)]
      rw [e1]
      apply noQ_open
      intro c hc e34
      apply hh
      refine .inr (.inr ?_)
      rw [List.any_eq_true]
      exact ⟨c, hc, by simpa using e34⟩
  split at h
  · rename_i h34
    unfold litT at h
    split at h
    · cases h
    · rename_i t' n' hl
      split at h
      · cases h
      · injection h with h1 h2 h3
        have := litE_open _ _ _ hl
        match r, hr with
        | c :: l, _ =>
          have hc : c.toNat = 34 := by simpa using h34
          rw [← h3, List.take_succ_cons]
          unfold openB
          rw [qn_cons, if_pos hc]
          simp only [List.drop_succ_cons, List.drop_zero] at this
          exact decide_eq_false (by omega)
  split at h
  · rename_i h46
    injection h with h1 h2 h3
    have := noQ_one (l := r) (k := 0) (by omega)
    rw [List.drop_zero] at this
    rw [← h3]; exact noQ_open this
  split at h
  · rename_i he
    injection h with h1 h2 h3
    have := prefix_take (x := [61, 61]) (r := r) he
    rw [← h3]
    rw [show r.take 2 = [61, 61] from this]; decide
  split at h
  · unfold numT at h
    split at h
    · cases h
    split at h
    · cases h
    · injection h with h1 h2 h3
      rw [← h3]; exact noQ_open (num_noQ r sep)
  split at h
  · rename_i hw
    have hall : noQ (r.take (wrdN r)) := by
      unfold wrdN
      split
      · intro c hc; simp at hc
      · exact noQ_spn inw_noQ r
    unfold wordT at h
    split at h
    · injection h with h1 h2 h3
      rw [← h3, List.length_take, Nat.min_eq_left (wrdN_le r)]
      exact noQ_open hall
    split at h <;> cases h
  · obtain ⟨_, hx, rfl, hp2⟩ := signT_got h
    rw [prefix_take hp2]
    have : ∀ z ∈ signsL, openB z = false := by decide
    exact this _ hx

/-! ### Separators -/
theorem skipN_cut (x : Bool) : ∀ (r z : List UInt8), skipN x (r ++ 32 :: z) = if skipN x r = r.length then r.length + skipN x (32 :: z) else skipN x r
  | [], z => by simp [skipN]
  | c :: r, z => by
    have ih := skipN_cut x r z
    have he : endT (r ++ 32 :: z) = endT r := by cases r <;> simp [endT]
    by_cases h : c.toNat = 32 ∨ (c.toNat = 44 ∨ c.toNat = 59) ∧ x = false ∧ endT r = true
    · have e1 : skipN x (c :: r ++ 32 :: z) = skipN x (r ++ 32 :: z) + 1 := by
        rw [List.cons_append, skipN, he, if_pos h]
      have e2 : skipN x (c :: r) = skipN x r + 1 := by rw [skipN, if_pos h]
      rw [e1, e2, ih, List.length_cons]
      by_cases h2 : skipN x r = r.length
      · rw [if_pos h2, if_pos (by omega)]; omega
      · rw [if_neg h2, if_neg (by omega)]
    · have e1 : skipN x (c :: r ++ 32 :: z) = 0 := by
        rw [List.cons_append, skipN, he, if_neg h]
      have e2 : skipN x (c :: r) = 0 := by rw [skipN, if_neg h]
      rw [e1, e2, List.length_cons, if_neg (by omega)]
theorem skipN_open (x : Bool) : ∀ r : List UInt8, noQ (r.take (skipN x r))
  | [] => fun c hc => by simp at hc
  | c :: r => by
    rw [skipN]
    split
    · rename_i h
      rw [List.take_succ_cons]
      intro d hd
      rcases List.mem_cons.1 hd with rfl | hd
      · omega
      · exact skipN_open x r d hd
    · intro d hd; simp at hd
theorem skipN_spaces (x : Bool) : ∀ (m : Nat) (b : List UInt8), skipN x (List.replicate m 32 ++ b) = m + skipN x b
  | 0, b => by simp
  | m + 1, b => by
    rw [List.replicate_succ, List.cons_append, skipN, if_pos (.inl (by decide)), skipN_spaces x m b]; omega

/-! ### Tokens with the same kinds and texts -/
def kt (t : Tok) : Nat × List UInt8 := (t.kind, t.text)
def SamT (a b : List Tok) : Prop := a.map kt = b.map kt
theorem SamT.rfl' (a : List Tok) : SamT a a := rfl
theorem SamT.snoc {a b : List Tok} (h : SamT a b) {s t : Tok} (hk : kt s = kt t) : SamT (a ++ [s]) (b ++ [t]) := by
  unfold SamT; rw [List.map_append, List.map_append, show a.map kt = b.map kt from h]; simp [hk]
theorem SamT.len {a b : List Tok} (h : SamT a b) : a.length = b.length := by
  have := congrArg List.length (show a.map kt = b.map kt from h); simpa using this
def picKT (k : Nat × List UInt8) : Bool := (decide (k.1 = 1) && decide (k.2 = [80, 73, 67])) || (decide (k.1 = 1) && decide (k.2 = [80, 73, 67, 84, 85, 82, 69]))
theorem endPic_kt (a : List Tok) : endPic a = match (a.map kt).getLast? with | some k => picKT k | none => false := by
  unfold endPic
  rw [List.getLast?_map]
  cases a.getLast? <;> rfl
theorem SamT.endPic {a b : List Tok} (h : SamT a b) : endPic a = endPic b := by rw [endPic_kt, endPic_kt, show a.map kt = b.map kt from h]
theorem SamT.init {a b : List Tok} (h : SamT a b) : SamT a.dropLast b.dropLast := by
  unfold SamT; rw [List.map_dropLast, List.map_dropLast, show a.map kt = b.map kt from h]
theorem SamT.expPic {a b : List Tok} (h : SamT a b) : expPic a = expPic b := by
  have h2 : (match a.getLast? with | some t => isWd [73, 83] t && Go.Proofs.YtpalfhfbgfnacaaGreatDoor.endPic a.dropLast | none => false) = (match b.getLast? with | some t => isWd [73, 83] t && Go.Proofs.YtpalfhfbgfnacaaGreatDoor.endPic b.dropLast | none => false) := by
    have hl : a.getLast?.map kt = b.getLast?.map kt := by rw [← List.getLast?_map, ← List.getLast?_map, show a.map kt = b.map kt from h]
    have hi := h.init.endPic
    cases ha : a.getLast? with
    | none =>
      cases hb : b.getLast? with
      | none => rfl
      | some y => rw [ha, hb] at hl; cases hl
    | some x =>
      cases hb : b.getLast? with
      | none => rw [ha, hb] at hl; cases hl
      | some y =>
        rw [ha, hb] at hl
        simp [kt] at hl
        simp only [isWd, hl.1, hl.2, hi]
  unfold Go.Proofs.YtpalfhfbgfnacaaGreatDoor.expPic
  rw [h.endPic]
  exact congrArg (fun z => Go.Proofs.YtpalfhfbgfnacaaGreatDoor.endPic b || z) h2
theorem SamT.same : ∀ {a b : List Tok}, SamT a b → sameT a b = true
  | [], [], _ => rfl
  | [], _ :: _, h => by cases h
  | _ :: _, [], h => by cases h
  | a :: l, b :: m, h => by
    unfold SamT at h
    simp only [List.map_cons, List.cons.injEq] at h
    have ih := SamT.same (a := l) (b := m) h.2
    have h1 := h.1
    simp [kt] at h1
    simp [sameT, h1.1, h1.2, ih]
def SamR : (Nat × Int × Int) ⊕ List Tok → (Nat × Int × Int) ⊕ List Tok → Prop
  | .inl f, .inl g => f.1 = g.1
  | .inr a, .inr b => SamT a b
  | _, _ => False

/-! ### The scanner, with enough fuel -/
theorem scanJ_fuel (u : Bool) (t : List UInt8) (ms : IMarks) : ∀ (f j : Nat) (acc : List Tok), t.length < f + j → scanJ u t ms (f + 1) j acc = scanJ u t ms f j acc
  | 0, j, acc, h => by
    unfold scanJ
    rw [if_pos (by omega)]
  | f + 1, j, acc, h => by
    rw [scanJ.eq_2, scanJ.eq_2]
    by_cases hj : t.length ≤ j
    · rw [if_pos hj, if_pos hj]
    · rw [if_neg hj, if_neg hj]
      cases hrd : readT (endPic acc) (expPic acc) (sepAt t j) (t.drop j) with
      | bad e => rfl
      | got k x n =>
        dsimp only
        have hne : t.drop j ≠ [] := fun h0 => by have := congrArg List.length h0; rw [List.length_drop] at this; simp at this; omega
        have := readT_le hne hrd
        split
        · rfl
        · exact scanJ_fuel u t ms f _ _ (by omega)
theorem scanJ_enough (u : Bool) (t : List UInt8) (ms : IMarks) (j : Nat) (acc : List Tok) : ∀ (d f : Nat), t.length < f + j → scanJ u t ms (f + d) j acc = scanJ u t ms f j acc
  | 0, f, _ => rfl
  | d + 1, f, h => by rw [← Nat.add_assoc, scanJ_fuel u t ms (f + d) j acc (by omega), scanJ_enough u t ms j acc d f h]
/-- The scanner at a place. -/
def scanN (u : Bool) (t : List UInt8) (ms : IMarks) (j : Nat) (acc : List Tok) : (Nat × Int × Int) ⊕ List Tok := scanJ u t ms (t.length + 1) j acc
theorem scanN_of (u : Bool) (t : List UInt8) (ms : IMarks) (f j : Nat) (acc : List Tok) (h : t.length < f + j) : scanJ u t ms f j acc = scanN u t ms j acc := by
  unfold scanN
  rcases Nat.le_total f (t.length + 1) with hf | hf
  · have := scanJ_enough u t ms j acc (t.length + 1 - f) f h
    rw [show f + (t.length + 1 - f) = t.length + 1 from by omega] at this
    exact this.symm
  · have := scanJ_enough u t ms j acc (f - (t.length + 1)) (t.length + 1) (by omega)
    rw [show t.length + 1 + (f - (t.length + 1)) = f from by omega] at this
    exact this
theorem scanN_end (u : Bool) (t : List UInt8) (ms : IMarks) (j : Nat) (acc : List Tok) (h : t.length ≤ j) : scanN u t ms j acc = .inr acc := by
  unfold scanN; rw [scanJ.eq_2, if_pos h]
theorem drop_ne {t : List UInt8} {j : Nat} (h : j < t.length) : t.drop j ≠ [] := fun h0 => by
  have := congrArg List.length h0; rw [List.length_drop] at this; simp at this; omega
theorem scanN_bad (u : Bool) (t : List UInt8) (ms : IMarks) (j : Nat) (acc : List Tok) (h : j < t.length) {e : Nat} (hr : readT (endPic acc) (expPic acc) (sepAt t j) (t.drop j) = .bad e) : scanN u t ms j acc = .inl (e, posT ms j) := by
  unfold scanN; rw [scanJ.eq_2, if_neg (by omega), hr]
theorem scanN_got (u : Bool) (t : List UInt8) (ms : IMarks) (j : Nat) (acc : List Tok) (h : j < t.length) {k n : Nat} {x : List UInt8} (hr : readT (endPic acc) (expPic acc) (sepAt t j) (t.drop j) = .got k x n) :
    scanN u t ms j acc = if u = true ∧ acc.length = 65536 then .inl (3, posT ms j) else scanN u t ms (j + n + skipN (expPic (acc ++ [tokAt ms j k x])) (t.drop (j + n))) (acc ++ [tokAt ms j k x]) := by
  have := readT_le (drop_ne h) hr
  unfold scanN; rw [scanJ.eq_2, if_neg (by omega), hr]
  dsimp only
  split
  · rfl
  · rw [scanN_of _ _ _ _ _ _ (by omega)]; rfl
theorem kt_tokAt (ms ms' : IMarks) (j j' k : Nat) (x : List UInt8) : kt (tokAt ms j k x) = kt (tokAt ms' j' k x) := rfl

/-- A part in front of a space is scanned as if it stood alone. -/
theorem line_J (u : Bool) {a : List UInt8} (z : List UInt8) (ms1 ms2 : IMarks) (ha : openB a = false) : ∀ (m j : Nat) (acc1 acc2 : List Tok), a.length - j < m → j < a.length → openB (a.take j) = false → SamT acc1 acc2 →
    (∃ f g, scanN u a ms1 j acc1 = .inl f ∧ scanN u (a ++ 32 :: z) ms2 j acc2 = .inl g ∧ f.1 = g.1) ∨
    (∃ b1 b2, scanN u a ms1 j acc1 = .inr b1 ∧ SamT b1 b2 ∧ scanN u (a ++ 32 :: z) ms2 j acc2 = scanN u (a ++ 32 :: z) ms2 (a.length + skipN (expPic b2) (32 :: z)) b2)
  | 0, _, _, _, h, _, _, _ => by omega
  | m + 1, j, acc1, acc2, hm, hj, ho, hs => by
    have hd : (a ++ 32 :: z).drop j = a.drop j ++ 32 :: z := drop_cut (by omega)
    have hod : openB (a.drop j) = false := by
      have := openB_xor (a.take j) (a.drop j)
      rw [List.take_append_drop, ha, ho] at this
      simpa using this.symm
    have hsep : sepAt (a ++ 32 :: z) j = sepAt a j := by
      unfold sepAt
      rcases Nat.eq_zero_or_pos j with h0 | h0
      · subst h0; rfl
      · rw [getD_cut (by omega)]
    have hlen : j < (a ++ 32 :: z).length := by rw [List.length_append]; omega
    have hrt := readT_cut (endPic acc1) (expPic acc1) (sepAt a j) z (drop_ne hj) hod
    cases hrd : readT (endPic acc1) (expPic acc1) (sepAt a j) (a.drop j) with
    | bad e =>
      refine .inl ⟨_, _, scanN_bad u a ms1 j acc1 hj hrd, scanN_bad u _ ms2 j acc2 hlen (e := e) ?_, rfl⟩
      rw [hd, hsep, ← hs.endPic, ← hs.expPic, hrt, hrd]
    | got k x n =>
      have hle := readT_le (drop_ne hj) hrd
      rw [List.length_drop] at hle
      rw [scanN_got u a ms1 j acc1 hj hrd, scanN_got u _ ms2 j acc2 hlen (k := k) (x := x) (n := n) (by rw [hd, hsep, ← hs.endPic, ← hs.expPic, hrt, hrd]), ← hs.len]
      by_cases hfull : u = true ∧ acc1.length = 65536
      · rw [if_pos hfull, if_pos hfull]
        exact .inl ⟨_, _, rfl, rfl, rfl⟩
      · rw [if_neg hfull, if_neg hfull]
        have hs2 : SamT (acc1 ++ [tokAt ms1 j k x]) (acc2 ++ [tokAt ms2 j k x]) := hs.snoc rfl
        rw [← hs2.expPic]
        have hd2 : (a ++ 32 :: z).drop (j + n) = a.drop (j + n) ++ 32 :: z := drop_cut (by omega)
        rw [hd2, skipN_cut]
        generalize acc1 ++ [tokAt ms1 j k x] = A1 at *
        generalize acc2 ++ [tokAt ms2 j k x] = A2 at *
        have hsl : skipN (expPic A1) (a.drop (j + n)) ≤ (a.drop (j + n)).length := skipN_le _ _
        rw [List.length_drop] at hsl ⊢
        by_cases hend : skipN (expPic A1) (a.drop (j + n)) = a.length - (j + n)
        · rw [if_pos hend, scanN_end u a ms1 _ _ (by omega)]
          refine .inr ⟨A1, A2, rfl, hs2, ?_⟩
          rw [← hs2.expPic]
          congr 1
          omega
        · rw [if_neg hend]
          refine line_J u z ms1 ms2 ha m _ A1 A2 (by omega) (by omega) ?_ hs2
          rw [take_add', openB_xor, take_add', openB_xor, ho, read_open (drop_ne hj) hrd, noQ_open (skipN_open _ _)]
          rfl
theorem sepAt_shift {pre b : List UInt8} (hp : ∀ h : pre ≠ [], (pre.getLast h).toNat = 32) (hne : pre ≠ []) (j : Nat) : sepAt (pre ++ b) (pre.length + j) = sepAt b j := by
  have hl := List.length_pos_iff.2 hne
  unfold sepAt
  rcases Nat.eq_zero_or_pos j with h0 | h0
  · subst h0
    have h1 : (pre ++ b).getD (pre.length + 0 - 1) 0 = pre.getLast hne := by
      rw [List.getLast_eq_getElem]
      simp only [List.getD, Nat.add_zero]
      rw [List.getElem?_append_left (by omega), List.getElem?_eq_getElem (by omega)]
      rfl
    rw [h1, hp hne]
    simp
  · have h1 : (pre ++ b).getD (pre.length + j - 1) 0 = b.getD (j - 1) 0 := by
      simp only [List.getD]
      rw [List.getElem?_append_right (by omega)]
      congr 2
      omega
    rw [h1]
    have e1 : decide (pre.length + j = 0) = false := decide_eq_false (by omega)
    have e2 : decide (j = 0) = false := decide_eq_false (by omega)
    rw [e1, e2]
/-- A part behind a space is scanned as if it stood alone. -/
theorem shift_J (u : Bool) {pre b : List UInt8} (ms1 ms2 : IMarks) (hp : ∀ h : pre ≠ [], (pre.getLast h).toNat = 32) (hne : pre ≠ []) : ∀ (m j : Nat) (acc1 acc2 : List Tok), b.length - j < m → SamT acc1 acc2 → SamR (scanN u b ms1 j acc1) (scanN u (pre ++ b) ms2 (pre.length + j) acc2)
  | 0, _, _, _, h, _ => by omega
  | m + 1, j, acc1, acc2, hm, hs => by
    rcases Nat.lt_or_ge j b.length with hj | hj
    · have hd : ∀ i, (pre ++ b).drop (pre.length + i) = b.drop i := fun i => by
        rw [List.drop_append, List.drop_eq_nil_of_le (by omega), List.nil_append]; congr 1; omega
      have hlen : pre.length + j < (pre ++ b).length := by rw [List.length_append]; omega
      have hsep := sepAt_shift (b := b) hp hne j
      cases hrd : readT (endPic acc1) (expPic acc1) (sepAt b j) (b.drop j) with
      | bad e =>
        rw [scanN_bad u b ms1 j acc1 hj hrd, scanN_bad u _ ms2 _ acc2 hlen (e := e) (by rw [hd, hsep, ← hs.endPic, ← hs.expPic, hrd])]
        exact (rfl : e = e)
      | got k x n =>
        have hle := readT_le (drop_ne hj) hrd
        rw [scanN_got u b ms1 j acc1 hj hrd, scanN_got u _ ms2 _ acc2 hlen (k := k) (x := x) (n := n) (by rw [hd, hsep, ← hs.endPic, ← hs.expPic, hrd]), ← hs.len]
        by_cases hfull : u = true ∧ acc1.length = 65536
        · rw [if_pos hfull, if_pos hfull]
          exact (rfl : (3 : Nat) = 3)
        · rw [if_neg hfull, if_neg hfull]
          have hs2 : SamT (acc1 ++ [tokAt ms1 j k x]) (acc2 ++ [tokAt ms2 (pre.length + j) k x]) := hs.snoc rfl
          rw [← hs2.expPic]
          have e1 : pre.length + j + n = pre.length + (j + n) := by omega
          rw [e1, hd]
          generalize hsk : skipN _ (b.drop (j + n)) = q
          have e2 : pre.length + (j + n) + q = pre.length + (j + n + q) := by omega
          rw [e2]
          exact shift_J u ms1 ms2 hp hne m _ _ _ (by omega) hs2
    · rw [scanN_end u b ms1 j acc1 hj, scanN_end u (pre ++ b) ms2 _ acc2 (by rw [List.length_append]; omega)]
      exact hs
theorem scanC_N (u : Bool) (t : List UInt8) (ms : IMarks) (acc : List Tok) : scanC u t ms acc = scanN u t ms (skipN (expPic acc) t) acc := rfl
/-- The marks of a card do not matter. -/
theorem shift_same (u : Bool) (ms1 ms2 : IMarks) (t : List UInt8) (j : Nat) (acc1 acc2 : List Tok) (hs : SamT acc1 acc2) : SamR (scanN u t ms1 j acc1) (scanN u t ms2 j acc2) := by
  obtain ⟨m, hm⟩ : ∃ m, t.length - j < m := ⟨_, Nat.lt_succ_self _⟩
  induction m generalizing j acc1 acc2 with
  | zero => omega
  | succ m ih =>
    rcases Nat.lt_or_ge j t.length with hj | hj
    · cases hrd : readT (endPic acc1) (expPic acc1) (sepAt t j) (t.drop j) with
      | bad e =>
        rw [scanN_bad u t ms1 j acc1 hj hrd, scanN_bad u t ms2 j acc2 hj (e := e) (by rw [← hs.endPic, ← hs.expPic, hrd])]
        exact (rfl : e = e)
      | got k x n =>
        have hle := readT_le (drop_ne hj) hrd
        rw [scanN_got u t ms1 j acc1 hj hrd, scanN_got u t ms2 j acc2 hj (k := k) (x := x) (n := n) (by rw [← hs.endPic, ← hs.expPic, hrd]), ← hs.len]
        have hs2 : SamT (acc1 ++ [tokAt ms1 j k x]) (acc2 ++ [tokAt ms2 j k x]) := hs.snoc rfl
        rw [← hs2.expPic]
        split
        · exact (rfl : (3 : Nat) = 3)
        · exact ih _ _ _ hs2 (by omega)
    · rw [scanN_end u t ms1 j acc1 hj, scanN_end u t ms2 j acc2 hj]
      exact hs
theorem samR_trans {a b c : (Nat × Int × Int) ⊕ List Tok} (h1 : SamR a b) (h2 : SamR b c) : SamR a c := by
  cases a <;> cases b <;> first | exact h1.elim | (cases c <;> first | exact h2.elim | exact Eq.trans h1 h2)
/-- One text, or its parts at spaces, each on a card: the same tokens. -/
theorem scan_lines (u : Bool) {Ts : List (List UInt8)} {t : List UInt8} (h : Qs Ts t) : ∀ (L : List ICard) (ms : IMarks) (acc1 acc2 : List Tok), L.map ICard.text = Ts → (∀ c ∈ L, c.ok = true) → SamT acc1 acc2 → SamR (scanB u L acc1) (scanC u t ms acc2) := by
  induction h with
  | one t =>
    intro L ms acc1 acc2 hL hok hs
    match L, hL with
    | [c], hL =>
      simp at hL
      have ho : c.ok = true := hok c (by simp)
      have hsh := shift_same u c.marks ms t (skipN (expPic acc1) t) acc1 acc2 hs
      show SamR (if c.ok = true then _ else _) _
      rw [if_pos ho, hL, scanC_N, scanC_N, ← hs.expPic]
      revert hsh
      cases scanN u t c.marks (skipN (expPic acc1) t) acc1 <;> cases scanN u t ms (skipN (expPic acc1) t) acc2 <;> intro hsh <;> first | exact hsh | exact hsh.elim
  | @more a b Ts m ho hl hn hq ih =>
    intro L ms acc1 acc2 hL hok hs
    match L, hL with
    | c :: L, hL =>
      simp at hL
      obtain ⟨hca, hLb⟩ := hL
      have hc : c.ok = true := hok c (by simp)
      have et : a ++ List.replicate (m + 1) 32 ++ b = a ++ 32 :: (List.replicate m 32 ++ b) := by
        rw [List.append_assoc, List.replicate_succ, List.cons_append]
      -- behind the first part
      have hrest : ∀ b1 b2, SamT b1 b2 → SamR (scanB u L b1) (scanN u (a ++ 32 :: (List.replicate m 32 ++ b)) ms (a.length + skipN (expPic b2) (32 :: (List.replicate m 32 ++ b))) b2) := fun b1 b2 hb => by
        have h1 := ih L ms b1 b2 hLb (fun x hx => hok x (by simp [hx])) hb
        have e1 : (32 : UInt8) :: (List.replicate m 32 ++ b) = List.replicate (m + 1) 32 ++ b := by rw [List.replicate_succ, List.cons_append]
        rw [e1, skipN_spaces, ← List.append_assoc]
        have hpre : ∀ h : a ++ List.replicate (m + 1) 32 ≠ [], ((a ++ List.replicate (m + 1) 32).getLast h).toNat = 32 := fun h => by
          rw [List.getLast_append_of_ne_nil _ (by simp)]
          simp
        have h2 := shift_J u (pre := a ++ List.replicate (m + 1) 32) (b := b) ms ms hpre (by simp) (b.length - skipN (expPic b2) b + 1) (skipN (expPic b2) b) b2 b2 (by omega) rfl
        rw [scanC_N] at h1
        have e3 : a.length + (m + 1 + skipN (expPic b2) b) = (a ++ List.replicate (m + 1) (32 : UInt8)).length + skipN (expPic b2) b := by
          rw [List.length_append, List.length_replicate]; omega
        rw [e3]
        exact samR_trans h1 h2
      rw [et, scanC_N, skipN_cut]
      show SamR (if c.ok = true then _ else _) _
      rw [if_pos hc, hca, scanC_N, ← hs.expPic]
      have hskl := skipN_le (expPic acc1) a
      by_cases hend : skipN (expPic acc1) a = a.length
      · rw [if_pos hend, scanN_end u a c.marks _ acc1 (by omega)]
        have := hrest acc1 acc2 hs
        rw [← hs.expPic] at this
        exact this
      · rw [if_neg hend]
        rcases line_J u (List.replicate m 32 ++ b) c.marks ms ho (a.length - skipN (expPic acc1) a + 1) (skipN (expPic acc1) a) acc1 acc2 (by omega) (by omega) (noQ_open (skipN_open _ _)) hs with ⟨f, g, h1, h2, h3⟩ | ⟨b1, b2, h1, h2, h3⟩
        · rw [h1, h2]
          exact h3
        · rw [h1, h3]
          exact hrest b1 b2 h2
end Go.Proofs.YtpalfhfbgfnacaaGreatDoor

/-
  What the scanner says of what the writer has laid out, on lists; no walk here.
-/
namespace Go.Proofs.YtpalfhfbgfnacaaGreatDoor
open Go.RowKit
set_option linter.unusedVariables false
set_option linter.unusedSimpArgs false

theorem good_ok {L : List (List UInt8)} {lo hi : Nat} {c : Kard} (h : GoodK L lo hi c) (hne : c.text ≠ []) : c.toI.ok = true := by
  rw [ok_valid]
  have hmk := h.some_ hne
  have hget : ∀ (k : Nat) (x : Int × Int × Int), c.toI.marks[k]? = some x → ∃ m, c.marks[k]? = some m ∧ x = ((m.1 : Int), (m.2.1 : Int), (m.2.2 : Int)) := fun k x hx => by
    have e : c.toI.marks = c.marks.map fun m => ((m.1 : Int), (m.2.1 : Int), (m.2.2 : Int)) := rfl
    rw [e, List.getElem?_map] at hx
    cases hm : c.marks[k]? with
    | none => rw [hm] at hx; cases hx
    | some m => rw [hm] at hx; injection hx with hx; exact ⟨m, rfl, hx.symm⟩
  refine ⟨?_, ?_, ?_⟩
  · intro e
    exact hne (List.length_eq_zero_iff.1 e)
  · cases hm : c.marks with
    | nil => exact absurd hm hmk
    | cons a l =>
      refine ⟨((a.1 : Int), (a.2.1 : Int), (a.2.2 : Int)), by show (c.marks.map _)[0]? = _; rw [hm]; rfl, ?_⟩
      have := (h.at_ 0 a (by rw [hm]; rfl)).2.2.2.2.1 rfl
      show (a.1 : Int) = 0
      omega
  · intro k x hx
    obtain ⟨m, hm, rfl⟩ := hget k x hx
    obtain ⟨h1, h2, h3, h4, h5, h6, h7⟩ := h.at_ k m hm
    obtain ⟨h8, _⟩ := h7 m.1 _ (Nat.le_refl _) (fun m' hm' => (h6 m' hm').1) (List.getElem?_eq_getElem h1)
    refine ⟨by show (1 : Int) ≤ (m.2.1 : Int); omega, by show (8 : Int) ≤ (m.2.2 : Int); omega, by show (m.2.2 : Int) ≤ 72; omega, ?_⟩
    rintro j y rfl hy
    obtain ⟨m', hm', rfl⟩ := hget j y hy
    have := ((h.at_ j m' hm').2.2.2.2.2.1 m hm).1
    exact ⟨by show (m'.1 : Int) < (m.1 : Int); omega, by show (m.1 : Int) < (c.text.length : Int); omega⟩
theorem goodL_mem {L : List (List UInt8)} : ∀ {ks : List Kard} {lo hi : Nat}, GoodL L lo ks hi → ∀ c ∈ ks, c.toI.ok = true
  | [], _, _, _, c, hc => by simp at hc
  | d :: r, lo, hi, ⟨mid, _, g2, g3, g4⟩, c, hc => by
    rcases List.mem_cons.1 hc with rfl | hc
    · exact good_ok g2 g3
    · exact goodL_mem g4 c hc
/-- The cards of a source text are valid. -/
theorem cards_ok {text : List UInt8} {debug : Bool} {ks : List Kard} (ht : text.length ≤ 1048576) (hk : readBU true text debug = .inr ks) : ∀ c ∈ ks, c.toI.ok = true := by
  rw [readBU_pieces true debug text ht, readFromU_true] at hk
  exact goodL_mem (good_from (piecesG [] text) debug (piecesG [] text).length 0 _ ks (by simp) (good_start _) hk)
/-- The cards of a text that was laid out: its parts at spaces. -/
theorem write_cards (text : List UInt8) (left : Bool) (hr : rightB text = true) (hl : (layAll [(left, text)] ([], 0)).1.length ≤ 1048576) :
    ∃ ks Ts, readBU true (layAll [(left, text)] ([], 0)).1 false = .inr ks ∧ Qs Ts text ∧ ks.map tk = tag left Ts := by
  have hR := rst_right hr left
  obtain ⟨⟨ks, Ts, h1, h2, h3⟩, h4⟩ := lay_read (text.length + 1) 0 (if left then headAL else headBL) text false [] left [] ⟨[], none, (0, 0)⟩ 0 (by omega) hR rfl (fun part hp => by
    obtain ⟨c', pos, e1, e2⟩ := read_S (r := ⟨[], none, (0, 0)⟩) (fun c hc => by cases hc) (head := if left then headAL else headBL) (by cases left <;> simp) hp 1 1
    refine ⟨c', pos, e1, ?_⟩
    rw [e2]
    cases left <;> rfl)
  have e : (layAll [(left, text)] ([], 0)).1 = (layF (text.length + 1) 0 (if left then headAL else headBL) text false).1 := by
    simp [layAll]
  have hp := pieces_flat (layLs (text.length + 1) 0 (if left then headAL else headBL) text false) (fun y hy => (h4 y hy).1)
  rw [← layF_lines, ← e] at hp
  refine ⟨ks, Ts, ?_, by simpa using h2, by simpa [tag] using h3⟩
  rw [readBU_true, readB_pieces false _ hl, hp, readFrom_snoc]
  exact h1
theorem tag_texts (left : Bool) (Ts : List (List UInt8)) : (tag left Ts).map Prod.snd = Ts := by
  cases Ts with
  | nil => rfl
  | cons t Ts =>
    show t :: (Ts.map fun x => (false, x)).map Prod.snd = t :: Ts
    rw [List.map_map]
    exact congrArg _ (List.map_id'' (fun _ => rfl) Ts)
theorem tag_left {left : Bool} {t : List UInt8} {Ts : List (List UInt8)} {x : Bool × List UInt8} (h : (tag left (t :: Ts))[0]? = some x) : x = (left, t) := by
  injection h with h; exact h.symm
/-- What was laid out is scanned as if it stood on one card. -/
theorem lines_source (text : List UInt8) (left : Bool) (hr : rightB text = true) (hl : (layAll [(left, text)] ([], 0)).1.length ≤ 1048576) (ms : IMarks) :
    SamR (sourceB (layAll [(left, text)] ([], 0)).1 false) (scanC true text ms []) := by
  obtain ⟨ks, Ts, h1, h2, h3⟩ := write_cards text left hr hl
  unfold sourceB
  rw [h1]
  refine scan_lines true h2 (ks.map Kard.toI) ms [] [] ?_ ?_ rfl
  · have : (ks.map Kard.toI).map ICard.text = (ks.map tk).map Prod.snd := by
      rw [List.map_map, List.map_map]; rfl
    rw [this, h3, tag_texts]
  · intro c hc
    obtain ⟨k, hk, rfl⟩ := List.mem_map.1 hc
    exact cards_ok hl h1 k hk
theorem lay_len (text : List UInt8) (left : Bool) : (layAll [(left, text)] ([], 0)).1.length ≤ (text.length + 1) * 80 := by
  have hb := (layF_bound (text.length + 1) 0 (if left then headAL else headBL) text false (by omega) (by cases left <;> decide) (by cases left <;> decide)).1
  have e : (layAll [(left, text)] ([], 0)).1 = (layF (text.length + 1) 0 (if left then headAL else headBL) text false).1 := by
    simp [layAll]
  rw [e]; exact hb
end Go.Proofs.YtpalfhfbgfnacaaGreatDoor

/-
  How many bytes the cards of a source text have together, and how many tokens, on lists; no walk here.
-/
namespace Go.Proofs.YtpalfhfbgfnacaaGreatDoor
open Go.RowKit
set_option linter.unusedVariables false
set_option linter.unusedSimpArgs false

def totK (ks : List Kard) : Nat := (ks.map fun c => c.text.length).sum
theorem totK_append (a b : List Kard) : totK (a ++ b) = totK a + totK b := by simp [totK]
theorem put_sum {done : List Kard} {c : Kard} {t : List UInt8} {n : Nat} {b : Bool} {r' : ReadAt} (ht : t.length = 65) (h : putRow done c t n b = .inr r') : totK r'.all ≤ totK done + c.text.length + 65 := by
  unfold putRow at h
  split at h
  · cases h
  · rename_i p col hp
    have hle := (rpart_le _ _ _ _ _ hp).1
    injection h with h
    subst h
    unfold ReadAt.all
    rw [totK_append]
    simp [totK, Kard.plus]
    omega
theorem row_long {s : List UInt8} {line : Nat} {debug : Bool} {m : UInt8} {t : List UInt8} (h : lineIs s line debug = .row m t) : 8 ≤ s.length ∧ t.length = 65 := by
  have hs := lineIs_says s line debug
  rw [h] at hs
  obtain ⟨_, h2, h3, _⟩ := hs
  have ht : t = textOf s := by
    unfold lineIs at h
    repeat' split at h
    all_goals first | (injection h with _ h; exact h.symm) | (injection h)
  subst ht
  refine ⟨?_, h2⟩
  have h4 := fst_textOf s
  have h5 := areasB_length s
  rcases Nat.lt_or_ge (fstN (areasB s)) (areasB s).length with h6 | h6
  · omega
  · have := fstN_le (areasB s)
    exact absurd h3 (h4.2 (by omega))
theorem line_sum {debug : Bool} {r r' : ReadAt} {s : List UInt8} {n : Nat} (h : readLine debug r s n = .inr r') : totK r'.all ≤ totK r.all + 8 * (s.length + 1) := by
  unfold readLine at h
  split at h
  · cases h
  · injection h with h; subst h; omega
  · rename_i m t hl
    obtain ⟨h8, h65⟩ := row_long hl
    unfold readRow at h
    split at h
    · split at h
      · rename_i hc
        have := put_sum h65 h
        unfold ReadAt.all at this ⊢
        rw [hc]
        simp at this ⊢
        omega
      · rename_i c hc
        split at h
        · cases h
        · have := put_sum h65 h
          have e : totK r.all = totK (r.done ++ [c]) := by unfold ReadAt.all; rw [hc]; rfl
          rw [e]
          simp at this ⊢
          omega
    · split at h
      · cases h
      · rename_i c hc
        have := put_sum h65 h
        have e : totK r.all = totK r.done + c.text.length := by unfold ReadAt.all; rw [hc, totK_append]; simp [totK]
        omega
theorem from_sum (debug : Bool) : ∀ (L : List (List UInt8)) (r : ReadAt) (k : Nat) (ks : List Kard), readFrom debug r k L = .inr ks → totK ks ≤ totK r.all + 8 * (L.map fun x => x.length + 1).sum
  | [], r, k, ks, h => by
    have : ks = r.all := by
      unfold readFrom at h
      split at h
      · split at h
        · cases h
        · injection h with h; exact h.symm
      · injection h with h; exact h.symm
    subst this; simp
  | s :: L, r, k, ks, h => by
    unfold readFrom at h
    split at h
    · cases h
    · rename_i r' he
      have h1 := line_sum he
      have h2 := from_sum debug L r' (k + 1) ks h
      simp only [List.map_cons, List.sum_cons]
      omega
theorem pieces_sum : ∀ (l cur : List UInt8), ((piecesG cur l).map fun x => x.length + 1).sum = cur.length + l.length + 1
  | [], cur => by simp [piecesG]
  | c :: r, cur => by
    unfold piecesG
    split
    · have := pieces_sum r []
      simp only [List.map_cons, List.sum_cons, this, List.length_cons, List.length_nil]
      omega
    · have := pieces_sum r (cur ++ [c])
      rw [this, List.length_append, List.length_cons]; simp; omega
/-- The cards of a source text have together at most eight bytes for each of its bytes. -/
theorem cards_sum {text : List UInt8} {debug : Bool} {ks : List Kard} (ht : text.length ≤ 1048576) (h : readBU true text debug = .inr ks) : totK ks ≤ 8 * (text.length + 1) := by
  rw [readBU_pieces true debug text ht, readFromU_true] at h
  have := from_sum debug _ _ _ _ h
  rw [pieces_sum] at this
  simpa [ReadAt.all, totK] using this

/-! ### How many tokens -/
theorem count_N (u : Bool) (t : List UInt8) (ms : IMarks) : ∀ (m j : Nat) (acc r : List Tok), t.length - j < m → scanN u t ms j acc = .inr r → r.length ≤ acc.length + (t.length - j)
  | 0, _, _, _, h, _ => by omega
  | m + 1, j, acc, r, hm, h => by
    rcases Nat.lt_or_ge j t.length with hj | hj
    · cases hrd : readT (endPic acc) (expPic acc) (sepAt t j) (t.drop j) with
      | bad e => rw [scanN_bad u t ms j acc hj hrd] at h; cases h
      | got k x n =>
        have hle := readT_le (drop_ne hj) hrd
        rw [List.length_drop] at hle
        rw [scanN_got u t ms j acc hj hrd] at h
        split at h
        · cases h
        · have := count_N u t ms m _ _ r (by omega) h
          rw [List.length_append] at this
          simp at this
          omega
    · rw [scanN_end u t ms j acc hj] at h
      injection h with h; subst h; omega
theorem count_C {u : Bool} {t : List UInt8} {ms : IMarks} {acc r : List Tok} (h : scanC u t ms acc = .inr r) : r.length ≤ acc.length + t.length := by
  rw [scanC_N] at h
  have := count_N u t ms _ _ _ _ (Nat.lt_succ_self _) h
  omega
/-- Where there are few bytes, the greatest number of tokens does not matter. -/
theorem scanN_free (t : List UInt8) (ms : IMarks) : ∀ (m j : Nat) (acc : List Tok), t.length - j < m → acc.length + (t.length - j) ≤ 65536 → scanN true t ms j acc = scanN false t ms j acc
  | 0, _, _, h, _ => by omega
  | m + 1, j, acc, hm, hb => by
    rcases Nat.lt_or_ge j t.length with hj | hj
    · cases hrd : readT (endPic acc) (expPic acc) (sepAt t j) (t.drop j) with
      | bad e => rw [scanN_bad true t ms j acc hj hrd, scanN_bad false t ms j acc hj hrd]
      | got k x n =>
        have hle := readT_le (drop_ne hj) hrd
        rw [List.length_drop] at hle
        rw [scanN_got true t ms j acc hj hrd, scanN_got false t ms j acc hj hrd, if_neg (by omega), if_neg (by simp)]
        exact scanN_free t ms m _ _ (by omega) (by rw [List.length_append]; simp; omega)
    · rw [scanN_end true t ms j acc hj, scanN_end false t ms j acc hj]
def totI (L : List ICard) : Nat := (L.map fun c => c.text.length).sum
theorem scanB_free : ∀ (L : List ICard) (acc : List Tok), acc.length + totI L ≤ 65536 → scanB true L acc = scanB false L acc
  | [], acc, _ => rfl
  | c :: L, acc, h => by
    have ht : totI (c :: L) = c.text.length + totI L := by simp [totI]
    have e : scanC true c.text c.marks acc = scanC false c.text c.marks acc := by
      rw [scanC_N, scanC_N]
      exact scanN_free _ _ _ _ _ (Nat.lt_succ_self _) (by omega)
    show (if c.ok = true then _ else _) = (if c.ok = true then _ else _)
    by_cases hok : c.ok = true
    · rw [if_pos hok, if_pos hok, e]
      cases hs : scanC false c.text c.marks acc with
      | inl f => rfl
      | inr acc' =>
        have := count_C hs
        exact scanB_free L acc' (by omega)
    · rw [if_neg hok, if_neg hok]
theorem totI_toI (ks : List Kard) : totI (ks.map Kard.toI) = totK ks := by
  unfold totI totK; rw [List.map_map]; rfl

/-! ### The reference's way through a card: it goes from place to place -/
def contC (t : List UInt8) (ms : IMarks) (i : Nat) (acc : List Tok) : (Nat × Int × Int) ⊕ List Tok := scanN false t ms (i + skipN (expPic acc) (t.drop i)) acc
theorem contC_start (t : List UInt8) (ms : IMarks) (acc : List Tok) : scanC false t ms acc = contC t ms 0 acc := by
  rw [scanC_N]; unfold contC; rw [List.drop_zero, Nat.zero_add]
theorem contC_end {t : List UInt8} {ms : IMarks} {i : Nat} {acc : List Tok} (h : t.length ≤ i) : contC t ms i acc = .inr acc := scanN_end _ _ _ _ _ (by omega)
def sepB (x : Bool) (c : UInt8) (r : List UInt8) : Bool := decide (c.toNat = 32) || (!x && (decide (c.toNat = 44) || decide (c.toNat = 59)) && endT r)
theorem sepB_iff (x : Bool) (c : UInt8) (r : List UInt8) : sepB x c r = true ↔ (c.toNat = 32 ∨ (c.toNat = 44 ∨ c.toNat = 59) ∧ x = false ∧ endT r = true) := by
  unfold sepB
  cases x <;> simp [Bool.and_eq_true, Bool.or_eq_true]
theorem contC_skip {t : List UInt8} {ms : IMarks} {i : Nat} {acc : List Tok} {c : UInt8} (h : t[i]? = some c) (hs : sepB (expPic acc) c (t.drop (i + 1)) = true) : contC t ms i acc = contC t ms (i + 1) acc := by
  unfold contC
  rw [skipN_drop _ t i c h, if_pos ((sepB_iff _ _ _).1 hs)]
  congr 1; omega
theorem contC_tok {t : List UInt8} {ms : IMarks} {i : Nat} {acc : List Tok} {c : UInt8} (h : t[i]? = some c) (hs : sepB (expPic acc) c (t.drop (i + 1)) = false) :
    contC t ms i acc = match readT (endPic acc) (expPic acc) (sepAt t i) (t.drop i) with | .bad e => .inl (e, posT ms i) | .got k x n => contC t ms (i + n) (acc ++ [tokAt ms i k x]) := by
  have hi := lt_of_get h
  have h0 : skipN (expPic acc) (t.drop i) = 0 := by
    rw [skipN_drop _ t i c h, if_neg]
    intro hh
    rw [(sepB_iff _ _ _).2 hh] at hs; cases hs
  have e : contC t ms i acc = scanN false t ms i acc := by unfold contC; rw [h0, Nat.add_zero]
  rw [e]
  cases hrd : readT (endPic acc) (expPic acc) (sepAt t i) (t.drop i) with
  | bad e => rw [scanN_bad false t ms i acc hi hrd]
  | got k x n => rw [scanN_got false t ms i acc hi hrd, if_neg (by simp)]; rfl
end Go.Proofs.YtpalfhfbgfnacaaGreatDoor
