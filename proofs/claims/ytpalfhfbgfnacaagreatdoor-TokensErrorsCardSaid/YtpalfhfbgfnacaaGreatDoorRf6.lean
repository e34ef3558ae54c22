/-
  Plain lemmas on the reference's token: its tests one after another, on lists.
-/
import Derived.Test.YtpalfhfbgfnacaaGreatDoorRf4
namespace Go.Proofs.YtpalfhfbgfnacaaGreatDoor
open Go.RowKit
set_option linter.unusedVariables false
set_option linter.unusedSimpArgs false

def tok6 (r : List UInt8) : RdT := if atB digB r 0 = true ∨ atB letB r 0 = true then wrdR (r.take (spn inwB r)) else signT r
def tok5 (sep : Bool) (r : List UInt8) : RdT := if 0 < numN r sep then numT r (numN r sep) else tok6 r
def tok4 (sep : Bool) (r : List UInt8) : RdT := if eqs r = true then .got 7 [61, 61] 2 else tok5 sep r
def tok3 (sep : Bool) (r : List UInt8) : RdT := if isAt r 0 46 = true ∧ endT (r.drop 1) = true then .got 6 [46] 1 else tok4 sep r
def tok2 (sep : Bool) (r : List UInt8) : RdT := if isAt r 0 34 = true then litT r else tok3 sep r
def tok1 (x sep : Bool) (r : List UInt8) : RdT := if x = true ∧ eqs r = false then picT r else tok2 sep r
theorem tokR_1 (e x sep : Bool) (r : List UInt8) : tokR e x sep r = if e = true ∧ isR r = true then .got 1 [73, 83] 2 else tok1 x sep r := rfl
/-! pictures -/
theorem trimP_snoc (b : List UInt8) (c : UInt8) : trimP (b ++ [c]) = if ptB c = true then trimP b else b ++ [c] := by
  unfold trimP
  rw [List.reverse_append]
  show ((c :: b.reverse).dropWhile ptB).reverse = _
  rw [List.dropWhile_cons]
  split
  · rfl
  · simp
def picN (r : List UInt8) : Nat := spn (fun c => !spcB c) r
def picK (r : List UInt8) : Nat := if atB ptB r (picN r - 1) = true then picN r - 1 else picN r
theorem pic_R {r : List UInt8} (h : 0 < picN r) : picT r = if picK r = 0 ∨ atB ptB r (picK r - 1) = true ∨ inB 34 (r.take (picK r)) = true then .bad 4 else .got 4 (foldB (r.take (picK r))) (picK r) := by
  have hle : picN r ≤ r.length := spn_le _ r
  have hall : (allT r).length = picN r := by unfold allT; rw [List.length_take]; exact Nat.min_eq_left hle
  have hat : ∀ k c, k < picN r → ((allT r)[k]? = some c ↔ r[k]? = some c) := fun k c hk => by
    have e : (allT r)[k]? = r[k]? := List.getElem?_take_of_lt hk
    rw [e]
  have hq : ∀ m, m ≤ picN r → (allT r).take m = r.take m := fun m hm => by
    unfold allT
    rw [List.take_take]
    congr 1
    exact Nat.min_eq_left hm
  have hin : ∀ l : List UInt8, l.any (fun c => decide (c.toNat = 34)) = inB 34 l := fun l => rfl
  have hsplit : ∀ a : List UInt8, 0 < a.length → ∃ b c, a = b ++ [c] := fun a ha => by
    have hne : a ≠ [] := List.length_pos_iff.1 ha
    exact ⟨a.dropLast, a.getLast hne, (List.dropLast_concat_getLast hne).symm⟩
  obtain ⟨b, c, hb⟩ := hsplit (allT r) (by omega)
  have hbl : b.length + 1 = picN r := by rw [← hall, hb]; simp
  have hc : r[picN r - 1]? = some c := by
    rw [← hat _ _ (by omega), hb, show picN r - 1 = b.length from by omega]; simp
  have htb : r.take b.length = b := by rw [← hq b.length (by omega), hb]; simp
  have hta : r.take (picN r) = b ++ [c] := by rw [← hq _ (Nat.le_refl _), ← hall, List.take_length, hb]
  unfold picT
  rw [hall, hb, trimP_snoc]
  unfold picK
  rw [atB_some hc]
  cases hp : ptB c
  · simp only [Bool.false_eq_true, if_false]
    rw [hta, atB_some hc, hp, hin]
    have e1 : ¬ (b ++ [c] = []) := by simp
    have e2 : ¬ 1 < picN r - (b ++ [c]).length := by simp; omega
    have e3 : ¬ picN r = 0 := by omega
    have e4 : (b ++ [c]).length = picN r := by simp; omega
    have e5 : ¬ 1 < picN r - picN r := by omega
    simp only [e1, e2, e3, e4, e5, false_or, Bool.false_eq_true]
  · simp only [if_true]
    rw [show picN r - 1 = b.length from by omega, htb]
    rcases Nat.eq_zero_or_pos b.length with h0 | h0
    · have : b = [] := List.eq_nil_of_length_eq_zero h0
      subst this
      rfl
    · obtain ⟨b', d, hb'⟩ := hsplit b h0
      have hd : r[b.length - 1]? = some d := by
        rw [← hat _ _ (by omega), hb, List.getElem?_append_left (by omega), hb']; simp
      rw [atB_some hd, hb', trimP_snoc]
      have hl' : b'.length + 1 = b.length := by rw [hb']; simp
      cases hpd : ptB d
      · simp only [Bool.false_eq_true, if_false]
        rw [hin]
        have e1 : ¬ (b' ++ [d] = []) := by simp
        have e2 : ¬ 1 < picN r - (b' ++ [d]).length := by simp; omega
        have e3 : ¬ (b' ++ [d]).length = 0 := by simp
        simp only [e1, e2, e3, false_or, Bool.false_eq_true]
      · simp only [if_true, true_or, or_true]
        rw [if_pos]
        have := trimP_le b'
        right; left; omega
/-! numbers -/
theorem num_T {i : Nat} {sep : Bool} {r : List UInt8} (h : 0 < numN r sep) : numT r (numN r sep) = if atB inwB r (numN r sep) = true then .bad 4 else if 18 < (r.take (numN r sep)).countP digB then .bad 5 else .got 2 (r.take (numN r sep)) (numN r sep) := by
  unfold numT
  simp only [spn_pos_at]
theorem numR_cases (i : Nat) (sep : Bool) (r : List UInt8) : (numR i r sep = (0, 0) ∧ tok5 sep r = tok6 r) ∨ (numR i r sep = (-1, 0) ∧ tok5 sep r = .bad 4) ∨
    (∃ N c : Nat, 0 < N ∧ numR i r sep = (((i + N : Nat) : Int), (c : Int)) ∧ 18 < c ∧ tok5 sep r = .bad 5) ∨
    (∃ N c : Nat, 0 < N ∧ N ≤ r.length ∧ numR i r sep = (((i + N : Nat) : Int), (c : Int)) ∧ ¬ 18 < c ∧ tok5 sep r = .got 2 (r.take N) N) := by
  rcases Nat.eq_zero_or_pos (numN r sep) with h0 | h0
  · left
    refine ⟨by unfold numR; rw [if_pos h0], by unfold tok5; rw [if_neg (by omega)]⟩
  · have hr : r ≠ [] := by
      rintro rfl
      have : numN [] sep = 0 := by unfold numN sgN wrdN spn; simp [List.getD, spn]
      omega
    have hle := numN_le (sep := sep) hr
    unfold tok5
    rw [if_pos h0, num_T (i := i) h0]
    cases hw : atB inwB r (numN r sep)
    · by_cases h18 : 18 < (r.take (numN r sep)).countP digB
      · refine .inr (.inr (.inl ⟨numN r sep, (r.take (numN r sep)).countP digB, h0, ?_, h18, ?_⟩))
        · unfold numR; rw [if_neg (by omega), hw, if_neg (by simp)]
        · rw [if_neg (by simp), if_pos h18]
      · refine .inr (.inr (.inr ⟨numN r sep, (r.take (numN r sep)).countP digB, h0, hle, ?_, h18, ?_⟩))
        · unfold numR; rw [if_neg (by omega), hw, if_neg (by simp)]
        · rw [if_neg (by simp), if_neg h18]
    · refine .inr (.inl ⟨?_, by rw [if_pos rfl]⟩)
      unfold numR; rw [if_neg (by omega), hw, if_pos rfl]
/-! signs -/
def twoS (r : List UInt8) : Bool := (r.take 2 == [42, 42]) || ((r.take 2 == [60, 61]) || ((r.take 2 == [62, 61]) || (r.take 2 == [60, 62])))
def oneL : List UInt8 := [40, 41, 58, 43, 45, 42, 47, 61, 60, 62]
theorem pref_two (a b : UInt8) (r : List UInt8) : ([a, b] : List UInt8).isPrefixOf r = (r.take 2 == [a, b]) := by
  match r with
  | [] => rfl
  | [c] => simp [List.isPrefixOf]
  | c :: d :: r =>
    simp only [List.isPrefixOf, List.take_succ_cons, List.take_zero]
    rw [Bool.eq_iff_iff]
    simp
    constructor
    · rintro ⟨h1, h2⟩; exact ⟨h1.symm, h2.symm⟩
    · rintro ⟨h1, h2⟩; exact ⟨h1.symm, h2.symm⟩
theorem sign_two {r : List UInt8} (h : twoS r = true) : signT r = .got 5 (r.take 2) 2 := by
  unfold twoS at h
  simp only [Bool.or_eq_true, beq_iff_eq] at h
  unfold signT signsL
  simp only [List.find?, pref_two]
  rcases h with h | h | h | h <;> rw [h] <;> simp
theorem pref_one (a c : UInt8) (r : List UInt8) : ([a] : List UInt8).isPrefixOf (c :: r) = (a == c) := by simp [List.isPrefixOf]
theorem sign_one {c : UInt8} {r : List UInt8} (h : twoS (c :: r) = false) : signT (c :: r) = if inB c oneL = true then .got 5 [c] 1 else .bad 4 := by
  unfold twoS at h
  simp only [Bool.or_eq_false_iff] at h
  obtain ⟨h1, h2, h3, h4⟩ := h
  unfold signT signsL
  simp only [List.find?, pref_two, h1, h2, h3, h4, pref_one]
  have hin : inB c oneL = oneL.any (fun x => x == c) := by
    unfold inB
    congr 1
    funext x
    rw [Bool.eq_iff_iff]
    simp
    exact ⟨fun h => u8_eq h, fun h => by rw [h]⟩
  rw [hin]
  unfold oneL
  simp only [List.any_cons, List.any_nil]
  by_cases e1 : (40 : UInt8) = c
  · subst e1; rfl
  by_cases e2 : (41 : UInt8) = c
  · subst e2; rfl
  by_cases e3 : (58 : UInt8) = c
  · subst e3; rfl
  by_cases e4 : (43 : UInt8) = c
  · subst e4; rfl
  by_cases e5 : (45 : UInt8) = c
  · subst e5; rfl
  by_cases e6 : (42 : UInt8) = c
  · subst e6; rfl
  by_cases e7 : (47 : UInt8) = c
  · subst e7; rfl
  by_cases e8 : (61 : UInt8) = c
  · subst e8; rfl
  by_cases e9 : (60 : UInt8) = c
  · subst e9; rfl
  by_cases e10 : (62 : UInt8) = c
  · subst e10; rfl
  have f : ∀ a : UInt8, a ≠ c → (a == c) = false := fun a h => by simpa using h
  simp [f _ e1, f _ e2, f _ e3, f _ e4, f _ e5, f _ e6, f _ e7, f _ e8, f _ e9, f _ e10]
theorem eqs_R (r : List UInt8) : eqs r = (r.take 2 == [61, 61]) := pref_two 61 61 r
end Go.Proofs.YtpalfhfbgfnacaaGreatDoor
