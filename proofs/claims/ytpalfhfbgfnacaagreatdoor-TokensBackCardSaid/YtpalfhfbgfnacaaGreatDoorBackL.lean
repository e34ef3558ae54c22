/-
  Plain lemmas: tokens that were scanned are read again from their formats. No program is named here.
-/
import Derived.Test.YtpalfhfbgfnacaaGreatDoorGK
namespace Go.Proofs.YtpalfhfbgfnacaaGreatDoor
open Go.RowKit
set_option linter.unusedVariables false
set_option linter.unusedSimpArgs false

/-! ### Folding -/
theorem upB_inw (c : UInt8) : inwB (upB c) = inwB c := by
  have hu := upB_toNat c
  cases hs : smallB c
  · rw [upB_id hs]
  · rw [hs, if_pos rfl] at hu
    have h1 : inwB c = true := by simp [inwB, letB, hs]
    rw [h1]
    unfold smallB at hs
    simp at hs
    unfold inwB letB capB; rw [hu]
    have e1 : decide (65 ≤ c.toNat - 32) = true := by simp; omega
    have e2 : decide (c.toNat - 32 ≤ 90) = true := by simp; omega
    rw [e1, e2]; simp
theorem upB_up (c : UInt8) : upB (upB c) = upB c := by
  have hu := upB_toNat c
  cases hs : smallB c
  · rw [upB_id hs, upB_id hs]
  · rw [hs, if_pos rfl] at hu
    refine upB_id ?_
    unfold smallB at hs ⊢
    simp at hs
    rw [hu]
    have e1 : decide (97 ≤ c.toNat - 32) = false := by simp; omega
    rw [e1]; rfl
theorem foldB_fold (l : List UInt8) : foldB (foldB l) = foldB l := by
  unfold foldB; rw [List.map_map]; congr 1; funext c; exact upB_up c
theorem foldB_take (l : List UInt8) (n : Nat) : foldB (l.take n) = (foldB l).take n := by unfold foldB; rw [List.map_take]
/-- Bytes that no folding makes or takes. -/
theorem upB_other {n : Nat} (hn : n < 65 ∨ 90 < n) (hn2 : n < 97 ∨ 122 < n) (c : UInt8) : (upB c).toNat = n ↔ c.toNat = n := by
  have hu := upB_toNat c
  rw [hu]
  split
  · rename_i hs
    unfold smallB at hs
    simp at hs
    omega
  · rfl
theorem upB_spc (c : UInt8) : spcB (upB c) = spcB c := by
  unfold spcB
  rw [Bool.eq_iff_iff, decide_eq_true_iff, decide_eq_true_iff]
  exact upB_other (by omega) (by omega) c
theorem upB_pt (c : UInt8) : ptB (upB c) = ptB c := by
  unfold ptB
  rw [Bool.eq_iff_iff]
  simp only [Bool.or_eq_true, decide_eq_true_iff]
  rw [upB_other (by omega) (by omega) c, upB_other (by omega) (by omega) c, upB_other (by omega) (by omega) c]
theorem spn_fold {p : UInt8 → Bool} (hp : ∀ c, p (upB c) = p c) : ∀ l : List UInt8, spn p (foldB l) = spn p l
  | [] => rfl
  | c :: l => by
    show (if p (upB c) = true then spn p (foldB l) + 1 else 0) = _
    rw [hp c, spn_fold hp l]; rfl
theorem spn_full {p : UInt8 → Bool} : ∀ l : List UInt8, l.all p = true → spn p l = l.length
  | [], _ => rfl
  | c :: l, h => by
    simp only [List.all_cons, Bool.and_eq_true] at h
    simp only [spn]
    rw [if_pos h.1, spn_full l h.2]; rfl
theorem spn_split {p : UInt8 → Bool} : ∀ (a b : List UInt8), (∀ c r, b = c :: r → p c = false) → spn p (a ++ b) = spn p a
  | [], [], _ => rfl
  | [], c :: r, h => by simp [spn, h c r rfl]
  | c :: a, b, h => by
    simp only [List.cons_append, spn]
    rw [spn_split a b h]
theorem all_spn {p : UInt8 → Bool} (l : List UInt8) : (l.take (spn p l)).all p = true := by
  rw [List.all_eq_true]
  intro c hc
  obtain ⟨j, hj⟩ := List.mem_iff_getElem?.1 hc
  have hl := lt_of_get hj
  rw [List.length_take] at hl
  rw [List.getElem?_take_of_lt (by omega)] at hj
  exact spn_all p l j c (by omega) hj
theorem spn_take (p : UInt8 → Bool) : ∀ (l : List UInt8) (m : Nat), spn p (l.take m) = min (spn p l) m
  | [], m => by simp [spn]
  | c :: l, 0 => by simp [spn]
  | c :: l, m + 1 => by
    rw [List.take_succ_cons]
    simp only [spn]
    split
    · rw [spn_take p l m]; omega
    · simp

/-! ### What a token that was read is, read again -/
/-- A token's text, as it is formatted, is read as the token. -/
structure RB (e x : Bool) (k : Nat) (y : List UInt8) : Prop where
  read : readT e x true (fmtT k y) = .got k y (fmtT k y).length
  opn : openB (fmtT k y) = false
  head : ∃ c l, fmtT k y = c :: l ∧ c.toNat ≠ 32 ∧ (x = false → c.toNat ≠ 44 ∧ c.toNat ≠ 59)
  last : ∀ c, (fmtT k y).getLast? = some c → c.toNat ≠ 32
theorem RB.skip {e x : Bool} {k : Nat} {y : List UInt8} (h : RB e x k y) (z : List UInt8) : skipN x (fmtT k y ++ z) = 0 := by
  obtain ⟨c, l, e1, h1, h2⟩ := h.head
  rw [e1, List.cons_append, skipN, if_neg]
  rintro (h3 | ⟨h3, h4, _⟩)
  · exact h1 h3
  · have := h2 h4; omega
theorem trimP_last (l : List UInt8) (c : UInt8) (h : (trimP l).getLast? = some c) : ptB c = false := by
  unfold trimP at h
  rw [List.getLast?_reverse] at h
  cases hd : l.reverse.dropWhile ptB with
  | nil => rw [hd] at h; cases h
  | cons d r =>
    rw [hd] at h
    injection h with h
    subst h
    have := List.head?_dropWhile_not ptB l.reverse
    rw [hd] at this
    simpa using this
theorem trimP_fix {l : List UInt8} (h : ∀ c, l.getLast? = some c → ptB c = false) : trimP l = l := by
  unfold trimP
  cases hr : l.reverse with
  | nil =>
    have : l = [] := by simpa using hr
    rw [this]; rfl
  | cons c r =>
    have hl : l.getLast? = some c := by
      have := congrArg List.head? hr
      rw [List.head?_reverse] at this
      exact this
    rw [List.dropWhile_cons, h c hl]
    simp only [Bool.false_eq_true, if_false]
    rw [← hr, List.reverse_reverse]
theorem allT_all (r : List UInt8) : (allT r).all (fun c => !spcB c) = true := all_spn r
/-- What stands behind a picture. -/
theorem pic_rest (r : List UInt8) : ∃ s, r = trimP (allT r) ++ s ∧ ∀ c t, s = c :: t → inwB c = false := by
  obtain ⟨q, hq⟩ := trimP_prefix (allT r)
  have hr : r = allT r ++ r.drop (spn (fun c => !spcB c) r) := (List.take_append_drop _ _).symm
  refine ⟨q ++ r.drop (spn (fun c => !spcB c) r), by rw [← List.append_assoc, ← hq]; exact hr, ?_⟩
  have hqp : ∀ c ∈ q, ptB c = true := by
    intro c hc
    unfold trimP at hq
    have h2 : (allT r).reverse = q.reverse ++ (allT r).reverse.dropWhile ptB := by
      have := congrArg List.reverse hq
      rw [List.reverse_append, List.reverse_reverse] at this
      exact this
    have h3 : q.reverse = (allT r).reverse.takeWhile ptB := by
      have h4 := List.takeWhile_append_dropWhile (p := ptB) (l := (allT r).reverse)
      have h5 : q.reverse ++ (allT r).reverse.dropWhile ptB = (allT r).reverse.takeWhile ptB ++ (allT r).reverse.dropWhile ptB := by rw [h4]; exact h2.symm
      exact List.append_cancel_right h5
    have h6 : c ∈ (allT r).reverse.takeWhile ptB := by rw [← h3]; simpa using hc
    exact List.all_eq_true.1 List.all_takeWhile c h6
  intro c t hs
  cases q with
  | cons d q' =>
    injection hs with h1 h2
    subst h1
    have := hqp d (by simp)
    unfold ptB at this
    simp at this
    unfold inwB letB capB smallB digB
    rcases this with (h | h) | h <;> rw [h] <;> rfl
  | nil =>
    rw [List.nil_append] at hs
    have hg : r[spn (fun c => !spcB c) r]? = some c := by
      have := congrArg (·[0]?) hs
      simpa using this
    have h1 := spn_stop (fun c => !spcB c) r c hg
    simp [spcB] at h1
    unfold inwB letB capB smallB digB
    rw [h1]; rfl
theorem isIS_pic {r : List UInt8} (hne : trimP (allT r) ≠ []) : isIS (foldB (trimP (allT r))) = isIS r := by
  obtain ⟨s, hs, hin⟩ := pic_rest r
  generalize trimP (allT r) = p at *
  unfold isIS
  have h0 : ((foldB p).getD 0 0).toNat = 45 ↔ (r.getD 0 0).toNat = 45 := by
    rw [getD_fold]
    rw [hs]
    cases p with
    | nil => exact absurd rfl hne
    | cons c l => simp
  have hw : wrdN (foldB p) = wrdN r := by
    unfold wrdN
    by_cases h : (r.getD 0 0).toNat = 45
    · rw [if_pos h, if_pos (h0.2 h)]
    · rw [if_neg h, if_neg (fun h' => h (h0.1 h')), spn_fold upB_inw, hs, spn_split p s hin]
  rw [hw, ← foldB_take, foldB_fold]
  have hle : wrdN r ≤ p.length := by rw [← hw, ← foldB_len p]; exact wrdN_le _
  conv => rhs; rw [hs]
  rw [List.take_append_of_le_length (by rw [← hs]; exact hle), ← hs]
theorem eqs_prefix {p s : List UInt8} (h : eqs (foldB p) = true) : eqs (p ++ s) = true := by
  unfold eqs at *
  match p with
  | [] => simp [foldB, List.isPrefixOf] at h
  | [c] => simp [foldB, List.isPrefixOf] at h
  | c :: d :: p =>
    simp [foldB, List.isPrefixOf] at h ⊢
    have h1 := (upB_other (n := 61) (by omega) (by omega) c).1 (by rw [← h.1]; rfl)
    have h2 := (upB_other (n := 61) (by omega) (by omega) d).1 (by rw [← h.2]; rfl)
    exact ⟨u8_eq (by rw [h1]; rfl), u8_eq (by rw [h2]; rfl)⟩
theorem rb_pic {e x : Bool} {r y : List UInt8} {k n : Nat} (hb : x = true ∧ eqs r = false ∧ ¬ (isIS r = true ∧ e = true)) (h : picT r = .got k y n) : RB e x k y := by
  unfold picT at h
  split at h
  · cases h
  rename_i hh
  injection h with h1 h2 h3
  subst h1; subst h2
  have hne : trimP (allT r) ≠ [] := fun e => hh (.inl e)
  have hnq : ∀ c ∈ trimP (allT r), c.toNat ≠ 34 := fun c hc e34 => hh (.inr (.inr (by rw [List.any_eq_true]; exact ⟨c, hc, by simpa using e34⟩)))
  obtain ⟨s, hs, _⟩ := pic_rest r
  have hfm : fmtT 4 (foldB (trimP (allT r))) = foldB (trimP (allT r)) := rfl
  have heq : eqs (foldB (trimP (allT r))) = false := by
    cases he : eqs (foldB (trimP (allT r)))
    · rfl
    · have := eqs_prefix (s := s) he
      rw [← hs, hb.2.1] at this; cases this
  have hsp : ∀ c ∈ trimP (allT r), c.toNat ≠ 32 := fun c hc e32 => by
    obtain ⟨q, hq⟩ := trimP_prefix (allT r)
    have hm : c ∈ allT r := by rw [hq]; exact List.mem_append_left _ hc
    have := List.all_eq_true.1 (allT_all r) c hm
    simp [spcB, e32] at this
  have hIS := isIS_pic (r := r) hne
  have hlast := trimP_last (allT r)
  obtain ⟨p, hp⟩ : ∃ p, p = trimP (allT r) := ⟨_, rfl⟩
  rw [← hp] at hne hnq hfm heq hsp hIS hlast ⊢
  have hfall : (foldB p).all (fun c => !spcB c) = true := by
    rw [List.all_eq_true]
    intro c hc
    unfold foldB at hc
    obtain ⟨d, hd, rfl⟩ := List.mem_map.1 hc
    rw [upB_spc]
    have := hsp d hd
    simpa [spcB] using this
  have hallT : allT (foldB p) = foldB p := by
    unfold allT
    rw [spn_full _ hfall, List.take_length]
  have htrim : trimP (foldB p) = foldB p := trimP_fix fun c hc => by
    unfold foldB at hc
    rw [List.getLast?_map] at hc
    cases hl : p.getLast? with
    | none => rw [hl] at hc; cases hc
    | some d =>
      rw [hl] at hc
      injection hc with hc
      rw [← hc, upB_pt]
      exact hlast d hl
  have hfne : foldB p ≠ [] := by
    intro e
    have := congrArg List.length e
    rw [foldB_len] at this
    exact hne (List.eq_nil_of_length_eq_zero this)
  have hfq : ∀ c ∈ foldB p, c.toNat ≠ 34 := fun c hc e34 => by
    unfold foldB at hc
    obtain ⟨d, hd, rfl⟩ := List.mem_map.1 hc
    exact hnq d hd ((upB_other (by omega) (by omega) d).1 e34)
  refine ⟨?_, ?_, ?_, fun d hd e32 => by
    have := List.all_eq_true.1 hfall d (List.mem_of_getLast? hd)
    simp [spcB, e32] at this⟩
  · rw [hfm]
    unfold readT
    rw [if_pos ⟨hb.1, heq, by rw [hIS]; exact hb.2.2⟩]
    unfold picT
    rw [hallT, htrim, if_neg, foldB_fold]
    rintro (h | h | h)
    · exact hfne h
    · omega
    · rw [List.any_eq_true] at h
      obtain ⟨c, hc, h34⟩ := h
      exact hfq c hc (by simpa using h34)
  · rw [hfm]; exact noQ_open hfq
  · rw [hfm]
    cases hf : foldB p with
    | nil => exact absurd hf hfne
    | cons c l =>
      refine ⟨c, l, rfl, fun e32 => ?_, fun hx => by rw [hb.1] at hx; cases hx⟩
      have := List.all_eq_true.1 hfall c (by rw [hf]; simp)
      simp [spcB, e32] at this
theorem litE_dbl : ∀ y : List UInt8, litE (dblQ y ++ [34]) = some (y, (dblQ y).length + 1)
  | [] => rfl
  | c :: y => by
    have ih := litE_dbl y
    by_cases h : c.toNat = 34
    · have hc : c = 34 := u8_eq h
      simp only [dblQ]
      rw [if_pos h]
      show litE (34 :: 34 :: (dblQ y ++ [34])) = _
      rw [litE, if_pos (by decide), if_pos (by decide), ih]
      simp [hc]
    · simp only [dblQ]
      rw [if_neg h]
      show litE (c :: (dblQ y ++ [34])) = _
      have e : litE (c :: (dblQ y ++ [34])) = (litE (dblQ y ++ [34])).map (fun x => (c :: x.1, x.2 + 1)) := by
        cases hd : dblQ y ++ [34] with
        | nil => simp at hd
        | cons d l => rw [litE, if_neg h]
      rw [e, ih]; rfl
theorem rb_lit {e : Bool} {y : List UInt8} (hy : y ≠ []) : RB e false 3 y := by
  have hf : fmtT 3 y = 34 :: (dblQ y ++ [34]) := rfl
  have hl : litT (34 :: (dblQ y ++ [34])) = .got 3 y ((dblQ y).length + 1 + 1) := by
    unfold litT
    rw [List.drop_succ_cons, List.drop_zero, litE_dbl]
    dsimp only
    rw [if_neg hy]
  have hr : readT e false true (34 :: (dblQ y ++ [34])) = .got 3 y ((dblQ y).length + 1 + 1) := by
    unfold readT
    rw [if_neg (by rintro ⟨h, _⟩; cases h), if_pos (by rfl)]
    exact hl
  refine ⟨?_, ?_, ?_, fun d hd => by
    rw [hf, show (34 : UInt8) :: (dblQ y ++ [34]) = (34 :: dblQ y) ++ [34] from rfl, List.getLast?_concat] at hd
    injection hd with hd; rw [← hd]; decide⟩
  · rw [hf, hr]; simp
  · have := read_open (by simp) hr
    rw [hf]
    rwa [List.take_of_length_le (by simp)] at this
  · exact ⟨34, _, hf, by decide, fun _ => by decide⟩
theorem rb_period (e : Bool) : RB e false 6 [46] := by
  refine ⟨by cases e <;> decide, by decide, ⟨46, [], rfl, by decide, fun _ => by decide⟩, fun d hd => by injection hd with hd; rw [← hd]; decide⟩
theorem rb_pseudo (e x : Bool) : RB e x 7 [61, 61] := by
  refine ⟨by cases e <;> cases x <;> decide, by decide, ⟨61, [61], rfl, by decide, fun _ => by decide⟩, fun d hd => by injection hd with hd; rw [← hd]; decide⟩
theorem rb_sign (e : Bool) : ∀ y ∈ signsL, RB e false 5 y := by
  have h1 : ∀ y ∈ signsL, readT e false true (fmtT 5 y) = .got 5 y (fmtT 5 y).length ∧ openB (fmtT 5 y) = false ∧ fmtT 5 y ≠ [] ∧ ((fmtT 5 y).getD 0 0).toNat ≠ 32 ∧ ((fmtT 5 y).getD 0 0).toNat ≠ 44 ∧ ((fmtT 5 y).getD 0 0).toNat ≠ 59 ∧ ∀ c ∈ fmtT 5 y, c.toNat ≠ 32 := by
    cases e <;> decide
  intro y hy
  obtain ⟨a, b, c, d, f, g, q⟩ := h1 y hy
  cases hf : fmtT 5 y with
  | nil => exact absurd hf c
  | cons u l =>
    rw [hf] at d f g
    exact ⟨a, b, ⟨u, l, hf, by simpa using d, fun _ => ⟨by simpa using f, by simpa using g⟩⟩, fun v hv => q v (List.mem_of_getLast? hv)⟩
/-- A number, cut off behind its bytes, is a number of this length. -/
theorem num_again {r : List UInt8} {sep : Bool} (hr : r ≠ []) (h : 0 < numN r sep) : numN (r.take (numN r sep)) true = numN r sep := by
  have hle := numN_le (sep := sep) hr
  obtain ⟨n, hn⟩ : ∃ n, n = numN r sep := ⟨_, rfl⟩
  rw [← hn] at hle h ⊢
  have he := numN_eq r sep
  rw [← hn] at he
  have h1 : ¬ intN r sep < wrdN r := fun hh => by rw [if_pos hh] at he; omega
  rw [if_neg h1] at he
  have hin : intN r sep ≤ n := by
    split at he
    · omega
    · split at he
      · omega
      · omega
  have hg0 : sgN r sep ≤ intN r sep := by unfold intN; omega
  -- the head
  have h0 : (r.take n).getD 0 0 = r.getD 0 0 := by
    cases r with
    | nil => exact absurd rfl hr
    | cons c r =>
      obtain ⟨m, rfl⟩ : ∃ m, n = m + 1 := ⟨n - 1, by omega⟩
      simp
  have hsg : sgN (r.take n) true = sgN r sep := by
    unfold sgN
    rw [h0]
    cases sep with
    | true => rfl
    | false =>
      rw [if_neg (c := false = true ∧ _) (by simp)]
      rw [if_neg]
      rintro ⟨_, hc⟩
      have hs0 : sgN r false = 0 := by unfold sgN; rw [if_neg (by simp)]
      have hd0 : spn digB r = 0 := by
        cases r with
        | nil => rfl
        | cons c r =>
          have : digB c = false := by
            simp at hc
            unfold digB
            rcases hc with hc | hc <;> rw [hc] <;> rfl
          simp [spn, this]
      have hi0 : intN r false = 0 := by unfold intN; rw [hs0, List.drop_zero, hd0]
      have hdt : dotAt r 0 = false := by
        unfold dotAt
        rw [isAt_getD (by decide), decide_eq_false (by omega)]
        rfl
      rw [hi0, hdt, hs0] at he
      simp at he
      omega
  have hint : intN (r.take n) true = intN r sep := by
    unfold intN at hin ⊢
    rw [hsg, List.drop_take, spn_take]
    omega
  have hat : ∀ (p : UInt8 → Bool) j, j < n → atB p (r.take n) j = atB p r j := fun p j hj => by
    unfold atB; rw [List.getElem?_take_of_lt hj]
  rw [numN_eq, hint, hsg]
  have hw : ¬ intN r sep < wrdN (r.take n) := by
    rcases Nat.lt_or_ge (intN r sep) n with hlt | hge
    · -- a point stands there
      have hd : dotAt r (intN r sep) = true := by
        cases hd : dotAt r (intN r sep)
        · rw [hd] at he
          simp at he
          split at he <;> omega
        · rfl
      have h46 : isAt (r.take n) (intN r sep) 46 = true := by
        unfold dotAt at hd
        rw [Bool.and_eq_true] at hd
        unfold isAt at hd ⊢
        rw [hat _ _ hlt]; exact hd.1
      have := wrd_le_of (dot_not_word h46)
      omega
    · have := wrdN_le (r.take n)
      rw [List.length_take] at this
      omega
  rw [if_neg hw]
  cases hd : dotAt r (intN r sep)
  · rw [hd] at he
    simp at he
    split at he
    · omega
    · have hd2 : dotAt (r.take n) (intN r sep) = false := by
        unfold dotAt
        have : isAt (r.take n) (intN r sep) 46 = false := by unfold isAt; exact atB_none (by rw [List.length_take]; omega)
        rw [this]; rfl
      rw [hd2]
      simp
      rename_i hne
      rw [if_neg hne]; omega
  · rw [hd, if_pos rfl] at he
    have hdd := hd
    unfold dotAt at hdd
    rw [Bool.and_eq_true] at hdd
    have hf := (spn_pos_at digB r (intN r sep + 1)).2 hdd.2
    have hd2 : dotAt (r.take n) (intN r sep) = true := by
      unfold dotAt
      rw [Bool.and_eq_true]
      unfold isAt at hdd ⊢
      rw [hat _ _ (by omega), hat _ _ (by omega)]
      exact hdd
    rw [hd2, if_pos rfl, List.drop_take, spn_take]
    omega
theorem dig_ge {c : UInt8} (h : digB c = true) : 48 ≤ c.toNat ∧ c.toNat ≤ 57 := by unfold digB at h; simpa using h
/-- How a number begins. -/
theorem num_head {r : List UInt8} {sep : Bool} {c : UInt8} {l : List UInt8} (hr : r = c :: l) (h : 0 < numN r sep) : c.toNat = 43 ∨ c.toNat = 45 ∨ (48 ≤ c.toNat ∧ c.toNat ≤ 57) ∨ (c.toNat = 46 ∧ ∃ d m, l = d :: m ∧ digB d = true ∧ 2 ≤ numN r sep) := by
  rw [numN_eq] at h
  have h1 : ¬ intN r sep < wrdN r := fun hh => by rw [if_pos hh] at h; omega
  rw [if_neg h1] at h
  rcases sg_cases r sep with hg | hg
  · rcases Nat.eq_zero_or_pos (spn digB r) with h0 | h0
    · have hi : intN r sep = 0 := by unfold intN; rw [hg, List.drop_zero, h0]
      have hd : dotAt r 0 = true := by
        cases hd : dotAt r 0
        · rw [hi, hd, hg] at h; simp at h
        · rfl
      have hn : numN r sep = 0 + 1 + spn digB (r.drop (0 + 1)) := by
        rw [numN_eq, if_neg h1, hi, if_pos hd]
      unfold dotAt at hd
      rw [Bool.and_eq_true] at hd
      have h2 := (spn_pos_at digB r (0 + 1)).2 hd.2
      right; right; right
      have h46 := hd.1
      rw [isAt_getD (by decide)] at h46
      subst hr
      refine ⟨by simpa using h46, ?_⟩
      cases l with
      | nil => simp [spn] at h2
      | cons d m =>
        refine ⟨d, m, rfl, ?_, by omega⟩
        have h3 := hd.2
        simpa [atB] using h3
    · right; right; left
      subst hr
      have : digB c = true := (spn_pos (l := c :: l) rfl).1 h0
      exact dig_ge this
  · unfold sgN at hg
    split at hg
    · rename_i hh
      subst hr
      have := hh.2
      simp at this
      rcases this with h | h
      · left; exact h
      · right; left; exact h
    · cases hg
theorem noS_spn {p : UInt8 → Bool} (hp : ∀ c, p c = true → c.toNat ≠ 32) (l : List UInt8) : ∀ c ∈ l.take (spn p l), c.toNat ≠ 32 := fun c hc => hp c (List.all_eq_true.1 (all_spn l) c hc)
theorem noS_one {l : List UInt8} {k : Nat} (h : (l.getD k 0).toNat ≠ 32) : ∀ c ∈ (l.drop k).take 1, c.toNat ≠ 32 := fun c hc => by
  cases hd : l.drop k with
  | nil => rw [hd] at hc; simp at hc
  | cons d r =>
    rw [hd] at hc
    simp at hc
    subst hc
    have : l[k]? = some c := by have := congrArg (·[0]?) hd; simpa using this
    simpa [List.getD, this] using h
theorem mem_app {a b : List UInt8} {n : Nat} (h1 : ∀ c ∈ a, c.toNat ≠ n) (h2 : ∀ c ∈ b, c.toNat ≠ n) : ∀ c ∈ a ++ b, c.toNat ≠ n := fun c hc => (List.mem_append.1 hc).elim (h1 c) (h2 c)
theorem num_noS (r : List UInt8) (sep : Bool) : ∀ c ∈ r.take (numN r sep), c.toNat ≠ 32 := by
  have hd32 : ∀ c, digB c = true → c.toNat ≠ 32 := fun c h => by have := dig_ge h; omega
  have hg : ∀ c ∈ r.take (sgN r sep), c.toNat ≠ 32 := by
    rcases sg_cases r sep with h | h
    · rw [h]; intro c hc; simp at hc
    · rw [h]
      have h2 : (r.getD 0 0).toNat ≠ 32 := by
        unfold sgN at h
        split at h
        · rename_i hh; omega
        · cases h
      have := noS_one h2
      simpa using this
  have hi : ∀ c ∈ r.take (sgN r sep + spn digB (r.drop (sgN r sep))), c.toNat ≠ 32 := by
    rw [take_add']
    exact mem_app hg (noS_spn hd32 _)
  unfold numN
  dsimp only
  split
  · intro c hc; simp at hc
  split
  · rename_i hh
    rw [take_add', take_add']
    refine mem_app (mem_app hi (noS_one (by omega))) (noS_spn hd32 _)
  split
  · intro c hc; simp at hc
  · exact hi
theorem rb_num {e sep : Bool} {r y : List UInt8} {k n : Nat} (hr : r ≠ []) (hn : 0 < numN r sep) (h : numT r (numN r sep) = .got k y n) : RB e false k y := by
  have hle := numN_le (sep := sep) hr
  have hag := num_again hr hn
  have hnq := num_noQ r sep
  unfold numT at h
  split at h
  · cases h
  split at h
  · cases h
  rename_i h1 h2
  injection h with e1 e2 e3
  subst e1
  obtain ⟨N, hN⟩ : ∃ N, N = numN r sep := ⟨_, rfl⟩
  cases hrr : r with
  | nil => exact absurd hrr hr
  | cons c l =>
  have hh := num_head hrr hn
  rw [← hN] at hle hag hnq h1 h2 e2 e3 hn hh
  obtain ⟨m, rfl⟩ : ∃ m, N = m + 1 := ⟨N - 1, by omega⟩
  have hya : y = c :: l.take m := by rw [← e2, hrr, List.take_succ_cons]
  have hyl : y.length = m + 1 := by rw [← e2, List.length_take]; omega
  rw [e2] at hag hnq h2
  have hf : fmtT 2 y = y := rfl
  have h34 : c.toNat ≠ 34 := by
    rcases hh with h | h | h | h <;> omega
  have h61 : eqs y = false := by
    rw [hya]
    unfold eqs
    have : c ≠ 61 := fun e => by
      subst e
      rcases hh with h | h | h | h
      · exact absurd h (by decide)
      · exact absurd h (by decide)
      · exact absurd h.2 (by decide)
      · exact absurd h.1 (by decide)
    have h0 : ((61 : UInt8) == c) = false := by simpa using Ne.symm this
    simp [List.isPrefixOf, h0]
  have hpt : ¬ ((y.getD 0 0).toNat = 46 ∧ endT (y.drop 1) = true) := by
    rw [hya]
    rintro ⟨h46, he⟩
    simp at h46 he
    rcases hh with h | h | h | ⟨_, d, q, hl, hd, hm⟩
    · omega
    · omega
    · omega
    · rw [hl] at he
      obtain ⟨m', rfl⟩ : ∃ m', m = m' + 1 := ⟨m - 1, by omega⟩
      rw [List.take_succ_cons] at he
      have := dig_ge hd
      simp [endT] at he
      omega
  refine ⟨?_, ?_, ?_, ?_⟩
  · rw [hf]
    unfold readT
    rw [if_neg (by rintro ⟨h, _⟩; cases h), if_neg (by rw [hya]; simpa using h34), if_neg hpt, h61, if_neg (by simp), hag, if_pos hn]
    unfold numT
    rw [List.drop_of_length_le (by omega), List.take_of_length_le (by omega)]
    rw [if_neg (by simp [spn]), if_neg h2, hyl]
  · rw [hf]; exact noQ_open hnq
  · refine ⟨c, l.take m, by rw [hf]; exact hya, ?_, fun _ => ⟨?_, ?_⟩⟩
    · rcases hh with h | h | h | h <;> omega
    · rcases hh with h | h | h | h <;> omega
    · rcases hh with h | h | h | h <;> omega
  · intro d hd
    exact num_noS r sep d (by rw [← hN, e2]; exact List.mem_of_getLast? hd)
theorem upB_dig (c : UInt8) : digB (upB c) = digB c := by
  have hu := upB_toNat c
  unfold digB
  rw [hu]
  split
  · rename_i hs
    unfold smallB at hs
    simp at hs
    have e1 : decide (c.toNat - 32 ≤ 57) = false := by simp; omega
    have e2 : decide (c.toNat ≤ 57) = false := by simp; omega
    rw [e1, e2]; simp
  · rfl
theorem inw_not {c : UInt8} (h : inwB c = true) : c.toNat ≠ 34 ∧ c.toNat ≠ 46 ∧ c.toNat ≠ 61 ∧ c.toNat ≠ 32 ∧ c.toNat ≠ 44 ∧ c.toNat ≠ 59 ∧ c.toNat ≠ 43 := by
  refine ⟨?_, ?_, ?_, ?_, ?_, ?_, ?_⟩ <;> (intro e; unfold inwB letB capB smallB digB at h; rw [e] at h; revert h; decide)
theorem inw_no {c : UInt8} (h : c.toNat = 34 ∨ c.toNat = 46) : inwB c = false := by
  cases hi : inwB c
  · rfl
  · have := inw_not hi
    omega
theorem rb_word {e x sep : Bool} {r y : List UInt8} {k n : Nat} (hw : 0 < wrdN r) (hn0 : numN r sep = 0) (hb : ¬ (x = true ∧ eqs r = false ∧ ¬ (isIS r = true ∧ e = true))) (h : wordT (r.take (wrdN r)) = .got k y n) : RB e x k y := by
  have hwl := wrdN_le r
  cases hrr : r with
  | nil => rw [hrr] at hw; simp [wrdN, spn] at hw
  | cons c l =>
  have hc45 : c.toNat ≠ 45 := fun e45 => by
    rw [hrr] at hw
    unfold wrdN at hw
    rw [if_pos (by simpa using e45)] at hw; omega
  have hws : wrdN r = spn inwB r := by
    unfold wrdN
    rw [if_neg (by rw [hrr]; simpa using hc45)]
  have hci : inwB c = true := (spn_pos (p := inwB) (l := r) (by rw [hrr]; rfl)).1 (by omega)
  obtain ⟨c34, c46, c61, c32, c44, c59, c43⟩ := inw_not hci
  have hwall : (r.take (wrdN r)).all inwB = true := by rw [hws]; exact all_spn r
  have hrs := (List.take_append_drop (wrdN r) r).symm
  have hstop : ∀ d t, r.drop (wrdN r) = d :: t → inwB d = false := fun d t hd => by
    have : r[spn inwB r]? = some d := by
      rw [← hws]
      have := congrArg (·[0]?) hd
      simpa using this
    exact spn_stop inwB r d this
  obtain ⟨w, hwd⟩ : ∃ w, w = r.take (wrdN r) := ⟨_, rfl⟩
  have hwlen : w.length = wrdN r := by rw [hwd, List.length_take]; omega
  have hIr : isIS r = decide (foldB w = [73, 83]) := by unfold isIS; rw [← hwd]
  rw [← hwd] at h hwall hrs
  have hw0 : w[0]? = some c := by
    rw [hwd, List.getElem?_take_of_lt hw, hrr]; rfl
  -- the word
  unfold wordT at h
  have hname : isNameB (foldB w) = true := by
    cases hb2 : isNameB (foldB w)
    · exfalso
      rw [hb2, if_neg (by simp)] at h
      split at h <;> cases h
    · rfl
  rw [if_pos hname] at h
  injection h with e1 e2 e3
  subst e1
  have hya : y = foldB w := e2.symm
  have hyl : y.length = w.length := by rw [hya, foldB_len]
  have hy0 : y[0]? = some (upB c) := by rw [hya]; unfold foldB; rw [List.getElem?_map, hw0]; rfl
  have hyall : y.all inwB = true := by
    rw [hya, List.all_eq_true]
    intro d hd
    unfold foldB at hd
    obtain ⟨u, hu, rfl⟩ := List.mem_map.1 hd
    rw [upB_inw]; exact List.all_eq_true.1 hwall u hu
  have hui : inwB (upB c) = true := by rw [upB_inw]; exact hci
  obtain ⟨u34, u46, u61, u32, u44, u59, u43⟩ := inw_not hui
  have u45 : (upB c).toNat ≠ 45 := fun h => hc45 ((upB_other (by omega) (by omega) c).1 h)
  have hyc : ∃ t, y = upB c :: t := by
    cases y with
    | nil => simp at hy0
    | cons d t => simp at hy0; exact ⟨t, by rw [hy0]⟩
  obtain ⟨t, hyt⟩ := hyc
  have hyw : wrdN y = y.length := by
    unfold wrdN
    rw [if_neg (by rw [hyt]; simpa using u45), spn_full _ hyall]
  have hyf : foldB y = y := by rw [hya, foldB_fold]
  have hIy : isIS y = isIS r := by
    rw [hIr]
    unfold isIS
    rw [hyw, List.take_length, hyf, hya]
  have he1 : eqs y = false := by
    rw [hyt]
    unfold eqs
    have : ((61 : UInt8) == upB c) = false := by
      rw [beq_eq_false_iff_ne]
      intro e; exact u61 (by rw [← e]; rfl)
    simp [List.isPrefixOf, this]
  have her : eqs r = false := by
    rw [hrr]
    unfold eqs
    have : ((61 : UInt8) == c) = false := by
      rw [beq_eq_false_iff_ne]
      intro e; exact c61 (by rw [← e]; rfl)
    simp [List.isPrefixOf, this]
  have hnum : numN y true = 0 := by
    have hsy : sgN y true = 0 := by
      unfold sgN
      rw [if_neg]
      rw [hyt]
      rintro ⟨_, h⟩
      simp at h
      omega
    have hsr : sgN r sep = 0 := by
      unfold sgN
      rw [if_neg]
      rw [hrr]
      rintro ⟨_, h⟩
      simp at h
      omega
    have hiy : intN y true = spn digB y := by unfold intN; rw [hsy, List.drop_zero]; omega
    have hir : intN r sep = spn digB r := by unfold intN; rw [hsr, List.drop_zero]; omega
    rw [numN_eq, hiy, hyw]
    rcases Nat.lt_or_ge (spn digB y) y.length with hlt | hge
    · rw [if_pos hlt]
    · exfalso
      have hdy : spn digB y = spn digB w := by rw [hya, spn_fold upB_dig]
      have hdr : spn digB r = spn digB w := by
        conv => lhs; rw [hrs]
        refine spn_split w _ fun d q hd => ?_
        have := hstop d q hd
        cases hdd : digB d
        · rfl
        · rw [dig_inw hdd] at this; cases this
      rw [numN_eq, hir, hdr, hsr] at hn0
      rw [if_neg (by omega)] at hn0
      split at hn0
      · omega
      · split at hn0 <;> omega
  refine ⟨?_, ?_, ?_, ?_⟩
  · show readT e x true y = .got 1 y y.length
    unfold readT
    rw [if_neg, if_neg (by rw [hyt]; simpa using u34), if_neg (by rw [hyt]; rintro ⟨h, _⟩; exact u46 (by simpa using h)), he1, if_neg (by simp), hnum, if_neg (by omega), hyw, if_pos (by omega), List.take_length]
    · unfold wordT
      rw [hyf, if_pos (by rw [hya]; exact hname)]
    · rintro ⟨hx, _, hi⟩
      refine hb ⟨hx, her, fun hh => hi ?_⟩
      rw [hIy]; exact hh
  · refine noQ_open fun d hd => ?_
    exact inw_noQ d (List.all_eq_true.1 hyall d hd)
  · exact ⟨upB c, t, hyt, u32, fun _ => ⟨u44, u59⟩⟩
  · intro d hd
    exact (inw_not (List.all_eq_true.1 hyall d (List.mem_of_getLast? hd))).2.2.2.1
/-- What was read is read again from its format. -/
theorem read_back {e x sep : Bool} {r : List UInt8} {k n : Nat} {y : List UInt8} (hr : r ≠ []) (h : readT e x sep r = .got k y n) : RB e x k y := by
  unfold readT at h
  split at h
  · rename_i hb
    exact rb_pic hb h
  rename_i hb
  -- without a word or equals signs no picture is expected
  have hxf : eqs r = false → isIS r = false → x = false := fun h1 h2 => by
    cases x
    · rfl
    · exact absurd ⟨rfl, h1, by rw [h2]; simp⟩ hb
  have hISw : 0 < wrdN r ∨ isIS r = false := by
    rcases Nat.eq_zero_or_pos (wrdN r) with h0 | h0
    · right; unfold isIS; rw [h0]; rfl
    · exact .inl h0
  cases hrr : r with
  | nil => exact absurd hrr hr
  | cons c l =>
  have heq61 : c.toNat ≠ 61 → eqs r = false := fun hc => by
    rw [hrr]
    unfold eqs
    have : ((61 : UInt8) == c) = false := by
      rw [beq_eq_false_iff_ne]
      intro e; exact hc (by rw [← e]; rfl)
    simp [List.isPrefixOf, this]
  have hwz : inwB c = false → wrdN r = 0 := fun hc => by
    rw [hrr]
    unfold wrdN
    split
    · rfl
    · simp [spn, hc]
  have h0 : r.getD 0 0 = c := by rw [hrr]; rfl
  rw [h0] at h
  split at h
  · rename_i h34
    have hx : x = false := hxf (heq61 (by omega)) (hISw.resolve_left (by rw [hwz (inw_no (.inl h34))]; omega))
    subst hx
    unfold litT at h
    split at h
    · cases h
    · split at h
      · cases h
      · rename_i hne
        injection h with h1 h2 h3
        subst h1; subst h2
        exact rb_lit hne
  split at h
  · rename_i h46
    have hx : x = false := hxf (heq61 (by omega)) (hISw.resolve_left (by rw [hwz (inw_no (.inr h46.1))]; omega))
    subst hx
    injection h with h1 h2 h3
    subst h1; subst h2
    exact rb_period e
  split at h
  · injection h with h1 h2 h3
    subst h1; subst h2
    exact rb_pseudo e x
  rename_i heqs
  have heqs' : eqs r = false := by simpa using heqs
  split at h
  · rename_i hn
    have hx : x = false := by
      refine hxf heqs' ?_
      have hh := num_head hrr hn
      cases hi : isIS r
      · rfl
      · exfalso
        unfold isIS at hi
        have hi2 := of_decide_eq_true hi
        rw [hrr] at hi2
        cases hw : wrdN (c :: l) with
        | zero => rw [hw] at hi2; simp [foldB] at hi2
        | succ q =>
          rw [hw, List.take_succ_cons] at hi2
          unfold foldB at hi2
          injection hi2 with hc73 _
          have hu := upB_toNat c
          rw [hc73] at hu
          have h73 : (73 : UInt8).toNat = 73 := rfl
          rw [h73] at hu
          split at hu
          · rename_i hs
            unfold smallB at hs
            simp at hs
            rcases hh with h | h | h | h <;> omega
          · rcases hh with h | h | h | h <;> omega
    subst hx
    exact rb_num hr hn h
  split at h
  · rename_i hn hw
    exact rb_word (sep := sep) hw (by omega) hb h
  · rename_i hn hw
    have hx : x = false := hxf heqs' (hISw.resolve_left hw)
    subst hx
    obtain ⟨rfl, hy, _, _⟩ := signT_got h
    exact rb_sign e _ hy

/-! ### Tokens that are formatted and scanned -/
def BackOK : List Tok → List Tok → Prop
  | _, [] => True
  | acc, t :: T => RB (endPic acc) (expPic acc) t.kind t.text ∧ BackOK (acc ++ [t]) T
theorem backOK_app : ∀ (A B acc : List Tok), BackOK acc A → BackOK (acc ++ A) B → BackOK acc (A ++ B)
  | [], B, acc, _, h => by simpa using h
  | t :: A, B, acc, h, h2 => ⟨h.1, backOK_app A B (acc ++ [t]) h.2 (by simpa using h2)⟩
theorem backOK_N (u : Bool) (t : List UInt8) (ms : IMarks) : ∀ (m j : Nat) (acc R : List Tok), t.length - j < m → scanN u t ms j acc = .inr R → ∃ T, R = acc ++ T ∧ BackOK acc T
  | 0, _, _, _, h, _ => by omega
  | m + 1, j, acc, R, hm, h => by
    rcases Nat.lt_or_ge j t.length with hj | hj
    · cases hrd : readT (endPic acc) (expPic acc) (sepAt t j) (t.drop j) with
      | bad e => rw [scanN_bad u t ms j acc hj hrd] at h; cases h
      | got k x n =>
        have hle := readT_le (drop_ne hj) hrd
        rw [scanN_got u t ms j acc hj hrd] at h
        split at h
        · cases h
        · obtain ⟨T, h1, h2⟩ := backOK_N u t ms m _ _ R (by omega) h
          exact ⟨tokAt ms j k x :: T, by rw [h1]; simp, read_back (drop_ne hj) hrd, h2⟩
    · rw [scanN_end u t ms j acc hj] at h
      injection h with h
      exact ⟨[], by simp [h], trivial⟩
theorem backOK_B (u : Bool) : ∀ (L : List ICard) (acc R : List Tok), scanB u L acc = .inr R → ∃ T, R = acc ++ T ∧ BackOK acc T
  | [], acc, R, h => by injection h with h; exact ⟨[], by simp [h], trivial⟩
  | c :: L, acc, R, h => by
    change (if c.ok = true then (match scanC u c.text c.marks acc with | .inl f => (.inl f : (Nat × Int × Int) ⊕ List Tok) | .inr acc' => scanB u L acc') else .inl (1, 0, 0)) = .inr R at h
    split at h
    · split at h
      · cases h
      · rename_i acc' hs
        rw [scanC_N] at hs
        obtain ⟨T1, h1, h2⟩ := backOK_N u c.text c.marks _ _ acc acc' (Nat.lt_succ_self _) hs
        obtain ⟨T2, h3, h4⟩ := backOK_B u L acc' R h
        subst h1
        exact ⟨T1 ++ T2, by rw [h3, List.append_assoc], backOK_app T1 T2 acc h2 h4⟩
    · cases h
theorem textT_one (t : Tok) : textT [t] = fmtT t.kind t.text := rfl
theorem textT_more (t u : Tok) (T : List Tok) : textT (t :: u :: T) = fmtT t.kind t.text ++ 32 :: textT (u :: T) := rfl
theorem textT_head {acc : List Tok} {t : Tok} {T : List Tok} (h : RB (endPic acc) (expPic acc) t.kind t.text) : skipN (expPic acc) (textT (t :: T)) = 0 := by
  cases T with
  | nil =>
    have := h.skip []
    rw [List.append_nil] at this
    exact this
  | cons u T => rw [textT_more]; exact h.skip _
theorem sepAt_pre {pre b : List UInt8} (hp : pre = [] ∨ pre.getLast? = some 32) : sepAt (pre ++ b) pre.length = true := by
  rcases hp with h | h
  · subst h; rfl
  · have hne : pre ≠ [] := by intro e; rw [e] at h; cases h
    have := sepAt_shift (b := b) (fun h2 => by obtain ⟨ys, rfl⟩ := List.getLast?_eq_some_iff.1 h; simp) hne 0
    rw [Nat.add_zero] at this
    rw [this]; rfl
/-- Tokens that are formatted and scanned are the same tokens. -/
theorem format_scan (ms : IMarks) : ∀ (T : List Tok) (t : Tok) (acc acc2 : List Tok) (pre : List UInt8), SamT acc acc2 → BackOK acc (t :: T) → acc.length + T.length + 1 ≤ 65536 → (pre = [] ∨ pre.getLast? = some 32) →
    ∃ R, scanN true (pre ++ textT (t :: T)) ms pre.length acc2 = .inr R ∧ SamT (acc ++ t :: T) R
  | [], t, acc, acc2, pre, hs, hb, hl, hp => by
    have hrb := hb.1
    obtain ⟨c, l, hf, _⟩ := hrb.head
    have hfl : 0 < (fmtT t.kind t.text).length := by rw [hf]; simp
    have hd : (pre ++ textT [t]).drop pre.length = fmtT t.kind t.text := by rw [List.drop_left]; rfl
    have hlen : pre.length < (pre ++ textT [t]).length := by rw [List.length_append, textT_one]; omega
    have hr : readT (endPic acc2) (expPic acc2) (sepAt (pre ++ textT [t]) pre.length) ((pre ++ textT [t]).drop pre.length) = .got t.kind t.text (fmtT t.kind t.text).length := by
      rw [hd, sepAt_pre hp, ← hs.endPic, ← hs.expPic]; exact hrb.read
    have hsl := hs.len
    simp at hl
    refine ⟨acc2 ++ [tokAt ms pre.length t.kind t.text], ?_, hs.snoc rfl⟩
    rw [scanN_got true _ ms _ _ hlen hr, if_neg (by omega)]
    exact scanN_end _ _ _ _ _ (by rw [List.length_append, textT_one]; omega)
  | u :: T, t, acc, acc2, pre, hs, hb, hl, hp => by
    have hrb := hb.1
    obtain ⟨c, l, hf, _⟩ := hrb.head
    have hfn : fmtT t.kind t.text ≠ [] := by rw [hf]; simp
    have hfl : 0 < (fmtT t.kind t.text).length := List.length_pos_iff.2 hfn
    have hd : (pre ++ textT (t :: u :: T)).drop pre.length = fmtT t.kind t.text ++ 32 :: textT (u :: T) := by rw [List.drop_left, textT_more]
    have hlen : pre.length < (pre ++ textT (t :: u :: T)).length := by rw [List.length_append, textT_more, List.length_append]; omega
    have hr : readT (endPic acc2) (expPic acc2) (sepAt (pre ++ textT (t :: u :: T)) pre.length) ((pre ++ textT (t :: u :: T)).drop pre.length) = .got t.kind t.text (fmtT t.kind t.text).length := by
      rw [hd, sepAt_pre hp, readT_cut _ _ _ _ hfn hrb.opn, ← hs.endPic, ← hs.expPic]; exact hrb.read
    have hsl := hs.len
    simp only [List.length_cons] at hl
    have hs2 : SamT (acc ++ [t]) (acc2 ++ [tokAt ms pre.length t.kind t.text]) := hs.snoc rfl
    have hd2 : (pre ++ textT (t :: u :: T)).drop (pre.length + (fmtT t.kind t.text).length) = 32 :: textT (u :: T) := by
      rw [← List.drop_drop, hd, List.drop_left]
    have hsk : skipN (expPic (acc2 ++ [tokAt ms pre.length t.kind t.text])) (32 :: textT (u :: T)) = 1 := by
      rw [← hs2.expPic, skipN, if_pos (.inl (by decide)), textT_head hb.2.1]
    have he : pre ++ textT (t :: u :: T) = (pre ++ fmtT t.kind t.text ++ [32]) ++ textT (u :: T) := by rw [textT_more]; simp
    have hpl : pre.length + (fmtT t.kind t.text).length + 1 = (pre ++ fmtT t.kind t.text ++ [32]).length := by simp; omega
    obtain ⟨R, h1, h2⟩ := format_scan ms T u (acc ++ [t]) _ (pre ++ fmtT t.kind t.text ++ [32]) hs2 hb.2 (by simp; omega) (.inr (by simp))
    refine ⟨R, ?_, by simpa using h2⟩
    rw [scanN_got true _ ms _ _ hlen hr, if_neg (by omega), hd2, hsk, he, hpl]
    exact h1
theorem format_card (ms : IMarks) (t : Tok) (T : List Tok) (hb : BackOK [] (t :: T)) (hl : T.length + 1 ≤ 65536) : ∃ R, scanC true (textT (t :: T)) ms [] = .inr R ∧ SamT (t :: T) R := by
  obtain ⟨R, h1, h2⟩ := format_scan ms T t [] [] [] rfl hb (by simpa using hl) (.inl rfl)
  refine ⟨R, ?_, by simpa using h2⟩
  have hsk : skipN (expPic []) (textT (t :: T)) = 0 := textT_head hb.1
  rw [scanC_N, hsk]
  simpa using h1

/-! ### The text of tokens may be laid out -/
theorem text_open : ∀ (T : List Tok) (acc : List Tok), BackOK acc T → openB (textT T) = false
  | [], _, _ => rfl
  | [t], acc, h => h.1.opn
  | t :: u :: T, acc, h => by
    have ih := text_open (u :: T) (acc ++ [t]) h.2
    rw [textT_more, openB_xor, h.1.opn]
    have : openB (32 :: textT (u :: T)) = (openB [32] ^^ openB (textT (u :: T))) := openB_xor [32] _
    rw [this, ih]; rfl
theorem text_last : ∀ (T : List Tok) (t : Tok) (acc : List Tok), BackOK acc (t :: T) → ∀ c, (textT (t :: T)).getLast? = some c → c.toNat ≠ 32
  | [], t, acc, h, c, hc => h.1.last c hc
  | u :: T, t, acc, h, c, hc => by
    have ih := text_last T u (acc ++ [t]) h.2
    have hne : textT (u :: T) ≠ [] := by
      obtain ⟨d, l, hf, _⟩ := h.2.1.head
      intro e
      cases T with
      | nil => rw [textT_one, hf] at e; cases e
      | cons v T => rw [textT_more, hf] at e; cases e
    rw [textT_more] at hc
    have e : fmtT t.kind t.text ++ 32 :: textT (u :: T) = (fmtT t.kind t.text ++ [32]) ++ textT (u :: T) := by simp
    rw [e, List.getLast?_append] at hc
    cases hg : (textT (u :: T)).getLast? with
    | none => exact absurd (List.getLast?_eq_none_iff.1 hg) hne
    | some d =>
      rw [hg] at hc
      injection hc with hc
      subst hc
      exact ih _ hg
theorem text_all {p : UInt8 → Bool} (h32 : p 32 = true) : ∀ (T : List Tok), (∀ t ∈ T, (fmtT t.kind t.text).all p = true) → (textT T).all p = true
  | [], _ => rfl
  | [t], h => h t (by simp)
  | t :: u :: T, h => by
    rw [textT_more, List.all_append, h t (by simp), List.all_cons, h32, text_all h32 (u :: T) (fun x hx => h x (by simp at hx ⊢; right; exact hx))]
    rfl
/-- The bytes of a token's format are bytes of the text, folded, or quotes. -/
theorem litE_mem : ∀ (l y : List UInt8) (n : Nat), litE l = some (y, n) → ∀ c ∈ y, c ∈ l ∨ c = 34
  | [], y, n, h => by simp [litE] at h
  | [c], y, n, h => by
    by_cases hc : c.toNat = 34
    · rw [litE, if_pos hc] at h; simp at h; rw [h.1]; intro b hb; simp at hb
    · rw [litE, if_neg hc] at h; simp [litE] at h
  | c :: d :: l, y, n, h => by
    by_cases hc : c.toNat = 34
    · by_cases hd : d.toNat = 34
      · rw [litE, if_pos hc, if_pos hd] at h
        cases hl : litE l with
        | none => rw [hl] at h; simp at h
        | some x =>
          rw [hl] at h; simp at h
          have ih := litE_mem l x.1 x.2 (by rw [hl])
          intro b hb
          rw [← h.1] at hb
          rcases List.mem_cons.1 hb with rfl | hb
          · exact .inr rfl
          · rcases ih b hb with h2 | h2
            · exact .inl (by simp [h2])
            · exact .inr h2
      · rw [litE, if_pos hc, if_neg hd] at h; simp at h; rw [h.1]; intro b hb; simp at hb
    · rw [litE, if_neg hc] at h
      cases hl : litE (d :: l) with
      | none => rw [hl] at h; simp at h
      | some x =>
        rw [hl] at h; simp at h
        have ih := litE_mem (d :: l) x.1 x.2 (by rw [hl])
        intro b hb
        rw [← h.1] at hb
        rcases List.mem_cons.1 hb with rfl | hb
        · exact .inl (by simp)
        · rcases ih b hb with h2 | h2
          · exact .inl (List.mem_cons_of_mem _ h2)
          · exact .inr h2
theorem dblQ_all {p : UInt8 → Bool} (h34 : p 34 = true) : ∀ y : List UInt8, y.all p = true → (dblQ y).all p = true
  | [], _ => rfl
  | c :: y, h => by
    simp only [List.all_cons, Bool.and_eq_true] at h
    simp only [dblQ]
    split
    · rw [List.all_cons, List.all_cons, h34, dblQ_all h34 y h.2]; rfl
    · rw [List.all_cons, h.1, dblQ_all h34 y h.2]; rfl
theorem prt_up {c : UInt8} (h : prtB c = true) : prtB (upB c) = true := by
  have hu := upB_toNat c
  unfold prtB at h ⊢
  simp only [Bool.and_eq_true, decide_eq_true_iff] at h ⊢
  split at hu
  · rename_i hs
    unfold smallB at hs
    simp at hs
    omega
  · omega
theorem prt_fold {l : List UInt8} (h : l.all prtB = true) : (foldB l).all prtB = true := by
  unfold foldB
  rw [List.all_map, List.all_eq_true]
  intro c hc
  exact prt_up (List.all_eq_true.1 h c hc)
theorem all_take {p : UInt8 → Bool} {l : List UInt8} (h : l.all p = true) (n : Nat) : (l.take n).all p = true := by
  rw [List.all_eq_true] at h ⊢
  exact fun c hc => h c (List.mem_of_mem_take hc)
theorem read_prt {e x sep : Bool} {r : List UInt8} {k n : Nat} {y : List UInt8} (hp : r.all prtB = true) (h : readT e x sep r = .got k y n) : (fmtT k y).all prtB = true := by
  unfold readT at h
  split at h
  · unfold picT at h
    split at h
    · cases h
    · injection h with h1 h2 h3
      subst h1; subst h2
      obtain ⟨q, hq⟩ := trimP_prefix (allT r)
      have : (allT r).all prtB = true := all_take hp _
      rw [hq, List.all_append, Bool.and_eq_true] at this
      exact prt_fold this.1
  split at h
  · unfold litT at h
    split at h
    · cases h
    · rename_i t' n' hl
      split at h
      · cases h
      · injection h with h1 h2 h3
        subst h1; subst h2
        show ((34 : UInt8) :: (dblQ t' ++ [34])).all prtB = true
        have hy : t'.all prtB = true := by
          rw [List.all_eq_true]
          intro c hc
          rcases litE_mem _ _ _ hl c hc with h2 | h2
          · exact List.all_eq_true.1 hp c (List.mem_of_mem_drop h2)
          · rw [h2]; decide
        rw [List.all_cons, List.all_append, dblQ_all (by decide) t' hy]
        decide
  split at h
  · injection h with h1 h2 h3
    subst h1; subst h2; decide
  split at h
  · injection h with h1 h2 h3
    subst h1; subst h2; decide
  split at h
  · unfold numT at h
    split at h
    · cases h
    split at h
    · cases h
    · injection h with h1 h2 h3
      subst h1; subst h2
      exact all_take hp _
  split at h
  · unfold wordT at h
    split at h
    · injection h with h1 h2 h3
      subst h1; subst h2
      exact prt_fold (all_take hp _)
    split at h <;> cases h
  · obtain ⟨rfl, hx, _, _⟩ := signT_got h
    have : ∀ z ∈ signsL, (fmtT 5 z).all prtB = true := by decide
    exact this _ hx
theorem prt_N (u : Bool) (t : List UInt8) (ms : IMarks) (ht : t.all prtB = true) : ∀ (m j : Nat) (acc R : List Tok), t.length - j < m → (∀ x ∈ acc, (fmtT x.kind x.text).all prtB = true) → scanN u t ms j acc = .inr R → ∀ x ∈ R, (fmtT x.kind x.text).all prtB = true
  | 0, _, _, _, h, _, _ => by omega
  | m + 1, j, acc, R, hm, ha, h => by
    rcases Nat.lt_or_ge j t.length with hj | hj
    · cases hrd : readT (endPic acc) (expPic acc) (sepAt t j) (t.drop j) with
      | bad e => rw [scanN_bad u t ms j acc hj hrd] at h; cases h
      | got k x n =>
        have hle := readT_le (drop_ne hj) hrd
        rw [scanN_got u t ms j acc hj hrd] at h
        split at h
        · cases h
        · refine prt_N u t ms ht m _ _ R (by omega) (fun y hy => ?_) h
          rcases List.mem_append.1 hy with hy | hy
          · exact ha y hy
          · rw [List.mem_singleton] at hy
            subst hy
            refine read_prt (r := t.drop j) ?_ hrd
            rw [List.all_eq_true] at ht ⊢
            exact fun c hc => ht c (List.mem_of_mem_drop hc)
    · rw [scanN_end u t ms j acc hj] at h
      injection h with h
      rw [← h]; exact ha
theorem prt_B (u : Bool) : ∀ (L : List ICard) (acc R : List Tok), (∀ c ∈ L, c.text.all prtB = true) → (∀ x ∈ acc, (fmtT x.kind x.text).all prtB = true) → scanB u L acc = .inr R → ∀ x ∈ R, (fmtT x.kind x.text).all prtB = true
  | [], acc, R, _, ha, h => by injection h with h; rw [← h]; exact ha
  | c :: L, acc, R, hL, ha, h => by
    change (if c.ok = true then (match scanC u c.text c.marks acc with | .inl f => (.inl f : (Nat × Int × Int) ⊕ List Tok) | .inr acc' => scanB u L acc') else .inl (1, 0, 0)) = .inr R at h
    split at h
    · split at h
      · cases h
      · rename_i acc' hs
        rw [scanC_N] at hs
        exact prt_B u L acc' R (fun x hx => hL x (by simp [hx])) (prt_N u c.text c.marks (hL c (by simp)) _ _ acc acc' (Nat.lt_succ_self _) ha hs) h
    · cases h
end Go.Proofs.YtpalfhfbgfnacaaGreatDoor
