/-
  Where the bytes of the cards stand in the source text, on lists; no walk here.
-/
import Derived.Test.YtpalfhfbgfnacaaGreatDoorGC
namespace Go.Proofs.YtpalfhfbgfnacaaGreatDoor
open Go.RowKit
set_option linter.unusedVariables false
set_option linter.unusedSimpArgs false

/-- The marks of a card say where its text stands in the lines L, behind line lo and not behind line hi. -/
structure GoodK (L : List (List UInt8)) (lo hi : Nat) (c : Kard) : Prop where
  some_ : c.text ≠ [] → c.marks ≠ []
  at_ : ∀ j m, c.marks[j]? = some m → m.1 < c.text.length ∧ lo < m.2.1 ∧ m.2.1 ≤ hi ∧ 8 ≤ m.2.2 ∧ (j = 0 → m.1 = 0) ∧
    (∀ m', c.marks[j + 1]? = some m' → m.1 < m'.1 ∧ m.2.1 < m'.2.1) ∧
    (∀ i b, m.1 ≤ i → (∀ m', c.marks[j + 1]? = some m' → i < m'.1) → c.text[i]? = some b → m.2.2 + (i - m.1) ≤ 72 ∧ (textOf (L.getD (m.2.1 - 1) [])).getD (m.2.2 - 8 + (i - m.1)) 32 = b)
theorem GoodK.more {L : List (List UInt8)} {lo hi hi' : Nat} {c : Kard} (h : GoodK L lo hi c) (hh : hi ≤ hi') : GoodK L lo hi' c :=
  ⟨h.some_, fun j m hm => by obtain ⟨h1, h2, h3, h4⟩ := h.at_ j m hm; exact ⟨h1, h2, Nat.le_trans h3 hh, h4⟩⟩
theorem GoodK.empty (L : List (List UInt8)) (lo hi : Nat) (l : Bool) : GoodK L lo hi ⟨l, [], []⟩ := ⟨fun h => absurd rfl h, fun j m hm => by simp at hm⟩
theorem GoodK.plus {L : List (List UInt8)} {lo hi n col : Nat} {c : Kard} {p : List UInt8} (h : GoodK L lo hi c) (hn : hi < n) (hlo : lo ≤ hi) (hc : 8 ≤ col)
    (hp : ∀ i b, p[i]? = some b → col + i ≤ 72 ∧ (textOf (L.getD (n - 1) [])).getD (col - 8 + i) 32 = b) (h0 : c.text = [] → c.marks = []) : GoodK L lo n (c.plus p n col) := by
  by_cases hpe : p = []
  · subst hpe
    have : c.plus [] n col = c := by simp [Kard.plus]
    rw [this]; exact h.more (by omega)
  have e : c.plus p n col = ⟨c.left, c.text ++ p, c.marks ++ [(c.text.length, n, col)]⟩ := by simp [Kard.plus, hpe]
  have hpl : 0 < p.length := List.length_pos_iff.2 hpe
  rw [e]
  refine ⟨fun _ => by simp, fun j m hm => ?_⟩
  simp only [] at hm ⊢
  rcases Nat.lt_trichotomy j c.marks.length with hj | hj | hj
  · rw [List.getElem?_append_left hj] at hm
    obtain ⟨h1, h2, h3, h4, h5, h6, h7⟩ := h.at_ j m hm
    refine ⟨by rw [List.length_append]; omega, h2, by omega, h4, h5, fun m' hm' => ?_, fun i b hi hnx hb => ?_⟩
    · rcases Nat.lt_or_ge (j + 1) c.marks.length with hj1 | hj1
      · rw [List.getElem?_append_left hj1] at hm'
        exact h6 m' hm'
      · rw [List.getElem?_append_right hj1, show j + 1 - c.marks.length = 0 from by omega] at hm'
        injection hm' with hm'
        subst hm'
        exact ⟨h1, by simp only []; omega⟩
    · rcases Nat.lt_or_ge (j + 1) c.marks.length with hj1 | hj1
      · have hnx' : ∀ m', c.marks[j + 1]? = some m' → i < m'.1 := fun m' hm' => hnx m' (by rw [List.getElem?_append_left hj1]; exact hm')
        obtain ⟨m', hm'⟩ : ∃ m', c.marks[j + 1]? = some m' := ⟨_, List.getElem?_eq_getElem hj1⟩
        have hi' := hnx' m' hm'
        have := (h.at_ _ _ hm').1
        rw [List.getElem?_append_left (by omega)] at hb
        exact h7 i b hi hnx' hb
      · have hi' : i < c.text.length := hnx (c.text.length, n, col) (by rw [List.getElem?_append_right hj1, show j + 1 - c.marks.length = 0 from by omega]; rfl)
        rw [List.getElem?_append_left hi'] at hb
        exact h7 i b hi (fun m' hm' => by rw [List.getElem?_eq_none hj1] at hm'; cases hm') hb
  · subst hj
    rw [List.getElem?_append_right (Nat.le_refl _), Nat.sub_self] at hm
    injection hm with hm
    subst hm
    simp only []
    refine ⟨by rw [List.length_append]; omega, by omega, Nat.le_refl _, hc, fun hj0 => ?_, fun m' hm' => ?_, fun i b hi hnx hb => ?_⟩
    · have hm0 : c.marks = [] := List.eq_nil_of_length_eq_zero hj0
      by_cases ht : c.text = []
      · rw [ht]; rfl
      · exact absurd hm0 (h.some_ ht)
    · rw [List.getElem?_eq_none (by simp)] at hm'; cases hm'
    · rw [List.getElem?_append_right hi] at hb
      exact hp _ _ hb
  · rw [List.getElem?_eq_none (by simp; omega)] at hm; cases hm

/-- Cards one behind another. -/
def GoodL (L : List (List UInt8)) : Nat → List Kard → Nat → Prop
  | lo, [], hi => lo ≤ hi
  | lo, c :: r, hi => ∃ mid, lo ≤ mid ∧ GoodK L lo mid c ∧ c.text ≠ [] ∧ GoodL L mid r hi
theorem GoodL.le {L : List (List UInt8)} : ∀ {ks : List Kard} {lo hi : Nat}, GoodL L lo ks hi → lo ≤ hi
  | [], _, _, h => h
  | c :: r, _, _, ⟨mid, h1, _, _, h2⟩ => Nat.le_trans h1 h2.le
theorem GoodL.snoc {L : List (List UInt8)} {c : Kard} : ∀ {ks : List Kard} {lo mid hi : Nat}, GoodL L lo ks mid → mid ≤ hi → GoodK L mid hi c → c.text ≠ [] → GoodL L lo (ks ++ [c]) hi
  | [], lo, mid, hi, h, h1, h2, h3 => ⟨hi, Nat.le_trans h h1, ⟨h2.some_, fun j m hm => by obtain ⟨a, b, r⟩ := h2.at_ j m hm; exact ⟨a, Nat.lt_of_le_of_lt h b, r⟩⟩, h3, Nat.le_refl _⟩
  | d :: r, lo, mid, hi, ⟨m1, g1, g2, g3, g4⟩, h1, h2, h3 => ⟨m1, g1, g2, g3, GoodL.snoc g4 h1 h2 h3⟩
theorem GoodL.more {L : List (List UInt8)} : ∀ {ks : List Kard} {lo hi hi' : Nat}, GoodL L lo ks hi → hi ≤ hi' → GoodL L lo ks hi'
  | [], _, _, _, h, hh => Nat.le_trans h hh
  | c :: r, _, _, _, ⟨mid, h1, h2, h3, h4⟩, hh => ⟨mid, h1, h2, h3, h4.more hh⟩

theorem trimB_get (l : List UInt8) (i : Nat) (b : UInt8) (h : (trimB l)[i]? = some b) : l[i]? = some b := by
  unfold trimB at h
  rw [List.getElem?_take] at h
  split at h
  · exact h
  · cases h
theorem tailB_get (rest text : List UInt8) (i : Nat) (b : UInt8) (h : (tailB rest text)[i]? = some b) : rest[i]? = some b := by
  unfold tailB at h
  split at h
  · exact h
  · exact trimB_get _ _ _ h
theorem part_get {s text : List UInt8} {k i : Nat} {b : UInt8} (h : (tailB ((textOf s).drop k) text)[i]? = some b) : k + 8 + i ≤ 72 ∧ (textOf s).getD (k + 8 - 8 + i) 32 = b := by
  have h1 := tailB_get _ _ _ _ h
  rw [List.getElem?_drop] at h1
  have h2 := textOf_length s
  have h3 : k + i < (textOf s).length := by
    rcases Nat.lt_or_ge (k + i) (textOf s).length with h' | h'
    · exact h'
    · rw [List.getElem?_eq_none h'] at h1; cases h1
  refine ⟨by omega, ?_⟩
  rw [show k + 8 - 8 + i = k + i from by omega]
  simp [List.getD, h1]

theorem tail_neL (rest text : List UInt8) (c : UInt8) (l : List UInt8) (h : rest = c :: l) (hc : c.toNat ≠ 32) : tailB rest text ≠ [] := by
  subst h
  unfold tailB
  split
  · simp
  · intro e
    have hr := trim_rest (c :: l)
    rw [e] at hr
    have h0 : (c :: l)[0]? = (List.replicate ((c :: l).length - trimN (c :: l)) (32 : UInt8))[0]? := congrArg (fun x : List UInt8 => x[0]?) hr
    rw [List.getElem?_replicate] at h0
    split at h0
    · simp at h0; subst h0; exact hc rfl
    · cases h0
theorem drop_headL (l : List UInt8) (h : fstN l < l.length) : ∃ c r, l.drop (fstN l) = c :: r ∧ c.toNat ≠ 32 := by
  refine ⟨l[fstN l], l.drop (fstN l + 1), List.drop_eq_getElem_cons h, ?_⟩
  have := fst_not l h
  simpa [List.getD, List.getElem?_eq_getElem h] using this

/-- What Read knows is right for the first k lines. -/
structure GoodR (L : List (List UInt8)) (k : Nat) (r : ReadAt) : Prop where
  ex : ∃ mid, GoodL L 0 r.done mid ∧ mid ≤ k ∧ ∀ c, r.cur = some c → GoodK L mid k c ∧ c.text ≠ []
theorem GoodR.more {L : List (List UInt8)} {k k' : Nat} {r : ReadAt} (h : GoodR L k r) (hk : k ≤ k') : GoodR L k' r := by
  obtain ⟨mid, h1, h2, h3⟩ := h.ex
  exact ⟨mid, h1, by omega, fun c hc => ⟨(h3 c hc).1.more hk, (h3 c hc).2⟩⟩
theorem good_put {L : List (List UInt8)} {k mid : Nat} {done : List Kard} {c : Kard} {s : List UInt8} {b : Bool} {r' : ReadAt} (hs : L[k]? = some s) (hf : fstN (textOf s) < 65)
    (h1 : GoodL L 0 done mid) (h2 : mid ≤ k) (h3 : GoodK L mid k c) (hb : b = true → c = ⟨c.left, [], []⟩) (hb2 : b = false → c.text ≠ []) (h : putRow done c (textOf s) (k + 1) b = .inr r') : GoodR L (k + 1) r' := by
  have hg : L.getD (k + 1 - 1) [] = s := by simp [List.getD, hs]
  have hm0 : c.text = [] → c.marks = [] := fun e => by
    cases b
    · exact absurd e (hb2 rfl)
    · rw [hb rfl]
  have key : ∀ q, 0 ≤ q → GoodK L mid (k + 1) (c.plus (tailB ((textOf s).drop q) c.text) (k + 1) (q + 8)) := fun q _ =>
    h3.plus (by omega) h2 (by omega) (fun i x hx => by rw [hg]; exact part_get hx) hm0
  unfold putRow at h
  split at h
  · cases h
  · rename_i p col hp
    injection h with h
    subst h
    unfold rpart at hp
    cases b
    · have hne := hb2 rfl
      rw [if_neg (by decide)] at hp
      split at hp
      · cases hp
      · have hne2 : ∀ q n col, (c.plus q n col).text ≠ [] := fun q n col => by unfold Kard.plus; simp [hne]
        split at hp
        · injection hp with hp; injection hp with hp hc
          subst hp; subst hc
          exact ⟨mid, h1, by omega, fun x hx => by injection hx with hx; subst hx; exact ⟨key _ (Nat.zero_le _), hne2 _ _ _⟩⟩
        · injection hp with hp; injection hp with hp hc
          subst hp; subst hc
          exact ⟨mid, h1, by omega, fun x hx => by injection hx with hx; subst hx; exact ⟨key _ (Nat.zero_le _), hne2 _ _ _⟩⟩
    · rw [if_pos rfl] at hp
      injection hp with hp; injection hp with hp hc
      subst hp; subst hc
      refine ⟨mid, h1, by omega, fun x hx => ?_⟩
      injection hx with hx
      subst hx
      refine ⟨key _ (Nat.zero_le _), ?_⟩
      obtain ⟨x, r, e1, e2⟩ := drop_headL (textOf s) (by rw [textOf_length]; exact hf)
      have := tail_neL _ c.text x r e1 e2
      unfold Kard.plus
      simp [this]
theorem good_line {L : List (List UInt8)} {k : Nat} {r r' : ReadAt} {s : List UInt8} {debug : Bool} (hs : L[k]? = some s) (h : GoodR L k r) (he : readLine debug r s (k + 1) = .inr r') : GoodR L (k + 1) r' := by
  have hsay := lineIs_says s (k + 1) debug
  unfold readLine at he
  have ht : ∀ m t, lineIs s (k + 1) debug = .row m t → t = textOf s := by
    intro m t hl
    unfold lineIs at hl
    repeat' split at hl
    all_goals first | (injection hl with _ hl; exact hl.symm) | (injection hl)
  split at he
  · cases he
  · injection he with he; subst he; exact h.more (by omega)
  · rename_i m t hl
    have htt := ht m t hl
    subst htt
    rw [hl] at hsay
    obtain ⟨_, _, hf, _⟩ := hsay
    obtain ⟨mid, h1, h2, h3⟩ := h.ex
    unfold readRow at he
    split at he
    · split at he
      · exact good_put hs hf h1 h2 (GoodK.empty L mid k _) (fun _ => rfl) (fun h => by cases h) he
      · rename_i c hc
        split at he
        · cases he
        · obtain ⟨g1, g2⟩ := h3 c hc
          exact good_put hs hf (h1.snoc h2 g1 g2) (Nat.le_refl _) (GoodK.empty L k k _) (fun _ => rfl) (fun h => by cases h) he
    · split at he
      · cases he
      · rename_i c hc
        obtain ⟨g1, g2⟩ := h3 c hc
        exact good_put hs hf h1 h2 g1 (fun h => by cases h) (fun _ => g2) he
theorem good_all {L : List (List UInt8)} {k : Nat} {r : ReadAt} (h : GoodR L k r) : GoodL L 0 r.all k := by
  obtain ⟨mid, h1, h2, h3⟩ := h.ex
  unfold ReadAt.all
  cases hc : r.cur with
  | none => simpa using h1.more h2
  | some c => exact h1.snoc h2 (h3 c hc).1 (h3 c hc).2
theorem good_from (L : List (List UInt8)) (debug : Bool) : ∀ (n k : Nat) (r : ReadAt) (ks : List Kard), L.length = k + n → GoodR L k r → readFrom debug r k (L.drop k) = .inr ks → GoodL L 0 ks L.length
  | 0, k, r, ks, hn, h, he => by
    rw [List.drop_eq_nil_of_le (by omega)] at he
    have : ks = r.all := by
      unfold readFrom at he
      split at he
      · split at he
        · cases he
        · injection he with he; exact he.symm
      · injection he with he; exact he.symm
    subst this
    exact (good_all h).more (by omega)
  | n + 1, k, r, ks, hn, h, he => by
    have hk : k < L.length := by omega
    have hs : L[k]? = some L[k] := List.getElem?_eq_getElem hk
    rw [readFrom_step debug r L k _ hs] at he
    split at he
    · cases he
    · rename_i r' hr
      exact good_from L debug n (k + 1) r' ks (by omega) (good_line hs h hr) he
theorem good_start (L : List (List UInt8)) : GoodR L 0 ⟨[], none, (0, 0)⟩ := ⟨0, Nat.le_refl _, Nat.le_refl _, fun c hc => by cases hc⟩

/-! ### The place of a byte -/
theorem asc_far {L : List (List UInt8)} {lo hi : Nat} {c : Kard} (h : GoodK L lo hi c) : ∀ d j m m', c.marks[j]? = some m → c.marks[j + 1 + d]? = some m' → m.1 < m'.1 ∧ m.2.1 < m'.2.1
  | 0, j, m, m', hm, hm' => (h.at_ j m hm).2.2.2.2.2.1 m' hm'
  | d + 1, j, m, m', hm, hm' => by
    have hl : j + 1 + (d + 1) < c.marks.length := by
      rcases Nat.lt_or_ge (j + 1 + (d + 1)) c.marks.length with h' | h'
      · exact h'
      · rw [List.getElem?_eq_none h'] at hm'; cases hm'
    have hx : c.marks[j + 1 + d]? = some c.marks[j + 1 + d] := List.getElem?_eq_getElem (by omega)
    have h1 := asc_far h d j m _ hm hx
    have h2 := (h.at_ _ _ hx).2.2.2.2.2.1 m' hm'
    omega
/-- Byte k of a card belongs to mark j. -/
def InPart (c : Kard) (k j : Nat) (m : Nat × Nat × Nat) : Prop := c.marks[j]? = some m ∧ m.1 ≤ k ∧ ∀ m', c.marks[j + 1]? = some m' → k < m'.1
theorem InPart.next {L : List (List UInt8)} {lo hi : Nat} {c : Kard} (h : GoodK L lo hi c) {k j j' : Nat} {m m' : Nat × Nat × Nat} (h1 : InPart c k j m) (h2 : InPart c (k + 1) j' m') : m' = m ∨ (m.2.1 < m'.2.1 ∧ m'.1 = k + 1) := by
  obtain ⟨a1, a2, a3⟩ := h1
  obtain ⟨b1, b2, b3⟩ := h2
  rcases Nat.lt_trichotomy j j' with hj | hj | hj
  · right
    have hd := asc_far h (j' - (j + 1)) j m m' a1 (by rw [show j + 1 + (j' - (j + 1)) = j' from by omega]; exact b1)
    have hl : j' < c.marks.length := by
      rcases Nat.lt_or_ge j' c.marks.length with h' | h'
      · exact h'
      · rw [List.getElem?_eq_none h'] at b1; cases b1
    have hx : c.marks[j + 1]? = some c.marks[j + 1] := List.getElem?_eq_getElem (by omega)
    have h3 := a3 _ hx
    refine ⟨hd.2, ?_⟩
    rcases Nat.lt_or_ge (j + 1) j' with hj2 | hj2
    · have := asc_far h (j' - (j + 2)) (j + 1) _ m' hx (by rw [show j + 1 + 1 + (j' - (j + 2)) = j' from by omega]; exact b1)
      omega
    · obtain rfl : j' = j + 1 := by omega
      rw [b1] at hx; injection hx with hx; rw [← hx] at h3
      omega
  · subst hj
    left
    rw [a1] at b1; injection b1 with b1; exact b1.symm
  · exfalso
    have hl : j < c.marks.length := by
      rcases Nat.lt_or_ge j c.marks.length with h' | h'
      · exact h'
      · rw [List.getElem?_eq_none h'] at a1; cases a1
    have hx : c.marks[j' + 1]? = some c.marks[j' + 1] := List.getElem?_eq_getElem (by omega)
    have h3 := b3 _ hx
    rcases Nat.lt_or_ge (j' + 1) j with hj2 | hj2
    · have := asc_far h (j - (j' + 2)) (j' + 1) _ m hx (by rw [show j' + 1 + 1 + (j - (j' + 2)) = j from by omega]; exact a1)
      omega
    · obtain rfl : j = j' + 1 := by omega
      rw [a1] at hx; injection hx with hx; rw [← hx] at h3
      omega
theorem textOf_getD (s : List UInt8) (q : Nat) (h : q < 65) : (textOf s).getD q 32 = s.getD (q + 7) 32 := by
  have hl := areasB_length s
  rw [textOf_areas]
  rcases Nat.lt_or_ge q (areasB s).length with h1 | h1
  · have e1 : (areasB s)[q]? = s[q + 7]? := by
      unfold areasB
      rw [List.getElem?_drop, List.getElem?_take, if_pos (by omega), Nat.add_comm]
    simp [List.getD, List.getElem?_append_left h1, e1]
  · have e2 : s[q + 7]? = none := List.getElem?_eq_none (by omega)
    simp [List.getD, List.getElem?_append_right h1, List.getElem?_replicate, e2, show q - (areasB s).length < 65 - (areasB s).length from by omega]
end Go.Proofs.YtpalfhfbgfnacaaGreatDoor
