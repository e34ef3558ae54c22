/-
  Plain lemmas on the parts of a list of tokens.
-/
import Derived.Test.YtinoenkmgkiklaaGreatDoorSpl
namespace Go.Proofs.YtinoenkmgkiklaaGreatDoor
open Go.RowKit
set_option linter.unusedVariables false
set_option linter.unusedSimpArgs false

/-- What the first part says of the list. -/
def Front (M p : List Tok) (rest : List (List Tok)) : Prop :=
  (∀ t ∈ p, t.kind ≠ 6) ∧ ((∃ t M', M = p ++ t :: M' ∧ t.kind = 6 ∧ rest = splitF [] M') ∨ (M = p ∧ p ≠ [] ∧ rest = []))
theorem splitF_front : ∀ (M cur p : List Tok) (rest : List (List Tok)), splitF cur M = p :: rest → ∃ q, p = cur ++ q ∧ (∀ t ∈ q, t.kind ≠ 6) ∧ ((∃ t M', M = q ++ t :: M' ∧ t.kind = 6 ∧ rest = splitF [] M') ∨ (M = q ∧ p ≠ [] ∧ rest = []))
  | [], cur, p, rest, h => by
    unfold splitF at h
    split at h
    · cases h
    · rename_i hc
      injection h with h1 h2
      exact ⟨[], by simp [h1], by simp, .inr ⟨rfl, by rw [← h1]; exact hc, h2.symm⟩⟩
  | t :: M, cur, p, rest, h => by
    unfold splitF at h
    split at h
    · rename_i h6
      injection h with h1 h2
      exact ⟨[], by simp [h1], by simp, .inl ⟨t, M, rfl, h6, h2.symm⟩⟩
    · rename_i h6
      obtain ⟨q, hq, hno, hr⟩ := splitF_front M (cur ++ [t]) p rest h
      refine ⟨t :: q, by rw [hq]; simp, ?_, ?_⟩
      · intro u hu
        rcases List.mem_cons.1 hu with rfl | hu
        · exact h6
        · exact hno u hu
      · rcases hr with ⟨u, M', e, hu, hr⟩ | ⟨e, hp, hr⟩
        · exact .inl ⟨u, M', by rw [e]; rfl, hu, hr⟩
        · exact .inr ⟨by rw [e], hp, hr⟩
theorem front_of {M p : List Tok} {rest : List (List Tok)} (h : splitF [] M = p :: rest) : Front M p rest := by
  obtain ⟨q, hq, h1, h2⟩ := splitF_front M [] p rest h
  simp at hq
  subst hq
  exact ⟨h1, h2⟩
theorem splitF_nil {M : List Tok} (h : splitF [] M = []) : M = [] := by
  have : ∀ (M cur : List Tok), splitF cur M = [] → cur = [] ∧ M = [] := by
    intro M
    induction M with
    | nil => intro cur h; unfold splitF at h; split at h <;> simp_all
    | cons t M ih =>
      intro cur h
      unfold splitF at h
      split at h
      · cases h
      · have := (ih _ h).1
        simp at this
  exact (this M [] h).2
/-- What the law knows in front of part i: k tokens are behind. -/
def FrontAt (L : List Tok) (P : List (List Tok)) (i k : Nat) : Prop := k ≤ L.length ∧ P.drop i = splitF [] (L.drop k)
theorem FrontAt.at_ {L : List Tok} {P : List (List Tok)} {i k : Nat} {p : List Tok} (h : FrontAt L P i k) (hp : P[i]? = some p) : Front (L.drop k) p (P.drop (i + 1)) := front_of (by rw [← h.2, drop_get hp])
theorem Front.get {L : List Tok} {k : Nat} {p : List Tok} {rest : List (List Tok)} (h : Front (L.drop k) p rest) (j : Nat) (t : Tok) (ht : p[j]? = some t) : L[k + j]? = some t ∧ t.kind ≠ 6 := by
  refine ⟨?_, h.1 t (List.mem_of_getElem? ht)⟩
  have hj := lt_of_get ht
  rw [← List.getElem?_drop]
  rcases h.2 with ⟨u, M', e, _⟩ | ⟨e, _⟩
  · rw [e, List.getElem?_append_left hj]; exact ht
  · rw [e]; exact ht
theorem FrontAt.next {L : List Tok} {P : List (List Tok)} {i k : Nat} {p : List Tok} (h : FrontAt L P i k) (hp : P[i]? = some p) :
    (∃ t, L[k + p.length]? = some t ∧ t.kind = 6 ∧ FrontAt L P (i + 1) (k + p.length + 1)) ∨ (L.length = k + p.length ∧ 0 < p.length ∧ i + 1 = P.length ∧ FrontAt L P (i + 1) (k + p.length)) := by
  have hf := h.at_ hp
  have hi := lt_of_get hp
  have hlen : (L.drop k).length = L.length - k := List.length_drop
  rcases hf.2 with ⟨t, M', e, h6, hr⟩ | ⟨e, hne, hr⟩
  · left
    have hk : L[k + p.length]? = some t := by
      rw [← List.getElem?_drop, e, List.getElem?_append_right (Nat.le_refl _), Nat.sub_self]; rfl
    have := lt_of_get hk
    refine ⟨t, hk, h6, by omega, ?_⟩
    rw [hr]
    congr 1
    have : (L.drop k).drop (p.length + 1) = M' := by rw [e, List.drop_append]; simp
    rw [← this, List.drop_drop, Nat.add_assoc]
  · right
    have hl : L.length = k + p.length := by
      have h1 := h.1
      rw [e] at hlen
      omega
    have hd := congrArg List.length hr
    rw [List.length_drop] at hd
    have e0 : ([] : List (List Tok)).length = 0 := rfl
    refine ⟨hl, List.length_pos_iff.2 hne, by omega, by omega, ?_⟩
    rw [hr, List.drop_of_length_le (by omega)]
    rfl
theorem FrontAt.end_ {L : List Tok} {P : List (List Tok)} {k : Nat} (h : FrontAt L P P.length k) : k = L.length := by
  have h2 := h.2
  rw [List.drop_length] at h2
  have h3 := congrArg List.length (splitF_nil h2.symm)
  have h1 := h.1
  rw [List.length_drop] at h3
  have e0 : ([] : List Tok).length = 0 := rfl
  omega
/-- What is known of same in front of token i. -/
def SameAt (L M : List Tok) (i : Nat) (b : Bool) : Prop := (L.length ≠ M.length → b = false) ∧ (L.length = M.length → sameT L M = (b && sameT (L.drop i) (M.drop i)))
theorem same_start (L M : List Tok) : SameAt L M 0 (decide (L.length = M.length)) := ⟨fun h => by simpa using h, fun h => by rw [decide_eq_true h]; rfl⟩
theorem SameAt.step {L M : List Tok} {i : Nat} {a c : Tok} (h : SameAt L M i true) (ha : L[i]? = some a) (hc : M[i]? = some c) : SameAt L M (i + 1) (decide (a.kind = c.kind) && decide (a.text = c.text)) := by
  refine ⟨fun hn => absurd (h.1 hn) (by simp), fun he => ?_⟩
  rw [h.2 he, sameT_drop L M i a c ha hc]
  rfl
theorem SameAt.len {L M : List Tok} {i : Nat} (h : SameAt L M i true) : L.length = M.length := by
  rcases Nat.decEq L.length M.length with hn | he
  · exact absurd (h.1 hn) (by simp)
  · exact he
theorem SameAt.done {L M : List Tok} {i : Nat} {b : Bool} (h : SameAt L M i b) (hi : b = false ∨ L.length ≤ i) : sameT L M = b := by
  rcases Nat.decEq L.length M.length with hn | he
  · rw [h.1 hn]; exact sameT_len L M hn
  · rw [h.2 he]
    rcases hi with rfl | hi
    · rfl
    · rw [List.drop_of_length_le hi, List.drop_of_length_le (by omega)]
      simp [sameT]
end Go.Proofs.YtinoenkmgkiklaaGreatDoor
