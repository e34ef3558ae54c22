/-
  The walk of the law CharsNames.
-/
import Derived.Test.YtmcehldfeppkbaaLives
namespace Go.Proofs.Ytmcehldfeppkbaa
open Go.RowKit
set_option linter.unusedVariables false
set_option linter.unusedSimpArgs false

/-- How many of the first k bytes are such. -/
def cnt (p : UInt8 → Bool) (l : List UInt8) : Nat → Nat
  | 0 => 0
  | k + 1 => cnt p l k + if p (l.getD k 0) = true then 1 else 0
/-- Whether all of the first k bytes are such, each at its place. -/
def allTo (p : Nat → UInt8 → Bool) (l : List UInt8) : Nat → Bool
  | 0 => true
  | k + 1 => allTo p l k && p k (l.getD k 0)
theorem cnt_succ {p : UInt8 → Bool} {l : List UInt8} {k : Nat} {c : UInt8} (h : l[k]? = some c) : cnt p l (k + 1) = cnt p l k + if p c = true then 1 else 0 := by
  simp [cnt, List.getD, h]
theorem allTo_succ {p : Nat → UInt8 → Bool} {l : List UInt8} {k : Nat} {c : UInt8} (h : l[k]? = some c) : allTo p l (k + 1) = (allTo p l k && p k c) := by
  simp [allTo, List.getD, h]
theorem cnt_le (p : UInt8 → Bool) (l : List UInt8) : ∀ k, cnt p l k ≤ k
  | 0 => Nat.le_refl _
  | k + 1 => by have := cnt_le p l k; simp only [cnt]; split <;> omega
theorem cnt_full (p : UInt8 → Bool) (l : List UInt8) : ∀ k, cnt p l k = k ↔ ∀ i, i < k → p (l.getD i 0) = true
  | 0 => by simp [cnt]
  | k + 1 => by
    have h := cnt_full p l k
    have hle := cnt_le p l k
    simp only [cnt]
    constructor
    · intro e i hi
      by_cases hp : p (l.getD k 0) = true
      · rw [if_pos hp] at e
        rcases Nat.lt_or_ge i k with hik | hik
        · exact h.1 (by omega) i hik
        · obtain rfl : i = k := by omega
          exact hp
      · rw [if_neg hp] at e; omega
    · intro e
      rw [if_pos (e k (by omega)), h.2 (fun i hi => e i (by omega))]
theorem cnt_pos (p : UInt8 → Bool) (l : List UInt8) : ∀ k, 0 < cnt p l k ↔ ∃ i, i < k ∧ p (l.getD i 0) = true
  | 0 => by simp [cnt]
  | k + 1 => by
    have h := cnt_pos p l k
    simp only [cnt]
    constructor
    · intro e
      by_cases hp : p (l.getD k 0) = true
      · exact ⟨k, by omega, hp⟩
      · rw [if_neg hp] at e
        obtain ⟨i, hi, hp⟩ := h.1 (by omega)
        exact ⟨i, by omega, hp⟩
    · rintro ⟨i, hi, hp⟩
      rcases Nat.lt_or_ge i k with hik | hik
      · have := h.2 ⟨i, hik, hp⟩; omega
      · obtain rfl : i = k := by omega
        rw [if_pos hp]; omega
theorem allTo_iff (p : Nat → UInt8 → Bool) (l : List UInt8) : ∀ k, allTo p l k = true ↔ ∀ i, i < k → p i (l.getD i 0) = true
  | 0 => by simp [allTo]
  | k + 1 => by
    have h := allTo_iff p l k
    simp only [allTo, Bool.and_eq_true]
    constructor
    · rintro ⟨e1, e2⟩ i hi
      rcases Nat.lt_or_ge i k with hik | hik
      · exact h.1 e1 i hik
      · obtain rfl : i = k := by omega
        exact e2
    · intro e
      exact ⟨h.2 fun i hi => e i (by omega), e k (by omega)⟩
theorem all_iff (p : UInt8 → Bool) (l : List UInt8) : l.all p = true ↔ ∀ i, i < l.length → p (l.getD i 0) = true := by
  rw [List.all_eq_true]
  constructor
  · intro h i hi
    have : l.getD i 0 = l[i] := by simp [List.getD, hi]
    rw [this]; exact h _ (List.getElem_mem hi)
  · intro h c hc
    obtain ⟨i, hi, rfl⟩ := List.mem_iff_getElem.1 hc
    have := h i hi
    simpa [List.getD, hi] using this
theorem any_iff (p : UInt8 → Bool) (l : List UInt8) : l.any p = true ↔ ∃ i, i < l.length ∧ p (l.getD i 0) = true := by
  rw [List.any_eq_true]
  constructor
  · rintro ⟨c, hc, hp⟩
    obtain ⟨i, hi, rfl⟩ := List.mem_iff_getElem.1 hc
    exact ⟨i, hi, by simpa [List.getD, hi] using hp⟩
  · rintro ⟨i, hi, hp⟩
    exact ⟨l[i], List.getElem_mem hi, by simpa [List.getD, hi] using hp⟩

/-- What the law asks of the byte at a place of a name of n bytes. -/
def okAt (n i : Nat) (c : UInt8) : Bool := digB c || capB c || (decide (c.toNat = 45) && decide (0 < i) && decide (i + 1 < n))

theorem digits_law (l : List UInt8) : isDigitsB l = (decide (0 < cnt digB l l.length) && decide (cnt digB l l.length = l.length)) := by
  rw [Bool.eq_iff_iff]
  simp only [isDigitsB, Bool.and_eq_true, Bool.not_eq_true', decide_eq_true_eq, all_iff, cnt_full]
  constructor
  · rintro ⟨h0, h⟩
    refine ⟨?_, h⟩
    have hl : 0 < l.length := List.length_pos_iff.2 (by intro e; subst e; simp at h0)
    exact (cnt_pos _ _ _).2 ⟨0, hl, h 0 hl⟩
  · rintro ⟨h0, h⟩
    refine ⟨?_, h⟩
    rcases l with _ | ⟨c, l⟩
    · simp [cnt] at h0
    · rfl
theorem print_law (l : List UInt8) : printB l = allTo (fun _ c => prtB c) l l.length := by
  rw [Bool.eq_iff_iff]
  simp only [printB, all_iff, allTo_iff]
theorem name_law (l : List UInt8) : isNameB l = (allTo (okAt l.length) l l.length && decide (0 < cnt capB l l.length) && decide (l.length ≤ 30)) := by
  rw [Bool.eq_iff_iff]
  simp only [isNameB, Bool.and_eq_true, Bool.not_eq_true', decide_eq_true_eq, decide_eq_false_iff_not, all_iff, any_iff, allTo_iff, cnt_pos]
  constructor
  · rintro ⟨⟨⟨⟨⟨h0, h1⟩, h2⟩, h3⟩, h4⟩, h5⟩
    refine ⟨⟨fun i hi => ?_, h5⟩, h1⟩
    have hn := h4 i hi
    have k0 : (l.getD i 0).toNat = 45 → 0 < i := by
      intro e45
      rcases Nat.eq_zero_or_pos i with e | e
      · subst e; exact absurd e45 h2
      · exact e
    have k1 : (l.getD i 0).toNat = 45 → i + 1 < l.length := by
      intro e45
      rcases Nat.lt_or_ge (i + 1) l.length with e | e
      · exact e
      · have e2 : i = l.length - 1 := by omega
        rw [e2] at e45; exact absurd e45 h3
    generalize l.getD i 0 = c at hn k0 k1 ⊢
    unfold nameB at hn
    unfold okAt
    cases hc : capB c
    · cases hd : digB c
      · simp only [hc, hd, Bool.false_or, decide_eq_true_eq] at hn
        simp [hn, k0 hn, k1 hn]
      · rfl
    · simp
  · rintro ⟨⟨h, h5⟩, h1⟩
    have hl : 0 < l.length := by
      obtain ⟨j, hj, hjc⟩ := h5; omega
    have edge : ∀ i, i < l.length → (i = 0 ∨ i + 1 = l.length) → ¬ (l.getD i 0).toNat = 45 := by
      intro i hi he e
      have := h i hi
      generalize l.getD i 0 = c at this e
      unfold okAt at this
      have hd : digB c = false := by simp only [digB, e]; rfl
      have hc : capB c = false := by simp only [capB, e]; rfl
      simp [hd, hc] at this
      omega
    refine ⟨⟨⟨⟨⟨?_, h1⟩, edge 0 hl (.inl rfl)⟩, edge (l.length - 1) (by omega) (.inr (by omega))⟩, fun i hi => ?_⟩, h5⟩
    · rcases l with _ | ⟨c, l⟩
      · simp at hl
      · rfl
    · have := h i hi
      generalize l.getD i 0 = c at this ⊢
      unfold okAt at this
      unfold nameB
      cases hd : digB c
      · cases hc : capB c
        · simp [hd, hc] at this ⊢
          exact this.1.1
        · rfl
      · simp
end Go.Proofs.Ytmcehldfeppkbaa
