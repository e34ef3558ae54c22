/-
  Plain words on the lines of a source text as package columns looks at them, and that they say what the reference's words say. No program is named here.
-/
import Derived.Test.YtbckdieajfbepaaDoorReadS
import Derived.Lib.TrimByte
namespace Go.Proofs.YtbckdieajfbepaaDoor
open Go.RowKit
set_option linter.unusedVariables false
set_option linter.unusedSimpArgs false

/-- Columns 8 to 72 of a line, as far as it goes. -/
def areasB (s : List UInt8) : List UInt8 := (s.take 72).drop 7
theorem areasB_length (s : List UInt8) : (areasB s).length = min 72 s.length - 7 := by simp [areasB]
theorem textOf_areas (s : List UInt8) : textOf s = areasB s ++ List.replicate (65 - (areasB s).length) 32 := by
  have hl := areasB_length s
  have e : textOf s = ((s ++ List.replicate (72 - s.length) 32).take 72).drop 7 := rfl
  rw [e]
  apply List.ext_getElem
  · simp; omega
  · intro k h1 h2
    have h1' : k < 65 := by simp at h1; omega
    rw [List.getElem_drop, List.getElem_take]
    by_cases hk : k < (areasB s).length
    · rw [List.getElem_append_left (by omega), List.getElem_append_left hk]
      simp [areasB]
    · rw [List.getElem_append_right (by omega), List.getElem_append_right (by omega)]
      simp
theorem markOf_getD (s : List UInt8) : markOf s = s.getD 6 32 := by
  unfold markOf padTo
  rcases Nat.lt_or_ge 6 s.length with h | h
  · simp [List.getD, List.getElem?_append_left h, List.getElem?_eq_getElem h]
  · have h72 : 6 - s.length < 72 - s.length := by omega
    simp [List.getD, List.getElem?_append_right h, List.getElem?_eq_none h, List.getElem?_replicate, h72]

theorem fstN_append (a b : List UInt8) (h : fstN a < a.length) : fstN (a ++ b) = fstN a := by
  induction a with
  | nil => simp at h
  | cons c l ih =>
    simp only [List.cons_append, fstN, List.length_cons] at h ⊢
    split
    · next h32 => rw [if_pos h32] at h; rw [ih (by omega)]
    · rfl
theorem fstN_spaces (n : Nat) : fstN (List.replicate n 32) = n := by
  induction n with
  | zero => rfl
  | succ n ih => rw [List.replicate_succ]; simp only [fstN]; rw [if_pos (by rfl), ih]
theorem fstN_append_all (a b : List UInt8) (h : fstN a = a.length) : fstN (a ++ b) = a.length + fstN b := by
  induction a with
  | nil => simp
  | cons c l ih =>
    have hle := fstN_le l
    simp only [List.cons_append, fstN, List.length_cons] at h ⊢
    split
    · next h32 => rw [if_pos h32] at h; rw [ih (by omega)]; omega
    · next h32 => rw [if_neg h32] at h; omega
/-- A line has something in columns 8 to 72. -/
theorem fst_textOf (s : List UInt8) : (fstN (areasB s) < (areasB s).length → fstN (textOf s) = fstN (areasB s) ∧ fstN (textOf s) < 65) ∧ (fstN (areasB s) = (areasB s).length → ¬ fstN (textOf s) < 65) := by
  have hl := areasB_length s
  have ht := textOf_areas s
  constructor
  · intro h
    have : fstN (textOf s) = fstN (areasB s) := by rw [ht]; exact fstN_append _ _ h
    exact ⟨this, by omega⟩
  · intro h
    rw [ht, fstN_append_all _ _ h, fstN_spaces]
    omega
theorem fst_not (s : List UInt8) (h : fstN s < s.length) : (s.getD (fstN s) 0).toNat ≠ 32 := by
  induction s with
  | nil => simp at h
  | cons c l ih =>
    simp only [fstN, List.length_cons] at h ⊢
    split
    · next h32 => rw [if_pos h32] at h; have := ih (by omega); simpa [List.getD] using this
    · next h32 => simpa [List.getD] using h32

theorem lastI_append (p : UInt8 → Bool) (a b : List UInt8) : ∀ k, k ≤ a.length → lastI p (a ++ b) k = lastI p a k
  | 0, _ => rfl
  | k + 1, h => by
    simp only [lastI]
    rw [lastI_append p a b k (by omega)]
    have : (a ++ b).getD k 0 = a.getD k 0 := by simp [List.getD, List.getElem?_append_left (show k < a.length by omega)]
    rw [this]
theorem lastI_spaces (a : List UInt8) (n : Nat) : ∀ j, j ≤ n → lastI (fun c => !spcB c) (a ++ List.replicate n 32) (a.length + j) = lastI (fun c => !spcB c) (a ++ List.replicate n 32) a.length
  | 0, _ => rfl
  | j + 1, h => by
    rw [show a.length + (j + 1) = (a.length + j) + 1 from rfl]
    simp only [lastI]
    rw [lastI_spaces a n j (by omega)]
    have : (a ++ List.replicate n 32).getD (a.length + j) 0 = 32 := by
      simp [List.getD, List.getElem?_append_right, List.getElem?_replicate, show j < n by omega]
    rw [this]
    simp [spcB]
theorem trimN_spaces (a : List UInt8) (n : Nat) : trimN (a ++ List.replicate n 32) = trimN a := by
  unfold trimN
  rw [List.length_append, List.length_replicate, lastI_spaces a n n (Nat.le_refl _), lastI_append _ _ _ _ (Nat.le_refl _)]
theorem trimB_spaces (a : List UInt8) (n : Nat) : trimB (a ++ List.replicate n 32) = trimB a := by
  unfold trimB
  rw [trimN_spaces, List.take_append_of_le_length (trimN_le a)]
theorem qn_spaces (n : Nat) : qn (List.replicate n 32) = 0 := by
  unfold qn
  rw [List.countP_replicate]
  simp
theorem openB_spaces (a : List UInt8) (n : Nat) : openB (a ++ List.replicate n 32) = openB a := by
  unfold openB; rw [qn_append, qn_spaces]; rfl
theorem openB_xor (a b : List UInt8) : openB (a ++ b) = (openB a ^^ openB b) := by
  unfold openB
  rw [qn_append]
  rcases Nat.mod_two_eq_zero_or_one (qn a) with h1 | h1 <;> rcases Nat.mod_two_eq_zero_or_one (qn b) with h2 | h2 <;> simp [Nat.add_mod, h1, h2]

/-- Nothing but spaces stands behind what trimB keeps. -/
theorem lastI_le (p : UInt8 → Bool) (l : List UInt8) : ∀ n k, k < n → lastI p l n < k + 1 → k < n → lastI p l n < k → p (l.getD k 0) = false
  | 0, k, h, _, _, _ => by omega
  | n + 1, k, _, _, h, hl => by
    simp only [lastI] at hl
    split at hl
    · omega
    · next hp =>
      by_cases e : k = n
      · subst e; simpa using hp
      · exact lastI_le p l n k (by omega) (by omega) (by omega) hl
theorem trim_rest (l : List UInt8) : l = trimB l ++ List.replicate (l.length - trimN l) 32 := by
  apply List.ext_getElem
  · have := trimN_le l
    simp [trimB]; omega
  · intro k h1 h2
    have hn := trimN_le l
    by_cases hk : k < trimN l
    · rw [List.getElem_append_left (by simp [trimB]; omega)]
      simp [trimB]
    · rw [List.getElem_append_right (by simp [trimB]; omega)]
      simp only [List.getElem_replicate]
      have := lastI_le (fun c => !spcB c) l l.length k h1 (by unfold trimN at hk; omega) h1 (by unfold trimN at hk; omega)
      simp only [List.getD, List.getElem?_eq_getElem h1, Option.getD_some, spcB, Bool.not_eq_false', decide_eq_true_eq] at this
      exact u8_eq this
theorem openB_trim (a l : List UInt8) : openB (a ++ trimB l) = openB (a ++ l) := by
  have h := trim_rest l
  have h2 : a ++ l = (a ++ trimB l) ++ List.replicate (l.length - trimN l) 32 := by rw [List.append_assoc, ← h]
  rw [h2, openB_spaces]
theorem openB_tail (rest text : List UInt8) : openB (text ++ tailB rest text) = openB (text ++ rest) := by
  unfold tailB
  split
  · rfl
  · exact openB_trim _ _

/-- The rest of a line's columns from one on (k columns behind column 8), as the reference sees it. -/
theorem drop_textOf (s : List UInt8) (k : Nat) (h : k ≤ (areasB s).length) : (textOf s).drop k = (areasB s).drop k ++ List.replicate (65 - (areasB s).length) 32 := by
  rw [textOf_areas, List.drop_append_of_le_length h]
theorem tail_areas (s text : List UInt8) (k : Nat) (h : k ≤ (areasB s).length) :
    openB (text ++ (textOf s).drop k) = openB (text ++ (areasB s).drop k) ∧
    tailB ((textOf s).drop k) text = if openB (text ++ (areasB s).drop k) = true then (areasB s).drop k ++ List.replicate (65 - (areasB s).length) 32 else trimB ((areasB s).drop k) := by
  have e : openB (text ++ (textOf s).drop k) = openB (text ++ (areasB s).drop k) := by
    rw [drop_textOf s k h, ← List.append_assoc, openB_spaces]
  refine ⟨e, ?_⟩
  unfold tailB
  rw [e]
  split
  · exact drop_textOf s k h
  · rw [drop_textOf s k h, trimB_spaces]

/-- The library's words for what is cut off. -/
theorem trimRight_trimB (l : List UInt8) : Lib.trimRightB l 32 = trimB l := by
  have hr := trim_rest l
  have hn := trimN_le l
  have hlen : (trimB l).length = trimN l := trimB_length l
  refine Lib.trimRightB_take l 32 (trimN l) hn (fun j b hj hb => ?_) (fun b h0 hb => ?_)
  · rw [hr, List.getElem?_append_right (by omega), List.getElem?_replicate] at hb
    split at hb
    · injection hb with hb; exact hb.symm
    · cases hb
  · have h2 := lastI_lo (fun c => !spcB c) l l.length
    have hw : ∀ n, 0 ≤ lastI (fun c => !spcB c) l n → (fun c => !spcB c) (l.getD (lastI (fun c => !spcB c) l n).toNat 0) = true := by
      intro n
      induction n with
      | zero => intro h; simp [lastI] at h
      | succ n ih =>
        intro h
        simp only [lastI] at h ⊢
        split
        · next hp => simpa using hp
        · next hp => rw [if_neg hp] at h; exact ih h
    have h3 := hw l.length (by unfold trimN at h0; omega)
    have e : (lastI (fun c => !spcB c) l l.length).toNat = trimN l - 1 := by unfold trimN; omega
    rw [e] at h3
    simp only [List.getD, hb, Option.getD_some] at h3
    intro hb32
    subst hb32
    simp [spcB] at h3
theorem fstN_before (l : List UInt8) : ∀ (j : Nat) b, j < fstN l → l[j]? = some b → b = 32 := by
  induction l with
  | nil => intro j b h; simp [fstN] at h
  | cons c l ih =>
    intro j b h hb
    simp only [fstN] at h
    split at h
    · next h32 =>
      cases j with
      | zero => simp at hb; subst hb; exact u8_eq h32
      | succ j => exact ih j b (by omega) (by simpa using hb)
    · omega
theorem trimLeft_fstN (l : List UInt8) : Lib.trimLeftB l 32 = l.drop (fstN l) := by
  refine Lib.trimLeftB_drop l 32 (fstN l) (fstN_le l) (fstN_before l) (fun b hb => ?_)
  have hlt : fstN l < l.length := by
    rcases Nat.lt_or_ge (fstN l) l.length with h | h
    · exact h
    · rw [List.getElem?_eq_none h] at hb; cases hb
  have := fst_not l hlt
  simp only [List.getD, hb, Option.getD_some] at this
  intro e; subst e; exact this rfl
end Go.Proofs.YtbckdieajfbepaaDoor
