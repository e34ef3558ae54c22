/-
  Plain lists: when the text of a number is one, read byte by byte. No program is named here.
-/
import Derived.Test.YtahmcjgehhfknaaDoorWd5
namespace Go.Proofs.YtahmcjgehhfknaaDoor
open Go.RowKit
set_option linter.unusedVariables false
set_option linter.unusedSimpArgs false

theorem indexByte_no (c : UInt8) : ∀ l : List UInt8, c ∉ l → Lib.indexByte l c = -1
  | [], _ => rfl
  | b :: l, h => by
    have h1 : (b == c) = false := by simpa using fun e => h (by simp [e])
    have h2 := indexByte_no c l (fun e => h (List.mem_cons_of_mem _ e))
    simp [Lib.indexByte, h1, h2]
theorem indexByte_at (c : UInt8) (b : List UInt8) : ∀ a : List UInt8, c ∉ a → Lib.indexByte (a ++ c :: b) c = a.length
  | [], _ => by simp [Lib.indexByte]
  | x :: a, h => by
    have h1 : (x == c) = false := by simpa using fun e => h (by simp [e])
    have h2 := indexByte_at c b a (fun e => h (List.mem_cons_of_mem _ e))
    have h3 : ((a.length : Int) == -1) = false := by simp
    show (if (x == c) = true then (0 : Int) else if (Lib.indexByte (a ++ c :: b) c == -1) = true then -1 else Lib.indexByte (a ++ c :: b) c + 1) = _
    rw [h1, h2, h3]
    simp
theorem index1 : ∀ (s : List UInt8) (c : UInt8), Lib.index s [c] = Lib.indexByte s c
  | [], c => rfl
  | b :: l, c => by
    unfold Lib.index Lib.indexByte
    rw [index1 l c]
    have : ([c].isPrefixOf (b :: l) = true) = ((b == c) = true) := by
      apply propext
      simp only [List.isPrefixOf, Bool.and_true, beq_iff_eq]
      exact ⟨Eq.symm, Eq.symm⟩
    by_cases h : (b == c) = true
    · rw [if_pos h, if_pos (by rw [this]; exact h)]
    · rw [if_neg h, if_neg (by rw [this]; exact h)]
theorem cut_no (c : UInt8) (l : List UInt8) (h : c ∉ l) : Lib.cut l [c] = (l, [], false) := by
  unfold Lib.cut
  rw [index1, indexByte_no c l h]
  rfl
theorem cut_at (c : UInt8) (a b : List UInt8) (h : c ∉ a) : Lib.cut (a ++ c :: b) [c] = (a, b, true) := by
  unfold Lib.cut
  rw [index1, indexByte_at c b a h, if_pos (by omega)]
  simp
theorem split_at (c : UInt8) : ∀ l : List UInt8, c ∉ l ∨ ∃ a b, l = a ++ c :: b ∧ c ∉ a
  | [] => .inl (by simp)
  | x :: l => by
    by_cases hx : x = c
    · subst hx; exact .inr ⟨[], l, rfl, by simp⟩
    · rcases split_at c l with h | ⟨a, b, rfl, h⟩
      · exact .inl (by simp; exact ⟨fun e => hx e.symm, h⟩)
      · exact .inr ⟨x :: a, b, rfl, by simp; exact ⟨fun e => hx e.symm, h⟩⟩
/-- What has been read: digits, periods, the last byte, whether all is right. -/
def numR (r : List UInt8) : Nat := r.countP digB
def perR (r : List UInt8) : Nat := r.countP (fun c => decide (c.toNat = 46))
def lastR (r : List UInt8) : UInt8 := r.getLast?.getD 0
def okR (c : UInt8) : Bool := digB c || decide (c.toNat = 46)
def rightR (r : List UInt8) : Bool := r.all okR
theorem numR_snoc (r : List UInt8) (c : UInt8) : numR (r ++ [c]) = numR r + (if digB c = true then 1 else 0) := by simp [numR, List.countP_append, List.countP_cons]
theorem perR_snoc (r : List UInt8) (c : UInt8) : perR (r ++ [c]) = perR r + (if decide (c.toNat = 46) = true then 1 else 0) := by simp [perR, List.countP_append, List.countP_cons]
theorem lastR_snoc (r : List UInt8) (c : UInt8) : lastR (r ++ [c]) = c := by simp [lastR]
theorem rightR_snoc (r : List UInt8) (c : UInt8) : rightR (r ++ [c]) = (rightR r && okR c) := by simp [rightR]
theorem n46 {c : UInt8} (h : c.toNat = 46) : c = 46 := u8_eq h
theorem dig46 {c : UInt8} (h : digB c = true) : c.toNat ≠ 46 := by
  simp [digB] at h; omega
theorem ok_no {l : List UInt8} (h : (46 : UInt8) ∉ l) : rightR l = l.all digB := by
  induction l with
  | nil => rfl
  | cons x l ih =>
    have hx : decide (x.toNat = 46) = false := by simpa using fun e => h (by rw [n46 e]; simp)
    simp [rightR, okR, hx] at ih ⊢
    rw [ih (fun e => h (List.mem_cons_of_mem _ e))]
theorem count_all {l : List UInt8} (h : l.all digB = true) : numR l = l.length ∧ perR l = 0 := by
  induction l with
  | nil => exact ⟨rfl, rfl⟩
  | cons x l ih =>
    simp only [List.all_cons, Bool.and_eq_true] at h
    obtain ⟨h1, h2⟩ := ih h.2
    have h3 : decide (x.toNat = 46) = false := by simpa using dig46 h.1
    constructor
    · simp only [numR, List.countP_cons, h.1, if_true, List.length_cons] at h1 ⊢; omega
    · simp only [perR, List.countP_cons, h3] at h2 ⊢; simpa using h2
theorem per_no {l : List UInt8} (h : (46 : UInt8) ∉ l) : perR l = 0 := by
  unfold perR
  rw [List.countP_eq_zero]
  intro x hx e
  exact h (by rw [← n46 (by simpa using e)]; exact hx)
theorem last_mem {l : List UInt8} (h : l ≠ []) : lastR l ∈ l := by
  unfold lastR
  rw [List.getLast?_eq_some_getLast h]
  exact List.getLast_mem h
theorem last_app (a : List UInt8) {b : List UInt8} (h : b ≠ []) : lastR (a ++ b) = lastR b := by
  unfold lastR
  rw [List.getLast?_append, List.getLast?_eq_some_getLast h]
  rfl
def badR (r : List UInt8) : Bool := ((Lib.cut r [46]).2.2 && (Lib.cut r [46]).2.1.isEmpty) || !isDigitsB ((Lib.cut r [46]).1 ++ (Lib.cut r [46]).2.1)
def digR (r : List UInt8) : List UInt8 := (Lib.cut r [46]).1 ++ (Lib.cut r [46]).2.1
theorem all_of_right {l : List UInt8} (h : rightR l = true) (hp : perR l = 0) : l.all digB = true := by
  rw [List.all_eq_true]
  intro x hx
  have h1 := List.all_eq_true.1 h x hx
  have h2 : ¬ x.toNat = 46 := by
    unfold perR at hp
    rw [List.countP_eq_zero] at hp
    simpa using hp x hx
  simpa [okR, h2] using h1
/-- A text is no number, byte by byte. -/
theorem bad_scan (r : List UInt8) : (badR r = true ∧ (rightR r = false ∨ numR r = 0 ∨ 1 < perR r ∨ (lastR r).toNat = 46)) ∨
    (badR r = false ∧ rightR r = true ∧ numR r ≠ 0 ∧ perR r ≤ 1 ∧ (lastR r).toNat ≠ 46 ∧ (digR r).length = numR r) := by
  rcases split_at 46 r with h | ⟨a, b, rfl, h⟩
  · have hc := cut_no 46 r h
    unfold badR digR
    rw [hc]
    simp only [Bool.false_and, Bool.false_or, List.append_nil]
    have hl : r ≠ [] → (lastR r).toNat ≠ 46 := fun hne e => h (by rw [← n46 e]; exact last_mem hne)
    cases ha : r.all digB
    · left
      refine ⟨by simp [isDigitsB, ha], .inl (by rw [ok_no h, ha])⟩
    · obtain ⟨h1, h2⟩ := count_all ha
      cases hr : r with
      | nil => left; exact ⟨rfl, .inr (.inl rfl)⟩
      | cons x l =>
        right
        rw [← hr]
        refine ⟨by simp only [isDigitsB, ha, Bool.and_true]; simp [hr], by rw [ok_no h, ha], by rw [h1, hr]; simp, by omega, hl (by rw [hr]; simp), h1.symm⟩
  · have hc := cut_at 46 a b h
    unfold badR digR
    rw [hc]
    simp only [Bool.true_and]
    have hn : numR (a ++ 46 :: b) = numR a + numR b := by
      unfold numR; rw [List.countP_append, List.countP_cons]; simp [show digB 46 = false from rfl]
    have hp : perR (a ++ 46 :: b) = 1 + perR b := by
      unfold perR; rw [List.countP_append, List.countP_cons]
      have := per_no h; unfold perR at this; rw [this]
      simp; omega
    have hr : rightR (a ++ 46 :: b) = (a.all digB && rightR b) := by
      rw [← ok_no h]; simp [rightR, okR]
    cases hb : b with
    | nil =>
      left
      refine ⟨by simp, .inr (.inr (.inr ?_))⟩
      rw [last_app a (by simp)]; rfl
    | cons x l =>
      have hbn : b ≠ [] := by rw [hb]; simp
      have hlast : lastR (a ++ 46 :: b) = lastR b := by
        rw [show a ++ 46 :: b = (a ++ [46]) ++ b from by simp]; exact last_app _ hbn
      rw [← hb]
      have he : b.isEmpty = false := by rw [hb]; rfl
      have hab : (a ++ b).isEmpty = false := by rw [hb]; cases a <;> rfl
      rw [he, hn, hp, hr, hlast]
      simp only [Bool.false_or]
      cases haa : a.all digB
      · left; refine ⟨by simp [isDigitsB, List.all_append, haa], .inl (by simp)⟩
      · cases hbb : b.all digB
        · left
          refine ⟨by simp [isDigitsB, List.all_append, haa, hbb], ?_⟩
          cases hrb : rightR b
          · exact .inl (by simp)
          · refine .inr (.inr (.inl ?_))
            rcases Nat.eq_zero_or_pos (perR b) with h0 | h0
            · rw [all_of_right hrb h0] at hbb; cases hbb
            · omega
        · right
          obtain ⟨n1, _⟩ := count_all haa
          obtain ⟨n2, p2⟩ := count_all hbb
          have hrb : rightR b = true := by
            unfold rightR; rw [List.all_eq_true] at hbb ⊢
            intro y hy; simp [okR, hbb y hy]
          refine ⟨by simp only [isDigitsB, List.all_append, haa, hbb, hab]; rfl, by simp [hrb], ?_, by omega, ?_, by rw [n1, n2]; simp⟩
          · rw [n2, hb]; simp
          · exact dig46 (List.all_eq_true.1 hbb _ (last_mem hbn))
theorem badB_rest (l : List UInt8) : badB l = badR (restB l) := rfl

end Go.Proofs.YtahmcjgehhfknaaDoor
