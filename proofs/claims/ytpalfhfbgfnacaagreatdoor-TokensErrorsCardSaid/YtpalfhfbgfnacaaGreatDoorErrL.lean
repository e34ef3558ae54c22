/-
  The closed examples of the law TokensErrors, on lists: words and numbers of all lengths, very many tokens; no walk here.
-/
import Derived.Test.YtpalfhfbgfnacaaGreatDoorGK
import Derived.Test.YtpalfhfbgfnacaaGreatDoorGL
namespace Go.Proofs.YtpalfhfbgfnacaaGreatDoor
open Go.RowKit
set_option linter.unusedVariables false
set_option linter.unusedSimpArgs false

def faultT (r : (Nat × Int × Int) ⊕ List Tok) : Nat × Int × Int := match r with | .inl f => f | .inr _ => (0, 0, 0)
theorem showV_fault (s : List UInt8) (F : Nat × Int × Int) (h : faultT (sourceB (sp11.data.toList ++ s) false) = F) : ∃ str, showV s = .tuple #[.string str, .agg #[.int .i64 F.1, .int .i64 F.2.1, .int .i64 F.2.2]] := by
  subst h
  unfold showV faultT
  cases sourceB (sp11.data.toList ++ s) false with
  | inl f => exact ⟨_, rfl⟩
  | inr acc => exact ⟨_, rfl⟩
theorem errWords : ∀ k, k < 40 → faultT (sourceB (sp11.data.toList ++ (88 :: 32 :: List.replicate (k + 1) 65)) false) = if 30 < k + 1 then (5, 1, 14) else (0, 0, 0) := by decide +kernel
theorem errNums : ∀ k, k < 30 → faultT (sourceB (sp11.data.toList ++ (88 :: 32 :: (List.replicate (k + 1) 55 ++ [46, 53]))) false) = if 17 < k + 1 then (5, 1, 14) else (0, 0, 0) := by decide +kernel

/-! ### Very many tokens -/
def abL : Nat → List UInt8
  | 0 => [65]
  | n + 1 => 65 :: 32 :: abL n
theorem abL_len : ∀ n, (abL n).length = 2 * n + 1
  | 0 => rfl
  | n + 1 => by simp only [abL, List.length_cons, abL_len n]; omega
theorem abL_drop : ∀ (k n : Nat), (abL (k + n)).drop (2 * k) = abL n
  | 0, n => by simp
  | k + 1, n => by
    rw [show k + 1 + n = (k + n) + 1 from by omega, show 2 * (k + 1) = 2 * k + 1 + 1 from by omega]
    simp only [abL, List.drop_succ_cons]
    exact abL_drop k n
theorem abL_take : ∀ n, (abL (n + 1)).take (2 * n + 1) = abL n
  | 0 => rfl
  | n + 1 => by
    have := abL_take n
    rw [show 2 * (n + 1) + 1 = 2 * n + 1 + 1 + 1 from by omega]
    show (65 :: 32 :: abL (n + 1)).take _ = _
    rw [List.take_succ_cons, List.take_succ_cons, this]
    rfl
theorem abL_repeat : ∀ n, Lib.repeatL [65, 32] n ++ [65] = abL n
  | 0 => rfl
  | n + 1 => by
    have := abL_repeat n
    show [65, 32] ++ Lib.repeatL [65, 32] n ++ [65] = _
    rw [List.append_assoc, this]
    rfl
def accA (ms : IMarks) : Nat → List Tok
  | 0 => []
  | k + 1 => accA ms k ++ [tokAt ms (2 * k) 1 [65]]
theorem accA_len (ms : IMarks) : ∀ k, (accA ms k).length = k
  | 0 => rfl
  | k + 1 => by rw [accA, List.length_append, accA_len ms k]; rfl
theorem accA_pic (ms : IMarks) (k : Nat) : endPic (accA ms k) = false ∧ expPic (accA ms k) = false := by
  cases k with
  | zero => exact ⟨rfl, rfl⟩
  | succ k =>
    have h1 : (accA ms (k + 1)).getLast? = some (tokAt ms (2 * k) 1 [65]) := by rw [accA, List.getLast?_concat]
    have h2 : endPic (accA ms (k + 1)) = false := by unfold endPic; rw [h1]; rfl
    refine ⟨h2, ?_⟩
    unfold expPic
    rw [h2, h1]
    rfl
theorem abL_get (n k : Nat) (h : k ≤ n) : sepAt (abL n) (2 * k) = true := by
  unfold sepAt
  cases k with
  | zero => rfl
  | succ k =>
    have hd := abL_drop k (n - k)
    rw [show k + (n - k) = n from by omega] at hd
    have hn : n - k = (n - k - 1) + 1 := by omega
    have h32 : (abL n)[2 * k + 1]? = some 32 := by
      rw [← List.getElem?_drop, hd, hn]
      rfl
    rw [show 2 * (k + 1) - 1 = 2 * k + 1 from by omega]
    simp [List.getD, h32]
theorem ab_read : readT false false true [65] = .got 1 [65] 1 := by decide
theorem many_N (ms : IMarks) (n : Nat) (hn : n ≤ 65536) : ∀ (d k : Nat), k + d = n → scanN true (abL n) ms (2 * k) (accA ms k) = if n = 65536 then .inl (3, posT ms ((2 * n : Nat) : Int)) else .inr (accA ms (n + 1))
  | 0, k, h => by
    obtain rfl : k = n := by omega
    have hd := abL_drop k 0
    rw [Nat.add_zero] at hd
    obtain ⟨p1, p2⟩ := accA_pic ms k
    have hl : 2 * k < (abL k).length := by rw [abL_len]; omega
    have hr : readT (endPic (accA ms k)) (expPic (accA ms k)) (sepAt (abL k) (2 * k)) ((abL k).drop (2 * k)) = .got 1 [65] 1 := by
      rw [p1, p2, abL_get k k (Nat.le_refl _), hd]; exact ab_read
    rw [scanN_got true _ ms _ _ hl hr, accA_len]
    by_cases h65 : k = 65536
    · rw [if_pos ⟨rfl, h65⟩, if_pos h65]
    · rw [if_neg (fun h => h65 h.2), if_neg h65]
      exact scanN_end _ _ _ _ _ (by rw [abL_len]; omega)
  | d + 1, k, h => by
    have hd := abL_drop k (d + 1)
    rw [h] at hd
    obtain ⟨p1, p2⟩ := accA_pic ms k
    have hl : 2 * k < (abL n).length := by rw [abL_len]; omega
    have hr : readT (endPic (accA ms k)) (expPic (accA ms k)) (sepAt (abL n) (2 * k)) ((abL n).drop (2 * k)) = .got 1 [65] 1 := by
      rw [p1, p2, abL_get n k (by omega), hd]
      have := readT_cut false false true (abL d) (r := [65]) (by simp) (by decide)
      rw [ab_read] at this
      exact this
    rw [scanN_got true _ ms _ _ hl hr, accA_len, if_neg (by omega)]
    have hs : accA ms k ++ [tokAt ms (2 * k) 1 [65]] = accA ms (k + 1) := rfl
    rw [hs, (accA_pic ms (k + 1)).2]
    have hd2 : (abL n).drop (2 * k + 1) = 32 :: abL d := by
      rw [← List.drop_drop, hd]; rfl
    have hsk : skipN false ((abL n).drop (2 * k + 1)) = 1 := by
      rw [hd2]
      have e : ∀ j, skipN false (abL j) = 0 := fun j => by cases j <;> simp [abL, skipN]
      simp [skipN, e]
    rw [hsk, show 2 * k + 1 + 1 = 2 * (k + 1) from by omega]
    exact many_N ms n hn d (k + 1) (by omega)
theorem many_ok (n : Nat) : (⟨false, abL n, [(0, 3, 8)]⟩ : ICard).ok = true := by
  cases n <;> rfl
theorem many_scan (n : Nat) (hn : n ≤ 65536) : scanB true [⟨false, abL n, [(0, 3, 8)]⟩] [] = if n = 65536 then .inl (3, 3, 131080) else .inr (accA [(0, 3, 8)] (n + 1)) := by
  have h := many_N [(0, 3, 8)] n hn n 0 (by omega)
  have hc : scanC true (abL n) [(0, 3, 8)] [] = scanN true (abL n) [(0, 3, 8)] (2 * 0) (accA [(0, 3, 8)] 0) := by
    rw [scanC_N]
    have : skipN (expPic []) (abL n) = 0 := by cases n <;> simp [abL, skipN]
    rw [this]; rfl
  show (if (⟨false, abL n, [(0, 3, 8)]⟩ : ICard).ok = true then _ else _) = _
  rw [if_pos (many_ok n)]
  rw [hc, h]
  by_cases h65 : n = 65536
  · subst h65
    rw [if_pos rfl, if_pos rfl]
    rfl
  · rw [if_neg h65, if_neg h65]; rfl
end Go.Proofs.YtpalfhfbgfnacaaGreatDoor
