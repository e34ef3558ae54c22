/-
  The tokens of columnsevenlaw03's S, on lists: they are read again from their formats; no walk here.
-/
import Derived.Test.YtpalfhfbgfnacaaGreatDoorBackS
namespace Go.Proofs.YtpalfhfbgfnacaaGreatDoor
open Go.RowKit
set_option linter.unusedVariables false
set_option linter.unusedSimpArgs false

def wordsO : List (List UInt8) := [[77, 79, 86, 69], [65], [65, 45, 49], [84, 79], [88, 50], [49, 65], [80, 82, 79, 71, 82, 65, 77, 45, 73, 68], [73, 83], [66], [65, 68, 68], [67, 45, 67], [70, 73, 76, 76, 69, 82]]
def numsO : List (List UInt8) := [[48], [48, 48, 55], [49, 50], [45, 53], [43, 49, 46, 53, 48], [46, 53], [51, 46, 50, 53], [57, 57, 57, 57, 57, 57, 57, 57, 57, 57, 57, 57, 57, 57, 57, 57, 57, 57]]
def quosO : List (List UInt8) := [[65], [84, 69, 88, 84], [65, 32, 32, 66], [83, 65, 89, 32, 34, 72, 73, 34], [34], [32], [105, 116, 39, 115, 46], [61, 61]]
def sgnsO : List (List UInt8) := [[40], [41], [58], [43], [45], [42], [47], [42, 42], [61], [60], [62], [60, 61], [62, 61], [60, 62]]
def picsO : List (List UInt8) := [[57, 40, 51, 41], [83, 57, 40, 53, 41, 86, 57, 57], [88], [90, 44, 90, 90, 57, 46, 57, 57, 45], [36, 42, 42, 57], [65, 40, 50, 41, 66, 88, 40, 51, 41], [73, 83]]
def tk0 (k : Nat) (x : List UInt8) : Tok := ⟨k, x, 0, 0, false⟩
def isO (n : Nat) : Bool := decide (n % 7 = 6) || decide (n % 3 = 0)
def picO (j : Nat) (b : Bool) : List Tok := tk0 1 [80, 73, 67] :: ((if b = true then [tk0 1 [73, 83]] else []) ++ [tk0 4 (picsO.getD j [])])
/-- The tokens of one piece: its kind modulo 8, its number. -/
def pieceK (k n : Nat) : List Tok :=
  if k ≤ 1 then [tk0 1 (wordsO.getD (n % 12) [])] else if k = 2 then [tk0 2 (numsO.getD (n % 8) [])] else if k = 3 then [tk0 3 (quosO.getD (n % 8) [])] else if k = 4 then [tk0 5 (sgnsO.getD (n % 14) [])]
  else if k = 5 then [tk0 6 [46]] else if k = 6 then [tk0 7 [61, 61]] else picO (n % 7) (isO n)
def pieceO (p : Nat × Nat) : List Tok := pieceK (p.1 % 8) p.2
def OfT (S : List (Nat × Nat)) : List Tok := (S.take 200).flatMap pieceO

def rbB (e x : Bool) (k : Nat) (y : List UInt8) : Bool :=
  decide (readT e x true (fmtT k y) = .got k y (fmtT k y).length) && !openB (fmtT k y) &&
  (match fmtT k y with | c :: _ => decide (c.toNat ≠ 32) && (x || (decide (c.toNat ≠ 44) && decide (c.toNat ≠ 59))) | [] => false) &&
  (match (fmtT k y).getLast? with | some c => decide (c.toNat ≠ 32) | none => true)
theorem rb_of {e x : Bool} {k : Nat} {y : List UInt8} (h : rbB e x k y = true) : RB e x k y := by
  unfold rbB at h
  simp only [Bool.and_eq_true, Bool.not_eq_true', decide_eq_true_iff] at h
  obtain ⟨⟨⟨h1, h2⟩, h3⟩, h4⟩ := h
  refine ⟨h1, h2, ?_, ?_⟩
  · cases hf : fmtT k y with
    | nil => rw [hf] at h3; cases h3
    | cons c l =>
      rw [hf] at h3
      simp only [Bool.and_eq_true, Bool.or_eq_true, decide_eq_true_iff] at h3
      refine ⟨c, l, rfl, h3.1, fun hx => ?_⟩
      rcases h3.2 with h5 | h5
      · rw [hx] at h5; cases h5
      · exact h5
  · intro c hc
    rw [hc] at h4
    simpa using h4
def stepS (e : Bool) (t : Tok) : Bool × Bool := (picW t, picW t || (isWd [73, 83] t && e))
theorem st_snoc (acc : List Tok) (t : Tok) : endPic (acc ++ [t]) = (stepS (endPic acc) t).1 ∧ expPic (acc ++ [t]) = (stepS (endPic acc) t).2 := by
  have h1 : endPic (acc ++ [t]) = picW t := by unfold endPic; rw [List.getLast?_concat]
  refine ⟨h1, ?_⟩
  unfold expPic
  rw [h1, List.getLast?_concat, List.dropLast_concat]
  rfl
/-- Tokens that are read again, from a state on; behind them no picture is expected. -/
def okS : Bool × Bool → List Tok → Bool
  | s, [] => !s.1 && !s.2
  | s, t :: T => rbB s.1 s.2 t.kind t.text && (fmtT t.kind t.text).all prtB && decide ((fmtT t.kind t.text).length ≤ 24) && okS (stepS s.1 t) T
theorem ok_back : ∀ (T acc : List Tok), okS (endPic acc, expPic acc) T = true → BackOK acc T ∧ (endPic (acc ++ T) = false ∧ expPic (acc ++ T) = false) ∧ ∀ t ∈ T, (fmtT t.kind t.text).all prtB = true ∧ (fmtT t.kind t.text).length ≤ 24
  | [], acc, h => by
    simp only [okS, Bool.and_eq_true, Bool.not_eq_true'] at h
    exact ⟨trivial, by simpa using h, by simp⟩
  | t :: T, acc, h => by
    simp only [okS, Bool.and_eq_true, decide_eq_true_iff] at h
    obtain ⟨⟨⟨h1, h2⟩, h3⟩, h4⟩ := h
    obtain ⟨s1, s2⟩ := st_snoc acc t
    have ih := ok_back T (acc ++ [t]) (by rw [s1, s2]; exact h4)
    refine ⟨⟨rb_of h1, ih.1⟩, by simpa using ih.2.1, fun u hu => ?_⟩
    rcases List.mem_cons.1 hu with rfl | hu
    · exact ⟨h2, h3⟩
    · exact ih.2.2 u hu
theorem okW : ∀ i, i < 12 → okS (false, false) [tk0 1 (wordsO.getD i [])] = true := by decide +kernel
theorem okN : ∀ i, i < 8 → okS (false, false) [tk0 2 (numsO.getD i [])] = true := by decide +kernel
theorem okQ : ∀ i, i < 8 → okS (false, false) [tk0 3 (quosO.getD i [])] = true := by decide +kernel
theorem okG : ∀ i, i < 14 → okS (false, false) [tk0 5 (sgnsO.getD i [])] = true := by decide +kernel
theorem okP : ∀ i, i < 7 → ∀ b, (i = 6 → b = true) → okS (false, false) (picO i b) = true := by decide +kernel
theorem piece_ok (k n : Nat) : okS (false, false) (pieceK k n) = true := by
  unfold pieceK
  split
  · exact okW _ (Nat.mod_lt _ (by omega))
  split
  · exact okN _ (Nat.mod_lt _ (by omega))
  split
  · exact okQ _ (Nat.mod_lt _ (by omega))
  split
  · exact okG _ (Nat.mod_lt _ (by omega))
  split
  · decide +kernel
  split
  · decide +kernel
  · exact okP _ (Nat.mod_lt _ (by omega)) _ fun h => by unfold isO; rw [h]; rfl
theorem pieceK_len (k n : Nat) : 1 ≤ (pieceK k n).length ∧ (pieceK k n).length ≤ 3 := by
  unfold pieceK
  split; · exact ⟨by simp, by simp⟩
  split; · exact ⟨by simp, by simp⟩
  split; · exact ⟨by simp, by simp⟩
  split; · exact ⟨by simp, by simp⟩
  split; · exact ⟨by simp, by simp⟩
  split; · exact ⟨by simp, by simp⟩
  unfold picO
  split <;> exact ⟨by simp, by simp⟩
theorem pieces_ok : ∀ (S : List (Nat × Nat)) (acc : List Tok), endPic acc = false → expPic acc = false → BackOK acc (S.flatMap pieceO) ∧ (∀ t ∈ S.flatMap pieceO, (fmtT t.kind t.text).all prtB = true ∧ (fmtT t.kind t.text).length ≤ 24) ∧ (S.flatMap pieceO).length ≤ 3 * S.length
  | [], acc, _, _ => ⟨trivial, by simp, by simp⟩
  | p :: S, acc, h1, h2 => by
    obtain ⟨a1, ⟨a2, a3⟩, a4⟩ := ok_back (pieceO p) acc (by rw [h1, h2]; exact piece_ok _ _)
    obtain ⟨b1, b2, b3⟩ := pieces_ok S (acc ++ pieceO p) a2 a3
    have hl := (pieceK_len (p.1 % 8) p.2).2
    rw [List.flatMap_cons]
    refine ⟨backOK_app _ _ acc a1 b1, fun t ht => ?_, ?_⟩
    · rcases List.mem_append.1 ht with ht | ht
      · exact a4 t ht
      · exact b2 t ht
    · rw [List.length_append, List.length_cons]
      have : (pieceO p).length ≤ 3 := hl
      omega
theorem sumT_le : ∀ T : List Tok, (∀ t ∈ T, (fmtT t.kind t.text).length ≤ 24) → sumT T ≤ 24 * T.length
  | [], _ => by simp [sumT]
  | t :: T, h => by
    have ih := sumT_le T (fun x hx => h x (by simp [hx]))
    have h1 := h t (by simp)
    have : sumT (t :: T) = (fmtT t.kind t.text).length + sumT T := by simp [sumT]
    rw [this, List.length_cons]; omega
theorem bk_of {S : List (Nat × Nat)} (h : OfT S ≠ []) : Bk (OfT S) := by
  obtain ⟨h1, h2, h3⟩ := pieces_ok (S.take 200) [] rfl rfl
  have hl : (S.take 200).length ≤ 200 := by rw [List.length_take]; omega
  have h4 := textT_sum (OfT S)
  have h5 := sumT_le (OfT S) (fun t ht => (h2 t ht).2)
  have h6 : (OfT S).length ≤ 600 := by unfold OfT; omega
  exact ⟨h1, fun t ht => (h2 t ht).1, h, by omega, by omega⟩
theorem pieces_snoc (S : List (Nat × Nat)) (k : Nat) (p : Nat × Nat) (h : S[k]? = some p) : (S.take (k + 1)).flatMap pieceO = (S.take k).flatMap pieceO ++ pieceO p := by
  have hk := lt_of_get h
  rw [List.getElem?_eq_getElem hk] at h
  injection h with h
  rw [List.take_succ_eq_append_getElem hk, h]
  simp
theorem pieces_len (S : List (Nat × Nat)) (k : Nat) (hk : k ≤ 200) : ((S.take k).flatMap pieceO).length ≤ 600 := by
  obtain ⟨_, _, h3⟩ := pieces_ok (S.take k) [] rfl rfl
  have hl : (S.take k).length ≤ 200 := by rw [List.length_take]; omega
  omega
end Go.Proofs.YtpalfhfbgfnacaaGreatDoor
