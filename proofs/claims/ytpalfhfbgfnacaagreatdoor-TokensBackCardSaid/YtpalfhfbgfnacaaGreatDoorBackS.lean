/-
  Tokens that are formatted, laid out, read and scanned: their number, their bytes, the place of the first one; on lists, no walk here.
-/
import Derived.Test.YtpalfhfbgfnacaaGreatDoorBackL
import Derived.Test.YtpalfhfbgfnacaaGreatDoorGK
import Derived.Test.YtpalfhfbgfnacaaGreatDoorWrite
namespace Go.Proofs.YtpalfhfbgfnacaaGreatDoor
open Go.RowKit
set_option linter.unusedVariables false
set_option linter.unusedSimpArgs false

/-! ### The first mark of a card says whether it begins in area A -/
def LMk (c : Kard) : Prop := c.marks ≠ [] ∧ ∀ m, c.marks[0]? = some m → c.left = decide (m.2.2 < 12) ∧ m.1 = 0
theorem lm_plus {c : Kard} (h : LMk c) (p : List UInt8) (n col : Nat) : LMk (c.plus p n col) := by
  obtain ⟨h1, h2⟩ := h
  unfold Kard.plus
  split
  · exact ⟨h1, h2⟩
  · refine ⟨by simp, fun m hm => h2 m ?_⟩
    simp only at hm
    rwa [List.getElem?_append_left (List.length_pos_iff.2 h1)] at hm
theorem lm_begin {t : List UInt8} (ht : fstN t < t.length) (n : Nat) : LMk ((⟨decide (fstN t < 4), [], []⟩ : Kard).plus (tailB (t.drop (fstN t)) []) n (fstN t + 8)) := by
  obtain ⟨c, r, h1, h2⟩ := drop_headL t ht
  have hne := tail_neL (t.drop (fstN t)) [] c r h1 h2
  unfold Kard.plus
  rw [if_neg hne]
  refine ⟨by simp, fun m hm => ?_⟩
  simp at hm
  subst hm
  refine ⟨?_, rfl⟩
  show decide (fstN t < 4) = decide (fstN t + 8 < 12)
  rw [Bool.eq_iff_iff, decide_eq_true_iff, decide_eq_true_iff]; omega
theorem lm_put {done : List Kard} {c : Kard} {t : List UInt8} {n : Nat} {b : Bool} {r' : ReadAt} (hd : ∀ x ∈ done, LMk x) (ht : fstN t < t.length) (hb : b = true → c = ⟨decide (fstN t < 4), [], []⟩) (hb2 : b = false → LMk c) (h : putRow done c t n b = .inr r') : ∀ x ∈ r'.all, LMk x := by
  unfold putRow at h
  split at h
  · cases h
  · rename_i p col hp
    injection h with h
    subst h
    unfold ReadAt.all
    intro x hx
    simp at hx
    rcases hx with hx | rfl
    · exact hd x hx
    · cases b
      · exact lm_plus (hb2 rfl) _ _ _
      · have hc := hb rfl
        subst hc
        unfold rpart at hp
        rw [if_pos rfl] at hp
        injection hp with hp
        injection hp with h1 h2
        subst h1; subst h2
        exact lm_begin ht n
theorem lm_line {debug : Bool} {r r' : ReadAt} {s : List UInt8} {n : Nat} (hr : ∀ x ∈ r.all, LMk x) (h : readLine debug r s n = .inr r') : ∀ x ∈ r'.all, LMk x := by
  have hsay := lineIs_says s n debug
  unfold readLine at h
  split at h
  · cases h
  · injection h with h; subst h; exact hr
  · rename_i m t hl
    rw [hl] at hsay
    obtain ⟨_, h65, hf, _⟩ := hsay
    have ht : fstN t < t.length := by omega
    unfold readRow at h
    unfold ReadAt.all at hr
    split at h
    · split at h
      · rename_i hc
        exact lm_put (fun x hx => hr x (by simp [hx])) ht (fun _ => rfl) (fun h => by cases h) h
      · rename_i c hc
        rw [hc] at hr
        split at h
        · cases h
        · exact lm_put (fun x hx => hr x (by simpa using hx)) ht (fun _ => rfl) (fun h => by cases h) h
    · split at h
      · cases h
      · rename_i c hc
        rw [hc] at hr
        exact lm_put (fun x hx => hr x (by simp [hx])) ht (fun h => by cases h) (fun _ => hr c (by simp)) h
theorem lm_from (debug : Bool) : ∀ (L : List (List UInt8)) (r : ReadAt) (k : Nat) (ks : List Kard), (∀ x ∈ r.all, LMk x) → readFrom debug r k L = .inr ks → ∀ x ∈ ks, LMk x
  | [], r, k, ks, hr, h => by
    have : ks = r.all := by
      unfold readFrom at h
      split at h
      · split at h
        · cases h
        · injection h with h; exact h.symm
      · injection h with h; exact h.symm
    subst this; exact hr
  | s :: L, r, k, ks, hr, h => by
    unfold readFrom at h
    split at h
    · cases h
    · rename_i r' he
      exact lm_from debug L r' (k + 1) ks (lm_line hr he) h
theorem cards_left {text : List UInt8} {debug : Bool} {ks : List Kard} (ht : text.length ≤ 1048576) (h : readBU true text debug = .inr ks) : ∀ c ∈ ks, LMk c := by
  rw [readBU_pieces true debug text ht, readFromU_true] at h
  exact lm_from debug _ _ _ _ (by simp [ReadAt.all]) h

/-! ### The cards' bytes are printable -/
theorem prt_put {done : List Kard} {c : Kard} {t : List UInt8} {n : Nat} {b : Bool} {r' : ReadAt} (hd : ∀ x ∈ done, x.text.all prtB = true) (ht : t.all prtB = true) (hc : c.text.all prtB = true) (h : putRow done c t n b = .inr r') : ∀ x ∈ r'.all, x.text.all prtB = true := by
  have hdr : ∀ k, (t.drop k).all prtB = true := fun k => by
    rw [List.all_eq_true] at ht ⊢
    exact fun c hc => ht c (List.mem_of_mem_drop hc)
  have htl : ∀ k x, (tailB (t.drop k) x).all prtB = true := fun k x => by
    unfold tailB
    split
    · exact hdr k
    · unfold trimB; exact all_take (hdr k) _
  unfold putRow at h
  split at h
  · cases h
  · rename_i p col hp
    have hpp : p.all prtB = true := by
      unfold rpart at hp
      split at hp
      · injection hp with hp; injection hp with h1 _; rw [← h1]; exact htl _ _
      · split at hp
        · cases hp
        · split at hp
          · injection hp with hp; injection hp with h1 _; rw [← h1]; exact htl _ _
          · injection hp with hp; injection hp with h1 _; rw [← h1]; exact htl _ _
    injection h with h
    subst h
    unfold ReadAt.all
    intro x hx
    simp at hx
    rcases hx with hx | rfl
    · exact hd x hx
    · show (c.text ++ p).all prtB = true
      rw [List.all_append, hc, hpp]; rfl
theorem row_prt {s : List UInt8} {line : Nat} {debug : Bool} {m : UInt8} {t : List UInt8} (h : lineIs s line debug = .row m t) : t.all prtB = true := by
  have ht : t = textOf s := by
    unfold lineIs at h
    repeat' split at h
    all_goals first | (injection h with _ h; exact h.symm) | (injection h)
  have hp : ¬ 0 ≤ firstI (fun c => !prtB c) 0 s := by
    intro h0
    unfold lineIs at h
    by_cases h1 : 80 < s.length
    · rw [if_pos h1] at h; cases h
    · rw [if_neg h1, if_pos h0] at h; cases h
  have hs : s.all prtB = true := by
    rw [firstI_iff] at hp
    cases hh : s.all (fun c => !!prtB c)
    · exact absurd hh hp
    · rw [← hh]; congr 1; funext c; simp
  rw [ht]
  unfold textOf padTo
  rw [List.all_eq_true]
  intro c hc
  have hc2 := List.mem_of_mem_take (List.mem_of_mem_drop hc)
  rcases List.mem_append.1 hc2 with h1 | h1
  · exact List.all_eq_true.1 hs c h1
  · rw [List.eq_of_mem_replicate h1]; decide
theorem prt_line {debug : Bool} {r r' : ReadAt} {s : List UInt8} {n : Nat} (hr : ∀ x ∈ r.all, x.text.all prtB = true) (h : readLine debug r s n = .inr r') : ∀ x ∈ r'.all, x.text.all prtB = true := by
  unfold readLine at h
  split at h
  · cases h
  · injection h with h; subst h; exact hr
  · rename_i m t hl
    have ht := row_prt hl
    unfold readRow at h
    unfold ReadAt.all at hr
    split at h
    · split at h
      · exact prt_put (fun x hx => hr x (by simp [hx])) ht rfl h
      · rename_i c hc
        rw [hc] at hr
        split at h
        · cases h
        · exact prt_put (fun x hx => hr x (by simpa using hx)) ht rfl h
    · split at h
      · cases h
      · rename_i c hc
        rw [hc] at hr
        exact prt_put (fun x hx => hr x (by simp [hx])) ht (hr c (by simp)) h
theorem prt_from (debug : Bool) : ∀ (L : List (List UInt8)) (r : ReadAt) (k : Nat) (ks : List Kard), (∀ x ∈ r.all, x.text.all prtB = true) → readFrom debug r k L = .inr ks → ∀ x ∈ ks, x.text.all prtB = true
  | [], r, k, ks, hr, h => by
    have : ks = r.all := by
      unfold readFrom at h
      split at h
      · split at h
        · cases h
        · injection h with h; exact h.symm
      · injection h with h; exact h.symm
    subst this; exact hr
  | s :: L, r, k, ks, hr, h => by
    unfold readFrom at h
    split at h
    · cases h
    · rename_i r' he
      exact prt_from debug L r' (k + 1) ks (prt_line hr he) h
theorem cards_prt {text : List UInt8} {debug : Bool} {ks : List Kard} (ht : text.length ≤ 1048576) (h : readBU true text debug = .inr ks) : ∀ c ∈ ks, c.text.all prtB = true := by
  rw [readBU_pieces true debug text ht, readFromU_true] at h
  exact prt_from debug _ _ _ _ (by simp [ReadAt.all]) h

/-! ### How many tokens a source text has -/
theorem pieces_ne : ∀ (l cur : List UInt8), piecesG cur l ≠ []
  | [], cur => by simp [piecesG]
  | c :: r, cur => by
    unfold piecesG
    split
    · simp
    · exact pieces_ne r _
def preL (L : List (List UInt8)) (n : Nat) : Nat := ((L.take n).map List.length).sum
theorem preL_succ (L : List (List UInt8)) (n : Nat) (h : n < L.length) : preL L (n + 1) = preL L n + (L.getD n []).length := by
  unfold preL
  rw [List.take_succ_eq_append_getElem h, List.map_append, List.sum_append]
  simp only [List.map_cons, List.map_nil, List.sum_cons, List.sum_nil, Nat.add_zero, List.getD, List.getElem?_eq_getElem h, Option.getD_some]
theorem preL_mono (L : List (List UInt8)) : ∀ (d n : Nat), n + d ≤ L.length → preL L n ≤ preL L (n + d)
  | 0, n, _ => Nat.le_refl _
  | d + 1, n, h => by
    have h1 := preL_mono L d n (by omega)
    have h2 := preL_succ L (n + d) (by omega)
    rw [← Nat.add_assoc, h2]; omega
def rankT (L : List (List UInt8)) (t : Tok) : Nat := preL L (t.line.toNat - 1) + t.col.toNat
theorem rank_ok {L : List (List UInt8)} {t : Tok} (h : PlOK L t) : 1 ≤ rankT L t ∧ rankT L t ≤ preL L L.length := by
  obtain ⟨l, cl, b, h1, h2, h3, h4, h5, _, h6, _⟩ := h
  have hl := lt_of_get h6
  have hs := preL_succ L (l - 1) (by omega)
  have hm := preL_mono L (L.length - l) l (by omega)
  rw [show l - 1 + 1 = l from by omega] at hs
  rw [show l + (L.length - l) = L.length from by omega] at hm
  unfold rankT
  rw [h1, h2]
  simp only [Int.toNat_natCast]
  omega
theorem rank_up {L : List (List UInt8)} {t u : Tok} (ht : PlOK L t) (hu : PlOK L u) (h : PlUp t u) : rankT L t < rankT L u := by
  obtain ⟨l, cl, b, h1, h2, h3, h4, h5, _, h6, _⟩ := ht
  obtain ⟨l', cl', b', g1, g2, g3, g4, g5, _, g6, _⟩ := hu
  have hl := lt_of_get h6
  unfold rankT
  rw [h1, h2, g1, g2]
  simp only [Int.toNat_natCast]
  rcases h with h | ⟨h, h'⟩
  · have hs := preL_succ L (l - 1) (by omega)
    have hm := preL_mono L (l' - 1 - l) l (by omega)
    rw [show l - 1 + 1 = l from by omega] at hs
    rw [show l + (l' - 1 - l) = l' - 1 from by omega] at hm
    omega
  · have : l = l' := by omega
    subst this
    omega
theorem rank_count {L : List (List UInt8)} {T : List Tok} (h : PlAll L T) : ∀ (k : Nat) (t : Tok), T[k]? = some t → k + 1 ≤ rankT L t
  | 0, t, ht => (rank_ok (h.1 t (List.mem_of_getElem? ht))).1
  | k + 1, t, ht => by
    have hk : k < T.length := by have := lt_of_get ht; omega
    have hg : T[k]? = some T[k] := List.getElem?_eq_getElem hk
    have ih := rank_count h k _ hg
    have := rank_up (h.1 _ (List.mem_of_getElem? hg)) (h.1 t (List.mem_of_getElem? ht)) (h.2 k _ t hg ht)
    omega
theorem preL_all (L : List (List UInt8)) : preL L L.length + L.length = (L.map fun x => x.length + 1).sum := by
  unfold preL
  rw [List.take_length]
  induction L with
  | nil => rfl
  | cons x L ih => simp only [List.map_cons, List.sum_cons, List.length_cons]; omega
theorem count_source {text : List UInt8} {debug : Bool} {T : List Tok} (ht : text.length ≤ 1048576) (h : sourceB text debug = .inr T) : T.length ≤ text.length := by
  have hp := source_places ht h
  rcases Nat.eq_zero_or_pos T.length with h0 | h0
  · omega
  · have hg : T[T.length - 1]? = some T[T.length - 1] := List.getElem?_eq_getElem (by omega)
    have h1 := rank_count hp _ _ hg
    have h2 := (rank_ok (hp.1 _ (List.mem_of_getElem? hg))).2
    have h3 := preL_all (piecesG [] text)
    rw [pieces_sum] at h3
    have h4 : 1 ≤ (piecesG [] text).length := List.length_pos_iff.2 (pieces_ne _ _)
    simp at h3
    omega

/-! ### How long the tokens' text is -/
theorem litE_len : ∀ (l y : List UInt8) (n : Nat), litE l = some (y, n) → (dblQ y).length + 1 = n
  | [], y, n, h => by simp [litE] at h
  | [c], y, n, h => by
    by_cases hc : c.toNat = 34
    · rw [litE, if_pos hc] at h; simp at h; rw [h.1, ← h.2]; rfl
    · rw [litE, if_neg hc] at h; simp [litE] at h
  | c :: d :: l, y, n, h => by
    by_cases hc : c.toNat = 34
    · by_cases hd : d.toNat = 34
      · rw [litE, if_pos hc, if_pos hd] at h
        cases hl : litE l with
        | none => rw [hl] at h; simp at h
        | some x =>
          rw [hl] at h; simp at h
          have ih := litE_len l x.1 x.2 (by rw [hl])
          rw [← h.1, ← h.2, ← ih]
          simp [dblQ]
      · rw [litE, if_pos hc, if_neg hd] at h; simp at h; rw [h.1, ← h.2]; rfl
    · rw [litE, if_neg hc] at h
      cases hl : litE (d :: l) with
      | none => rw [hl] at h; simp at h
      | some x =>
        rw [hl] at h; simp at h
        have ih := litE_len (d :: l) x.1 x.2 (by rw [hl])
        rw [← h.1, ← h.2, ← ih]
        simp [dblQ, hc]
theorem read_len {e x sep : Bool} {r : List UInt8} {k n : Nat} {y : List UInt8} (h : readT e x sep r = .got k y n) : (fmtT k y).length ≤ n := by
  unfold readT at h
  split at h
  · unfold picT at h
    split at h
    · cases h
    · injection h with h1 h2 h3
      subst h1; subst h2
      show (foldB _).length ≤ n
      rw [foldB_len]; omega
  split at h
  · unfold litT at h
    split at h
    · cases h
    · rename_i t' n' hl
      split at h
      · cases h
      · injection h with h1 h2 h3
        subst h1; subst h2
        have := litE_len _ _ _ hl
        show (34 :: (dblQ t' ++ [34])).length ≤ n
        simp; omega
  split at h
  · injection h with h1 h2 h3
    subst h1; subst h2; rw [← h3]; decide
  split at h
  · injection h with h1 h2 h3
    subst h1; subst h2; rw [← h3]; decide
  split at h
  · unfold numT at h
    split at h
    · cases h
    split at h
    · cases h
    · injection h with h1 h2 h3
      subst h1; subst h2
      show (r.take (numN r sep)).length ≤ n
      rw [List.length_take]; omega
  split at h
  · unfold wordT at h
    split at h
    · injection h with h1 h2 h3
      subst h1; subst h2
      show (foldB _).length ≤ n
      rw [foldB_len]; omega
    split at h <;> cases h
  · obtain ⟨rfl, _, rfl, _⟩ := signT_got h
    exact Nat.le_refl _
def sumT (T : List Tok) : Nat := (T.map fun t => (fmtT t.kind t.text).length).sum
theorem sumT_app (a b : List Tok) : sumT (a ++ b) = sumT a + sumT b := by simp [sumT]
theorem sum_N (u : Bool) (t : List UInt8) (ms : IMarks) : ∀ (m j : Nat) (acc R : List Tok), t.length - j < m → scanN u t ms j acc = .inr R → sumT R ≤ sumT acc + (t.length - j)
  | 0, _, _, _, h, _ => by omega
  | m + 1, j, acc, R, hm, h => by
    rcases Nat.lt_or_ge j t.length with hj | hj
    · cases hrd : readT (endPic acc) (expPic acc) (sepAt t j) (t.drop j) with
      | bad e => rw [scanN_bad u t ms j acc hj hrd] at h; cases h
      | got k x n =>
        have hle := readT_le (drop_ne hj) hrd
        rw [List.length_drop] at hle
        have hln := read_len hrd
        rw [scanN_got u t ms j acc hj hrd] at h
        split at h
        · cases h
        · have ih := sum_N u t ms m _ _ R (by omega) h
          rw [sumT_app] at ih
          have : sumT [tokAt ms j k x] = (fmtT k x).length := by simp [sumT, tokAt]
          omega
    · rw [scanN_end u t ms j acc hj] at h
      injection h with h; subst h; omega
theorem sum_B (u : Bool) : ∀ (L : List ICard) (acc R : List Tok), scanB u L acc = .inr R → sumT R ≤ sumT acc + totI L
  | [], acc, R, h => by injection h with h; subst h; simp [totI]
  | c :: L, acc, R, h => by
    have ht : totI (c :: L) = c.text.length + totI L := by simp [totI]
    change (if c.ok = true then (match scanC u c.text c.marks acc with | .inl f => (.inl f : (Nat × Int × Int) ⊕ List Tok) | .inr acc' => scanB u L acc') else .inl (1, 0, 0)) = .inr R at h
    split at h
    · split at h
      · cases h
      · rename_i acc' hs
        rw [scanC_N] at hs
        have h1 := sum_N u c.text c.marks _ _ acc acc' (Nat.lt_succ_self _) hs
        have h2 := sum_B u L acc' R h
        omega
    · cases h
theorem textT_sum : ∀ T : List Tok, (textT T).length ≤ sumT T + T.length
  | [] => by simp [textT, joinT]
  | [t] => by rw [textT_one]; simp [sumT]
  | t :: u :: T => by
    have ih := textT_sum (u :: T)
    rw [textT_more, List.length_append, List.length_cons]
    have : sumT (t :: u :: T) = (fmtT t.kind t.text).length + sumT (u :: T) := by simp [sumT]
    simp only [List.length_cons] at ih ⊢
    omega

/-! ### All of it -/
/-- Tokens whose text can be laid out and is read again. -/
structure Bk (T : List Tok) : Prop where
  ok : BackOK [] T
  prt : ∀ t ∈ T, (fmtT t.kind t.text).all prtB = true
  ne : T ≠ []
  cnt : T.length ≤ 65535
  len : (textT T).length ≤ 20000
theorem bk_source {text : List UInt8} {T : List Tok} (ht : text.length ≤ 2000) (h : sourceB text false = .inr T) (hne : T ≠ []) : Bk T := by
  have hc := count_source (by omega) h
  have hs := h
  unfold sourceB at hs
  split at hs
  · cases hs
  rename_i ks hk
  have hsum := cards_sum (by omega) hk
  have h1 := sum_B true _ _ _ hs
  rw [totI_toI] at h1
  obtain ⟨T', h2, h3⟩ := backOK_B true _ _ _ hs
  have hT : T = T' := by simpa using h2
  rw [← hT] at h3
  refine ⟨h3, prt_B true _ [] T (fun c hc => ?_) (by simp) hs, hne, by omega, ?_⟩
  · obtain ⟨k, hk2, rfl⟩ := List.mem_map.1 hc
    exact cards_prt (by omega) hk k hk2
  · have h4 := textT_sum T
    have : sumT [] = 0 := rfl
    omega
theorem Bk.right {T : List Tok} (h : Bk T) : rightB (textT T) = true := by
  obtain ⟨ok, prt, ne, _, _⟩ := h
  cases T with
  | nil => exact absurd rfl ne
  | cons t T =>
    have ho := text_open _ _ ok
    have hl := text_last _ _ _ ok
    have hp := text_all (p := prtB) (by decide) _ prt
    obtain ⟨c, l, hf, hc, _⟩ := ok.1.head
    have hne : ∃ r, textT (t :: T) = c :: r := by
      cases T with
      | nil => exact ⟨l, by rw [textT_one, hf]⟩
      | cons u T => exact ⟨_, by rw [textT_more, hf]; rfl⟩
    obtain ⟨r, hr⟩ := hne
    unfold rightB
    rw [show printB (textT (t :: T)) = true from hp]
    have h2 : ¬ ((textT (t :: T)).getD ((textT (t :: T)).length - 1) 0).toNat = 32 := by
      have hlt : (textT (t :: T)).length - 1 < (textT (t :: T)).length := by rw [hr]; simp
      have hg : (textT (t :: T)).getLast? = some ((textT (t :: T))[(textT (t :: T)).length - 1]'hlt) := by
        rw [List.getLast?_eq_getElem?, List.getElem?_eq_getElem hlt]
      have := hl _ hg
      simpa [List.getD, List.getElem?_eq_getElem hlt] using this
    have h3 : qn (textT (t :: T)) % 2 = 0 := by
      unfold openB at ho
      have := of_decide_eq_false ho
      omega
    rw [decide_eq_false h2, decide_eq_true h3, hr]
    simp [hc]
theorem Bk.lay {T : List Tok} (h : Bk T) (left : Bool) : (layAll [(left, textT T)] ([], 0)).1.length ≤ 1048576 := by
  have hb := layF_half ((textT T).length + 1) 0 (if left then headAL else headBL) (textT T) false (by omega) (by cases left <;> decide) (by cases left <;> decide)
  have e : (layAll [(left, textT T)] ([], 0)).1 = (layF ((textT T).length + 1) 0 (if left then headAL else headBL) (textT T) false).1 := by
    simp [layAll]
  have := h.len
  rw [e]; omega
/-- What is formatted, laid out, read and scanned. -/
theorem Bk.again {T : List Tok} (h : Bk T) (left : Bool) : ∃ R, sourceB (layAll [(left, textT T)] ([], 0)).1 false = .inr R ∧ SamT T R := by
  have h1 := lines_source (textT T) left h.right (h.lay left) []
  obtain ⟨ok, _, ne, cnt, _⟩ := h
  cases T with
  | nil => exact absurd rfl ne
  | cons t T =>
    obtain ⟨R, h2, h3⟩ := format_card [] t T ok (by simp at cnt; omega)
    rw [h2] at h1
    cases hs : sourceB (layAll [(left, textT (t :: T))] ([], 0)).1 false with
    | inl f => rw [hs] at h1; exact h1.elim
    | inr R2 =>
      rw [hs] at h1
      refine ⟨R2, rfl, ?_⟩
      have h4 : SamT R2 R := h1
      unfold SamT at *
      rw [h3, h4]
theorem qs_first {Ts : List (List UInt8)} {t : List UInt8} (h : Qs Ts t) : ∀ b r, t = b :: r → ∀ u Us, Ts = u :: Us → ∃ q, u = b :: q := by
  cases h with
  | one =>
    intro b r ht u Us hu
    injection hu with hu _
    subst hu
    exact ⟨r, ht⟩
  | @more a b2 Ts m _ _ hne _ =>
    intro b r ht u Us hu
    injection hu with hu _
    subst hu
    cases a with
    | nil => exact absurd rfl hne
    | cons d q =>
      injection ht with h5 _
      exact ⟨q, by rw [h5]⟩
theorem pos_first {c : Kard} (hok : c.toI.ok = true) {m0 : Nat × Nat × Nat} (hm0 : c.marks[0]? = some m0) (hf : m0.1 = 0) : posT c.toI.marks ((0 : Nat) : Int) = ((m0.2.1 : Int), (m0.2.2 : Int)) := by
  have hv := (ok_valid c.toI).1 hok
  have e : c.toI.marks = c.marks.map fun m => ((m.1 : Int), (m.2.1 : Int), (m.2.2 : Int)) := rfl
  cases hc : c.marks with
  | nil => rw [hc] at hm0; cases hm0
  | cons a l =>
    rw [hc] at hm0
    injection hm0 with hm0
    subst hm0
    rw [e, hc, List.map_cons, posT_one (by simp [hf]) ?_]
    · unfold posOf; simp [hf]
    · -- all others begin behind
      have hall : ∀ (k : Nat) (x : Int × Int × Int), (l.map fun m => ((m.1 : Int), (m.2.1 : Int), (m.2.2 : Int)))[k]? = some x → ((0 : Nat) : Int) < x.1 := by
        intro k
        induction k with
        | zero =>
          intro x hx
          have h1 : c.toI.marks[1]? = some x := by rw [e, hc, List.map_cons]; exact hx
          have h0 : c.toI.marks[0]? = some ((a.1 : Int), (a.2.1 : Int), (a.2.2 : Int)) := by rw [e, hc]; rfl
          have := ((hv.2.2 1 x h1).2.2.2 0 _ rfl h0).1
          simp only at this
          omega
        | succ k ih =>
          intro x hx
          have hk : k < (l.map fun m => ((m.1 : Int), (m.2.1 : Int), (m.2.2 : Int))).length := by have := lt_of_get hx; omega
          have hg := List.getElem?_eq_getElem hk
          have h2 := ih _ hg
          have h1 : c.toI.marks[k + 1 + 1]? = some x := by rw [e, hc, List.map_cons]; exact hx
          have h0 : c.toI.marks[k + 1]? = some ((l.map fun m => ((m.1 : Int), (m.2.1 : Int), (m.2.2 : Int)))[k]) := by rw [e, hc, List.map_cons]; exact hg
          have := ((hv.2.2 (k + 1 + 1) x h1).2.2.2 (k + 1) _ rfl h0).1
          omega
      intro y hy
      obtain ⟨k, hk⟩ := List.mem_iff_getElem?.1 hy
      exact hall k y hk
/-- The first of these tokens stands in the area that was wanted. -/
theorem Bk.first {T : List Tok} (h : Bk T) (left : Bool) {R : List Tok} (hR : sourceB (layAll [(left, textT T)] ([], 0)).1 false = .inr R) : ∃ t, R[0]? = some t ∧ t.left = left := by
  obtain ⟨ks, Ts, h1, h2, h3⟩ := write_cards (textT T) left h.right (h.lay left)
  have hok := cards_ok (h.lay left) h1
  have hlm := cards_left (h.lay left) h1
  unfold sourceB at hR
  rw [h1] at hR
  obtain ⟨u, Us, rfl⟩ := h2.ne
  cases ks with
  | nil => simp [tag] at h3
  | cons c ks =>
    have htk : tk c = (left, u) := by simp [tag] at h3; exact h3.1
    have hcl : c.left = left := (Prod.mk.inj htk).1
    have hct : c.text = u := (Prod.mk.inj htk).2
    have hoc := hok c (by simp)
    obtain ⟨hm1, hm2⟩ := hlm c (by simp)
    obtain ⟨m0, hm0⟩ : ∃ m0, c.marks[0]? = some m0 := by
      cases hc : c.marks with
      | nil => exact absurd hc hm1
      | cons a l => exact ⟨a, rfl⟩
    obtain ⟨hl0, hf0⟩ := hm2 m0 hm0
    -- the first byte
    have hhead : skipN false u = 0 ∧ u ≠ [] := by
      obtain ⟨ok, _, ne, _, _⟩ := h
      cases T with
      | nil => exact absurd rfl ne
      | cons t T =>
        obtain ⟨b, l, hf, hb1, hb2⟩ := ok.1.head
        have hb3 := hb2 rfl
        have htx : ∃ r, textT (t :: T) = b :: r := by
          cases T with
          | nil => exact ⟨l, by rw [textT_one, hf]⟩
          | cons u T => exact ⟨_, by rw [textT_more, hf]; rfl⟩
        obtain ⟨r, hr⟩ := htx
        have hu : ∃ q, u = b :: q := qs_first h2 b r hr u Us rfl
        obtain ⟨q, rfl⟩ := hu
        refine ⟨?_, by simp⟩
        rw [skipN, if_neg]
        rintro (h5 | ⟨h5, _⟩)
        · exact hb1 h5
        · omega
    change (if c.toI.ok = true then (match scanC true c.toI.text c.toI.marks [] with | .inl f => (.inl f : (Nat × Int × Int) ⊕ List Tok) | .inr acc' => scanB true (ks.map Kard.toI) acc') else .inl (1, 0, 0)) = .inr R at hR
    rw [if_pos hoc] at hR
    have ht : c.toI.text = u := hct
    rw [ht] at hR
    split at hR
    · cases hR
    rename_i acc' hs
    rw [scanC_N, show expPic [] = false from rfl, hhead.1] at hs
    have hj : 0 < u.length := List.length_pos_iff.2 hhead.2
    cases hrd : readT (endPic []) (expPic []) (sepAt u 0) (u.drop 0) with
    | bad e => rw [scanN_bad true u _ 0 [] hj hrd] at hs; cases hs
    | got k x n =>
      rw [scanN_got true u _ 0 [] hj hrd, if_neg (by simp)] at hs
      obtain ⟨T1, e1, _⟩ := backOK_N true u c.toI.marks _ _ _ acc' (Nat.lt_succ_self _) hs
      obtain ⟨T2, e2, _⟩ := backOK_B true _ _ _ hR
      refine ⟨tokAt c.toI.marks 0 k x, by rw [e2, e1]; rfl, ?_⟩
      have hpos : (posT c.toI.marks ((0 : Nat) : Int)).2 = (m0.2.2 : Int) := by
        rw [pos_first hoc hm0 hf0]
      show decide ((posT c.toI.marks ((0 : Nat) : Int)).2 < 12) = left
      rw [hpos, ← hcl, hl0, Bool.eq_iff_iff, decide_eq_true_iff, decide_eq_true_iff]; omega
end Go.Proofs.YtpalfhfbgfnacaaGreatDoor
