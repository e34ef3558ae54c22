/-
  Texts with single spaces, and what is read of a text that was laid out, on lists; no walk here.
-/
import Derived.Test.YtpalfhfbgfnacaaGreatDoorGW
import Derived.Test.YtpalfhfbgfnacaaGreatDoorLaw2
namespace Go.Proofs.YtpalfhfbgfnacaaGreatDoor
open Go.RowKit
set_option linter.unusedVariables false
set_option linter.unusedSimpArgs false

def sqzS : Bool → Bool → List UInt8 → List UInt8
  | _, _, [] => []
  | q, ps, c :: r =>
    if c.toNat = 32 ∧ (if c.toNat = 34 then !q else q) = false ∧ ps = true then sqzS (if c.toNat = 34 then !q else q) (decide (c.toNat = 32)) r
    else c :: sqzS (if c.toNat = 34 then !q else q) (decide (c.toNat = 32)) r
def lastSp (ps : Bool) : List UInt8 → Bool
  | [] => ps
  | c :: r => lastSp (decide (c.toNat = 32)) r
theorem open_cons (c : UInt8) (r : List UInt8) (q : Bool) : (q ^^ openB (c :: r)) = ((if c.toNat = 34 then !q else q) ^^ openB r) := by
  have h : openB (c :: r) = (openB [c] ^^ openB r) := openB_xor [c] r
  rw [h]
  by_cases h34 : c.toNat = 34
  · rw [if_pos h34]
    have : openB [c] = true := by unfold openB qn; simp [h34]
    rw [this]; cases q <;> cases openB r <;> rfl
  · rw [if_neg h34]
    have : openB [c] = false := by unfold openB qn; simp [h34]
    rw [this]; cases q <;> cases openB r <;> rfl
theorem sqzS_append : ∀ (a b : List UInt8) (q ps : Bool), sqzS q ps (a ++ b) = sqzS q ps a ++ sqzS (q ^^ openB a) (lastSp ps a) b
  | [], b, q, ps => by
    have : openB [] = false := rfl
    rw [this]; simp [sqzS, lastSp]
  | c :: a, b, q, ps => by
    rw [open_cons]
    simp only [List.cons_append, sqzS, lastSp]
    rw [sqzS_append a b]
    generalize (if c.toNat = 34 then !q else q) = q'
    split
    · rfl
    · rfl
theorem lastSp_snoc : ∀ (l : List UInt8) (c : UInt8) (ps : Bool), lastSp ps (l ++ [c]) = decide (c.toNat = 32)
  | [], c, ps => rfl
  | d :: l, c, ps => by simp only [List.cons_append, lastSp]; exact lastSp_snoc l c _
theorem dropAt_last (l : List UInt8) (k : Nat) (c : UInt8) (h : l[k]? = some c) : dropAt l k = (decide (c.toNat = 32) && !openB (l.take (k + 1)) && lastSp false (l.take k)) := by
  rw [dropAt_of l k c h]
  cases k with
  | zero => simp [lastSp]
  | succ j =>
    have hk : j + 1 < l.length := by
      rcases Nat.lt_or_ge (j + 1) l.length with h' | h'
      · exact h'
      · rw [List.getElem?_eq_none h'] at h; cases h
    have hj : j < l.length := by omega
    have hg : l[j + 1 - 1]? = some l[j] := List.getElem?_eq_getElem hj
    rw [List.take_succ_eq_append_getElem hj, lastSp_snoc, hg]
    simp
theorem sqzN_S (l : List UInt8) : ∀ k, sqzN l k = sqzS false false (l.take k)
  | 0 => rfl
  | k + 1 => by
    have ih := sqzN_S l k
    unfold sqzN
    rcases Nat.lt_or_ge k l.length with hk | hk
    · have hg : l[k]? = some l[k] := List.getElem?_eq_getElem hk
      have ho := openB_take l k _ hg
      have hd := dropAt_last l k _ hg
      have ht : l.take (k + 1) = l.take k ++ [l[k]] := List.take_succ_eq_append_getElem hk
      have hdr : (l.take (k + 1)).drop k = [l[k]] := by
        rw [ht, List.drop_append, List.drop_eq_nil_of_le (by simp; omega), List.length_take, Nat.min_eq_left (by omega), Nat.sub_self]; rfl
      rw [hdr, ht, sqzS_append, ← ih]
      have hq : (if l[k].toNat = 34 then !(false ^^ openB (l.take k)) else (false ^^ openB (l.take k))) = openB (l.take (k + 1)) := by rw [ho]; simp
      show _ = sqzN l k ++ (if l[k].toNat = 32 ∧ (if l[k].toNat = 34 then !(false ^^ openB (l.take k)) else (false ^^ openB (l.take k))) = false ∧ _ then sqzS _ _ [] else l[k] :: sqzS _ _ [])
      rw [hq, hd]
      generalize openB (l.take (k + 1)) = A
      generalize lastSp false (l.take k) = M
      by_cases h32 : l[k].toNat = 32
      · cases A <;> cases M <;> simp [h32, sqzS]
      · simp [h32, sqzS]
    · have hd : dropAt l k = false := by unfold dropAt; rw [List.getElem?_eq_none hk]
      rw [hd, ih, List.take_of_length_le hk, List.take_of_length_le (by omega), List.drop_eq_nil_of_le hk]
      simp
theorem sqzB_S (l : List UInt8) : sqzB l = sqzS false false l := by
  unfold sqzB; rw [sqzN_S, List.take_length]

/-- Texts joined by single spaces. -/
def joinS : List (List UInt8) → List UInt8
  | [] => []
  | t :: Ts => t ++ Ts.flatMap fun x => 32 :: x
theorem joinS_cons (t u : List UInt8) (Ts : List (List UInt8)) : joinS (t :: u :: Ts) = t ++ 32 :: joinS (u :: Ts) := by simp [joinS]
theorem joinS_snoc (Ts : List (List UInt8)) (t x : List UInt8) : joinS (t :: (Ts ++ [x])) = joinS (t :: Ts) ++ 32 :: x := by simp [joinS]
theorem Qs.ne {Ts : List (List UInt8)} {t : List UInt8} (h : Qs Ts t) : ∃ u r, Ts = u :: r := by
  cases h with
  | one => exact ⟨_, _, rfl⟩
  | more => exact ⟨_, _, rfl⟩
theorem sqzS_spaces : ∀ (m : Nat) (b : List UInt8), sqzS false true (List.replicate m 32 ++ b) = sqzS false true b
  | 0, b => by simp
  | m + 1, b => by
    rw [List.replicate_succ, List.cons_append]
    simp only [sqzS]
    rw [if_pos (by simp)]
    exact sqzS_spaces m b
theorem last_sp {a : List UInt8} (h : ∀ hn : a ≠ [], (a.getLast hn).toNat ≠ 32) (hn : a ≠ []) (ps : Bool) : lastSp ps a = false := by
  rw [← List.dropLast_concat_getLast hn, lastSp_snoc]
  simpa using h hn
theorem sqz_Qs {Ts : List (List UInt8)} {t : List UInt8} (h : Qs Ts t) : ∀ ps, sqzS false ps (joinS Ts) = sqzS false ps t := by
  induction h with
  | one t => intro ps; simp [joinS]
  | @more a b Ts m ho hl hn hq ih =>
    intro ps
    obtain ⟨u, r, rfl⟩ := hq.ne
    rw [joinS_cons, List.append_assoc, sqzS_append, sqzS_append, ho, last_sp hl hn]
    congr 1
    rw [List.replicate_succ, List.cons_append]
    show sqzS false false (32 :: joinS (u :: r)) = sqzS false false (32 :: (List.replicate m 32 ++ b))
    have e : ∀ x, sqzS false false (32 :: x) = 32 :: sqzS false true x := fun x => by
      simp only [sqzS]
      rw [if_neg (by simp)]
      rfl
    rw [e, e, sqzS_spaces, ih]

theorem joinS_le {Ts : List (List UInt8)} {t : List UInt8} (h : Qs Ts t) : (joinS Ts).length ≤ t.length := by
  induction h with
  | one t => simp [joinS]
  | @more a b Ts m ho hl hn hq ih =>
    obtain ⟨u, r, rfl⟩ := hq.ne
    rw [joinS_cons, List.length_append, List.length_cons, List.length_append, List.length_append, List.length_replicate]
    omega
theorem joinS_take (t : List UInt8) (Ts : List (List UInt8)) (k : Nat) : (joinS (t :: Ts.take k)).length ≤ (joinS (t :: Ts)).length := by
  unfold joinS
  rw [List.length_append, List.length_append]
  have : Ts = Ts.take k ++ Ts.drop k := (List.take_append_drop k Ts).symm
  conv => rhs; rw [this]
  rw [List.flatMap_append, List.length_append]
  omega
/-- What a text that may be laid out is. -/
theorem rst_right {text : List UInt8} (h : rightB text = true) (left : Bool) : Rst (if left then headAL else headBL) text false := by
  unfold rightB at h
  simp only [Bool.and_eq_true, Bool.not_eq_true', decide_eq_false_iff_not, decide_eq_true_eq] at h
  obtain ⟨h1, ⟨⟨h2, h3⟩, h4⟩, h5⟩ := h
  have hne : text ≠ [] := by intro e; subst e; cases h2
  refine ⟨hne, h1, fun hn => ?_, ?_, .inr ⟨by cases left <;> simp, rfl, ?_⟩⟩
  · have hl : 0 < text.length := List.length_pos_iff.2 hn
    rw [List.getLast_eq_getElem]
    simpa [List.getD, List.getElem?_eq_getElem (show text.length - 1 < text.length by omega)] using h4
  · unfold openB; simp [h5]
  · cases text with
    | nil => exact absurd rfl hne
    | cons c r =>
      simp only [fstN]
      rw [if_neg]
      simpa [List.getD] using h3
theorem write_read (text : List UInt8) (left : Bool) (hr : rightB text = true) (hl : text.length ≤ 4096) :
    ∃ ks t Ts Ls, readB (layAll [(left, text)] ([], 0)).1 false = .inr ks ∧ ks.map tk = (left, t) :: Ts.map (fun x => (false, x)) ∧ sqzB (joinS (t :: Ts)) = sqzB text ∧ (joinS (t :: Ts)).length ≤ text.length ∧
      piecesG [] (layAll [(left, text)] ([], 0)).1 = Ls ++ [[]] ∧ ∀ y ∈ Ls, 8 ≤ y.length ∧ y.length ≤ 72 := by
  have hR := rst_right hr left
  obtain ⟨⟨ks, Ts, h1, h2, h3⟩, h4⟩ := lay_read (text.length + 1) 0 (if left then headAL else headBL) text false [] left [] ⟨[], none, (0, 0)⟩ 0 (by omega) hR rfl (fun part hp => by
    obtain ⟨c', pos, e1, e2⟩ := read_S (r := ⟨[], none, (0, 0)⟩) (fun c hc => by cases hc) (head := if left then headAL else headBL) (by cases left <;> simp) hp 1 1
    refine ⟨c', pos, e1, ?_⟩
    rw [e2]
    cases left <;> rfl)
  have hb : (layF (text.length + 1) 0 (if left then headAL else headBL) text false).1.length ≤ (text.length + 1) * 80 := (layF_bound (text.length + 1) 0 (if left then headAL else headBL) text false (by omega) (by cases left <;> decide) (by cases left <;> decide)).1
  have e : (layAll [(left, text)] ([], 0)).1 = (layF (text.length + 1) 0 (if left then headAL else headBL) text false).1 := by
    simp [layAll]
  obtain ⟨t, Ts', rfl⟩ := h2.ne
  rw [e]
  have hp := pieces_flat (layLs (text.length + 1) 0 (if left then headAL else headBL) text false) (fun y hy => (h4 y hy).1)
  rw [← layF_lines] at hp
  refine ⟨ks, t, Ts', _, ?_, ?_, ?_, joinS_le h2, hp, fun y hy => (h4 y hy).2⟩
  · rw [readB_pieces false _ (by omega), hp, readFrom_snoc]
    exact h1
  · simpa [tag] using h3
  · rw [sqzB_S, sqzB_S]
    exact sqz_Qs h2 false
end Go.Proofs.YtpalfhfbgfnacaaGreatDoor
