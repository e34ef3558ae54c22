/-
  What package columns' writer makes of texts, as words on lists; no walk here.
-/
import Derived.Test.YtpalfhfbgfnacaaGreatDoorGC
import Derived.Test.YtpalfhfbgfnacaaGreatDoorLaw2b
import Derived.Lib.AppendIntMem
namespace Go.Proofs.YtpalfhfbgfnacaaGreatDoor
open Go.RowKit
set_option linter.unusedVariables false
set_option linter.unusedSimpArgs false

/-- The number of a line, modulo 1000000, as six digits. -/
def num6 (k : Nat) : List UInt8 := (Lib.decDigits (1000000 + k % 1000000)).drop 1
def lineB (k : Nat) (head part : List UInt8) : List UInt8 := num6 k ++ head ++ part ++ [10]
theorem dec_len (d : Nat) : ∀ u, 10 ^ d ≤ u → u < 10 ^ (d + 1) → (Lib.decDigits u).length = d + 1 := by
  induction d with
  | zero => intro u _ h2; rw [Lib.decDigits, dif_pos (by simpa using h2)]; rfl
  | succ d ih =>
    intro u h1 h2
    have h10 : ¬ u < 10 := by
      have : 10 ^ 1 ≤ 10 ^ (d + 1) := Nat.pow_le_pow_right (by omega) (by omega)
      omega
    rw [Lib.decDigits, dif_neg h10, List.length_append, ih (u / 10) (by rw [Nat.pow_succ] at h1; omega) (by rw [Nat.pow_succ] at h2; omega)]
    rfl
theorem num7_len (k : Nat) : (Lib.decDigits (1000000 + k % 1000000)).length = 7 := by
  have := Nat.mod_lt k (show 0 < 1000000 by omega)
  exact dec_len 6 _ (by omega) (by omega)
theorem num6_len (k : Nat) : (num6 k).length = 6 := by unfold num6; rw [List.length_drop, num7_len]
theorem lineB_len (k : Nat) (head part : List UInt8) : (lineB k head part).length = 7 + head.length + part.length := by
  simp [lineB, num6_len]; omega

/-- The last place below k at which a text can be divided, or 0. -/
def lastHit (l : List UInt8) (ins : Bool) : Nat → Nat
  | 0 => 0
  | k + 1 => if hitAt l ins k then k else lastHit l ins k
theorem lastHit_div (l : List UInt8) (ins : Bool) : ∀ k, lastHit l ins (k + 1) = (divN l ins k).getD 0
  | 0 => by simp only [lastHit, divN]; split <;> rfl
  | k + 1 => by
    show (if hitAt l ins (k + 1) then k + 1 else lastHit l ins (k + 1)) = _
    by_cases h : hitAt l ins (k + 1) = true
    · rw [if_pos h, divN_hit l ins k h]; rfl
    · rw [if_neg h, divN_miss l ins k (by simpa using h)]; exact lastHit_div l ins k
theorem lastHit_le (l : List UInt8) (ins : Bool) : ∀ k, lastHit l ins k ≤ k - 1
  | 0 => Nat.le_refl _
  | k + 1 => by
    have := lastHit_le l ins k
    simp only [lastHit]; split <;> omega
theorem xor_eq (a b : Bool) : ((a ^^ b) = false) = (b = a) := by cases a <;> cases b <;> simp

def headAL : List UInt8 := [32]
def headBL : List UInt8 := [32, 32, 32, 32, 32]
def headML : List UInt8 := [45, 32, 32, 32, 32]
def headQL : List UInt8 := [45, 32, 32, 32, 32, 34]
/-- Where a rest that does not fit is divided: a place, and whether there is a space. -/
def cutAt (rest : List UInt8) (op : Bool) (room : Nat) : Nat × Bool :=
  if 0 < lastHit (rest.take (room + 1)) op (room + 1) then (lastHit (rest.take (room + 1)) op (room + 1), true) else (room, false)
/-- A text laid out: the bytes, and the number of the last line. -/
def layF : Nat → Nat → List UInt8 → List UInt8 → Bool → List UInt8 × Nat
  | 0, n, _, _, _ => ([], n)
  | f + 1, n, head, rest, op =>
    let room := 66 - head.length
    if rest.length ≤ room then (lineB (n + 1) head rest, n + 1)
    else
      let e := cutAt rest op room
      let op' := op ^^ openB (rest.take e.1)
      let r := if e.2 then layF f (n + 1) headBL ((rest.drop e.1).drop (fstN (rest.drop e.1))) op'
        else layF f (n + 1) (if op' then headQL else headML) (rest.drop e.1) op'
      (lineB (n + 1) head (rest.take e.1) ++ r.1, r.2)
theorem layF_last (f n : Nat) (head rest : List UInt8) (op : Bool) (h : rest.length ≤ 66 - head.length) : layF (f + 1) n head rest op = (lineB (n + 1) head rest, n + 1) := by
  simp only [layF]; rw [if_pos h]
theorem layF_space (f n : Nat) (head rest : List UInt8) (op : Bool) (e : Nat) (h : ¬ rest.length ≤ 66 - head.length) (he : cutAt rest op (66 - head.length) = (e, true)) :
    layF (f + 1) n head rest op = (lineB (n + 1) head (rest.take e) ++ (layF f (n + 1) headBL ((rest.drop e).drop (fstN (rest.drop e))) (op ^^ openB (rest.take e))).1, (layF f (n + 1) headBL ((rest.drop e).drop (fstN (rest.drop e))) (op ^^ openB (rest.take e))).2) := by
  simp only [layF]; rw [if_neg h]; simp only [he]; rfl
theorem layF_hard (f n : Nat) (head rest : List UInt8) (op : Bool) (e : Nat) (h : ¬ rest.length ≤ 66 - head.length) (he : cutAt rest op (66 - head.length) = (e, false)) (b : Bool) (hb : (op ^^ openB (rest.take e)) = b) :
    layF (f + 1) n head rest op = (lineB (n + 1) head (rest.take e) ++ (layF f (n + 1) (if b then headQL else headML) (rest.drop e) b).1, (layF f (n + 1) (if b then headQL else headML) (rest.drop e) b).2) := by
  subst hb
  simp only [layF]; rw [if_neg h]; simp only [he]; rfl
/-- Texts laid out, from a state on. -/
def layAll : List (Bool × List UInt8) → List UInt8 × Nat → List UInt8 × Nat
  | [], s => s
  | x :: L, s => layAll L (s.1 ++ (layF (x.2.length + 1) s.2 (if x.1 then headAL else headBL) x.2 false).1, (layF (x.2.length + 1) s.2 (if x.1 then headAL else headBL) x.2 false).2)
/-- The bytes that texts may take. -/
def roomL : List (Bool × List UInt8) → Nat
  | [] => 0
  | x :: L => (x.2.length + 1) * 80 + roomL L
theorem layF_bound : ∀ (f n : Nat) (head rest : List UInt8) (op : Bool), rest.length < f → 1 ≤ head.length → head.length ≤ 6 →
    (layF f n head rest op).1.length ≤ (rest.length + 1) * 80 ∧ (layF f n head rest op).2 ≤ n + rest.length + 1
  | 0, _, _, _, _, h, _, _ => by omega
  | f + 1, n, head, rest, op, hf, h1, h6 => by
    by_cases hfit : rest.length ≤ 66 - head.length
    · rw [layF_last f n head rest op hfit]
      refine ⟨?_, by show n + 1 ≤ _; omega⟩
      show (lineB (n + 1) head rest).length ≤ _
      rw [lineB_len]; omega
    · have hcl : ∀ e d, cutAt rest op (66 - head.length) = (e, d) → 1 ≤ e ∧ e ≤ rest.length := by
        intro e d he
        unfold cutAt at he
        have := lastHit_le (rest.take (66 - head.length + 1)) op (66 - head.length + 1)
        split at he
        · injection he with h1 h2; omega
        · injection he with h1 h2; omega
      rcases hc : cutAt rest op (66 - head.length) with ⟨e, d⟩
      obtain ⟨he1, he2⟩ := hcl e d hc
      have hlen := lineB_len (n + 1) head (rest.take e)
      rw [List.length_take, Nat.min_eq_left he2] at hlen
      cases d
      · rw [layF_hard f n head rest op e hfit hc _ rfl]
        have hd : (rest.drop e).length = rest.length - e := List.length_drop ..
        generalize (op ^^ openB (rest.take e)) = b
        have ih := layF_bound f (n + 1) (if b then headQL else headML) (rest.drop e) b (by omega) (by cases b <;> decide) (by cases b <;> decide)
        rw [hd] at ih
        refine ⟨?_, by show (layF _ _ _ _ _).2 ≤ _; omega⟩
        rw [List.length_append, hlen]; omega
      · rw [layF_space f n head rest op e hfit hc]
        have hd : ((rest.drop e).drop (fstN (rest.drop e))).length ≤ rest.length - e := by rw [List.length_drop, List.length_drop]; omega
        generalize (op ^^ openB (rest.take e)) = b
        have ih := layF_bound f (n + 1) headBL ((rest.drop e).drop (fstN (rest.drop e))) b (by omega) (by decide) (by decide)
        refine ⟨?_, by show (layF _ _ _ _ _).2 ≤ _; omega⟩
        rw [List.length_append, hlen]; omega
theorem layAll_step (L : List (Bool × List UInt8)) (k : Nat) (x : Bool × List UInt8) (h : L[k]? = some x) (st : List UInt8 × Nat) : layAll (L.drop k) st = layAll (L.drop (k + 1)) (st.1 ++ (layF (x.2.length + 1) st.2 (if x.1 then headAL else headBL) x.2 false).1, (layF (x.2.length + 1) st.2 (if x.1 then headAL else headBL) x.2 false).2) := by
  have hk : k < L.length := by
    rcases Nat.lt_or_ge k L.length with hk | hk
    · exact hk
    · rw [List.getElem?_eq_none hk] at h; cases h
  rw [List.drop_eq_getElem_cons hk]
  rw [List.getElem?_eq_getElem hk] at h
  injection h with h
  rw [h]; rfl
end Go.Proofs.YtpalfhfbgfnacaaGreatDoor
