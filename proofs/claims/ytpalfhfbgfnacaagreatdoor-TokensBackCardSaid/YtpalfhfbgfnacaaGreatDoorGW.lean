/-
  Texts of this seat, merged: LayS IgnL WrtL.
-/
import Derived.Test.YtpalfhfbgfnacaaGreatDoorGC
import Derived.Test.YtpalfhfbgfnacaaGreatDoorLaw2b
import Derived.Lib.AppendIntMem
import Derived.Lib.Join
import Derived.Test.YtpalfhfbgfnacaaGreatDoorRef2s
/-
  What package columns' writer makes of texts, as words on lists; no walk here.
-/
namespace Go.Proofs.YtpalfhfbgfnacaaGreatDoor
open Go.RowKit
set_option linter.unusedVariables false
set_option linter.unusedSimpArgs false

/-- The number of a line, modulo 1000000, as six digits. -/
def num6 (k : Nat) : List UInt8 := (Lib.decDigits (1000000 + k % 1000000)).drop 1
def lineB (k : Nat) (head part : List UInt8) : List UInt8 := num6 k ++ head ++ part ++ [10]
theorem dec_len (d : Nat) : ∀ u, 10 ^ d ≤ u → u < 10 ^ (d + 1) → (Lib.decDigits u).length = d + 1 := by
  induction d with
  | zero => intro u _ h2; rw [Lib.decDigits, dif_pos (by simpa using h2)]; rfl
  | succ d ih =>
    intro u h1 h2
    have h10 : ¬ u < 10 := by
      have : 10 ^ 1 ≤ 10 ^ (d + 1) := Nat.pow_le_pow_right (by omega) (by omega)
      omega
    rw [Lib.decDigits, dif_neg h10, List.length_append, ih (u / 10) (by rw [Nat.pow_succ] at h1; omega) (by rw [Nat.pow_succ] at h2; omega)]
    rfl
theorem num7_len (k : Nat) : (Lib.decDigits (1000000 + k % 1000000)).length = 7 := by
  have := Nat.mod_lt k (show 0 < 1000000 by omega)
  exact dec_len 6 _ (by omega) (by omega)
theorem num6_len (k : Nat) : (num6 k).length = 6 := by unfold num6; rw [List.length_drop, num7_len]
theorem lineB_len (k : Nat) (head part : List UInt8) : (lineB k head part).length = 7 + head.length + part.length := by
  simp [lineB, num6_len]; omega

/-- The last place below k at which a text can be divided, or 0. -/
def lastHit (l : List UInt8) (ins : Bool) : Nat → Nat
  | 0 => 0
  | k + 1 => if hitAt l ins k then k else lastHit l ins k
theorem lastHit_div (l : List UInt8) (ins : Bool) : ∀ k, lastHit l ins (k + 1) = (divN l ins k).getD 0
  | 0 => by simp only [lastHit, divN]; split <;> rfl
  | k + 1 => by
    show (if hitAt l ins (k + 1) then k + 1 else lastHit l ins (k + 1)) = _
    by_cases h : hitAt l ins (k + 1) = true
    · rw [if_pos h, divN_hit l ins k h]; rfl
    · rw [if_neg h, divN_miss l ins k (by simpa using h)]; exact lastHit_div l ins k
theorem lastHit_le (l : List UInt8) (ins : Bool) : ∀ k, lastHit l ins k ≤ k - 1
  | 0 => Nat.le_refl _
  | k + 1 => by
    have := lastHit_le l ins k
    simp only [lastHit]; split <;> omega
theorem xor_eq (a b : Bool) : ((a ^^ b) = false) = (b = a) := by cases a <;> cases b <;> simp

def headAL : List UInt8 := [32]
def headBL : List UInt8 := [32, 32, 32, 32, 32]
def headML : List UInt8 := [45, 32, 32, 32, 32]
def headQL : List UInt8 := [45, 32, 32, 32, 32, 34]
/-- Where a rest that does not fit is divided: a place, and whether there is a space. -/
def cutAt (rest : List UInt8) (op : Bool) (room : Nat) : Nat × Bool :=
  if 0 < lastHit (rest.take (room + 1)) op (room + 1) then (lastHit (rest.take (room + 1)) op (room + 1), true) else (room, false)
/-- A text laid out: the bytes, and the number of the last line. -/
def layF : Nat → Nat → List UInt8 → List UInt8 → Bool → List UInt8 × Nat
  | 0, n, _, _, _ => ([], n)
  | f + 1, n, head, rest, op =>
    let room := 66 - head.length
    if rest.length ≤ room then (lineB (n + 1) head rest, n + 1)
    else
      let e := cutAt rest op room
      let op' := op ^^ openB (rest.take e.1)
      let r := if e.2 then layF f (n + 1) headBL ((rest.drop e.1).drop (fstN (rest.drop e.1))) op'
        else layF f (n + 1) (if op' then headQL else headML) (rest.drop e.1) op'
      (lineB (n + 1) head (rest.take e.1) ++ r.1, r.2)
theorem layF_last (f n : Nat) (head rest : List UInt8) (op : Bool) (h : rest.length ≤ 66 - head.length) : layF (f + 1) n head rest op = (lineB (n + 1) head rest, n + 1) := by
  simp only [layF]; rw [if_pos h]
theorem layF_space (f n : Nat) (head rest : List UInt8) (op : Bool) (e : Nat) (h : ¬ rest.length ≤ 66 - head.length) (he : cutAt rest op (66 - head.length) = (e, true)) :
    layF (f + 1) n head rest op = (lineB (n + 1) head (rest.take e) ++ (layF f (n + 1) headBL ((rest.drop e).drop (fstN (rest.drop e))) (op ^^ openB (rest.take e))).1, (layF f (n + 1) headBL ((rest.drop e).drop (fstN (rest.drop e))) (op ^^ openB (rest.take e))).2) := by
  simp only [layF]; rw [if_neg h]; simp only [he]; rfl
theorem layF_hard (f n : Nat) (head rest : List UInt8) (op : Bool) (e : Nat) (h : ¬ rest.length ≤ 66 - head.length) (he : cutAt rest op (66 - head.length) = (e, false)) (b : Bool) (hb : (op ^^ openB (rest.take e)) = b) :
    layF (f + 1) n head rest op = (lineB (n + 1) head (rest.take e) ++ (layF f (n + 1) (if b then headQL else headML) (rest.drop e) b).1, (layF f (n + 1) (if b then headQL else headML) (rest.drop e) b).2) := by
  subst hb
  simp only [layF]; rw [if_neg h]; simp only [he]; rfl
/-- Texts laid out, from a state on. -/
def layAll : List (Bool × List UInt8) → List UInt8 × Nat → List UInt8 × Nat
  | [], s => s
  | x :: L, s => layAll L (s.1 ++ (layF (x.2.length + 1) s.2 (if x.1 then headAL else headBL) x.2 false).1, (layF (x.2.length + 1) s.2 (if x.1 then headAL else headBL) x.2 false).2)
/-- The bytes that texts may take. -/
def roomL : List (Bool × List UInt8) → Nat
  | [] => 0
  | x :: L => (x.2.length + 1) * 80 + roomL L
theorem layF_bound : ∀ (f n : Nat) (head rest : List UInt8) (op : Bool), rest.length < f → 1 ≤ head.length → head.length ≤ 6 →
    (layF f n head rest op).1.length ≤ (rest.length + 1) * 80 ∧ (layF f n head rest op).2 ≤ n + rest.length + 1
  | 0, _, _, _, _, h, _, _ => by omega
  | f + 1, n, head, rest, op, hf, h1, h6 => by
    by_cases hfit : rest.length ≤ 66 - head.length
    · rw [layF_last f n head rest op hfit]
      refine ⟨?_, by show n + 1 ≤ _; omega⟩
      show (lineB (n + 1) head rest).length ≤ _
      rw [lineB_len]; omega
    · have hcl : ∀ e d, cutAt rest op (66 - head.length) = (e, d) → 1 ≤ e ∧ e ≤ rest.length := by
        intro e d he
        unfold cutAt at he
        have := lastHit_le (rest.take (66 - head.length + 1)) op (66 - head.length + 1)
        split at he
        · injection he with h1 h2; omega
        · injection he with h1 h2; omega
      rcases hc : cutAt rest op (66 - head.length) with ⟨e, d⟩
      obtain ⟨he1, he2⟩ := hcl e d hc
      have hlen := lineB_len (n + 1) head (rest.take e)
      rw [List.length_take, Nat.min_eq_left he2] at hlen
      cases d
      · rw [layF_hard f n head rest op e hfit hc _ rfl]
        have hd : (rest.drop e).length = rest.length - e := List.length_drop ..
        generalize (op ^^ openB (rest.take e)) = b
        have ih := layF_bound f (n + 1) (if b then headQL else headML) (rest.drop e) b (by omega) (by cases b <;> decide) (by cases b <;> decide)
        rw [hd] at ih
        refine ⟨?_, by show (layF _ _ _ _ _).2 ≤ _; omega⟩
        rw [List.length_append, hlen]; omega
      · rw [layF_space f n head rest op e hfit hc]
        have hd : ((rest.drop e).drop (fstN (rest.drop e))).length ≤ rest.length - e := by rw [List.length_drop, List.length_drop]; omega
        generalize (op ^^ openB (rest.take e)) = b
        have ih := layF_bound f (n + 1) headBL ((rest.drop e).drop (fstN (rest.drop e))) b (by omega) (by decide) (by decide)
        refine ⟨?_, by show (layF _ _ _ _ _).2 ≤ _; omega⟩
        rw [List.length_append, hlen]; omega
theorem layAll_step (L : List (Bool × List UInt8)) (k : Nat) (x : Bool × List UInt8) (h : L[k]? = some x) (st : List UInt8 × Nat) : layAll (L.drop k) st = layAll (L.drop (k + 1)) (st.1 ++ (layF (x.2.length + 1) st.2 (if x.1 then headAL else headBL) x.2 false).1, (layF (x.2.length + 1) st.2 (if x.1 then headAL else headBL) x.2 false).2) := by
  have hk : k < L.length := by
    rcases Nat.lt_or_ge k L.length with hk | hk
    · exact hk
    · rw [List.getElem?_eq_none hk] at h; cases h
  rw [List.drop_eq_getElem_cons hk]
  rw [List.getElem?_eq_getElem hk] at h
  injection h with h
  rw [h]; rfl
end Go.Proofs.YtpalfhfbgfnacaaGreatDoor

/-
  Lines that change nothing but positions, on lists; no walk here.
-/
namespace Go.Proofs.YtpalfhfbgfnacaaGreatDoor
open Go.RowKit
set_option linter.unusedVariables false
set_option linter.unusedSimpArgs false

/-- A card without its marks. -/
def tk (c : Kard) : Bool × List UInt8 := (c.left, c.text)
def SameR (r1 r2 : ReadAt) : Prop := r1.done.map tk = r2.done.map tk ∧ r1.cur.map tk = r2.cur.map tk
def SameO : (Nat × Nat × Nat) ⊕ List Kard → (Nat × Nat × Nat) ⊕ List Kard → Prop
  | .inl f, .inl g => f.1 = g.1
  | .inr a, .inr b => a.map tk = b.map tk
  | _, _ => False
def SameS : (Nat × Nat × Nat) ⊕ ReadAt → (Nat × Nat × Nat) ⊕ ReadAt → Prop
  | .inl f, .inl g => f.1 = g.1
  | .inr a, .inr b => SameR a b
  | _, _ => False
def SameIs : LineIs → LineIs → Prop
  | .bad e _ _, .bad e' _ _ => e = e'
  | .off, .off => True
  | .row m t, .row m' t' => m = m' ∧ t = t'
  | _, _ => False
def SameLine (d : Bool) (s1 s2 : List UInt8) : Prop := ∀ n1 n2, SameIs (lineIs s1 n1 d) (lineIs s2 n2 d)

theorem same_put {d1 d2 : List Kard} {c1 c2 : Kard} {t : List UInt8} {n1 n2 : Nat} {b : Bool} (hd : d1.map tk = d2.map tk) (hc : tk c1 = tk c2) : SameS (putRow d1 c1 t n1 b) (putRow d2 c2 t n2 b) := by
  unfold tk at hc
  injection hc with h1 h2
  unfold putRow
  rw [h2]
  cases rpart t c2.text b with
  | inr col => exact rfl
  | inl pc =>
    obtain ⟨p, col⟩ := pc
    refine ⟨hd, ?_⟩
    show some (tk (c1.plus p n1 col)) = some (tk (c2.plus p n2 col))
    unfold tk Kard.plus
    rw [h1, h2]
theorem same_row {r1 r2 : ReadAt} (h : SameR r1 r2) (m : UInt8) (t : List UInt8) (n1 n2 : Nat) : SameS (readRow r1 m t n1) (readRow r2 m t n2) := by
  obtain ⟨hd, hc⟩ := h
  unfold readRow
  cases h1 : r1.cur with
  | none =>
    rw [h1] at hc
    cases h2 : r2.cur with
    | some c => rw [h2] at hc; cases hc
    | none =>
      split
      · exact same_put hd rfl
      · exact rfl
  | some c1 =>
    rw [h1] at hc
    cases h2 : r2.cur with
    | none => rw [h2] at hc; cases hc
    | some c2 =>
      rw [h2] at hc
      have hc' : tk c1 = tk c2 := by injection hc
      have ht : c1.text = c2.text := (Prod.mk.inj hc').2
      split
      · simp only [ht]
        split
        · exact rfl
        · exact same_put (by simp [hd, hc']) rfl
      · exact same_put hd hc'
theorem same_line {d : Bool} {r1 r2 : ReadAt} {s1 s2 : List UInt8} (h : SameR r1 r2) (hs : SameLine d s1 s2) (n1 n2 : Nat) : SameS (readLine d r1 s1 n1) (readLine d r2 s2 n2) := by
  have hx := hs n1 n2
  unfold readLine
  cases h1 : lineIs s1 n1 d <;> cases h2 : lineIs s2 n2 d <;> rw [h1, h2] at hx <;> try exact hx.elim
  · exact hx
  · exact h
  · obtain ⟨rfl, rfl⟩ := hx
    exact same_row h _ _ _ _
/-- The second list says what the first says, but for lines that do not count. -/
inductive RelL (d : Bool) : List (List UInt8) → List (List UInt8) → Prop
  | nil : RelL d [] []
  | cons {a b L M} : SameLine d a b → RelL d L M → RelL d (a :: L) (b :: M)
  | skip {x L M} : (∀ n, lineIs x n d = .off) → RelL d L M → RelL d L (x :: M)
theorem same_end {r1 r2 : ReadAt} (d : Bool) (h : SameR r1 r2) (n1 n2 : Nat) : SameO (readFrom d r1 n1 []) (readFrom d r2 n2 []) := by
  obtain ⟨hd, hc⟩ := h
  have ha : r1.all.map tk = r2.all.map tk := by
    unfold ReadAt.all
    rw [List.map_append, List.map_append, hd]
    congr 1
    cases h1 : r1.cur with
    | none =>
      rw [h1] at hc
      cases h2 : r2.cur with
      | none => rfl
      | some c => rw [h2] at hc; cases hc
    | some c1 =>
      rw [h1] at hc
      cases h2 : r2.cur with
      | none => rw [h2] at hc; cases hc
      | some c2 =>
        rw [h2] at hc
        have hc' : tk c1 = tk c2 := by injection hc
        simp [hc']
  unfold readFrom
  cases h1 : r1.cur with
  | none =>
    rw [h1] at hc
    cases h2 : r2.cur with
    | some c => rw [h2] at hc; cases hc
    | none => exact ha
  | some c1 =>
    rw [h1] at hc
    cases h2 : r2.cur with
    | none => rw [h2] at hc; cases hc
    | some c2 =>
      rw [h2] at hc
      injection hc with hc
      have ht : c1.text = c2.text := (Prod.mk.inj hc).2
      simp only [ht]
      split
      · exact rfl
      · exact ha
theorem same_from {d : Bool} {L M : List (List UInt8)} (h : RelL d L M) : ∀ (r1 r2 : ReadAt) (n1 n2 : Nat), SameR r1 r2 → SameO (readFrom d r1 n1 L) (readFrom d r2 n2 M) := by
  induction h with
  | nil => exact fun r1 r2 n1 n2 hr => same_end d hr n1 n2
  | @cons a b L M hs _ ih =>
    intro r1 r2 n1 n2 hr
    have hx := same_line hr hs (n1 + 1) (n2 + 1)
    show SameO (match readLine d r1 a (n1 + 1) with | .inl f => (.inl f : (Nat × Nat × Nat) ⊕ List Kard) | .inr r' => readFrom d r' (n1 + 1) L) (match readLine d r2 b (n2 + 1) with | .inl f => (.inl f : (Nat × Nat × Nat) ⊕ List Kard) | .inr r' => readFrom d r' (n2 + 1) M)
    cases h1 : readLine d r1 a (n1 + 1) <;> cases h2 : readLine d r2 b (n2 + 1) <;> rw [h1, h2] at hx
    · exact hx
    · exact hx.elim
    · exact hx.elim
    · exact ih _ _ _ _ hx
  | @skip x L M ho _ ih =>
    intro r1 r2 n1 n2 hr
    have e : readFrom d r2 n2 (x :: M) = readFrom d r2 (n2 + 1) M := by
      show (match readLine d r2 x (n2 + 1) with | .inl f => (.inl f : (Nat × Nat × Nat) ⊕ List Kard) | .inr r' => readFrom d r' (n2 + 1) M) = _
      unfold readLine
      rw [ho]
    rw [e]
    exact ih _ _ _ _ hr

/-! ### The pieces of what has been joined -/
def no10 (l : List UInt8) : Prop := ∀ c ∈ l, c.toNat ≠ 10
theorem pieces_part : ∀ (x cur rest : List UInt8), no10 x → piecesG cur (x ++ rest) = piecesG (cur ++ x) rest
  | [], cur, rest, _ => by simp
  | c :: x, cur, rest, h => by
    rw [List.cons_append]
    show (if c.toNat = 10 then _ else piecesG (cur ++ [c]) (x ++ rest)) = _
    rw [if_neg (h c (by simp)), pieces_part x _ rest (fun y hy => h y (by simp [hy]))]
    simp
theorem pieces_joinTail : ∀ (r : List (List UInt8)) (x : List UInt8), (∀ y ∈ r, no10 y) → piecesG x (Lib.joinTail [10] r) = x :: r
  | [], x, _ => by simp [Lib.joinTail, piecesG]
  | y :: r, x, h => by
    have e : Lib.joinTail [10] (y :: r) = 10 :: (y ++ Lib.joinTail [10] r) := by simp [Lib.joinTail]
    rw [e]
    show (if (10 : UInt8).toNat = 10 then x :: piecesG [] (y ++ Lib.joinTail [10] r) else _) = _
    rw [if_pos (by rfl), pieces_part y [] _ (h y (by simp)), List.nil_append, pieces_joinTail r y (fun z hz => h z (by simp [hz]))]
theorem pieces_join (x : List UInt8) (r : List (List UInt8)) (h : ∀ y ∈ x :: r, no10 y) : piecesG [] (Lib.join (x :: r) [10]) = x :: r := by
  rw [Lib.join_cons, pieces_part x [] _ (h x (by simp)), List.nil_append]
  exact pieces_joinTail r x (fun y hy => h y (by simp [hy]))
theorem pieces_no10 : ∀ (l cur : List UInt8), no10 cur → ∀ x ∈ piecesG cur l, no10 x
  | [], cur, hc, x, hx => by simp only [piecesG, List.mem_singleton] at hx; subst hx; exact hc
  | c :: r, cur, hc, x, hx => by
    unfold piecesG at hx
    split at hx
    · rcases List.mem_cons.1 hx with rfl | hx
      · exact hc
      · exact pieces_no10 r [] (fun y hy => by simp at hy) x hx
    · rename_i h10
      exact pieces_no10 r _ (fun y hy => by
        rcases List.mem_append.1 hy with hy | hy
        · exact hc y hy
        · simp at hy; subst hy; exact h10) x hx
theorem lineIs_nil0 (n : Nat) (d : Bool) : lineIs [] n d = .off := by cases d <;> rfl
theorem readFrom_snoc (d : Bool) : ∀ (L : List (List UInt8)) (r : ReadAt) (k : Nat), readFrom d r k (L ++ [[]]) = readFrom d r k L
  | [], r, k => by
    show (match readLine d r [] (k + 1) with | .inl f => (.inl f : (Nat × Nat × Nat) ⊕ List Kard) | .inr r' => readFrom d r' (k + 1) []) = _
    unfold readLine
    rw [lineIs_nil0]
    rfl
  | s :: L, r, k => by
    show (match readLine d r s (k + 1) with | .inl f => (.inl f : (Nat × Nat × Nat) ⊕ List Kard) | .inr r' => readFrom d r' (k + 1) (L ++ [[]])) = (match readLine d r s (k + 1) with | .inl f => (.inl f : (Nat × Nat × Nat) ⊕ List Kard) | .inr r' => readFrom d r' (k + 1) L)
    split
    · rfl
    · exact readFrom_snoc d L _ _
theorem readB_pieces (d : Bool) (text : List UInt8) (h : text.length ≤ 1048576) : readB text d = readFrom d ⟨[], none, (0, 0)⟩ 0 (piecesG [] text) := by
  unfold readB
  rw [if_neg (by omega)]
  rcases pieces_lines text [] with e | e
  · rw [e]; rfl
  · rw [e, readFrom_snoc]; rfl
theorem line_bad_ne {s : List UInt8} {n : Nat} {d : Bool} {e l c : Nat} (h : lineIs s n d = .bad e l c) : e ≠ 0 := by
  have := lineIs_says s n d
  rw [h] at this
  exact this.2
theorem readFrom_ne (d : Bool) : ∀ (L : List (List UInt8)) (r : ReadAt) (k : Nat) (f : Nat × Nat × Nat), readFrom d r k L = .inl f → f.1 ≠ 0
  | [], r, k, f, h => by
    unfold readFrom at h
    split at h
    · split at h
      · injection h with h; subst h; exact fun h => by cases h
      · cases h
    · cases h
  | s :: L, r, k, f, h => by
    change (match readLine d r s (k + 1) with | .inl f => (.inl f : (Nat × Nat × Nat) ⊕ List Kard) | .inr r' => readFrom d r' (k + 1) L) = _ at h
    split at h
    · rename_i g hg
      injection h with h
      subst h
      unfold readLine at hg
      split at hg
      · rename_i hb
        injection hg with hg; subst hg; exact line_bad_ne hb
      · cases hg
      · unfold readRow putRow at hg
        repeat' split at hg
        all_goals first | (injection hg; done) | (injection hg with hg; subst hg; simp)
    · exact readFrom_ne d L _ _ f h
theorem readB_ne {text : List UInt8} {d : Bool} {f : Nat × Nat × Nat} (h : readB text d = .inl f) : f.1 ≠ 0 := by
  unfold readB at h
  split at h
  · injection h with h; subst h; exact fun h => by cases h
  · exact readFrom_ne d _ _ _ f h

/-! ### The law's change of a line -/
def plainB (l : List UInt8) : Bool := l.all prtB
def edgeL (edge s : List UInt8) : List UInt8 := (edge ++ List.replicate 6 32).take 6 ++ s.drop 6 ++ List.replicate (72 - s.length) 32 ++ edge
def canX (edge s : List UInt8) : Bool := decide (7 ≤ s.length) && decide (s.length ≤ 72) && plainB (s.take 6) && plainB edge
def lineX (edge s : List UInt8) : List UInt8 := if canX edge s = true then edgeL edge s else s
theorem sameIs_refl (a : List UInt8) (n1 n2 : Nat) (d : Bool) : SameIs (lineIs a n1 d) (lineIs a n2 d) := by
  unfold lineIs
  repeat' split
  all_goals first | exact rfl | exact trivial | exact ⟨rfl, rfl⟩
theorem edge_six (edge : List UInt8) : ((edge ++ List.replicate 6 (32 : UInt8)).take 6).length = 6 := by simp
theorem edgeL_length (edge s : List UInt8) (h1 : 7 ≤ s.length) (h2 : s.length ≤ 72) : (edgeL edge s).length = 72 + edge.length := by
  unfold edgeL
  rw [List.length_append, List.length_append, List.length_append, edge_six, List.length_drop, List.length_replicate]
  omega
theorem firstI_iff (p : UInt8 → Bool) (l : List UInt8) : 0 ≤ firstI p 0 l ↔ l.all (fun c => !p c) = false := by
  constructor
  · intro h
    cases hh : l.all (fun c => !p c)
    · rfl
    · have := firstI_none p l 0 hh; omega
  · exact fun h => firstI_some p l 0 h
theorem same_edge (edge s : List UInt8) (he : edge.length ≤ 6) (hc : canX edge s = true) : SameLine false s (edgeL edge s) := by
  unfold canX at hc
  simp only [Bool.and_eq_true, decide_eq_true_eq] at hc
  obtain ⟨⟨⟨h1, h2⟩, h3⟩, h4⟩ := hc
  have hl := edgeL_length edge s h1 h2
  have hsix := edge_six edge
  have hm : markOf (edgeL edge s) = markOf s := by
    rw [markOf_getD, markOf_getD]
    unfold edgeL
    have e1 : (((edge ++ List.replicate 6 (32 : UInt8)).take 6 ++ s.drop 6 ++ List.replicate (72 - s.length) 32 ++ edge))[6]? = s[6]? := by
      rw [List.append_assoc, List.append_assoc, List.getElem?_append_right (by omega), hsix, List.getElem?_append_left (by rw [List.length_drop]; omega), List.getElem?_drop]
    simp only [List.getD, e1]
  have ht : textOf (edgeL edge s) = textOf s := by
    have ha : areasB s = s.drop 7 := by unfold areasB; rw [List.take_of_length_le h2]
    have hal := areasB_length (edgeL edge s)
    rw [textOf_areas, textOf_areas, ha]
    have e2 : areasB (edgeL edge s) = s.drop 7 ++ List.replicate (72 - s.length) 32 := by
      have e3 : (edgeL edge s).take 72 = (edge ++ List.replicate 6 (32 : UInt8)).take 6 ++ s.drop 6 ++ List.replicate (72 - s.length) 32 := by
        unfold edgeL
        rw [List.take_append_of_le_length (by rw [List.length_append, List.length_append, hsix, List.length_drop, List.length_replicate]; omega)]
        rw [List.take_of_length_le (by rw [List.length_append, List.length_append, hsix, List.length_drop, List.length_replicate]; omega)]
      unfold areasB
      rw [e3, List.append_assoc, List.drop_append, hsix, List.drop_eq_nil_of_le (by omega), List.nil_append, show 7 - 6 = 1 from rfl, List.drop_append_of_le_length (by rw [List.length_drop]; omega), List.drop_drop]
    rw [e2, List.append_assoc]
    congr 1
    rw [List.replicate_append_replicate]
    congr 1
    rw [List.length_append, List.length_drop, List.length_replicate]
    omega
  have hp : (0 ≤ firstI (fun c => !prtB c) 0 (edgeL edge s)) ↔ (0 ≤ firstI (fun c => !prtB c) 0 s) := by
    rw [firstI_iff, firstI_iff]
    have e0 : s.all (fun c => !!prtB c) = ((s.take 6).all (fun c => !!prtB c) && (s.drop 6).all (fun c => !!prtB c)) := by rw [← List.all_append, List.take_append_drop]
    have e1 : (edgeL edge s).all (fun c => !!prtB c) = (s.drop 6).all (fun c => !!prtB c) := by
      unfold edgeL
      have a1 : ((edge ++ List.replicate 6 (32 : UInt8)).take 6).all (fun c => !!prtB c) = true := by
        rw [List.all_eq_true]
        intro c hc
        rcases List.mem_append.1 (List.mem_of_mem_take hc) with hc | hc
        · rw [Bool.not_not]; exact List.all_eq_true.1 h4 c hc
        · rw [List.eq_of_mem_replicate hc]; rfl
      have a2 : (List.replicate (72 - s.length) (32 : UInt8)).all (fun c => !!prtB c) = true := by
        rw [List.all_eq_true]
        intro c hc
        rw [List.eq_of_mem_replicate hc]; rfl
      have a3 : edge.all (fun c => !!prtB c) = true := by
        rw [List.all_eq_true]
        intro c hc
        rw [Bool.not_not]; exact List.all_eq_true.1 h4 c hc
      rw [List.all_append, List.all_append, List.all_append, a1, a2, a3]
      simp
    have a4 : (s.take 6).all (fun c => !!prtB c) = true := by
      rw [List.all_eq_true]
      intro c hc
      rw [Bool.not_not]; exact List.all_eq_true.1 h3 c hc
    rw [e0, e1, a4, Bool.true_and]
  intro n1 n2
  unfold lineIs
  rw [if_neg (show ¬ 80 < s.length by omega), if_neg (show ¬ 80 < (edgeL edge s).length by omega), hm, ht]
  by_cases hb : 0 ≤ firstI (fun c => !prtB c) 0 s
  · rw [if_pos hb, if_pos (hp.2 hb)]; exact rfl
  rw [if_neg hb, if_neg (fun h => hb (hp.1 h))]
  repeat' split
  all_goals first | exact rfl | exact trivial | exact ⟨rfl, rfl⟩
theorem same_lineX (edge s : List UInt8) (he : edge.length ≤ 6) : SameLine false s (lineX edge s) := by
  unfold lineX
  split
  · exact same_edge edge s he ‹_›
  · exact fun n1 n2 => sameIs_refl _ _ _ _
/-- The law's lines: one is put in ahead of line k. -/
def withX (edge more : List UInt8) (k : Nat) (L : List (List UInt8)) : List (List UInt8) := (L.take k).map (lineX edge) ++ more :: (L.drop k).map (lineX edge)
theorem relL_map (edge : List UInt8) (he : edge.length ≤ 6) : ∀ L, RelL false L (L.map (lineX edge))
  | [] => .nil
  | a :: L => .cons (same_lineX edge a he) (relL_map edge he L)
theorem relL_app {d : Bool} {A B C D : List (List UInt8)} (h : RelL d A B) (h2 : RelL d C D) : RelL d (A ++ C) (B ++ D) := by
  induction h with
  | nil => exact h2
  | cons a _ ih => exact .cons a ih
  | skip a _ ih => exact .skip a ih
theorem relL_with (edge more : List UInt8) (he : edge.length ≤ 6) (hm : ∀ n, lineIs more n false = .off) (k : Nat) (L : List (List UInt8)) : RelL false L (withX edge more k L) := by
  have := relL_app (relL_map edge he (L.take k)) (.skip hm (relL_map edge he (L.drop k)))
  rw [List.take_append_drop] at this
  exact this
theorem lineX_no10 (edge s : List UInt8) (h : no10 s) : no10 (lineX edge s) := by
  unfold lineX
  split
  · rename_i hc
    unfold canX at hc
    simp only [Bool.and_eq_true, decide_eq_true_eq] at hc
    have h4 := hc.2
    have hp : ∀ c, prtB c = true → c.toNat ≠ 10 := fun c hc => by unfold prtB at hc; simp at hc; omega
    unfold edgeL
    intro c hc'
    rcases List.mem_append.1 hc' with hc' | hc'
    · rcases List.mem_append.1 hc' with hc' | hc'
      · rcases List.mem_append.1 hc' with hc' | hc'
        · rcases List.mem_append.1 (List.mem_of_mem_take hc') with hc' | hc'
          · exact hp c (List.all_eq_true.1 h4 c hc')
          · rw [List.eq_of_mem_replicate hc']; decide
        · exact h c (List.mem_of_mem_drop hc')
      · rw [List.eq_of_mem_replicate hc']; decide
    · exact hp c (List.all_eq_true.1 h4 c hc')
  · exact h
theorem lineX_le (edge s : List UInt8) (he : edge.length ≤ 6) : (lineX edge s).length ≤ s.length + 78 := by
  unfold lineX
  split
  · rename_i hc
    unfold canX at hc
    simp only [Bool.and_eq_true, decide_eq_true_eq] at hc
    rw [edgeL_length edge s hc.1.1.1 hc.1.1.2]
    omega
  · omega
/-- The sum of the lengths. -/
def sumN : List (List UInt8) → Nat
  | [] => 0
  | x :: r => x.length + 1 + sumN r
theorem sumN_append : ∀ a b, sumN (a ++ b) = sumN a + sumN b
  | [], b => by simp [sumN]
  | x :: a, b => by simp [sumN, sumN_append a b]; omega
theorem sumN_map (edge : List UInt8) (he : edge.length ≤ 6) : ∀ L, sumN (L.map (lineX edge)) ≤ sumN L + 78 * L.length
  | [] => by simp [sumN]
  | x :: L => by
    have h1 := sumN_map edge he L
    have h2 := lineX_le edge x he
    simp only [List.map_cons, sumN, List.length_cons]
    omega
theorem sumN_pieces : ∀ (l cur : List UInt8), sumN (piecesG cur l) = cur.length + l.length + 1
  | [], cur => by simp [piecesG, sumN]
  | c :: r, cur => by
    unfold piecesG
    split
    · simp only [sumN, List.length_cons]
      rw [sumN_pieces r []]
      simp; omega
    · rw [sumN_pieces r _]
      simp; omega
theorem pieces_count : ∀ (l cur : List UInt8), (piecesG cur l).length ≤ l.length + 1
  | [], cur => by simp [piecesG]
  | c :: r, cur => by
    unfold piecesG
    split
    · have := pieces_count r []; simp; omega
    · have := pieces_count r (cur ++ [c]); simp; omega
theorem join_sum (x : List UInt8) : ∀ r, (Lib.join (x :: r) [10]).length + 1 = sumN (x :: r) := by
  intro r
  rw [Lib.join_cons, List.length_append]
  simp only [sumN]
  have : ∀ r : List (List UInt8), (Lib.joinTail [10] r).length = sumN r := by
    intro r
    induction r with
    | nil => simp [Lib.joinTail, sumN]
    | cons y r ih =>
      have e : Lib.joinTail [10] (y :: r) = 10 :: (y ++ Lib.joinTail [10] r) := by simp [Lib.joinTail]
      rw [e]; simp [sumN, ih]; omega
  rw [this]; omega
theorem withX_cons (edge more : List UInt8) (k : Nat) (L : List (List UInt8)) : ∃ x r, withX edge more k L = x :: r := by
  unfold withX
  cases (L.take k).map (lineX edge) with
  | nil => exact ⟨_, _, rfl⟩
  | cons y r => exact ⟨_, _, rfl⟩
theorem withX_sum (edge more : List UInt8) (he : edge.length ≤ 6) (k : Nat) (L : List (List UInt8)) : sumN (withX edge more k L) ≤ sumN L + 78 * L.length + more.length + 1 := by
  have h1 := sumN_map edge he (L.take k)
  have h2 := sumN_map edge he (L.drop k)
  have h3 : sumN L = sumN (L.take k) + sumN (L.drop k) := by rw [← sumN_append, List.take_append_drop]
  have h4 : L.length = (L.take k).length + (L.drop k).length := by rw [← List.length_append, List.take_append_drop]
  unfold withX
  rw [sumN_append]
  simp only [sumN]
  omega
theorem ign_same (text edge more : List UInt8) (k : Nat) (ht : text.length ≤ 2000) (he : edge.length ≤ 6) (hm : ∀ n, lineIs more n false = .off) (hm10 : no10 more) (hml : more.length ≤ 80) :
    SameO (readB text false) (readB (Lib.join (withX edge more k (piecesG [] text)) [10]) false) := by
  obtain ⟨x, r, hx⟩ := withX_cons edge more k (piecesG [] text)
  have hs := withX_sum edge more he k (piecesG [] text)
  have h1 := sumN_pieces text []
  have h2 := pieces_count text []
  have hj := join_sum x r
  rw [← hx] at hj
  have h10 : ∀ y ∈ withX edge more k (piecesG [] text), no10 y := by
    have hp := pieces_no10 text [] (fun y hy => by simp at hy)
    intro y hy
    unfold withX at hy
    rcases List.mem_append.1 hy with hy | hy
    · obtain ⟨z, hz, rfl⟩ := List.mem_map.1 hy
      exact lineX_no10 edge z (hp z (List.mem_of_mem_take hz))
    · rcases List.mem_cons.1 hy with rfl | hy
      · exact hm10
      · obtain ⟨z, hz, rfl⟩ := List.mem_map.1 hy
        exact lineX_no10 edge z (hp z (List.mem_of_mem_drop hz))
  rw [readB_pieces false text (by omega), readB_pieces false _ (by simp at h1; omega)]
  rw [hx] at h10 ⊢
  rw [pieces_join x r h10, ← hx]
  exact same_from (relL_with edge more he hm k _) _ _ _ _ ⟨rfl, rfl⟩
/-- The ignored lines of the law. -/
def moreL (j : Nat) : List UInt8 :=
  match j with
  | 0 => []
  | 1 => List.replicate 6 32 ++ [42, 34]
  | 2 => List.replicate 6 32 ++ [47, 97, 110, 121, 116, 104, 105, 110, 103]
  | 3 => List.replicate 6 32 ++ [68, 32, 32, 32, 32, 88]
  | 4 => List.replicate 6 32 ++ [100, 88]
  | 5 => List.replicate 80 32
  | 6 => [49, 50, 51, 52, 53, 54]
  | _ => List.replicate 6 32 ++ [45]
theorem moreL_ok (j : Nat) (hj : j < 8) : (∀ n, lineIs (moreL j) n false = .off) ∧ no10 (moreL j) ∧ (moreL j).length ≤ 80 := by
  match j, hj with
  | 0, _ => exact ⟨fun n => by rfl, by unfold no10; decide, by decide⟩
  | 1, _ => exact ⟨fun n => by rfl, by unfold no10; decide, by decide⟩
  | 2, _ => exact ⟨fun n => by rfl, by unfold no10; decide, by decide⟩
  | 3, _ => exact ⟨fun n => by rfl, by unfold no10; decide, by decide⟩
  | 4, _ => exact ⟨fun n => by rfl, by unfold no10; decide, by decide⟩
  | 5, _ => exact ⟨fun n => by rfl, by unfold no10; decide, by decide⟩
  | 6, _ => exact ⟨fun n => by rfl, by unfold no10; decide, by decide⟩
  | 7, _ => exact ⟨fun n => by rfl, by unfold no10; decide, by decide⟩
end Go.Proofs.YtpalfhfbgfnacaaGreatDoor

/-
  What the reader says of what the writer has laid out, on lists; no walk here.
-/
namespace Go.Proofs.YtpalfhfbgfnacaaGreatDoor
open Go.RowKit
set_option linter.unusedVariables false
set_option linter.unusedSimpArgs false

/-! ### The lines -/
def rawB (k : Nat) (head part : List UInt8) : List UInt8 := num6 k ++ head ++ part
theorem lineB_raw (k : Nat) (head part : List UInt8) : lineB k head part = rawB k head part ++ [10] := rfl
theorem rawB_len (k : Nat) (head part : List UInt8) : (rawB k head part).length = 6 + head.length + part.length := by simp [rawB, num6_len]; omega
def layLs : Nat → Nat → List UInt8 → List UInt8 → Bool → List (List UInt8)
  | 0, _, _, _, _ => []
  | f + 1, n, head, rest, op =>
    if rest.length ≤ 66 - head.length then [rawB (n + 1) head rest]
    else rawB (n + 1) head (rest.take (cutAt rest op (66 - head.length)).1) ::
      (if (cutAt rest op (66 - head.length)).2 then layLs f (n + 1) headBL ((rest.drop (cutAt rest op (66 - head.length)).1).drop (fstN (rest.drop (cutAt rest op (66 - head.length)).1))) (op ^^ openB (rest.take (cutAt rest op (66 - head.length)).1))
        else layLs f (n + 1) (if (op ^^ openB (rest.take (cutAt rest op (66 - head.length)).1)) then headQL else headML) (rest.drop (cutAt rest op (66 - head.length)).1) (op ^^ openB (rest.take (cutAt rest op (66 - head.length)).1)))
def flatL (L : List (List UInt8)) : List UInt8 := L.flatMap fun x => x ++ [10]
theorem layF_lines : ∀ (f n : Nat) (head rest : List UInt8) (op : Bool), (layF f n head rest op).1 = flatL (layLs f n head rest op)
  | 0, _, _, _, _ => rfl
  | f + 1, n, head, rest, op => by
    unfold layLs
    by_cases h : rest.length ≤ 66 - head.length
    · rw [layF_last f n head rest op h, if_pos h]; simp [flatL, lineB_raw]
    · rw [if_neg h]
      rcases hc : cutAt rest op (66 - head.length) with ⟨e, d⟩
      cases d
      · rw [layF_hard f n head rest op e h hc _ rfl]
        simp only [Bool.false_eq_true, if_false]
        rw [layF_lines f]
        simp [flatL, lineB_raw]
      · rw [layF_space f n head rest op e h hc]
        simp only [if_true]
        rw [layF_lines f]
        simp [flatL, lineB_raw]
theorem pieces_flat : ∀ L : List (List UInt8), (∀ y ∈ L, no10 y) → piecesG [] (flatL L) = L ++ [[]]
  | [], _ => rfl
  | x :: L, h => by
    have e : flatL (x :: L) = x ++ 10 :: flatL L := by simp [flatL]
    rw [e, pieces_part x [] _ (h x (by simp)), List.nil_append]
    show (if (10 : UInt8).toNat = 10 then x :: piecesG [] (flatL L) else _) = _
    rw [if_pos (by rfl), pieces_flat L (fun y hy => h y (by simp [hy]))]
    rfl
theorem dec_all : ∀ u, ∀ c ∈ Lib.decDigits u, prtB c = true := by
  intro u
  induction u using Nat.strongRecOn with
  | ind u ih =>
    intro c hc
    rw [Lib.decDigits] at hc
    split at hc
    · rename_i h
      have h10 : u < 10 := h
      simp at hc
      subst hc
      unfold prtB
      have : u = 0 ∨ u = 1 ∨ u = 2 ∨ u = 3 ∨ u = 4 ∨ u = 5 ∨ u = 6 ∨ u = 7 ∨ u = 8 ∨ u = 9 := by omega
      rcases this with rfl | rfl | rfl | rfl | rfl | rfl | rfl | rfl | rfl | rfl <;> decide
    · rcases List.mem_append.1 hc with hc | hc
      · exact ih _ (by omega) c hc
      · simp at hc
        subst hc
        have h10 : u % 10 < 10 := Nat.mod_lt _ (by omega)
        generalize u % 10 = v at *
        unfold prtB
        have : v = 0 ∨ v = 1 ∨ v = 2 ∨ v = 3 ∨ v = 4 ∨ v = 5 ∨ v = 6 ∨ v = 7 ∨ v = 8 ∨ v = 9 := by omega
        rcases this with rfl | rfl | rfl | rfl | rfl | rfl | rfl | rfl | rfl | rfl <;> decide
theorem num6_prt (k : Nat) : ∀ c ∈ num6 k, prtB c = true := fun c hc => dec_all _ c (List.mem_of_mem_drop hc)
/-- What may stand in front of a part. -/
def isHead (h : List UInt8) : Prop := h = headAL ∨ h = headBL ∨ h = headML ∨ h = headQL
theorem head_prt {h : List UInt8} (hh : isHead h) : ∀ c ∈ h, prtB c = true := by
  rcases hh with rfl | rfl | rfl | rfl <;> decide
theorem head_len {h : List UInt8} (hh : isHead h) : 1 ≤ h.length ∧ h.length ≤ 6 := by
  rcases hh with rfl | rfl | rfl | rfl <;> decide
theorem rawB_prt {k : Nat} {head part : List UInt8} (hh : isHead head) (hp : part.all prtB = true) : ∀ c ∈ rawB k head part, prtB c = true := fun c hc => by
  unfold rawB at hc
  rcases List.mem_append.1 hc with hc | hc
  · rcases List.mem_append.1 hc with hc | hc
    · exact num6_prt k c hc
    · exact head_prt hh c hc
  · exact List.all_eq_true.1 hp c hc
theorem rawB_no10 {k : Nat} {head part : List UInt8} (hh : isHead head) (hp : part.all prtB = true) : no10 (rawB k head part) := fun c hc => by
  have := rawB_prt hh hp c hc
  unfold prtB at this; simp at this; omega
theorem rawB_text {k : Nat} {head part : List UInt8} (hh : isHead head) (hl : head.length + part.length ≤ 66) : textOf (rawB k head part) = head.drop 1 ++ part ++ List.replicate (66 - head.length - part.length) 32 := by
  have h1 := rawB_len k head part
  have h6 := num6_len k
  have h2 := head_len hh
  have ha : areasB (rawB k head part) = head.drop 1 ++ part := by
    unfold areasB
    rw [List.take_of_length_le (by omega)]
    unfold rawB
    rw [List.append_assoc, List.drop_append, h6, List.drop_eq_nil_of_le (by omega), List.nil_append, List.drop_append_of_le_length (by omega)]
  rw [textOf_areas, ha]
  congr 2
  rw [List.length_append, List.length_drop]; omega
theorem rawB_mark {k : Nat} {head part : List UInt8} (hh : isHead head) : markOf (rawB k head part) = head.getD 0 32 := by
  have h6 := num6_len k
  have h2 := head_len hh
  rw [markOf_getD]
  unfold rawB
  have e : (num6 k ++ head ++ part)[6]? = head[0]? := by
    rw [List.append_assoc, List.getElem?_append_right (by omega), h6, Nat.sub_self, List.getElem?_append_left (by omega)]
  simp only [List.getD, e]
theorem all_first {l : List UInt8} (h : ∀ c ∈ l, prtB c = true) : ¬ 0 ≤ firstI (fun c => !prtB c) 0 l := by
  rw [firstI_iff]
  have : l.all (fun c => !!prtB c) = true := by
    rw [List.all_eq_true]
    intro c hc
    rw [h c hc]; rfl
  rw [this]; decide
/-- A part that may stand behind a head. -/
structure PartOK (head part : List UInt8) : Prop where
  ne : part ≠ []
  prt : part.all prtB = true
  len : head.length + part.length ≤ 66
  fst : head ≠ headQL → fstN part = 0
theorem fst_zero {l : List UInt8} (h : fstN l = 0) (hn : l ≠ []) : ∃ c r, l = c :: r ∧ c.toNat ≠ 32 := by
  cases l with
  | nil => exact absurd rfl hn
  | cons c r =>
    refine ⟨c, r, rfl, fun e => ?_⟩
    simp only [fstN] at h
    rw [if_pos e] at h; omega
theorem fst_app {c : UInt8} {r x : List UInt8} (hc : c.toNat ≠ 32) : fstN (c :: r ++ x) = 0 := by
  simp only [List.cons_append, fstN]; rw [if_neg hc]
theorem rawB_fst {k : Nat} {head part : List UInt8} (hh : isHead head) (hp : PartOK head part) : fstN (textOf (rawB k head part)) = if head = headAL then 0 else 4 := by
  rw [rawB_text hh hp.len]
  rcases hh with rfl | rfl | rfl | rfl
  · obtain ⟨c, r, rfl, hc⟩ := fst_zero (hp.fst (by decide)) hp.ne
    rw [if_pos rfl]
    exact fst_app hc
  · obtain ⟨c, r, rfl, hc⟩ := fst_zero (hp.fst (by decide)) hp.ne
    rw [if_neg (by decide)]
    show fstN ((32 : UInt8) :: 32 :: 32 :: 32 :: (c :: r ++ List.replicate _ 32)) = 4
    simp [fstN, hc]
  · obtain ⟨c, r, rfl, hc⟩ := fst_zero (hp.fst (by decide)) hp.ne
    rw [if_neg (by decide)]
    show fstN ((32 : UInt8) :: 32 :: 32 :: 32 :: (c :: r ++ List.replicate _ 32)) = 4
    simp [fstN, hc]
  · rw [if_neg (by decide)]
    show fstN ((32 : UInt8) :: 32 :: 32 :: 32 :: 34 :: (part ++ List.replicate _ 32)) = 4
    simp [fstN]
theorem rawB_is {k n : Nat} {head part : List UInt8} (hh : isHead head) (hp : PartOK head part) : lineIs (rawB k head part) n false = .row (head.getD 0 32) (textOf (rawB k head part)) := by
  have h1 := rawB_len k head part
  have h2 := hp.len
  have h3 := rawB_fst (k := k) hh hp
  have h4 : fstN (textOf (rawB k head part)) < 65 := by rw [h3]; split <;> omega
  unfold lineIs
  rw [if_neg (by omega), if_neg (all_first (rawB_prt hh hp.prt)), rawB_mark hh]
  rcases hh with rfl | rfl | rfl | rfl
  · rw [if_neg (by decide), if_neg (by decide), if_neg (by decide), if_pos h4]
  · rw [if_neg (by decide), if_neg (by decide), if_neg (by decide), if_pos h4]
  · rw [if_neg (by decide), if_neg (by decide), if_neg (by decide), if_pos h4]
  · rw [if_neg (by decide), if_neg (by decide), if_neg (by decide), if_pos h4]
def padN (head part : List UInt8) : List UInt8 := part ++ List.replicate (66 - head.length - part.length) 32
/-- A line that begins a card. -/
theorem read_S {r : ReadAt} (hr : ∀ c, r.cur = some c → openB c.text = false) {head part : List UInt8} (hh : head = headAL ∨ head = headBL) (hp : PartOK head part) (n k : Nat) :
    ∃ c' pos, readLine false r (rawB n head part) k = .inr ⟨r.all, some c', pos⟩ ∧ tk c' = (decide (head = headAL), [] ++ tailB (padN head part) []) := by
  have hH : isHead head := by rcases hh with rfl | rfl <;> simp [isHead]
  have h3 := rawB_fst (k := n) hH hp
  have ht := rawB_text (k := n) hH hp.len
  have hm : (head.getD 0 32).toNat = 32 := by rcases hh with rfl | rfl <;> rfl
  have hd : (textOf (rawB n head part)).drop (fstN (textOf (rawB n head part))) = padN head part := by
    rw [h3, ht]
    rcases hh with rfl | rfl
    · rfl
    · rfl
  have hl : decide (fstN (textOf (rawB n head part)) < 4) = decide (head = headAL) := by
    rw [h3]
    rcases hh with rfl | rfl <;> rfl
  have hput : ∀ done, putRow done ⟨decide (fstN (textOf (rawB n head part)) < 4), [], []⟩ (textOf (rawB n head part)) k true = .inr ⟨done, some ((⟨decide (head = headAL), [], []⟩ : Kard).plus (tailB (padN head part) []) k (fstN (textOf (rawB n head part)) + 8)), (k, fstN (textOf (rawB n head part)) + 8)⟩ := by
    intro done
    unfold putRow rpart
    rw [if_pos rfl, hd, hl]
  refine ⟨(⟨decide (head = headAL), [], []⟩ : Kard).plus (tailB (padN head part) []) k (fstN (textOf (rawB n head part)) + 8), (k, fstN (textOf (rawB n head part)) + 8), ?_, rfl⟩
  unfold readLine
  rw [rawB_is hH hp]
  show readRow r (head.getD 0 32) (textOf (rawB n head part)) k = _
  unfold readRow
  rw [if_pos hm]
  unfold ReadAt.all
  cases hc : r.cur with
  | none => simp only [hput]; simp
  | some c => simp only [hr c hc, hput]; simp
/-- A line that continues a card. -/
theorem read_C {r : ReadAt} {c : Kard} (hr : r.cur = some c) {head part : List UInt8} (hh : (head = headML ∧ openB c.text = false) ∨ (head = headQL ∧ openB c.text = true)) (hp : PartOK head part) (n k : Nat) :
    ∃ c' pos, readLine false r (rawB n head part) k = .inr ⟨r.done, some c', pos⟩ ∧ tk c' = (c.left, c.text ++ tailB (padN head part) c.text) := by
  have hH : isHead head := by rcases hh with ⟨rfl, _⟩ | ⟨rfl, _⟩ <;> simp [isHead]
  have h3 := rawB_fst (k := n) hH hp
  have ht := rawB_text (k := n) hH hp.len
  have hm : ¬ (head.getD 0 32).toNat = 32 := by rcases hh with ⟨rfl, _⟩ | ⟨rfl, _⟩ <;> decide
  have h4 : fstN (textOf (rawB n head part)) = 4 := by
    rw [h3]; rcases hh with ⟨rfl, _⟩ | ⟨rfl, _⟩ <;> rfl
  have hrow : readLine false r (rawB n head part) k = putRow r.done c (textOf (rawB n head part)) k false := by
    unfold readLine
    rw [rawB_is hH hp]
    show readRow r (head.getD 0 32) (textOf (rawB n head part)) k = _
    unfold readRow
    rw [if_neg hm, hr]
  rw [hrow]
  unfold putRow rpart
  rw [if_neg (by decide), h4]
  rcases hh with ⟨rfl, ho⟩ | ⟨rfl, ho⟩
  · rw [if_neg (by rw [ho]; simp), if_neg (by rw [ho]; simp)]
    have hd : (textOf (rawB n headML part)).drop 4 = padN headML part := by rw [ht]; rfl
    rw [hd]
    exact ⟨_, _, rfl, rfl⟩
  · have hq : ((textOf (rawB n headQL part)).getD 4 0).toNat = 34 := by rw [ht]; rfl
    rw [if_neg (by rw [hq]; simp), if_pos ho]
    have hd : (textOf (rawB n headQL part)).drop (4 + 1) = padN headQL part := by rw [ht]; rfl
    rw [hd]
    exact ⟨_, _, rfl, rfl⟩

/-! ### Where a rest is divided -/
theorem lastHit_hit (l : List UInt8) (ins : Bool) : ∀ k, 0 < lastHit l ins k → hitAt l ins (lastHit l ins k) = true ∧ lastHit l ins k < k
  | 0, h => by simp [lastHit] at h
  | k + 1, h => by
    simp only [lastHit] at h ⊢
    by_cases hh : hitAt l ins k = true
    · rw [if_pos hh] at h ⊢; exact ⟨hh, by omega⟩
    · rw [if_neg hh] at h ⊢
      have := lastHit_hit l ins k h
      exact ⟨this.1, by omega⟩
theorem lastHit_zero (l : List UInt8) (ins : Bool) : ∀ k, lastHit l ins k = 0 → ∀ j, 1 ≤ j → j < k → hitAt l ins j = false
  | 0, _, j, _, h => by omega
  | k + 1, h, j, h1, h2 => by
    simp only [lastHit] at h
    by_cases hh : hitAt l ins k = true
    · rw [if_pos hh] at h; omega
    · rw [if_neg hh] at h
      by_cases e : j = k
      · subst e; simpa using hh
      · exact lastHit_zero l ins k h j h1 (by omega)
theorem hitAt_take (rest : List UInt8) (op : Bool) (room e : Nat) (he : e ≤ room) : hitAt (rest.take (room + 1)) op e = hitAt rest op e := by
  unfold hitAt
  rw [List.getElem?_take, if_pos (by omega), List.take_take, Nat.min_eq_left (by omega)]
theorem cut_space {rest : List UInt8} {op : Bool} {room e : Nat} (h : cutAt rest op room = (e, true)) : 1 ≤ e ∧ e ≤ room ∧ (∃ c, rest[e]? = some c ∧ c.toNat = 32) ∧ openB (rest.take e) = op := by
  unfold cutAt at h
  split at h
  · rename_i hp
    injection h with h1 h2
    have hh := lastHit_hit _ op (room + 1) hp
    rw [h1] at hh hp
    rw [hitAt_take _ _ _ _ (by omega)] at hh
    obtain ⟨h3, h4⟩ := hh
    unfold hitAt at h3
    cases hg : rest[e]? with
    | none => rw [hg] at h3; simp at h3
    | some c =>
      rw [hg] at h3
      simp at h3
      exact ⟨hp, by omega, ⟨c, rfl, h3.1⟩, h3.2⟩
  · injection h with h1 h2; cases h2
theorem cut_hard {rest : List UInt8} {op : Bool} {room e : Nat} (h : cutAt rest op room = (e, false)) : e = room ∧ ∀ j, 1 ≤ j → j ≤ room → hitAt rest op j = false := by
  unfold cutAt at h
  split at h
  · injection h with h1 h2; cases h2
  · rename_i hp
    injection h with h1 h2
    refine ⟨h1.symm, fun j h3 h4 => ?_⟩
    rw [← hitAt_take rest op room j h4]
    exact lastHit_zero _ op (room + 1) (by omega) j h3 (by omega)

/-! ### Spaces at the end -/
theorem trimB_last {l : List UInt8} (h : ∀ hn : l ≠ [], (l.getLast hn).toNat ≠ 32) : trimB l = l := by
  by_cases hn : l = []
  · subst hn; rfl
  · have hl : 0 < l.length := List.length_pos_iff.2 hn
    have h1 := h hn
    have h2 : l.getD (l.length - 1) 0 = l.getLast hn := by
      rw [List.getLast_eq_getElem]; simp [List.getD, List.getElem?_eq_getElem (show l.length - 1 < l.length by omega)]
    have h3 : trimN l = l.length := by
      unfold trimN
      obtain ⟨m, hm⟩ : ∃ m, l.length = m + 1 := ⟨l.length - 1, by omega⟩
      rw [hm] at h2 ⊢
      simp only [lastI]
      rw [show m + 1 - 1 = m from rfl] at h2
      rw [h2, if_pos (by simp [spcB, h1])]
      omega
    unfold trimB
    rw [h3, List.take_length]
theorem trimB_end (l : List UInt8) : ∀ hn : trimB l ≠ [], ((trimB l).getLast hn).toNat ≠ 32 := by
  intro hn
  have hw : ∀ n, 0 ≤ lastI (fun c => !spcB c) l n → (fun c => !spcB c) (l.getD (lastI (fun c => !spcB c) l n).toNat 0) = true := by
    intro n
    induction n with
    | zero => intro h; simp [lastI] at h
    | succ n ih =>
      intro h
      simp only [lastI] at h ⊢
      split
      · rename_i hp; simpa using hp
      · rename_i hp; rw [if_neg hp] at h; exact ih h
  have hl : 0 < (trimB l).length := List.length_pos_iff.2 hn
  have hlen := trimB_length l
  have h1 : 0 ≤ lastI (fun c => !spcB c) l l.length := by unfold trimN at hlen; omega
  have h2 := hw l.length h1
  have h3 : (lastI (fun c => !spcB c) l l.length).toNat = trimN l - 1 := by unfold trimN; omega
  have hn2 := trimN_le l
  rw [h3] at h2
  rw [List.getLast_eq_getElem]
  have e : (trimB l)[(trimB l).length - 1] = l.getD (trimN l - 1) 0 := by
    have : (trimB l)[(trimB l).length - 1]? = l[trimN l - 1]? := by
      rw [hlen]; unfold trimB; rw [List.getElem?_take, if_pos (by omega)]
    rw [List.getElem?_eq_getElem (by omega), List.getElem?_eq_getElem (by omega)] at this
    injection this with this
    rw [this]; simp [List.getD, List.getElem?_eq_getElem (show trimN l - 1 < l.length by omega)]
  rw [e]
  simpa [spcB] using h2
theorem tail_closed {part pre : List UInt8} {m : Nat} (h : openB (pre ++ part) = false) : tailB (part ++ List.replicate m 32) pre = trimB part := by
  unfold tailB
  rw [← List.append_assoc, openB_spaces, h, if_neg (by decide), trimB_spaces]
theorem tail_opened {part pre : List UInt8} (h : openB (pre ++ part) = true) : tailB (part ++ List.replicate 0 32) pre = part := by
  unfold tailB
  rw [List.replicate_zero, List.append_nil, h, if_pos rfl]

/-! ### Texts that are divided at spaces -/
inductive Qs : List (List UInt8) → List UInt8 → Prop
  | one (t : List UInt8) : Qs [t] t
  | more {a b : List UInt8} {Ts : List (List UInt8)} (m : Nat) : openB a = false → (∀ h : a ≠ [], (a.getLast h).toNat ≠ 32) → a ≠ [] → Qs Ts b → Qs (a :: Ts) (a ++ List.replicate (m + 1) 32 ++ b)
def tag (l : Bool) : List (List UInt8) → List (Bool × List UInt8)
  | [] => []
  | t :: Ts => (l, t) :: Ts.map fun x => (false, x)
theorem tag_false (Ts : List (List UInt8)) : tag false Ts = Ts.map fun x => (false, x) := by cases Ts <;> rfl

/-- A rest that is laid out behind a head. -/
structure Rst (head rest : List UInt8) (op : Bool) : Prop where
  ne : rest ≠ []
  prt : rest.all prtB = true
  fin : ∀ h : rest ≠ [], (rest.getLast h).toNat ≠ 32
  opn : openB rest = op
  kind : (head = headQL ∧ op = true) ∨ ((head = headAL ∨ head = headBL ∨ head = headML) ∧ op = false ∧ fstN rest = 0)
theorem Rst.head {head rest : List UInt8} {op : Bool} (h : Rst head rest op) : isHead head := by
  rcases h.kind with ⟨h, _⟩ | ⟨h | h | h, _⟩ <;> simp [isHead, h]
theorem Rst.fst {head rest : List UInt8} {op : Bool} (h : Rst head rest op) (hq : head ≠ headQL) : fstN rest = 0 := by
  rcases h.kind with ⟨h, _⟩ | ⟨_, _, h⟩
  · exact absurd h hq
  · exact h
theorem all_takeW {l : List UInt8} (h : l.all prtB = true) (k : Nat) : (l.take k).all prtB = true := by
  rw [List.all_eq_true] at h ⊢
  exact fun c hc => h c (List.mem_of_mem_take hc)
theorem all_dropW {l : List UInt8} (h : l.all prtB = true) (k : Nat) : (l.drop k).all prtB = true := by
  rw [List.all_eq_true] at h ⊢
  exact fun c hc => h c (List.mem_of_mem_drop hc)
theorem fst_take {l : List UInt8} (h : fstN l = 0) (hn : l ≠ []) (k : Nat) : fstN (l.take (k + 1)) = 0 := by
  obtain ⟨c, r, rfl, hc⟩ := fst_zero h hn
  rw [List.take_succ_cons]; simp only [fstN]; rw [if_neg hc]
theorem take_neW {l : List UInt8} (hn : l ≠ []) (k : Nat) (hk : 1 ≤ k) : l.take k ≠ [] := by
  obtain ⟨j, rfl⟩ : ∃ j, k = j + 1 := ⟨k - 1, by omega⟩
  cases l with
  | nil => exact absurd rfl hn
  | cons c r => simp
theorem last_dropW {l : List UInt8} (h : ∀ hn : l ≠ [], (l.getLast hn).toNat ≠ 32) (k : Nat) : ∀ hn : l.drop k ≠ [], ((l.drop k).getLast hn).toNat ≠ 32 := by
  intro hn
  rw [List.getLast_drop]
  exact h _
theorem trim_neW {l : List UInt8} {c : UInt8} (hc : c ∈ l) (h32 : c.toNat ≠ 32) : trimB l ≠ [] := by
  intro e
  have hr := trim_rest l
  rw [e, List.nil_append] at hr
  rw [hr] at hc
  have := List.eq_of_mem_replicate hc
  subst this; exact h32 rfl
theorem open_quote {l : List UInt8} (h : openB l = true) : ∃ c ∈ l, c.toNat = 34 := by
  have h1 : 0 < qn l := by unfold openB at h; simp at h; omega
  unfold qn at h1
  rw [List.countP_pos_iff] at h1
  obtain ⟨c, hc, h2⟩ := h1
  exact ⟨c, hc, by simpa using h2⟩
theorem spaces_lead : ∀ l : List UInt8, l = List.replicate (fstN l) 32 ++ l.drop (fstN l)
  | [] => rfl
  | c :: r => by
    simp only [fstN]
    split
    · rename_i h
      obtain rfl : c = 32 := u8_eq h
      rw [List.replicate_succ, List.cons_append, List.drop_succ_cons, ← spaces_lead r]
    · rfl

theorem lay_read : ∀ (f n : Nat) (head rest : List UInt8) (op : Bool) (base : List Kard) (left : Bool) (pre : List UInt8) (r : ReadAt) (k : Nat), rest.length < f → Rst head rest op → openB pre = op →
    (∀ part, PartOK head part → ∃ c' pos, readLine false r (rawB (n + 1) head part) (k + 1) = .inr ⟨base, some c', pos⟩ ∧ tk c' = (left, pre ++ tailB (padN head part) pre)) →
    (∃ ks Ts, readFrom false r k (layLs f n head rest op) = .inr ks ∧ Qs Ts (pre ++ rest) ∧ ks.map tk = base.map tk ++ tag left Ts) ∧ ∀ y ∈ layLs f n head rest op, no10 y ∧ 8 ≤ y.length ∧ y.length ≤ 72
  | 0, _, _, _, _, _, _, _, _, _, h, _, _, _ => by omega
  | f + 1, n, head, rest, op, base, left, pre, r, k, hf, hR, hpre, hstep => by
    have hh := hR.head
    have hhl := head_len hh
    have hne : 0 < rest.length := List.length_pos_iff.2 hR.ne
    by_cases hfit : rest.length ≤ 66 - head.length
    · have hL : layLs (f + 1) n head rest op = [rawB (n + 1) head rest] := by unfold layLs; rw [if_pos hfit]
      rw [hL]
      have hcl : openB (pre ++ rest) = false := by rw [openB_xor, hpre, hR.opn]; cases op <;> rfl
      obtain ⟨c', pos, h1, h2⟩ := hstep rest ⟨hR.ne, hR.prt, by omega, fun hq => hR.fst hq⟩
      rw [padN, tail_closed hcl, trimB_last hR.fin] at h2
      have ht : c'.text = pre ++ rest := (Prod.mk.inj h2).2
      refine ⟨⟨base ++ [c'], [pre ++ rest], ?_, .one _, ?_⟩, fun y hy => ?_⟩
      · show (match readLine false r (rawB (n + 1) head rest) (k + 1) with | .inl f => (.inl f : (Nat × Nat × Nat) ⊕ List Kard) | .inr r' => readFrom false r' (k + 1) []) = _
        rw [h1]
        show readFrom false ⟨base, some c', pos⟩ (k + 1) [] = _
        unfold readFrom
        simp only [ht, hcl]
        rfl
      · simp [h2, tag]
      · simp only [List.mem_singleton] at hy
        subst hy
        have := rawB_len (n + 1) head rest
        exact ⟨rawB_no10 hh hR.prt, by omega, by omega⟩
    · rcases hc : cutAt rest op (66 - head.length) with ⟨e, d⟩
      have hL : layLs (f + 1) n head rest op = rawB (n + 1) head (rest.take e) :: (if d then layLs f (n + 1) headBL ((rest.drop e).drop (fstN (rest.drop e))) (op ^^ openB (rest.take e)) else layLs f (n + 1) (if (op ^^ openB (rest.take e)) then headQL else headML) (rest.drop e) (op ^^ openB (rest.take e))) := by
        conv => lhs; unfold layLs
        rw [if_neg hfit, hc]
      rw [hL]
      have hsplit : openB rest = (openB (rest.take e) ^^ openB (rest.drop e)) := by rw [← openB_xor, List.take_append_drop]
      have hroom : 60 ≤ 66 - head.length := by omega
      have hline : ∀ e', 1 ≤ e' → e' ≤ 66 - head.length → PartOK head (rest.take e') ∧ no10 (rawB (n + 1) head (rest.take e')) ∧ 8 ≤ (rawB (n + 1) head (rest.take e')).length ∧ (rawB (n + 1) head (rest.take e')).length ≤ 72 := fun e' h1 h2 => by
        have hl : (rest.take e').length = e' := by rw [List.length_take]; omega
        have := rawB_len (n + 1) head (rest.take e')
        refine ⟨⟨take_neW hR.ne e' h1, all_takeW hR.prt _, by omega, fun hq => ?_⟩, rawB_no10 hh (all_takeW hR.prt _), by omega, by omega⟩
        obtain ⟨j, rfl⟩ : ∃ j, e' = j + 1 := ⟨e' - 1, by omega⟩
        exact fst_take (hR.fst hq) hR.ne j
      cases d
      · -- behind the last column
        obtain ⟨rfl, hno⟩ := cut_hard hc
        simp only [Bool.false_eq_true, if_false]
        obtain ⟨hP, hl10, hl8, hl72⟩ := hline (66 - head.length) (by omega) (Nat.le_refl _)
        obtain ⟨c', pos, h1, h2⟩ := hstep _ hP
        have hfull : (rest.take (66 - head.length)).length = 66 - head.length := by rw [List.length_take]; omega
        have hpad : padN head (rest.take (66 - head.length)) = rest.take (66 - head.length) ++ List.replicate 0 32 := by
          unfold padN; rw [hfull, Nat.sub_self]
        rw [hpad] at h2
        have hdl : (rest.drop (66 - head.length)).length < f := by rw [List.length_drop]; omega
        have hdne : rest.drop (66 - head.length) ≠ [] := by
          intro e; have := congrArg List.length e; rw [List.length_drop] at this; simp at this; omega
        have hox : openB (rest.drop (66 - head.length)) = (op ^^ openB (rest.take (66 - head.length))) := by
          have := hR.opn; rw [hsplit] at this; rw [← this]
          cases openB (rest.take (66 - head.length)) <;> cases openB (rest.drop (66 - head.length)) <;> rfl
        have hopen : openB (pre ++ rest.take (66 - head.length)) = (op ^^ openB (rest.take (66 - head.length))) := by rw [openB_xor, hpre]
        have hTx : c'.text = pre ++ rest.take (66 - head.length) := by
          rw [(Prod.mk.inj h2).2]
          congr 1
          cases ho : (op ^^ openB (rest.take (66 - head.length)))
          · rw [tail_closed (by rw [hopen, ho])]
            refine trimB_last fun hn => ?_
            intro h32
            have hj : hitAt rest op (66 - head.length - 1) = true := by
              have hg : rest[66 - head.length - 1]? = some ((rest.take (66 - head.length)).getLast hn) := by
                rw [List.getLast_eq_getElem, ← List.getElem?_eq_getElem, hfull, List.getElem?_take, if_pos (by omega)]
              rw [hitAt_of rest op _ _ hg, Bool.and_eq_true]
              refine ⟨by simpa using h32, ?_⟩
              have ht2 := openB_take rest (66 - head.length - 1) _ hg
              rw [if_neg (by rw [h32]; decide), show 66 - head.length - 1 + 1 = 66 - head.length from by omega] at ht2
              rw [← ht2]
              rw [beq_iff_eq]
              cases op <;> cases hx : openB (rest.take (66 - head.length)) <;> rw [hx] at ho <;> first | rfl | cases ho
            rw [hno _ (by omega) (by omega)] at hj
            cases hj
          · rw [tail_opened (by rw [hopen, ho])]
        have hTl : c'.left = left := (Prod.mk.inj h2).1
        have hfst : (op ^^ openB (rest.take (66 - head.length))) = false → fstN (rest.drop (66 - head.length)) = 0 := by
          intro ho
          have hlt : 66 - head.length < rest.length := by omega
          have hg : rest[66 - head.length]? = some rest[66 - head.length] := List.getElem?_eq_getElem hlt
          rw [List.drop_eq_getElem_cons hlt]
          simp only [fstN]
          rw [if_neg]
          intro h32
          have hj : hitAt rest op (66 - head.length) = true := by
            rw [hitAt_of rest op _ _ hg, Bool.and_eq_true]
            refine ⟨by simpa using h32, ?_⟩
            rw [beq_iff_eq]
            cases op <;> cases hx : openB (rest.take (66 - head.length)) <;> rw [hx] at ho <;> first | rfl | cases ho
          rw [hno _ (by omega) (by omega)] at hj
          cases hj
        have hread : ∀ L, readFrom false r k (rawB (n + 1) head (rest.take (66 - head.length)) :: L) = readFrom false ⟨base, some c', pos⟩ (k + 1) L := fun L => by
          show (match readLine false r (rawB (n + 1) head (rest.take (66 - head.length))) (k + 1) with | .inl f => (.inl f : (Nat × Nat × Nat) ⊕ List Kard) | .inr r' => readFrom false r' (k + 1) L) = _
          rw [h1]
        have ih := lay_read f (n + 1) (if (op ^^ openB (rest.take (66 - head.length))) then headQL else headML) (rest.drop (66 - head.length)) (op ^^ openB (rest.take (66 - head.length))) base left (pre ++ rest.take (66 - head.length)) ⟨base, some c', pos⟩ (k + 1) hdl
          ⟨hdne, all_dropW hR.prt _, last_dropW hR.fin _, hox, by
            cases ho : (op ^^ openB (rest.take (66 - head.length)))
            · exact .inr ⟨.inr (.inr rfl), rfl, hfst ho⟩
            · exact .inl ⟨rfl, rfl⟩⟩ hopen (fun part hp => by
            have := read_C (r := ⟨base, some c', pos⟩) (c := c') rfl (part := part) (head := if (op ^^ openB (rest.take (66 - head.length))) then headQL else headML) (by
              rw [hTx, hopen]
              cases ho : (op ^^ openB (rest.take (66 - head.length)))
              · exact .inl ⟨rfl, rfl⟩
              · exact .inr ⟨rfl, rfl⟩) hp (n + 1 + 1) (k + 1 + 1)
            rw [hTx, hTl] at this
            exact this)
        obtain ⟨⟨ks, Ts, i1, i2, i3⟩, i4⟩ := ih
        refine ⟨⟨ks, Ts, by rw [hread]; exact i1, ?_, i3⟩, fun y hy => ?_⟩
        · rw [List.append_assoc, List.take_append_drop] at i2; exact i2
        · rcases List.mem_cons.1 hy with rfl | hy
          · exact ⟨hl10, hl8, hl72⟩
          · exact i4 y hy
      · -- at a space
        obtain ⟨he1, he2, ⟨cs, hg, h32⟩, hoe⟩ := cut_space hc
        simp only [if_true]
        obtain ⟨hP, hl10, hl8, hl72⟩ := hline e he1 he2
        obtain ⟨c', pos, h1, h2⟩ := hstep _ hP
        have hlt : e < rest.length := by
          rcases Nat.lt_or_ge e rest.length with h' | h'
          · exact h'
          · rw [List.getElem?_eq_none h'] at hg; cases hg
        have hcl : openB (pre ++ rest.take e) = false := by rw [openB_xor, hpre, hoe]; cases op <;> rfl
        rw [padN, tail_closed hcl] at h2
        have hTx : c'.text = pre ++ trimB (rest.take e) := (Prod.mk.inj h2).2
        have hTc : openB c'.text = false := by rw [hTx, openB_trim, hcl]
        have hop' : (op ^^ openB (rest.take e)) = false := by rw [hoe]; cases op <;> rfl
        rw [hop']
        -- the trimmed part is not empty
        have htne : trimB (rest.take e) ≠ [] := by
          by_cases hq : head = headQL
          · have ho : openB (rest.take e) = true := by
              rw [hoe]
              rcases hR.kind with ⟨_, h⟩ | ⟨h, _⟩
              · exact h
              · subst hq; rcases h with h | h | h <;> exact absurd h (by decide)
            obtain ⟨c, hc1, hc2⟩ := open_quote ho
            exact trim_neW hc1 (by omega)
          · obtain ⟨c, rr, hcr, hc2⟩ := fst_zero (hP.fst hq) hP.ne
            exact trim_neW (c := c) (by rw [hcr]; simp) hc2
        have htn : c'.text ≠ [] := by rw [hTx]; simp [htne]
        have hte : ∀ hn : c'.text ≠ [], (c'.text.getLast hn).toNat ≠ 32 := by
          intro hn
          have : c'.text.getLast hn = (trimB (rest.take e)).getLast htne := by
            simp only [hTx]
            exact List.getLast_append_of_ne_nil _ htne
          rw [this]
          exact trimB_end _ htne
        -- the rest behind the spaces
        have hdr := spaces_lead (rest.drop e)
        have hf0 : 0 < fstN (rest.drop e) := by
          rw [List.drop_eq_getElem_cons hlt]
          have : rest[e] = cs := by rw [List.getElem?_eq_getElem hlt] at hg; injection hg
          rw [this]; simp only [fstN]; rw [if_pos h32]; omega
        have hdne : (rest.drop e).drop (fstN (rest.drop e)) ≠ [] := by
          intro hn
          rw [hn, List.append_nil] at hdr
          have hne2 : rest.drop e ≠ [] := by
            intro h; have := congrArg List.length h; rw [List.length_drop] at this; simp at this; omega
          have hl := last_dropW hR.fin e hne2
          have hm : ∀ x ∈ rest.drop e, x = 32 := fun x hx => List.eq_of_mem_replicate (by rw [← hdr]; exact hx)
          exact hl (by rw [hm _ (List.getLast_mem hne2)]; rfl)
        have hfl := fstN_le (rest.drop e)
        have hfs : fstN ((rest.drop e).drop (fstN (rest.drop e))) = 0 := by
          have hlen : fstN (rest.drop e) < (rest.drop e).length := by
            rcases Nat.lt_or_ge (fstN (rest.drop e)) (rest.drop e).length with h' | h'
            · exact h'
            · exact absurd (List.drop_eq_nil_of_le h') hdne
          rw [List.drop_eq_getElem_cons hlen]
          simp only [fstN]
          rw [if_neg]
          have := fst_not (rest.drop e) hlen
          simpa [List.getD, List.getElem?_eq_getElem hlen] using this
        have hoR : openB ((rest.drop e).drop (fstN (rest.drop e))) = false := by
          have h3 : openB (rest.drop e) = openB ((rest.drop e).drop (fstN (rest.drop e))) := by
            conv => lhs; rw [hdr]
            rw [openB_xor]
            have : openB (List.replicate (fstN (rest.drop e)) 32) = false := by unfold openB; rw [qn_spaces]; rfl
            rw [this]; simp
          rw [← h3]
          have := hR.opn; rw [hsplit, hoe] at this
          cases op <;> cases hx : openB (rest.drop e) <;> rw [hx] at this <;> first | rfl | cases this
        have hread : ∀ L, readFrom false r k (rawB (n + 1) head (rest.take e) :: L) = readFrom false ⟨base, some c', pos⟩ (k + 1) L := fun L => by
          show (match readLine false r (rawB (n + 1) head (rest.take e)) (k + 1) with | .inl f => (.inl f : (Nat × Nat × Nat) ⊕ List Kard) | .inr r' => readFrom false r' (k + 1) L) = _
          rw [h1]
        have ih := lay_read f (n + 1) headBL ((rest.drop e).drop (fstN (rest.drop e))) false (base ++ [c']) false [] ⟨base, some c', pos⟩ (k + 1) (by rw [List.length_drop, List.length_drop]; omega)
          ⟨hdne, all_dropW (all_dropW hR.prt _) _, last_dropW (last_dropW hR.fin _) _, hoR, .inr ⟨.inr (.inl rfl), rfl, hfs⟩⟩ rfl (fun part hp => by
            have := read_S (r := ⟨base, some c', pos⟩) (fun c hc => by injection hc with hc; subst hc; exact hTc) (head := headBL) (.inr rfl) hp (n + 1 + 1) (k + 1 + 1)
            exact this)
        obtain ⟨⟨ks, Ts, i1, i2, i3⟩, i4⟩ := ih
        refine ⟨⟨ks, c'.text :: Ts, by rw [hread]; exact i1, ?_, ?_⟩, fun y hy => ?_⟩
        · have hsp : pre ++ rest = c'.text ++ List.replicate (((rest.take e).length - trimN (rest.take e)) + (fstN (rest.drop e) - 1) + 1) 32 ++ (rest.drop e).drop (fstN (rest.drop e)) := by
            have ht := trim_rest (rest.take e)
            have hm : ((rest.take e).length - trimN (rest.take e)) + (fstN (rest.drop e) - 1) + 1 = ((rest.take e).length - trimN (rest.take e)) + fstN (rest.drop e) := by omega
            have hr2 : rest = rest.take e ++ rest.drop e := (List.take_append_drop e rest).symm
            rw [hm, ← List.replicate_append_replicate, hTx]
            generalize rest.take e = A at *
            generalize rest.drop e = B at *
            rw [hr2]
            conv => lhs; rw [hdr, ht]
            simp only [List.append_assoc]
          rw [hsp]
          exact .more _ hTc hte htn (by simpa using i2)
        · rw [i3, tag_false]
          have : tk c' = (left, c'.text) := by unfold tk; rw [(Prod.mk.inj h2).1]
          simp [tag, this]
        · rcases List.mem_cons.1 hy with rfl | hy
          · exact ⟨hl10, hl8, hl72⟩
          · exact i4 y hy
end Go.Proofs.YtpalfhfbgfnacaaGreatDoor
