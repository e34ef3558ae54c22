/-
  Where the tokens that are scanned stand in the source text, on lists; no walk here.
-/
import Derived.Test.YtpalfhfbgfnacaaGreatDoorAtK
import Derived.Test.YtpalfhfbgfnacaaGreatDoorSrc
import Derived.Test.YtpalfhfbgfnacaaGreatDoorGA
namespace Go.Proofs.YtpalfhfbgfnacaaGreatDoor
open Go.RowKit
set_option linter.unusedVariables false
set_option linter.unusedSimpArgs false

theorem pos_in {L : List (List UInt8)} {lo hi : Nat} {c : Kard} (h : GoodK L lo hi c) (hne : c.text ≠ []) (j : Nat) : ∃ q m, InPart c j q m ∧ posT c.toI.marks (j : Int) = (((m.2.1 : Nat) : Int), ((m.2.2 + (j - m.1) : Nat) : Int)) := by
  have hmk := h.some_ hne
  obtain ⟨m0, hm0⟩ : ∃ m0, (c.marks.map castM)[0]? = some m0 := by
    cases hc : c.marks with
    | nil => exact absurd hc hmk
    | cons a l => exact ⟨_, rfl⟩
  obtain ⟨q, m, h1, h2⟩ := pick_all h hne j m0 hm0
  refine ⟨q, m, h1, ?_⟩
  have e : c.toI.marks = c.marks.map castM := rfl
  unfold posT
  rw [e]
  have hg : (c.marks.map castM).getD 0 (0, 0, 0) = m0 := by simp [List.getD, hm0]
  have hp : pickT (j : Int) (c.marks.map castM) m0 = castM m := h2
  rw [hg]
  dsimp only
  rw [hp]
  have := h1.2.1
  show (((m.2.1 : Nat) : Int), ((m.2.2 : Nat) : Int) + j - (m.1 : Nat)) = _
  congr 1
  omega
/-- Places in a card go up. -/
theorem place_up {L : List (List UInt8)} {lo hi : Nat} {c : Kard} (h : GoodK L lo hi c) {i j q q' : Nat} {m m' : Nat × Nat × Nat} (hij : i < j) (h1 : InPart c i q m) (h2 : InPart c j q' m') : m.2.1 < m'.2.1 ∨ (m.2.1 = m'.2.1 ∧ m.2.2 + (i - m.1) < m'.2.2 + (j - m'.1)) := by
  obtain ⟨a1, a2, a3⟩ := h1
  obtain ⟨b1, b2, b3⟩ := h2
  rcases Nat.lt_trichotomy q q' with hq | hq | hq
  · left
    exact (asc_far h (q' - (q + 1)) q m m' a1 (by rw [show q + 1 + (q' - (q + 1)) = q' from by omega]; exact b1)).2
  · subst hq
    rw [a1] at b1; injection b1 with b1
    subst b1
    right
    exact ⟨rfl, by omega⟩
  · exfalso
    have hl := lt_of_get a1
    have hx : c.marks[q' + 1]? = some c.marks[q' + 1] := List.getElem?_eq_getElem (by omega)
    have h3 := b3 _ hx
    rcases Nat.lt_or_ge (q' + 1) q with hj2 | hj2
    · have := asc_far h (q - (q' + 2)) (q' + 1) _ m hx (by rw [show q' + 1 + 1 + (q - (q' + 2)) = q from by omega]; exact a1)
      omega
    · obtain rfl : q = q' + 1 := by omega
      rw [a1] at hx; injection hx with hx; rw [← hx] at h3
      omega
/-! the first byte of a token -/
theorem trimP_prefix (l : List UInt8) : ∃ s, l = trimP l ++ s := by
  obtain ⟨t, ht⟩ := List.dropWhile_suffix (l := l.reverse) ptB
  refine ⟨t.reverse, ?_⟩
  unfold trimP
  rw [← List.reverse_append, ht, List.reverse_reverse]
theorem num_small {r : List UInt8} {sep : Bool} (hr : r ≠ []) (h : 0 < numN r sep) : smallB (r.getD 0 0) = false := by
  cases r with
  | nil => exact absurd rfl hr
  | cons c r =>
    simp only [List.getD_cons_zero]
    cases hs : smallB c
    · rfl
    · exfalso
      unfold smallB at hs
      simp at hs
      have h0 : sgN (c :: r) sep = 0 := by
        unfold sgN
        rw [if_neg]
        rintro ⟨_, h⟩
        simp at h
        omega
      have hd : digB c = false := by simp [digB]; omega
      have hi : intN (c :: r) sep = 0 := by
        unfold intN
        rw [h0]
        simp [spn, hd]
      have hw : 0 < wrdN (c :: r) := by
        unfold wrdN
        rw [if_neg (by simp; omega)]
        simp only [spn]
        rw [if_pos (by simp [inwB, letB, smallB, hs])]
        omega
      rw [numN_eq, hi, if_pos hw] at h
      omega
theorem upB_id {c : UInt8} (h : smallB c = false) : upB c = c := by unfold upB; rw [h]; rfl
theorem signs_first : ∀ x ∈ signsL, x ≠ [] ∧ upB (x.getD 0 0) = x.getD 0 0 := by decide
theorem fold_head {l : List UInt8} (h : l ≠ []) : foldB l ≠ [] ∧ (foldB l).getD 0 0 = upB (l.getD 0 0) := by
  cases l with
  | nil => exact absurd rfl h
  | cons c l => exact ⟨by simp [foldB], by simp [foldB]⟩
theorem prefix_head {a r s : List UInt8} (h : r = a ++ s) (ha : a ≠ []) : a.getD 0 0 = r.getD 0 0 := by
  subst h
  cases a with
  | nil => exact absurd rfl ha
  | cons c a => rfl
theorem take_head {r : List UInt8} {n : Nat} (hr : r ≠ []) (hn : 0 < n) : r.take n ≠ [] ∧ (r.take n).getD 0 0 = r.getD 0 0 := by
  cases r with
  | nil => exact absurd rfl hr
  | cons c r =>
    obtain ⟨m, rfl⟩ : ∃ m, n = m + 1 := ⟨n - 1, by omega⟩
    exact ⟨by simp, rfl⟩
/-- What the first byte of a token says. -/
def FirstB (k : Nat) (y : List UInt8) (b : UInt8) : Prop := y ≠ [] ∧ (k = 3 → b.toNat = 34) ∧ (k ≠ 3 → y.getD 0 0 = upB b)
theorem read_first {e x sep : Bool} {r : List UInt8} {k n : Nat} {y : List UInt8} (hr : r ≠ []) (h : readT e x sep r = .got k y n) : FirstB k y (r.getD 0 0) := by
  unfold readT at h
  split at h
  · unfold picT at h
    split at h
    · cases h
    · rename_i hh
      injection h with h1 h2 h3
      have hne : trimP (allT r) ≠ [] := fun e => hh (.inl e)
      obtain ⟨s, hs⟩ := trimP_prefix (allT r)
      have ha : allT r ≠ [] := by intro e; rw [e] at hs; exact hne (by rw [e]; exact (List.append_eq_nil_iff.1 hs.symm).1)
      have hn : 0 < spn (fun c => !spcB c) r := by
        rcases Nat.eq_zero_or_pos (spn (fun c => !spcB c) r) with h0 | h0
        · exact absurd (by unfold allT; rw [h0]; rfl) ha
        · exact h0
      have hf := fold_head hne
      refine ⟨by rw [← h2]; exact hf.1, fun h => by omega, fun _ => ?_⟩
      rw [← h2, hf.2, prefix_head hs hne]
      congr 1
      exact (take_head hr hn).2
  split at h
  · rename_i h34
    unfold litT at h
    split at h
    · cases h
    · split at h
      · cases h
      · rename_i hne
        injection h with h1 h2 h3
        exact ⟨by rw [← h2]; exact hne, fun _ => h34, fun h => absurd h1.symm h⟩
  split at h
  · rename_i h46
    injection h with h1 h2 h3
    have : r.getD 0 0 = 46 := u8_eq h46.1
    refine ⟨by rw [← h2]; simp, fun h => by omega, fun _ => ?_⟩
    rw [← h2, this]; decide
  split at h
  · rename_i hq
    injection h with h1 h2 h3
    obtain ⟨s, hs⟩ := List.isPrefixOf_iff_prefix.1 (show ([61, 61] : List UInt8).isPrefixOf r = true from hq)
    refine ⟨by rw [← h2]; simp, fun h => by omega, fun _ => ?_⟩
    rw [← h2, ← hs]; show (61 : UInt8) = upB 61; decide
  split at h
  · rename_i hn
    have hs := num_small hr hn
    unfold numT at h
    split at h
    · cases h
    split at h
    · cases h
    · injection h with h1 h2 h3
      have ht := take_head hr hn
      refine ⟨by rw [← h2]; exact ht.1, fun h => by omega, fun _ => ?_⟩
      rw [← h2, ht.2, upB_id hs]
  split at h
  · rename_i hw
    unfold wordT at h
    split at h
    · injection h with h1 h2 h3
      have ht := take_head hr hw
      have hf := fold_head ht.1
      refine ⟨by rw [← h2]; exact hf.1, fun h => by omega, fun _ => ?_⟩
      rw [← h2, hf.2, ht.2]
    split at h <;> cases h
  · obtain ⟨h1, hx, _, hp2⟩ := signT_got h
    obtain ⟨s, hs⟩ := List.isPrefixOf_iff_prefix.1 hp2
    obtain ⟨g1, g2⟩ := signs_first y hx
    refine ⟨g1, fun h => by omega, fun _ => ?_⟩
    rw [← prefix_head hs.symm g1, g2]
/-! the tokens' places -/
/-- The token stands where it says in the lines. -/
def PlOK (Lns : List (List UInt8)) (t : Tok) : Prop :=
  ∃ (l cl : Nat) (b : UInt8), t.line = l ∧ t.col = cl ∧ 1 ≤ l ∧ l ≤ Lns.length ∧ 8 ≤ cl ∧ t.left = decide (cl < 12) ∧ (Lns.getD (l - 1) [])[cl - 1]? = some b ∧ FirstB t.kind t.text b
def PlUp (t u : Tok) : Prop := t.line < u.line ∨ (t.line = u.line ∧ t.col < u.col)
def PlAll (Lns : List (List UInt8)) (T : List Tok) : Prop := (∀ t ∈ T, PlOK Lns t) ∧ ∀ k t u, T[k]? = some t → T[k + 1]? = some u → PlUp t u
/-- The last token stands in front of byte j of the card. -/
def PlLast (c : Kard) (lo j : Nat) (T : List Tok) : Prop := ∀ t, T.getLast? = some t → t.line ≤ lo ∨ ∃ i q m, i < j ∧ InPart c i q m ∧ t.line = ((m.2.1 : Nat) : Int) ∧ t.col = ((m.2.2 + (i - m.1) : Nat) : Int)
theorem PlAll.snoc {Lns : List (List UInt8)} {T : List Tok} {u : Tok} (h : PlAll Lns T) (hu : PlOK Lns u) (hl : ∀ t, T.getLast? = some t → PlUp t u) : PlAll Lns (T ++ [u]) := by
  refine ⟨fun t ht => ?_, fun k t v hk hv => ?_⟩
  · rcases List.mem_append.1 ht with ht | ht
    · exact h.1 t ht
    · rw [List.mem_singleton] at ht; rw [ht]; exact hu
  · have hkl := lt_of_get hv
    rw [List.length_append] at hkl
    simp at hkl
    rcases Nat.lt_or_ge (k + 1) T.length with h1 | h1
    · rw [List.getElem?_append_left h1] at hv
      rw [List.getElem?_append_left (by omega)] at hk
      exact h.2 k t v hk hv
    · have hk1 : k + 1 = T.length := by omega
      rw [List.getElem?_append_right h1, show k + 1 - T.length = 0 from by omega] at hv
      simp at hv
      subst hv
      rw [List.getElem?_append_left (by omega)] at hk
      refine hl t ?_
      rw [List.getLast?_eq_getElem?, show T.length - 1 = k from by omega]
      exact hk
theorem PlLast.line {Lns : List (List UInt8)} {lo hi j : Nat} {c : Kard} {T : List Tok} (h : PlLast c lo j T) (hg : GoodK Lns lo hi c) (hlo : lo ≤ hi) : ∀ t, T.getLast? = some t → t.line ≤ hi := by
  intro t ht
  rcases h t ht with h1 | ⟨i, q, m, _, h2, h3, _⟩
  · omega
  · have := (line_in hg h2).2.1
    omega
theorem getD_some {l : List UInt8} {k : Nat} {b : UInt8} (h : l.getD k 32 = b) (hb : b.toNat ≠ 32) : l[k]? = some b := by
  cases hk : l[k]? with
  | none =>
    simp [List.getD, hk] at h
    subst h
    exact absurd rfl hb
  | some x => simp [List.getD, hk] at h; rw [h]
theorem places_J {Lns : List (List UInt8)} {lo hi : Nat} {c : Kard} (h : GoodK Lns lo hi c) (hne : c.text ≠ []) (hlo : lo ≤ hi) (hhi : hi ≤ Lns.length) (u : Bool) : ∀ (f j : Nat) (acc r : List Tok), (∀ b, c.text[j]? = some b → b.toNat ≠ 32) → PlAll Lns acc → PlLast c lo j acc → scanJ u c.text c.toI.marks f j acc = .inr r → PlAll Lns r ∧ ∀ t, r.getLast? = some t → t.line ≤ hi
  | 0, j, acc, r, _, ha, hp, hs => by
    unfold scanJ at hs
    injection hs with hs
    subst hs
    exact ⟨ha, hp.line h hlo⟩
  | f + 1, j, acc, r, hsp, ha, hp, hs => by
    unfold scanJ at hs
    split at hs
    · injection hs with hs
      subst hs
      exact ⟨ha, hp.line h hlo⟩
    · rename_i hj
      have hjl : j < c.text.length := by omega
      have hb : c.text[j]? = some c.text[j] := List.getElem?_eq_getElem hjl
      have hr : c.text.drop j ≠ [] := by
        intro e
        have := congrArg List.length e
        rw [List.length_drop] at this
        simp at this
        omega
      have h32 := hsp _ hb
      split at hs
      · cases hs
      · rename_i k x n hrd
        split at hs
        · cases hs
        · obtain ⟨q, m, hin, hpos⟩ := pos_in h hne j
          obtain ⟨b1, b2⟩ := byte_in h hin _ hb
          obtain ⟨l1, l2, l3⟩ := line_in h hin
          have hle := readT_le hr hrd
          have hfb := read_first hr hrd
          have hd0 : (c.text.drop j).getD 0 0 = c.text[j] := by simp [List.getD, hb]
          rw [hd0] at hfb
          have ht : tokAt c.toI.marks j k x = ⟨k, x, ((m.2.1 : Nat) : Int), ((m.2.2 + (j - m.1) : Nat) : Int), decide (((m.2.2 + (j - m.1) : Nat) : Int) < 12)⟩ := by
            unfold tokAt; rw [hpos]
          rw [ht] at hs
          refine places_J h hne hlo hhi u f _ _ r ?_ (ha.snoc ?_ ?_) ?_ hs
          · intro b hb2
            refine skip_head (x := expPic (acc ++ [⟨k, x, ((m.2.1 : Nat) : Int), ((m.2.2 + (j - m.1) : Nat) : Int), decide (((m.2.2 + (j - m.1) : Nat) : Int) < 12)⟩])) (l := c.text.drop (j + n)) ?_
            rw [List.drop_drop, List.getElem?_drop, Nat.add_zero]
            exact hb2
          · refine ⟨m.2.1, m.2.2 + (j - m.1), c.text[j], rfl, rfl, by omega, by omega, by omega, ?_, getD_some b2 h32, hfb⟩
            show decide (((m.2.2 + (j - m.1) : Nat) : Int) < 12) = _
            rw [Bool.eq_iff_iff, decide_eq_true_iff, decide_eq_true_iff]
            omega
          · intro t htl
            rcases hp t htl with g1 | ⟨i, q', m', g0, g1, g2, g3⟩
            · left; show t.line < ((m.2.1 : Nat) : Int); omega
            · rcases place_up h g0 g1 hin with g4 | ⟨g4, g5⟩
              · left; show t.line < ((m.2.1 : Nat) : Int); omega
              · right
                refine ⟨?_, ?_⟩
                · show t.line = ((m.2.1 : Nat) : Int); omega
                · show t.col < ((m.2.2 + (j - m.1) : Nat) : Int); omega
          · intro t htl
            rw [List.getLast?_concat] at htl
            injection htl with htl
            subst htl
            exact .inr ⟨j, q, m, by omega, hin, rfl, rfl⟩
theorem places_B (u : Bool) {Lns : List (List UInt8)} : ∀ (ks : List Kard) (lo hi : Nat) (acc r : List Tok), GoodL Lns lo ks hi → hi ≤ Lns.length → PlAll Lns acc → (∀ t, acc.getLast? = some t → t.line ≤ lo) → scanB u (ks.map Kard.toI) acc = .inr r → PlAll Lns r
  | [], lo, hi, acc, r, _, _, ha, _, hs => by
    unfold scanB at hs
    injection hs with hs
    subst hs; exact ha
  | c :: ks, lo, hi, acc, r, hg, hhi, ha, hl, hs => by
    obtain ⟨mid, g1, g2, g3, g4⟩ := hg
    rw [List.map_cons] at hs
    unfold scanB at hs
    split at hs
    · cases hsc : scanC u c.toI.text c.toI.marks acc with
      | inl f => rw [hsc] at hs; cases hs
      | inr acc' =>
        rw [hsc] at hs
        have hmid := g4.le
        unfold scanC at hsc
        have := places_J g2 g3 g1 (by omega) u _ _ _ _ (fun b hb => by
          refine skip_head (x := expPic acc) (l := c.text) ?_
          rw [List.getElem?_drop, Nat.add_zero]
          exact hb) ha (fun t ht => .inl (hl t ht)) hsc
        exact places_B u ks mid hi acc' r g4 hhi this.1 this.2 hs
    · cases hs
/-- The tokens of a source text stand where they say. -/
theorem source_places {text : List UInt8} {debug : Bool} {T : List Tok} (ht : text.length ≤ 1048576) (h : sourceB text debug = .inr T) : PlAll (piecesG [] text) T := by
  unfold sourceB at h
  split at h
  · cases h
  · rename_i ks hk
    rw [readBU_pieces true debug text ht, readFromU_true] at hk
    have hg := good_from (piecesG [] text) debug (piecesG [] text).length 0 _ ks (by simp) (good_start _) hk
    exact places_B true ks 0 _ [] T hg (Nat.le_refl _) ⟨by simp, fun k t u hk => by simp at hk⟩ (by simp) h
end Go.Proofs.YtpalfhfbgfnacaaGreatDoor
