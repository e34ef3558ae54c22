/-
  At on a card that Read returned.
-/
import Derived.Test.YtpalfhfbgfnacaaGreatDoorAt
import Derived.Test.YtpalfhfbgfnacaaGreatDoorMarkL
import Derived.Test.YtpalfhfbgfnacaaGreatDoorRead
namespace Go.Proofs.YtpalfhfbgfnacaaGreatDoor
open Go.RowKit
set_option linter.unusedVariables false
set_option linter.unusedSimpArgs false

def castM (m : Nat × Nat × Nat) : Int × Int × Int := (m.1, m.2.1, m.2.2)
theorem castM_get (ms : List (Nat × Nat × Nat)) (k : Nat) (x : Int × Int × Int) (h : (ms.map castM)[k]? = some x) : ∃ m, ms[k]? = some m ∧ x = castM m := by
  rw [List.getElem?_map] at h
  cases hm : ms[k]? with
  | none => rw [hm] at h; cases h
  | some m => rw [hm] at h; injection h with h; exact ⟨m, rfl, h.symm⟩
theorem marksIn_of {w : World} {m : Value} {ms : List (Nat × Nat × Nat)} (h : MarksAt w m ms) : MarksIn w m (ms.map castM) := by
  rcases h with ⟨rfl, rfl⟩ | ⟨b, o, cap, rfl, h1, h2, h3⟩
  · exact ⟨none, 0, rfl, by simp, fun h => absurd h (by simp)⟩
  · refine ⟨some ⟨b, o, none⟩, cap, by simp, by simp; omega, fun h0 => ⟨b, o, rfl, ?_, fun k x hx => ?_⟩⟩
    · rw [List.length_map] at h0
      have := (h3 0 _ (List.getElem?_eq_getElem h0)).1
      unfold World.cell? at this
      rcases Nat.lt_or_ge b w.heap.size with h' | h'
      · exact h'
      · simp [Array.getElem?_eq_none h'] at this
    · obtain ⟨y, hy, rfl⟩ := castM_get ms k x hx
      exact h3 k y hy
theorem validK {L : List (List UInt8)} {lo hi : Nat} {c : Kard} (h : GoodK L lo hi c) (hne : c.text ≠ []) : ValidP c.text.length (c.marks.map castM) := by
  have hm := h.some_ hne
  have hm0 : 0 < c.marks.length := List.length_pos_iff.2 hm
  refine ⟨by have := List.length_pos_iff.2 hne; omega, ?_, fun k x hx => ?_⟩
  · have hx : c.marks[0]? = some c.marks[0] := List.getElem?_eq_getElem hm0
    refine ⟨castM c.marks[0], by rw [List.getElem?_map, hx]; rfl, ?_⟩
    have := (h.at_ 0 _ hx).2.2.2.2.1 rfl
    show ((c.marks[0].1 : Nat) : Int) = 0
    rw [this]; rfl
  · obtain ⟨m, hk, rfl⟩ := castM_get _ _ _ hx
    obtain ⟨g1, g2, g3, g4, g5, g6, g7⟩ := h.at_ k m hk
    have hc : m.2.2 ≤ 72 := by
      have hb : c.text[m.1]? = some c.text[m.1] := List.getElem?_eq_getElem g1
      have := (g7 m.1 _ (Nat.le_refl _) (fun m' hm' => (g6 m' hm').1) hb).1
      omega
    refine ⟨?_, ?_, ?_, fun j y hj hy => ?_⟩
    · show (1 : Int) ≤ (m.2.1 : Nat); omega
    · show (8 : Int) ≤ (m.2.2 : Nat); omega
    · show ((m.2.2 : Nat) : Int) ≤ 72; omega
    · obtain ⟨m', hm', rfl⟩ := castM_get _ _ _ hy
      subst hj
      have := (h.at_ j m' hm').2.2.2.2.2.1 m hk
      show ((m'.1 : Nat) : Int) < (m.1 : Nat) ∧ ((m.1 : Nat) : Int) < c.text.length
      omega
/-- The mark that At picks is the one to which the byte belongs. -/
theorem pick_in (marks : List (Nat × Nat × Nat)) (k : Nat) (m0 : Nat × Nat × Nat) (h0 : marks[0]? = some m0) (hz : m0.1 = 0) : ∀ n, 0 < n → n ≤ marks.length → ∃ j m, j < n ∧ marks[j]? = some m ∧ m.1 ≤ k ∧ pickM k ((marks.map castM).take n) (castM m0) = castM m ∧ ∀ m', j + 1 < n → marks[j + 1]? = some m' → k < m'.1
  | 0, h, _ => by omega
  | n + 1, _, hl => by
    have hx : marks[n]? = some marks[n] := List.getElem?_eq_getElem (by omega)
    have hxm : (marks.map castM)[n]? = some (castM marks[n]) := by rw [List.getElem?_map, hx]; rfl
    have hp := pickM_take (k : Int) (marks.map castM) (castM m0) _ n hxm
    by_cases hk : marks[n].1 ≤ k
    · refine ⟨n, marks[n], by omega, hx, hk, ?_, fun m' h => by omega⟩
      rw [hp, if_pos (by show ((marks[n].1 : Nat) : Int) ≤ k; omega)]
    · cases n with
      | zero =>
        rw [h0] at hx; injection hx with hx
        rw [← hx, hz] at hk; omega
      | succ n =>
        obtain ⟨j, m, h1, h2, h3, h4, h5⟩ := pick_in marks k m0 h0 hz (n + 1) (by omega) (by omega)
        refine ⟨j, m, by omega, h2, h3, ?_, fun m' hj hm' => ?_⟩
        · rw [hp, if_neg (by show ¬ ((marks[n + 1].1 : Nat) : Int) ≤ k; omega)]
          exact h4
        · by_cases e : j + 1 = n + 1
          · rw [e, hx] at hm'; injection hm' with hm'; subst hm'; omega
          · exact h5 m' (by omega) hm'
theorem pick_all {L : List (List UInt8)} {lo hi : Nat} {c : Kard} (h : GoodK L lo hi c) (hne : c.text ≠ []) (k : Nat) (m0 : Int × Int × Int) (hm0 : (c.marks.map castM)[0]? = some m0) : ∃ j m, InPart c k j m ∧ pickM k (c.marks.map castM) m0 = castM m := by
  obtain ⟨x, hx, rfl⟩ := castM_get _ _ _ hm0
  have hz := (h.at_ 0 x hx).2.2.2.2.1 rfl
  have hl : 0 < c.marks.length := List.length_pos_iff.2 (h.some_ hne)
  obtain ⟨j, m, h1, h2, h3, h4, h5⟩ := pick_in c.marks k x hx hz c.marks.length hl (Nat.le_refl _)
  rw [List.take_of_length_le (by simp)] at h4
  refine ⟨j, m, ⟨h2, h3, fun m' hm' => h5 m' ?_ hm'⟩, h4⟩
  rcases Nat.lt_or_ge (j + 1) c.marks.length with h' | h'
  · exact h'
  · rw [List.getElem?_eq_none h'] at hm'; cases hm'
/-- At within the text or behind it. -/
def AtK (c : Kard) (k : Nat) (w : World) (e : Ending) (w' : World) : Prop :=
  Below w.heap.size w w' ∧ ∃ (j : Nat) (m : Nat × Nat × Nat), InPart c k j m ∧ e = .returned (.tuple #[.agg #[.int .i64 m.2.1, .int .i64 (m.2.2 + (k - m.1) : Nat)], .int .i64 0])
theorem c_AtK {L : List (List UInt8)} {lo hi : Nat} {c : Kard} (h : GoodK L lo hi c) (hne : c.text ≠ []) (l : Bool) (t : ByteArray) (ht : t.data.toList = c.text) (m : Value) (k : Nat) (hk : k ≤ c.text.length) (w : World) (hm : MarksIn w m (c.marks.map castM)) (hs : t.size ≤ 134217728) :
    Calls Tryz.prog 17 #[.agg #[.bool l, .string t, m], .int .i64 k] w (AtK c k w) := by
  have hlen : c.text.length ≤ 134217728 := by rw [← ht, ← size_data]; exact hs
  refine (c_At l t m _ k (by omega) (by omega) w hm hs).mono ?_
  rintro e w' ⟨hb, hc⟩
  refine ⟨hb, ?_⟩
  rcases hc with ⟨_, _, _, m0, hm0, rfl⟩ | ⟨hn, _⟩
  · obtain ⟨j, mm, h1, h2⟩ := pick_all h hne k m0 hm0
    refine ⟨j, mm, h1, ?_⟩
    rw [h2]
    have e : ((castM mm).2.2 + (k : Int) - (castM mm).1) = ((mm.2.2 + (k - mm.1) : Nat) : Int) := by
      have := h1.2.1
      show ((mm.2.2 : Nat) : Int) + k - (mm.1 : Nat) = _
      omega
    rw [e]
    rfl
  · exact absurd ⟨by rw [ht]; exact validK h hne, by omega, by rw [ht]; omega⟩ hn
theorem c_AtBad {c : Kard} (l : Bool) (t : ByteArray) (ht : t.data.toList = c.text) (m : Value) (i : Int) (hi : i < 0 ∨ c.text.length < i) (hi1 : -9223372036854775808 ≤ i) (hi2 : i ≤ 9223372036854775807) (w : World) (hm : MarksIn w m (c.marks.map castM)) (hs : t.size ≤ 134217728) :
    Calls Tryz.prog 17 #[.agg #[.bool l, .string t, m], .int .i64 i] w fun e w' => e = .returned (.tuple #[.agg #[.int .i64 0, .int .i64 0], .int .i64 1]) ∧ Below w.heap.size w w' := by
  refine (c_At l t m _ i hi1 hi2 w hm hs).mono ?_
  rintro e w' ⟨hb, hc⟩
  refine ⟨?_, hb⟩
  rcases hc with ⟨_, h1, h2, _⟩ | ⟨_, he⟩
  · rw [ht] at h2; omega
  · exact he
/-- What At says of byte k of a card, held against the byte before. -/
theorem step_in {L : List (List UInt8)} {lo hi : Nat} {c : Kard} (h : GoodK L lo hi c) {k j j' : Nat} {m m' : Nat × Nat × Nat} (h1 : InPart c k j m) (h2 : InPart c (k + 1) j' m') : (m.2.1 < m'.2.1 ∧ k + 1 < c.text.length) ∨ (m'.2.1 = m.2.1 ∧ m'.2.2 + (k + 1 - m'.1) = m.2.2 + (k - m.1) + 1) := by
  rcases h1.next h h2 with e | ⟨e1, e2⟩
  · subst e
    right
    have := h1.2.1
    exact ⟨rfl, by omega⟩
  · left
    have := (h.at_ j' m' h2.1).1
    exact ⟨e1, by omega⟩
theorem line_in {L : List (List UInt8)} {lo hi : Nat} {c : Kard} (h : GoodK L lo hi c) {k j : Nat} {m : Nat × Nat × Nat} (h1 : InPart c k j m) : lo < m.2.1 ∧ m.2.1 ≤ hi ∧ 8 ≤ m.2.2 :=
  ⟨(h.at_ j m h1.1).2.1, (h.at_ j m h1.1).2.2.1, (h.at_ j m h1.1).2.2.2.1⟩
theorem byte_in {L : List (List UInt8)} {lo hi : Nat} {c : Kard} (h : GoodK L lo hi c) {k j : Nat} {m : Nat × Nat × Nat} (h1 : InPart c k j m) (b : UInt8) (hb : c.text[k]? = some b) :
    m.2.2 + (k - m.1) ≤ 72 ∧ (L.getD (m.2.1 - 1) []).getD (m.2.2 + (k - m.1) - 1) 32 = b := by
  obtain ⟨_, _, _, g4, _, _, g7⟩ := h.at_ j m h1.1
  obtain ⟨e1, e2⟩ := g7 k b h1.2.1 h1.2.2 hb
  refine ⟨e1, ?_⟩
  rw [textOf_getD _ _ (by omega)] at e2
  rw [show m.2.2 + (k - m.1) - 1 = m.2.2 - 8 + (k - m.1) + 7 from by omega]
  exact e2
end Go.Proofs.YtpalfhfbgfnacaaGreatDoor
