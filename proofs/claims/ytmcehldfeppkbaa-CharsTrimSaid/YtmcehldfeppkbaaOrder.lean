/-
  The order of padded texts, as plain mathematics; what append gives over a slice that reads as a list.
-/
import Derived.Test.YtmcehldfeppkbaaWFold
import Derived.Maps.AppendAt
import Derived.Laws.AppendOwnNone
namespace Go.Proofs.Ytmcehldfeppkbaa
open Go.RowKit
set_option linter.unusedVariables false
set_option linter.unusedSimpArgs false

/-! ### Comparing -/
theorem cmpFrom_cases (a b : List UInt8) : ∀ n k, (cmpFrom a b n k = 0 ∧ ∀ j, k ≤ j → j < k + n → (padB a j).toNat = (padB b j).toNat) ∨
    ∃ j, k ≤ j ∧ j < k + n ∧ (∀ i, k ≤ i → i < j → (padB a i).toNat = (padB b i).toNat) ∧
      ((cmpFrom a b n k = -1 ∧ (padB a j).toNat < (padB b j).toNat) ∨ (cmpFrom a b n k = 1 ∧ (padB b j).toNat < (padB a j).toNat))
  | 0, k => .inl ⟨rfl, fun j h1 h2 => by omega⟩
  | n + 1, k => by
    simp only [cmpFrom]
    by_cases h1 : (padB a k).toNat < (padB b k).toNat
    · rw [if_pos h1]
      exact .inr ⟨k, Nat.le_refl _, by omega, fun i h2 h3 => by omega, .inl ⟨rfl, h1⟩⟩
    · rw [if_neg h1]
      by_cases h2 : (padB b k).toNat < (padB a k).toNat
      · rw [if_pos h2]
        exact .inr ⟨k, Nat.le_refl _, by omega, fun i h3 h4 => by omega, .inr ⟨rfl, h2⟩⟩
      · rw [if_neg h2]
        have e : (padB a k).toNat = (padB b k).toNat := by omega
        rcases cmpFrom_cases a b n (k + 1) with ⟨h, hall⟩ | ⟨j, hj1, hj2, hall, hc⟩
        · refine .inl ⟨h, fun j h3 h4 => ?_⟩
          rcases Nat.lt_or_ge k j with h5 | h5
          · exact hall j (by omega) (by omega)
          · obtain rfl : k = j := by omega
            exact e
        · refine .inr ⟨j, by omega, by omega, fun i h3 h4 => ?_, hc⟩
          rcases Nat.lt_or_ge k i with h5 | h5
          · exact hall i (by omega) h4
          · obtain rfl : k = i := by omega
            exact e
/-- What Compare decides: equal at all places; or the first place at which the padded texts part. -/
theorem cmpB_cases (a b : List UInt8) : (cmpB a b = 0 ∧ ∀ j, (padB a j).toNat = (padB b j).toNat) ∨
    ∃ j, j < max a.length b.length ∧ (∀ i, i < j → (padB a i).toNat = (padB b i).toNat) ∧ ((cmpB a b = -1 ∧ (padB a j).toNat < (padB b j).toNat) ∨ (cmpB a b = 1 ∧ (padB b j).toNat < (padB a j).toNat)) := by
  rcases cmpFrom_cases a b (max a.length b.length) 0 with ⟨h, hall⟩ | ⟨j, _, hj2, hall, hc⟩
  · refine .inl ⟨h, fun j => ?_⟩
    rcases Nat.lt_or_ge j (max a.length b.length) with h1 | h1
    · exact hall j (by omega) (by omega)
    · rw [padB_out (by omega), padB_out (by omega)]
  · exact .inr ⟨j, by omega, fun i h => hall i (by omega) h, hc⟩
theorem cmpB_bd (a b : List UInt8) : -1 ≤ cmpB a b ∧ cmpB a b ≤ 1 := by
  rcases cmpB_cases a b with ⟨h, _⟩ | ⟨_, _, _, ⟨h, _⟩ | ⟨h, _⟩⟩ <;> rw [h] <;> decide
theorem cmpB_swap (a b : List UInt8) : cmpB b a = -cmpB a b := by
  rcases cmpB_cases a b with ⟨h, hall⟩ | ⟨j, hj, hall, h⟩
  · rcases cmpB_cases b a with ⟨h', _⟩ | ⟨j', _, _, h'⟩
    · omega
    · have := hall j'; omega
  · rcases cmpB_cases b a with ⟨h', hall'⟩ | ⟨j', hj', hall', h'⟩
    · have := hall' j; omega
    · obtain rfl : j = j' := by
        rcases Nat.lt_trichotomy j j' with h1 | h1 | h1
        · have := hall' j h1; omega
        · exact h1
        · have := hall j' h1; omega
      omega
theorem cmpB_trans (a b c : List UInt8) (h1 : cmpB a b ≤ 0) (h2 : cmpB b c ≤ 0) : cmpB a c ≤ 0 := by
  rcases cmpB_cases a c with ⟨h, _⟩ | ⟨j, _, hall, ⟨h, _⟩ | ⟨h, hj⟩⟩
  · omega
  · omega
  · exfalso
    rcases cmpB_cases a b with ⟨_, e1⟩ | ⟨j1, _, e1, ⟨_, f1⟩ | ⟨f1, _⟩⟩
    · rcases cmpB_cases b c with ⟨_, e2⟩ | ⟨j2, _, e2, ⟨_, f2⟩ | ⟨f2, _⟩⟩
      · have := e1 j; have := e2 j; omega
      · rcases Nat.lt_trichotomy j j2 with g | g | g
        · have := e1 j; have := e2 j g; omega
        · subst g; have := e1 j; omega
        · have := e1 j2; have := hall j2 g; omega
      · omega
    · rcases cmpB_cases b c with ⟨_, e2⟩ | ⟨j2, _, e2, ⟨_, f2⟩ | ⟨f2, _⟩⟩
      · rcases Nat.lt_trichotomy j j1 with g | g | g
        · have := e1 j g; have := e2 j; omega
        · subst g; have := e2 j; omega
        · have := e2 j1; have := hall j1 g; omega
      · rcases Nat.lt_trichotomy j1 j2 with g | g | g
        · rcases Nat.lt_trichotomy j j1 with k | k | k
          · have := e1 j k; have := e2 j (by omega); omega
          · subst k; have := e2 j g; omega
          · have := e2 j1 g; have := hall j1 k; omega
        · subst g
          rcases Nat.lt_trichotomy j j1 with k | k | k
          · have := e1 j k; have := e2 j k; omega
          · subst k; omega
          · have := hall j1 k; omega
        · rcases Nat.lt_trichotomy j j2 with k | k | k
          · have := e1 j (by omega); have := e2 j k; omega
          · subst k; have := e1 j g; omega
          · have := e1 j2 g; have := hall j2 k; omega
      · omega
    · omega
theorem cmpB_zero (a b : List UInt8) (h : ∀ j, padB a j = padB b j) : cmpB a b = 0 := by
  rcases cmpB_cases a b with ⟨h', _⟩ | ⟨j, _, _, h'⟩
  · exact h'
  · rw [h j] at h'; omega

/-! ### Fitting to the right -/
theorem fitAt_pad (l : List UInt8) (i : Nat) : fitAt l 0 i = padB l i := by
  by_cases h : i < l.length
  · rw [fitAt_zero (List.getElem?_eq_getElem h), padB_some (List.getElem?_eq_getElem h)]
  · rw [fitAt_out (by omega), padB_out (by omega)]
theorem fitB_pad (l : List UInt8) (n : Nat) : fitB l n false = (List.range n).map (padB l) := by
  unfold fitB
  refine List.map_congr_left fun i _ => ?_
  simpa using fitAt_pad l i
theorem map_range_eq (f g : Nat → UInt8) (n : Nat) : (List.range n).map f = (List.range n).map g ↔ ∀ i, i < n → f i = g i := by
  constructor
  · intro h i hi
    have := congrArg (fun l => l[i]?) h
    simpa [hi] using this
  · intro h
    exact List.map_congr_left fun i hi => h i (List.mem_range.1 hi)
theorem lt_of_first (f g : Nat → UInt8) : ∀ (n k j : Nat), k ≤ j → j < k + n → (∀ i, k ≤ i → i < j → f i = g i) → f j < g j → (List.range' k n).map f < (List.range' k n).map g
  | 0, k, j, h1, h2, _, _ => by omega
  | n + 1, k, j, h1, h2, he, hl => by
    rw [List.range'_succ, List.map_cons, List.map_cons]
    rcases Nat.lt_or_ge k j with h3 | h3
    · rw [he k (Nat.le_refl _) h3]
      exact List.cons_lt_cons_iff.2 (.inr ⟨rfl, lt_of_first f g n (k + 1) j (by omega) (by omega) (fun i h4 h5 => he i (by omega) h5) hl⟩)
    · obtain rfl : k = j := by omega
      exact List.cons_lt_cons_iff.2 (.inl hl)
theorem order_eq (a b : List UInt8) : decide (fitB a (max a.length b.length) false = fitB b (max a.length b.length) false) = decide (cmpB a b = 0) := by
  rw [Bool.eq_iff_iff]
  simp only [decide_eq_true_eq, fitB_pad, map_range_eq]
  constructor
  · intro h
    rcases cmpB_cases a b with ⟨h', _⟩ | ⟨j, hj, _, h'⟩
    · exact h'
    · rw [h j hj] at h'; omega
  · intro h i _
    rcases cmpB_cases a b with ⟨_, hall⟩ | ⟨j, hj, _, h'⟩
    · exact u8_eq (hall i)
    · omega
theorem order_lt (a b : List UInt8) : decide (fitB a (max a.length b.length) false < fitB b (max a.length b.length) false) = decide (cmpB a b < 0) := by
  rw [Bool.eq_iff_iff]
  simp only [decide_eq_true_eq, fitB_pad, List.range_eq_range']
  rcases cmpB_cases a b with ⟨h, hall⟩ | ⟨j, hj, hall, ⟨h, hl⟩ | ⟨h, hl⟩⟩
  · have e : (List.range' 0 (max a.length b.length)).map (padB a) = (List.range' 0 (max a.length b.length)).map (padB b) :=
      List.map_congr_left fun i _ => u8_eq (hall i)
    rw [e, h]
    constructor
    · intro h'; exact absurd h' (List.lt_irrefl _)
    · intro h'; omega
  · have := lt_of_first (padB a) (padB b) (max a.length b.length) 0 j (by omega) (by omega) (fun i _ hi => u8_eq (hall i hi)) (UInt8.lt_iff_toNat_lt.2 hl)
    constructor
    · intro _; omega
    · intro _; exact this
  · have := lt_of_first (padB b) (padB a) (max a.length b.length) 0 j (by omega) (by omega) (fun i _ hi => (u8_eq (hall i hi)).symm) (UInt8.lt_iff_toNat_lt.2 hl)
    constructor
    · intro h'; exact absurd h' (List.lt_asymm this)
    · intro h'; omega

/-! ### Trimming -/
theorem lastI_above (p : UInt8 → Bool) (l : List UInt8) : ∀ (k j : Nat), lastI p l k < j → j < k → p (l.getD j 0) = false
  | 0, j, _, h => by omega
  | k + 1, j, h, hj => by
    simp only [lastI] at h
    by_cases hp : p (l.getD k 0) = true
    · rw [if_pos hp] at h; omega
    · rw [if_neg hp] at h
      rcases Nat.lt_or_ge j k with h1 | h1
      · exact lastI_above p l k j h h1
      · obtain rfl : j = k := by omega
        simpa using hp
theorem trimB_pad (l : List UInt8) (j : Nat) : padB (trimB l) j = padB l j := by
  have hle := trimN_le l
  have hlen := trimB_length l
  rcases Nat.lt_or_ge j (trimN l) with h | h
  · unfold padB trimB
    simp [List.getD, h]
  · rw [padB_out (by omega)]
    rcases Nat.lt_or_ge j l.length with h1 | h1
    · have h2 := lastI_above (fun c => !spcB c) l l.length j (by
        have := lastI_lo (fun c => !spcB c) l l.length
        unfold trimN at h; omega) h1
      have e : l[j]? = some l[j] := List.getElem?_eq_getElem h1
      rw [padB_some e]
      have h3 : l.getD j 0 = l[j] := by simp [List.getD, h1]
      rw [h3] at h2
      simp only [Bool.not_eq_false', spcB, decide_eq_true_eq] at h2
      exact (u8_eq (by rw [h2]; rfl)).symm
    · rw [padB_out h1]
theorem cmpB_trim (l : List UInt8) : cmpB l (trimB l) = 0 := cmpB_zero _ _ fun j => (trimB_pad l j).symm
theorem space_pad (l : List UInt8) (j : Nat) : padB (l ++ [32]) j = padB l j := by
  rcases Nat.lt_or_ge j l.length with h | h
  · have e : l[j]? = some l[j] := List.getElem?_eq_getElem h
    rw [padB_some e, padB_some (by rw [List.getElem?_append_left h]; exact e)]
  · rw [padB_out h]
    rcases Nat.lt_or_ge l.length j with h1 | h1
    · rw [padB_out (by simp; omega)]
    · obtain rfl : l.length = j := by omega
      exact padB_some (by simp)
theorem cmpB_space (l : List UInt8) : cmpB l (l ++ [32]) = 0 := cmpB_zero _ _ fun j => (space_pad l j).symm

/-! ### append -/
def valsB (l : List UInt8) : List Value := l.map fun c => Value.int .u8 c.toNat
theorem valsB_length (l : List UInt8) : (valsB l).length = l.length := by simp [valsB]
theorem valsB_append (a b : List UInt8) : valsB a ++ valsB b = valsB (a ++ b) := by simp [valsB]
theorem append_txt (base : Nat) (v : Value) (xs ys : List UInt8) (A : Option Addr) (cap : Nat) (w : World) (hown : w.ownsRow base 5 1 v xs.length (valsB xs)) (h : Txt w A ys) (hcap : A = none → cap = 0)
    (hl : xs.length + ys.length ≤ 140737488355328) (hbase : base ≤ w.heap.size) :
    ∃ v' w', (Builtin.append_ #[25, 25] 25 #[v, .slice A ys.length cap]).run Try.prog w = .ok v' w' ∧ w'.ownsRow base 5 1 v' (xs ++ ys).length (valsB (xs ++ ys)) ∧ Below base w w' ∧ base ≤ w'.heap.size := by
  obtain ⟨i0, hi, hz0, hz1, hz2⟩ := info_parts Try.infoU8
  rcases A with _ | ad
  · have hy : ys = [] := by
      rcases Nat.eq_zero_or_pos ys.length with h0 | h0
      · exact List.eq_nil_of_length_eq_zero h0
      · obtain ⟨b, off, e, _⟩ := h h0; cases e
    subst hy
    rw [hcap rfl]
    exact ⟨v, w, run_append_owned_none (P := Try.prog) (w := w) base 25 25 5 i0 1 Try.underlying25 hi v _ _ hown, by simpa using hown, Below.refl _ _, hbase⟩
  · have hcell : ∀ j u, (valsB ys)[j]? = some u → w.cell? (ad.add j) = some u := by
      intro j u hu
      have hj : j < ys.length := by
        rcases Nat.lt_or_ge j ys.length with h0 | h0
        · exact h0
        · rw [List.getElem?_eq_none (by rw [valsB_length]; exact h0)] at hu; cases hu
      obtain ⟨b, off, e, _, hc⟩ := h (by omega)
      injection e with e; subst e
      have hg : ys[j]? = some ys[j] := List.getElem?_eq_getElem hj
      have ha : (⟨b, off, none⟩ : Addr).add j = ⟨b, off + j, none⟩ := by unfold Addr.add; split <;> simp_all
      rw [ha, hc j _ hg]
      unfold valsB at hu
      rw [List.getElem?_map, hg] at hu
      exact hu
    obtain ⟨v', w', hrun, hown', hgrow, _, _⟩ := run_append_own_at (P := Try.prog) w base 25 25 5 i0 (.int .u8 0) 1 1 Try.underlying25 hi hz0 hz1 hz2 rfl (by decide) v xs.length (valsB xs) hown ad ys.length cap (valsB ys)
      (by rw [valsB_length]; omega) hcell (fun u hu => by obtain ⟨c, _, rfl⟩ := List.mem_map.1 hu; rfl) (by unfold maxLen; omega) (by omega) hbase
    refine ⟨v', w', hrun, ?_, (Below.refl _ _).grown hgrow hbase (fun k hk => (hown.lt k hk).1), by have := hgrow.size; omega⟩
    rw [valsB_append] at hown'
    rw [List.length_append]
    exact hown'
theorem own_form {base : Nat} {v : Value} {xs : List UInt8} {w : World} (h : w.ownsRow base 5 1 v xs.length (valsB xs)) : ∃ A cap, v = .slice A xs.length cap ∧ Txt w A xs := by
  have hh := h
  obtain ⟨_, h2⟩ := hh
  rcases h2 with ⟨rfl, h0⟩ | ⟨g, cap, cur, rfl, hg, hb, h3⟩
  · have : xs = [] := List.eq_nil_of_length_eq_zero h0
    subst this
    exact ⟨none, 0, rfl, Txt.nil _ _⟩
  · refine ⟨_, cap, rfl, fun h0 => ⟨g, 0, rfl, (h.lt g rfl).2, fun j c hj => ?_⟩⟩
    have hjl : j < xs.length := by
      rcases Nat.lt_or_ge j xs.length with h4 | h4
      · exact h4
      · rw [List.getElem?_eq_none h4] at hj; cases hj
    have := h.cellAt (g := g) (cap := cap) j (by omega)
    rw [Nat.zero_add, this]
    unfold valsB
    rw [List.getElem?_map, hj]
    rfl
end Go.Proofs.Ytmcehldfeppkbaa
