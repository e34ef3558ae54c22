/-
  The law's own layout against the writer's, on lists; no walk here.
-/
import Derived.Test.YtbckdieajfbepaaDoorWrtL
import Derived.Test.YtbckdieajfbepaaDoorLaw2
namespace Go.Proofs.YtbckdieajfbepaaDoor
open Go.RowKit
set_option linter.unusedVariables false
set_option linter.unusedSimpArgs false

theorem dec_mil : ∀ m k, k < 10 ^ m → Lib.decDigits (10 ^ m + k) = 49 :: (List.replicate (m - (digN k).length) 48 ++ digN k) ∧ (digN k).length ≤ m
  | 0, k, h => by
    obtain rfl : k = 0 := by simpa using h
    rw [digN_zero, Lib.decDigits, dif_pos (by decide)]
    exact ⟨rfl, Nat.le_refl _⟩
  | m + 1, k, h => by
    have hp : 10 ^ (m + 1) = 10 * 10 ^ m := by rw [Nat.pow_succ, Nat.mul_comm]
    have h1 : 0 < 10 ^ m := Nat.pow_pos (by decide)
    have hk : k / 10 < 10 ^ m := by omega
    obtain ⟨ih, il⟩ := dec_mil m (k / 10) hk
    have hd : (10 ^ (m + 1) + k) / 10 = 10 ^ m + k / 10 := by omega
    have hm : (10 ^ (m + 1) + k) % 10 = k % 10 := by omega
    rw [Lib.decDigits, dif_neg (by omega), hd, hm, ih]
    rcases Nat.eq_zero_or_pos k with h0 | h0
    · subst h0
      rw [Nat.zero_div, digN_zero]
      refine ⟨?_, by simp⟩
      simp [List.replicate_succ']
    · rw [digN_pos k h0]
      refine ⟨?_, by rw [List.length_append, List.length_singleton]; omega⟩
      rw [List.length_append, List.length_singleton, show m + 1 - ((digN (k / 10)).length + 1) = m - (digN (k / 10)).length from by omega]
      simp
theorem num6_dig (n : Nat) (h : n < 1000000) : num6 n = List.replicate (6 - (digN n).length) 48 ++ digN n ∧ (digN n).length ≤ 6 := by
  have := dec_mil 6 n h
  unfold num6
  rw [Nat.mod_eq_of_lt h, show 1000000 = 10 ^ 6 from rfl, this.1]
  exact ⟨rfl, this.2⟩

theorem divN_take (rest : List UInt8) (op : Bool) (room : Nat) : ∀ j, j ≤ room → divN (rest.take (room + 1)) op j = divN rest op j
  | 0, _ => rfl
  | j + 1, h => by
    simp only [divN]
    rw [hitAt_take rest op room (j + 1) h, divN_take rest op room j (by omega)]
theorem divN_pos (rest : List UInt8) (op : Bool) : ∀ j e, divN rest op j = some e → 1 ≤ e
  | 0, e, h => by cases h
  | j + 1, e, h => by
    simp only [divN] at h
    split at h
    · injection h with h; omega
    · exact divN_pos rest op j e h
theorem cutAt_div (rest : List UInt8) (op : Bool) (room : Nat) : cutAt rest op room = ((divN rest op room).getD room, (divN rest op room).isSome) := by
  unfold cutAt
  rw [lastHit_div, divN_take rest op room room (Nat.le_refl _)]
  cases h : divN rest op room with
  | none => rfl
  | some e =>
    have := divN_pos rest op room e h
    show (if 0 < e then (e, true) else (room, false)) = _
    rw [if_pos (by omega)]
    rfl
/-- What stands in front of a rest, and whether a text is open there. -/
def isFront (op : Bool) (fr : List UInt8) : Prop := isHead fr ∧ (decide ((fr.getD (fr.length - 1) 0).toNat = 34) = op)
theorem front_A : isFront false headAL := ⟨.inl rfl, rfl⟩
theorem front_B : isFront false headBL := ⟨.inr (.inl rfl), rfl⟩
theorem front_M : isFront false headML := ⟨.inr (.inr (.inl rfl)), rfl⟩
theorem front_Q : isFront true headQL := ⟨.inr (.inr (.inr rfl)), rfl⟩
/-- A rest that is laid out: it is not empty, and ends with no space. -/
def RestOK (rest : List UInt8) : Prop := rest ≠ [] ∧ ∀ h : rest ≠ [], (rest.getLast h).toNat ≠ 32
theorem rest_right {text : List UInt8} (h : rightB text = true) : RestOK text := by
  unfold rightB at h
  simp only [Bool.and_eq_true, Bool.not_eq_true', decide_eq_false_iff_not, decide_eq_true_eq] at h
  obtain ⟨h1, ⟨⟨h2, h3⟩, h4⟩, h5⟩ := h
  have hne : text ≠ [] := by intro e; subst e; cases h2
  refine ⟨hne, fun hn => ?_⟩
  have hl : 0 < text.length := List.length_pos_iff.2 hn
  rw [List.getLast_eq_getElem]
  simpa [List.getD, List.getElem?_eq_getElem (show text.length - 1 < text.length by omega)] using h4
theorem rest_drop {rest : List UInt8} (h : RestOK rest) (e : Nat) (he : e < rest.length) : RestOK (rest.drop e) :=
  ⟨by intro hn; have := congrArg List.length hn; rw [List.length_drop] at this; simp at this; omega, last_dropW h.2 e⟩
theorem rest_space {rest : List UInt8} (h : RestOK rest) : RestOK (rest.drop (fstN rest)) := by
  have hdr := spaces_lead rest
  have hne : rest.drop (fstN rest) ≠ [] := by
    intro hn
    rw [hn, List.append_nil] at hdr
    have hm : ∀ x ∈ rest, x = 32 := fun x hx => List.eq_of_mem_replicate (by rw [← hdr]; exact hx)
    exact h.2 h.1 (by rw [hm _ (List.getLast_mem h.1)]; rfl)
  exact ⟨hne, last_dropW h.2 _⟩
/-- What the law's inner loop knows: o is laid out, n lines; goal: what it comes to. -/
structure InAt (goal : List UInt8 × Nat) (fr rest : List UInt8) (op : Bool) (o : List UInt8) (n : Nat) : Prop where
  ex : ∃ f, rest.length < f ∧ (o ++ (layF f n fr rest op).1, (layF f n fr rest op).2) = goal
  fr : isFront op fr
  ok : RestOK rest
  room : o.length + (rest.length + 1) * 80 ≤ 70000
  num : n + rest.length ≤ 900
theorem InAt.last {goal : List UInt8 × Nat} {fr rest o : List UInt8} {op : Bool} {n : Nat} (h : InAt goal fr rest op o n) (hr : rest.length ≤ 66 - fr.length) : goal = (o ++ lineB (n + 1) fr rest, n + 1) := by
  obtain ⟨f, hf, hg⟩ := h.ex
  obtain ⟨f, rfl⟩ : ∃ k, f = k + 1 := ⟨f - 1, by omega⟩
  rw [layF_last f n fr rest op hr] at hg
  exact hg.symm
theorem InAt.next {goal : List UInt8 × Nat} {fr rest o : List UInt8} {op : Bool} {n : Nat} (h : InAt goal fr rest op o n) (hr : ¬ rest.length ≤ 66 - fr.length) {e : Nat} {d : Bool} (he : (divN rest op (66 - fr.length)).getD (66 - fr.length) = e) (hd : (divN rest op (66 - fr.length)).isSome = d) {op' : Bool} (ho : (op ^^ openB (rest.take e)) = op') :
    1 ≤ e ∧ e < rest.length ∧ (d = true → InAt goal headBL ((rest.drop e).drop (fstN (rest.drop e))) false (o ++ lineB (n + 1) fr (rest.take e)) (n + 1)) ∧
      (d = false → InAt goal (if op' then headQL else headML) (rest.drop e) op' (o ++ lineB (n + 1) fr (rest.take e)) (n + 1)) := by
  obtain ⟨f, hf, hg⟩ := h.ex
  obtain ⟨f, rfl⟩ : ∃ k, f = k + 1 := ⟨f - 1, by omega⟩
  have hfl := head_len h.fr.1
  have hc : cutAt rest op (66 - fr.length) = (e, d) := by rw [cutAt_div, he, hd]
  have hle : 1 ≤ e ∧ e ≤ 66 - fr.length := by
    cases d
    · have := (cut_hard hc).1; omega
    · have := cut_space hc; exact ⟨this.1, this.2.1⟩
  have hel : e < rest.length := by omega
  have hll := lineB_len (n + 1) fr (rest.take e)
  rw [List.length_take, Nat.min_eq_left (by omega)] at hll
  have h1 := h.room
  have h2 := h.num
  have hdl : (rest.drop e).length = rest.length - e := List.length_drop ..
  refine ⟨hle.1, hel, fun hd => ?_, fun hd => ?_⟩
  · subst hd
    rw [layF_space f n fr rest op e hr hc, ho] at hg
    have hof : op' = false := by
      rw [← ho, (cut_space hc).2.2.2]; cases op <;> rfl
    subst hof
    have hdd : ((rest.drop e).drop (fstN (rest.drop e))).length ≤ rest.length - e := by rw [List.length_drop, hdl]; omega
    refine ⟨⟨f, by omega, by rw [List.append_assoc]; exact hg⟩, front_B, rest_space (rest_drop h.ok e hel), ?_, by omega⟩
    rw [List.length_append, hll]; omega
  · subst hd
    rw [layF_hard f n fr rest op e hr hc _ ho] at hg
    refine ⟨⟨f, by omega, by rw [List.append_assoc]; exact hg⟩, ?_, rest_drop h.ok e hel, ?_, by omega⟩
    · cases op'
      · exact front_M
      · exact front_Q
    · rw [List.length_append, hll]; omega
theorem InAt.start {text o : List UInt8} {n : Nat} (left : Bool) (h : rightB text = true) (hl : o.length + (text.length + 1) * 80 ≤ 70000) (hn : n + text.length ≤ 900) :
    InAt (o ++ (layF (text.length + 1) n (if left then headAL else headBL) text false).1, (layF (text.length + 1) n (if left then headAL else headBL) text false).2) (if left then headAL else headBL) text false o n :=
  ⟨⟨_, Nat.lt_succ_self _, rfl⟩, by cases left; exact front_B; exact front_A, rest_right h, hl, hn⟩
end Go.Proofs.YtbckdieajfbepaaDoor
