/-
  The contracts of the reference's function lines (columnsevenref02).
-/
import Derived.Test.YtbckdieajfbepaaDoorRef2a
import Derived.Test.YtbckdieajfbepaaDoorApp
namespace Go.Proofs.YtbckdieajfbepaaDoor
open Go.RowKit
set_option linter.unusedVariables false
set_option linter.unusedSimpArgs false

/-- The lines of a text: what stands before each byte 10, and the rest if it is not empty. -/
def linesG (cur : List UInt8) : List UInt8 → List (List UInt8)
  | [] => if cur = [] then [] else [cur]
  | c :: r => if c.toNat = 10 then cur :: linesG [] r else linesG (cur ++ [c]) r
def linesB (l : List UInt8) : List (List UInt8) := linesG [] l
/-- The cells of a list of strings. -/
def valsS (ls : List (List UInt8)) : List Value := ls.map fun l => Value.string (strL l)

/-- What the loop of lines knows when i is k, and the line began at j. -/
def LinesAt (l : List UInt8) (k j : Nat) (L : List (List UInt8)) : Prop :=
  (k ≤ l.length ∧ j ≤ k ∧ L ++ linesG ((l.take k).drop j) (l.drop k) = linesB l) ∨ (k = l.length + 1 ∧ L = linesB l)
theorem LinesAt.start (l : List UInt8) : LinesAt l 0 0 [] := .inl ⟨Nat.zero_le _, Nat.le_refl _, by simp [linesB]⟩
theorem LinesAt.len {l : List UInt8} {k j : Nat} {L : List (List UInt8)} (h : LinesAt l k j L) : k ≤ l.length + 1 := by
  rcases h with ⟨h, _⟩ | ⟨h, _⟩ <;> omega
theorem LinesAt.done {l : List UInt8} {k j : Nat} {L : List (List UInt8)} (h : LinesAt l k j L) (hk : l.length < k) : L = linesB l := by
  rcases h with ⟨h, _⟩ | ⟨_, h⟩
  · omega
  · exact h
theorem LinesAt.last {l : List UInt8} {j : Nat} {L : List (List UInt8)} (h : LinesAt l l.length j L) : (j = l.length → L = linesB l) ∧ (j < l.length → LinesAt l (l.length + 1) (l.length + 1) (L ++ [l.drop j])) := by
  rcases h with ⟨_, hj, h⟩ | ⟨h, _⟩
  · simp only [List.take_length, List.drop_length, linesG] at h
    constructor
    · intro e; subst e
      simpa using h
    · intro hlt
      rw [if_neg (by intro e; have := congrArg List.length e; simp at this; omega)] at h
      exact .inr ⟨rfl, h⟩
  · omega
theorem LinesAt.bounds {l : List UInt8} {k j : Nat} {L : List (List UInt8)} (h : LinesAt l k j L) (hk : k ≤ l.length) : j ≤ k := by
  rcases h with ⟨_, h, _⟩ | ⟨h, _⟩ <;> omega
theorem LinesAt.break {l : List UInt8} {k j : Nat} {L : List (List UInt8)} (h : LinesAt l k j L) (c : UInt8) (hc : l[k]? = some c) (h10 : c.toNat = 10) : LinesAt l (k + 1) (k + 1) (L ++ [(l.take k).drop j]) := by
  have hk : k < l.length := by
    rcases Nat.lt_or_ge k l.length with hk | hk
    · exact hk
    · rw [List.getElem?_eq_none hk] at hc; cases hc
  rcases h with ⟨_, hj, h⟩ | ⟨h, _⟩
  · refine .inl ⟨hk, Nat.le_refl _, ?_⟩
    rw [List.getElem?_eq_getElem hk] at hc
    injection hc with hc
    rw [List.drop_eq_getElem_cons hk, hc] at h
    simp only [linesG, h10, if_true] at h
    rw [← h, List.append_assoc]
    congr 1
    rw [show (l.take (k + 1)).drop (k + 1) = [] from by apply List.drop_eq_nil_of_le; simp; omega]
    rfl
  · omega
theorem LinesAt.more {l : List UInt8} {k j : Nat} {L : List (List UInt8)} (h : LinesAt l k j L) (c : UInt8) (hc : l[k]? = some c) (h10 : c.toNat ≠ 10) : LinesAt l (k + 1) j L := by
  have hk : k < l.length := by
    rcases Nat.lt_or_ge k l.length with hk | hk
    · exact hk
    · rw [List.getElem?_eq_none hk] at hc; cases hc
  rcases h with ⟨_, hj, h⟩ | ⟨h, _⟩
  · refine .inl ⟨hk, by omega, ?_⟩
    rw [List.getElem?_eq_getElem hk] at hc
    injection hc with hc
    rw [List.drop_eq_getElem_cons hk, hc] at h
    simp only [linesG, h10, if_false] at h
    rw [← h, List.take_succ_eq_append_getElem hk, hc, List.drop_append_of_le_length (by simp; omega)]
  · omega
theorem Tryd.infoStr : (Tryd.prog.info? 9).map (fun i => (i.zero, i.size, i.bytes)) = some (some (.string ⟨#[]⟩), 1, 16) := by kernel_rfl
theorem valsS_length (L : List (List UInt8)) : (valsS L).length = L.length := by simp [valsS]
theorem valsS_snoc (L : List (List UInt8)) (t : ByteArray) (l : List UInt8) (h : t.data.toList = l) : valsS L ++ [.string t] = valsS (L ++ [l]) := by
  subst h
  simp [valsS, strL_of]

/-- append of one string onto a row of the call's own. -/
theorem append_str (base : Nat) (v : Value) (L : List (List UInt8)) (t : ByteArray) (l : List UInt8) (hl : t.data.toList = l) (W : World) (hown : W.ownsRow base 9 1 v L.length (valsS L)) (hn : L.length ≤ 2097152) (hbase : base ≤ W.heap.size) :
    ∃ v' w', (Builtin.append_ #[42, 42] 42 #[v, .slice (some ⟨W.heap.size, 0, none⟩) 1 1]).run Tryd.prog (W.alloc (.cells #[.string t] 9)) = .ok v' w' ∧
      w'.ownsRow base 9 1 v' (L ++ [l]).length (valsS (L ++ [l])) ∧ Below base W w' ∧ base ≤ w'.heap.size := by
  obtain ⟨i0, hi, hz0, hz1, hz2⟩ := info_parts Tryd.infoStr
  obtain ⟨v', w', h1, h2, h3, h4⟩ := append_one (P := Tryd.prog) 42 9 i0 (.string ⟨#[]⟩) 16 Tryd.underlying42 hi hz0 hz1 hz2 rfl base v L.length (valsS L) (.string t) W hown rfl (by unfold maxLen; omega) (by omega) hbase
  rw [valsS_snoc L t l hl] at h2
  exact ⟨v', w', h1, by rw [List.length_append]; exact h2, h3, h4⟩

set_option maxRecDepth 100000 in
set_option maxHeartbeats 2000000 in
theorem r2lines (s : ByteArray) (hs : s.size ≤ 1048576) (w : World) :
    Calls Tryd.prog 27 #[.string s] w fun e w' => ∃ v, e = .returned v ∧ w'.ownsRow w.heap.size 9 1 v (linesB s.data.toList).length (valsS (linesB s.data.toList)) ∧ Below w.heap.size w w' := by
  have HL := Lib.hid (size_data s)
  obtain ⟨B, hB⟩ : ∃ B, B = w.heap.size := ⟨_, rfl⟩
  have HB := Lib.hid hB
  rw [← hB]; clear hB
  go_enter Tryd.func27, Tryd.ntmps27
  go_wp2
  go_loopw [3, 4, 5] (fun o a i wr => ∃ (k j : Nat) (L : List (List UInt8)), k ≤ s.size + 1 ∧ j ≤ k ∧ L.length ≤ k ∧ i = .int .i64 k ∧ a = .int .i64 j ∧ Hid (LinesAt s.data.toList k j L) ∧ Hid (wr.ownsRow B 9 1 o L.length (valsS L)) ∧ Hid (Below B w wr) ∧ B ≤ wr.heap.size)
    (fun _ _ i _ => s.size + 1 - (intOf i).toNat)
  case atStart => exact ⟨0, 0, [], by omega, by omega, by simp, rfl, rfl, LinesAt.start _, World.ownsRow_nil _ _ _ _, Below.refl _ _, by rw [HB.out]; exact Nat.le_refl _⟩
  case round =>
    obtain ⟨k, j, L, hk, hj, hLk, rfl, rfl, HA, HO, HBe, hbs⟩ := hrel
    by_cases hlt : k < s.size
    · have hget := get_data s k hlt
      have hkk : ((k : Int) == (s.size : Int)) = false := by simp; omega
      by_cases h10 : s[k].toNat = 10
      · have hq : ((s[k].toNat : Int) == 10) = true := by simp; omega
        have HN := Lib.hid (HA.out.break _ hget h10)
        have hex : (s.extract j k).data.toList = (s.data.toList.take k).drop j := extract_data s j k
        obtain ⟨v', w', hr, ho', hb', hbs'⟩ := append_str B _ L (s.extract j k) _ hex wr HO.out (by omega) hbs
        have HR := Lib.hid hr; have HO' := Lib.hid ho'; have HB' := Lib.hid (HBe.out.trans hb')
        clear hget h10 hex hr ho' hb'
        go_wp2_with (at_builtin; refine wp_append_run rfl (.tmp 32) (.tmp 37) _ rfl _ _ _ _ rfl rfl HR.out ?_)
        go_roundw
        case rel => exact ⟨k + 1, k + 1, _, by omega, by omega, by simp; omega, by go_num, by go_num, HN, HO', HB', hbs'⟩
        case measure => simp [intOf]; omega
      · have hq : ((s[k].toNat : Int) == 10) = false := by simp; omega
        have HN := Lib.hid (HA.out.more _ hget h10)
        clear hget h10
        go_wp2
        go_roundw
        case rel => exact ⟨k + 1, j, L, by omega, by omega, by omega, by go_num, rfl, HN, HO, HBe, hbs⟩
        case measure => simp [intOf]; omega
    · by_cases heq : k = s.size
      · have hq : ((k : Int) == (s.size : Int)) = true := by simp; omega
        have HZ : Hid (LinesAt s.data.toList s.data.toList.length j L) := by
          have := HA.out
          rw [heq, HL.out] at this
          exact this
        by_cases hjk : j = k
        · have hq2 : ((j : Int) == (k : Int)) = true := by simp; omega
          have HF : Hid (L = linesB s.data.toList) := HZ.out.last.1 (by rw [hjk, heq]; exact HL.out)
          have hks : k ≤ s.size := by omega
          have HK := Lib.hid heq; have HJ := Lib.hid hjk
          clear heq hjk
          go_wp2
          go_ret
          exact ⟨_, rfl, by rw [← HF.out]; exact HO.out, HBe.out⟩
        · have hq2 : ((j : Int) == (k : Int)) = false := by simp; omega
          have hex : (s.extract j k).data.toList = s.data.toList.drop j := by rw [extract_data, heq, HL.out, List.take_length]
          have HN : Hid (LinesAt s.data.toList (k + 1) (k + 1) (L ++ [s.data.toList.drop j])) := by
            have := HZ.out.last.2 (by rw [← HL.out, ← heq]; omega)
            rw [← HL.out, ← heq] at this
            exact this
          obtain ⟨v', w', hr, ho', hb', hbs'⟩ := append_str B _ L (s.extract j k) _ hex wr HO.out (by omega) hbs
          have HR := Lib.hid hr; have HO' := Lib.hid ho'; have HB' := Lib.hid (HBe.out.trans hb')
          have hks : k ≤ s.size := by omega
          have HK := Lib.hid heq
          clear heq hjk hex hr ho' hb'
          go_wp2_with (at_builtin; refine wp_append_run rfl (.tmp 32) (.tmp 37) _ rfl _ _ _ _ rfl rfl HR.out ?_)
          go_roundw
          case rel => exact ⟨k + 1, k + 1, _, by omega, by omega, by simp; omega, by go_num, by go_num, HN, HO', HB', hbs'⟩
          case measure => simp [intOf]; rw [HK.out]; omega
      · have HF : Hid (L = linesB s.data.toList) := HA.out.done (by rw [← HL.out]; omega)
        have hks : ¬ k ≤ s.size := by omega
        go_wp2
        go_ret
        exact ⟨_, rfl, by rw [← HF.out]; exact HO.out, HBe.out⟩
end Go.Proofs.YtbckdieajfbepaaDoor
