/-
  The contract of the reference's quote (columnsevenref03).
-/
import Derived.Test.YtpalfhfbgfnacaaGreatDoorGH
import Derived.Test.YtpalfhfbgfnacaaGreatDoorGA
namespace Go.Proofs.YtpalfhfbgfnacaaGreatDoor
open Go.RowKit
set_option linter.unusedVariables false
set_option linter.unusedSimpArgs false

/-- What quote returns: the literal's characters and where it ends. -/
def quoteR (i : Nat) (l : List UInt8) : List UInt8 × Nat :=
  match litE (l.drop (i + 1)) with
  | none => ([], 0)
  | some (t, n) => if t = [] then ([], 0) else (t, i + 1 + n)
theorem ret_pair {a b : ByteArray} {m n : Int} (h : a = b) (g : m = n) : Ending.returned (.tuple #[.string a, .int .i64 m]) = .returned (.tuple #[.string b, .int .i64 n]) := by rw [h, g]
/-- What the loop knows at k. -/
def QuoteAt (i : Nat) (l : List UInt8) (k : Nat) (T : List UInt8) : Prop := i + 1 ≤ k ∧ litE (l.drop (i + 1)) = (litE (l.drop k)).map (fun x => (T ++ x.1, x.2 + (k - (i + 1))))
theorem quote_start (i : Nat) (l : List UInt8) : QuoteAt i l (i + 1) [] := ⟨Nat.le_refl _, by cases litE (l.drop (i + 1)) <;> simp⟩
theorem quote_other {i : Nat} {l : List UInt8} {k : Nat} {T : List UInt8} {c : UInt8} (h : QuoteAt i l k T) (hc : l[k]? = some c) (h34 : c.toNat ≠ 34) : QuoteAt i l (k + 1) (T ++ [c]) := by
  obtain ⟨h1, h2⟩ := h
  refine ⟨by omega, ?_⟩
  rw [h2, drop_get hc, litE_other _ _ h34]
  cases litE (l.drop (k + 1)) with
  | none => rfl
  | some x => simp; omega
theorem quote_pair {i : Nat} {l : List UInt8} {k : Nat} {T : List UInt8} {c d : UInt8} (h : QuoteAt i l k T) (hc : l[k]? = some c) (h34 : c.toNat = 34) (hd : l[k + 1]? = some d) (hd34 : d.toNat = 34) : QuoteAt i l (k + 1 + 1) (T ++ [34]) := by
  obtain ⟨h1, h2⟩ := h
  refine ⟨by omega, ?_⟩
  rw [h2, drop_get hc, drop_get hd, show c = 34 from u8_eq h34, show d = 34 from u8_eq hd34, litE_pair]
  cases litE (l.drop (k + 1 + 1)) with
  | none => rfl
  | some x => simp; omega
theorem quote_done {i : Nat} {l : List UInt8} {k : Nat} {T : List UInt8} {c : UInt8} (h : QuoteAt i l k T) (hc : l[k]? = some c) (h34 : c.toNat = 34) (hd : isAt l (k + 1) 34 = false) : quoteR i l = if T = [] then ([], 0) else (T, k + 1) := by
  obtain ⟨h1, h2⟩ := h
  have h3 : litE (l.drop k) = some ([], 1) := by
    rw [drop_get hc, show c = 34 from u8_eq h34]
    cases hr : l.drop (k + 1) with
    | nil => rfl
    | cons d r =>
      refine litE_end d r ?_
      intro e
      have : l[k + 1]? = some d := by
        have := congrArg (·[0]?) hr
        simpa using this
      unfold isAt at hd
      rw [atB_some this] at hd
      simp [e] at hd
  unfold quoteR
  rw [h2, h3]
  simp
  split
  · rfl
  · congr 1; omega
theorem quote_none {i : Nat} {l : List UInt8} {k : Nat} {T : List UInt8} (h : QuoteAt i l k T) (hk : l.length ≤ k) : quoteR i l = ([], 0) := by
  unfold quoteR
  rw [h.2, List.drop_of_length_le hk]
  rfl
set_option maxHeartbeats 2000000 in
set_option maxRecDepth 100000 in
theorem r3quote (s : ByteArray) (i : Nat) (hs : s.size ≤ 134217728) (hi : i < s.size) (w : World) : Calls Tryz.prog 58 #[.string s, .int .i64 i] w fun e w' => e = .returned (.tuple #[.string (strL (quoteR i s.data.toList).1), .int .i64 (quoteR i s.data.toList).2]) ∧ w = w' := by
  have HL := Lib.hid (size_data s)
  obtain ⟨X, hX⟩ : ∃ X, X = quoteR i s.data.toList := ⟨_, rfl⟩
  rw [← hX]
  have HX := Lib.hid hX
  clear hX
  go_enter Tryz.func58, Tryz.ntmps58
  go_wp2
  go_loop [6, 7] (fun o j => ∃ (k : Nat) (T : ByteArray), k ≤ s.size ∧ j = .int .i64 k ∧ o = .string T ∧ T.size ≤ k ∧ Hid (QuoteAt i s.data.toList k T.data.toList)) (fun _ j => s.size - (intOf j).toNat)
  case atStart => exact ⟨i + 1, ⟨#[]⟩, by omega, by go_num, rfl, Nat.zero_le _, quote_start _ _⟩
  case round =>
    obtain ⟨k, T, hk, rfl, rfl, hT, HQ⟩ := hrel
    by_cases hlt : k < s.size
    · have hget := get_data s k hlt
      have hb := u8lt s[k]
      by_cases h34 : s[k].toNat = 34
      · have e34 : ((s[k].toNat : Int) != 34) = false := by simp; omega
        by_cases hp : k + 1 < s.size
        · have hget2 := get_data s (k + 1) hp
          have hb2 := u8lt s[k + 1]
          by_cases hp34 : s[k + 1].toNat = 34
          · have e2 : ((s[k + 1].toNat : Int) == 34) = true := by simp; omega
            have HN : Hid (QuoteAt i s.data.toList (k + 1 + 1) (T ++ ⟨#[34]⟩).data.toList) := by
              have := quote_pair HQ.out hget h34 hget2 hp34
              show QuoteAt _ _ _ _
              rw [append_data]
              exact this
            clear hget hget2 h34 hp34
            go_wp2
            go_round
            case rel => exact ⟨k + 1 + 1, _, by omega, by go_num, rfl, by rw [ByteArray.size_append]; show _ + 1 ≤ _; omega, HN⟩
            case measure => simp [intOf]; omega
          · have e2 : ((s[k + 1].toNat : Int) == 34) = false := by simp; omega
            have HD := Lib.hid (quote_done HQ.out hget h34 (by unfold isAt; rw [atB_some hget2]; simpa using hp34))
            clear hget hget2 h34 hp34
            by_cases hT0 : T.toList = []
            · have HE : Hid (X = ([], 0)) := by
                show _ = _
                rw [HX.out, HD.out, if_pos (by rw [← ByteArray.toList_eq]; exact hT0)]
              have hT1 : T.toList.isEmpty = true := by rw [hT0]; rfl
              go_wp2
              go_returns
              exact ⟨ret_pair (by rw [HE.out]; rfl) (by rw [HE.out]; rfl), rfl⟩
            · have HE : Hid (X = (T.data.toList, k + 1)) := by
                show _ = _
                rw [HX.out, HD.out, if_neg (by rw [← ByteArray.toList_eq]; exact hT0)]
              have hT1 : T.toList.isEmpty = false := by
                cases hh : T.toList with
                | nil => exact absurd hh hT0
                | cons c l => rfl
              go_wp2
              go_returns
              exact ⟨ret_pair (by rw [HE.out, strL_of]) (by rw [HE.out]; simp), rfl⟩
        · have HD := Lib.hid (quote_done HQ.out hget h34 (atB_none (by rw [← HL.out]; omega)))
          clear hget h34
          by_cases hT0 : T.toList = []
          · have HE : Hid (X = ([], 0)) := by
              show _ = _
              rw [HX.out, HD.out, if_pos (by rw [← ByteArray.toList_eq]; exact hT0)]
            have hT1 : T.toList.isEmpty = true := by rw [hT0]; rfl
            go_wp2
            go_returns
            exact ⟨ret_pair (by rw [HE.out]; rfl) (by rw [HE.out]; rfl), rfl⟩
          · have HE : Hid (X = (T.data.toList, k + 1)) := by
              show _ = _
              rw [HX.out, HD.out, if_neg (by rw [← ByteArray.toList_eq]; exact hT0)]
            have hT1 : T.toList.isEmpty = false := by
              cases hh : T.toList with
              | nil => exact absurd hh hT0
              | cons c l => rfl
            go_wp2
            go_returns
            exact ⟨ret_pair (by rw [HE.out, strL_of]) (by rw [HE.out]; simp), rfl⟩
      · have e34 : ((s[k].toNat : Int) != 34) = true := by simp; omega
        have hx : (s.extract k (k + 1)).data.toList = [s[k]] := by rw [extract_data, List.drop_take, drop_get hget]; simp
        have hxs : (s.extract k (k + 1)).size = 1 := by rw [size_data, hx]; rfl
        have HN : Hid (QuoteAt i s.data.toList (k + 1) (T ++ s.extract k (k + 1)).data.toList) := by
          have := quote_other HQ.out hget h34
          show QuoteAt _ _ _ _
          rw [append_data, hx]
          exact this
        clear hget h34 hx
        go_wp2
        go_round
        case rel => exact ⟨k + 1, _, by omega, by go_num, rfl, by rw [ByteArray.size_append, hxs]; omega, HN⟩
        case measure => simp [intOf]; omega
    · have HE : Hid (X = ([], 0)) := by
        show _ = _
        rw [HX.out, quote_none HQ.out (by rw [← HL.out]; omega)]
      go_wp2
      go_returns
      exact ⟨ret_pair (by rw [HE.out]; rfl) (by rw [HE.out]; rfl), rfl⟩
end Go.Proofs.YtpalfhfbgfnacaaGreatDoor
