/-
  The contracts of package columns' methods on rows, and of its counter of quotes.
-/
import Derived.Test.YtbckdieajfbepaaDoorColS
import Derived.Test.YtbckdieajfbepaaDoorPrint
import Derived.Handy
import Derived.OneCell
import Derived.Deep.QuietTactic
import Derived.BigQuiet
namespace Go.Proofs.YtbckdieajfbepaaDoor
open Go.RowKit
set_option linter.unusedVariables false
set_option linter.unusedSimpArgs false

/-- A row of package columns. -/
abbrev rowC (n : Nat) (s : ByteArray) : Value := .agg #[.int .i64 n, .string s]
def fromB (s : List UInt8) (col : Nat) : List UInt8 := (s.take 72).drop (col - 1)
theorem extract_from (s : ByteArray) (i e j : Nat) (he : (s.size ≤ 72 ∧ e = s.size) ∨ (72 ≤ s.size ∧ e = 72)) (hj : (j - 1 ≤ e ∧ i = j - 1) ∨ (e ≤ j - 1 ∧ i = e)) : s.extract i e = strL (fromB s.data.toList j) := by
  apply str_ext
  rw [extract_data, strL_data]
  unfold fromB
  have hsz := size_data s
  have ht : s.data.toList.take e = s.data.toList.take 72 := by
    rcases he with ⟨h, rfl⟩ | ⟨h, rfl⟩
    · rw [List.take_of_length_le (by omega), List.take_of_length_le (by omega)]
    · rfl
  rw [ht]
  have hl : (s.data.toList.take 72).length = e := by rw [List.length_take]; omega
  rcases hj with ⟨h, rfl⟩ | ⟨h, rfl⟩
  · rfl
  · rw [List.drop_eq_nil_of_le (by omega), List.drop_eq_nil_of_le (by omega)]

theorem from_none (s : ByteArray) (j : Nat) (h : min s.size 72 ≤ j - 1) : ByteArray.empty = strL (fromB s.data.toList j) := by
  apply str_ext
  rw [strL_data]
  unfold fromB
  have hsz := size_data s
  rw [List.drop_eq_nil_of_le (by rw [List.length_take]; omega)]
  rfl
set_option maxHeartbeats 1000000 in
theorem c_from (n : Nat) (s : ByteArray) (hs : s.size ≤ 140737488355328) (col : Nat) (h1 : 8 ≤ col) (h2 : col ≤ 73) (w : World) :
    Calls Tryd.prog 61 #[rowC n s, .int .i64 col] w fun e w' => e = .returned (.string (strL (fromB s.data.toList col))) ∧ Below w.heap.size w w' := by
  by_cases ha : (s.size : Int) < 72
  all_goals by_cases hb : (col : Int) - 1 < s.size
  all_goals
    go_enter Tryd.func61, Tryd.ntmps61
    go_wp2
  all_goals
    go_returns
    refine ⟨?_, by go_grown⟩
    first
      | exact retS (extract_from _ _ _ _ (by omega) (by omega))
      | exact retS (from_none _ _ (by omega))

theorem c_at (n : Nat) (s : ByteArray) (col : Nat) (w : World) :
    Calls Tryd.prog 78 #[rowC n s, .int .i64 col] w fun e w' => e = .returned (.agg #[.int .i64 n, .int .i64 col]) ∧ w' = (w.alloc (.cells #[.int .i64 n, .string s] 76)).alloc (.cells #[.int .i64 n, .int .i64 col] 26) := by
  go_enter Tryd.func78, Tryd.ntmps78
  go_wp2
  go_returns
  exact ⟨rfl, rfl⟩
theorem c_fault (n : Nat) (s : ByteArray) (e0 : Nat) (col : Nat) (w : World) :
    Calls Tryd.prog 56 #[rowC n s, .int .i64 e0, .int .i64 col] w fun e w' => e = .returned (.agg #[.int .i64 e0, .int .i64 n, .int .i64 col]) ∧ Below w.heap.size w w' := by
  go_enter Tryd.func56, Tryd.ntmps56
  go_wp2
  go_returns
  refine ⟨?_, by go_grown⟩
  rfl
theorem c_ind (n : Nat) (s : ByteArray) (w : World) :
    Calls Tryd.prog 34 #[rowC n s] w fun e w' => e = .returned (.int .u8 (s.data.toList.getD 6 32).toNat) ∧ w' = w.alloc (.cells #[.int .i64 n, .string s] 76) := by
  by_cases h : (s.size : Int) < 7
  · have H : Hid (s.data.toList.getD 6 32 = 32) := by
      show _ = _
      simp [List.getD, List.getElem?_eq_none (show s.data.toList.length ≤ 6 by rw [← size_data]; omega)]
    go_enter Tryd.func34, Tryd.ntmps34
    go_wp2
    go_returns
    refine ⟨?_, rfl⟩
    rw [H.out]
    rfl
  · have h6 : 6 < s.size := by omega
    have H : Hid (s.data.toList.getD 6 32 = s[6]) := by
      show _ = _
      simp [List.getD, get_data s 6 h6]
    go_enter Tryd.func34, Tryd.ntmps34
    go_wp2
    go_returns
    refine ⟨?_, rfl⟩
    rw [H.out]
    rfl

/-! ### The counter of quotes: a block O of one cell -/
def opener (O : Nat) : Value := .func (.func 55) #[] #[.pointer (some ⟨O, 0, none⟩)]
theorem c_opener (w : World) : Calls Tryd.prog 31 #[] w fun e w' => e = .returned (opener w.heap.size) ∧ w' = w.alloc (.cells #[.bool false] 4) := by
  go_enter Tryd.func31, Tryd.ntmps31
  go_wp2
  go_ret
  exact ⟨rfl, rfl⟩
theorem opens_enter (args : Array Value) (w : World) : (callFunc 55 args).run Tryd.prog w = .ok (.enter 55 args) w := by kernel_rfl
/-- Another value in the one cell of block O; nothing else. -/
structure OneTurn (O : Nat) (t : TypeId) (v : Value) (w w' : World) : Prop where
  here : w'.heap[O]? = some (.cells #[v] t (0, 0))
  os : w'.os = w.os
  tape : w'.tape = w.tape
  output : w'.output = w.output
  size : w'.heap.size = w.heap.size
  block : ∀ k, k ≠ O → w'.heap[k]? = w.heap[k]?
theorem OneTurn.refl {O : Nat} {t : TypeId} {v : Value} {w : World} (h : w.heap[O]? = some (.cells #[v] t (0, 0))) : OneTurn O t v w w := ⟨h, rfl, rfl, rfl, rfl, fun _ _ => rfl⟩
theorem OneTurn.store {O : Nat} {t : TypeId} {v : Value} {w w' : World} (h : OneTurn O t v w w') (u : Value) : OneTurn O t u w (w'.setCell ⟨O, 0, none⟩ u) :=
  ⟨one_setCell h.here, h.os, h.tape, h.output, by simpa using h.size, fun k hk => (Below.heap_setCell _ _ _ _ hk).trans (h.block k hk)⟩
theorem OneTurn.below {O : Nat} {t : TypeId} {v : Value} {w w' : World} (h : OneTurn O t v w w') {B : Nat} (hB : B ≤ O) : Below B w w' :=
  ⟨h.os, h.tape, h.output, Nat.le_of_eq h.size.symm, fun k hk => h.block k (by omega)⟩
set_option maxHeartbeats 1000000 in
theorem c_opens (s : ByteArray) (hs : s.size ≤ 140737488355328) (O : Nat) (b : Bool) (w : World) (hO : w.heap[O]? = some (.cells #[.bool b] 4 (0, 0))) :
    Calls Tryd.prog 55 #[.string s, .pointer (some ⟨O, 0, none⟩)] w fun e w' => e = .returned (.bool (b ^^ openB s.data.toList)) ∧ OneTurn O 4 (.bool (b ^^ openB s.data.toList)) w w' := by
  have HL := Lib.hid (size_data s)
  have HO := Lib.hid hO; clear hO
  go_enter Tryd.func55, Tryd.ntmps55
  go_wp2
  go_loopw [7] (fun i wr => ∃ (k : Nat) (c : Bool), k ≤ s.size ∧ i = .int .i64 k ∧ Hid (c = (b ^^ openB (s.data.toList.take k))) ∧ Hid (OneTurn O 4 (.bool c) w wr)) (fun i _ => s.size - (intOf i).toNat)
  case atStart => exact ⟨0, b, Nat.zero_le _, rfl, by simp [Hid, openB, qn], OneTurn.refl HO.out⟩
  case round =>
    obtain ⟨k, c, hk, rfl, HC, HT⟩ := hrel
    have hc0 := cell_of_one HT.out.here
    have hf0 := free_of_one HT.out.here
    by_cases hlt : k < s.size
    · have HD := Lib.hid (qn_take _ k _ (get_data s k hlt))
      by_cases h34 : s[k].toNat = 34
      · have hq : ((s[k].toNat : Int) == 34) = true := by simp; omega
        have HN : Hid ((!c) = (b ^^ openB (s.data.toList.take (k + 1)))) := by
          show _ = _
          rw [HC.out]
          have e := HD.out
          rw [if_pos h34] at e
          unfold openB
          rw [e]
          rcases Nat.mod_two_eq_zero_or_one (qn (s.data.toList.take k)) with h1 | h1 <;> simp [Nat.add_mod, h1]
        have HS := Lib.hid (HT.out.store (.bool (!c)))
        clear h34
        go_wp2
        go_roundw
        case rel => exact ⟨k + 1, _, by omega, by go_num, HN, HS⟩
        case measure => simp [intOf]; omega
      · have hq : ((s[k].toNat : Int) == 34) = false := by simp; omega
        have HN : Hid (c = (b ^^ openB (s.data.toList.take (k + 1)))) := by
          show _ = _
          rw [HC.out]
          have e := HD.out
          rw [if_neg h34] at e
          unfold openB
          rw [e]; rfl
        clear h34
        go_wp2
        go_roundw
        case rel => exact ⟨k + 1, _, by omega, by go_num, HN, HT⟩
        case measure => simp [intOf]; omega
    · have HQ : Hid (c = (b ^^ openB s.data.toList)) := by
        have e := HC.out
        rw [List.take_of_length_le (by rw [← HL.out]; omega)] at e
        exact e
      go_wp2
      go_ret
      exact ⟨retB HQ.out, by rw [← HQ.out]; exact HT.out⟩
end Go.Proofs.YtbckdieajfbepaaDoor
