/-
  Texts of this seat, merged: Col1 Col2 Rd.
-/
import Derived.Test.YtpalfhfbgfnacaaGreatDoorGC
import Derived.Test.YtpalfhfbgfnacaaGreatDoorGA
import Derived.Handy
import Derived.OneCell
import Derived.Deep.QuietTactic
import Derived.BigQuiet
import Derived.Test.YtpalfhfbgfnacaaGreatDoorShelf
import Derived.Deep.RegionHeld3
/-
  The contracts of package columns' methods on rows, and of its counter of quotes.
-/
namespace Go.Proofs.YtpalfhfbgfnacaaGreatDoor
open Go.RowKit
set_option linter.unusedVariables false
set_option linter.unusedSimpArgs false

/-- A row of package columns. -/
abbrev rowC (n : Nat) (s : ByteArray) : Value := .agg #[.int .i64 n, .string s]
def fromB (s : List UInt8) (col : Nat) : List UInt8 := (s.take 72).drop (col - 1)
theorem extract_from (s : ByteArray) (i e j : Nat) (he : (s.size ≤ 72 ∧ e = s.size) ∨ (72 ≤ s.size ∧ e = 72)) (hj : (j - 1 ≤ e ∧ i = j - 1) ∨ (e ≤ j - 1 ∧ i = e)) : s.extract i e = strL (fromB s.data.toList j) := by
  apply str_ext
  rw [extract_data, strL_data]
  unfold fromB
  have hsz := size_data s
  have ht : s.data.toList.take e = s.data.toList.take 72 := by
    rcases he with ⟨h, rfl⟩ | ⟨h, rfl⟩
    · rw [List.take_of_length_le (by omega), List.take_of_length_le (by omega)]
    · rfl
  rw [ht]
  have hl : (s.data.toList.take 72).length = e := by rw [List.length_take]; omega
  rcases hj with ⟨h, rfl⟩ | ⟨h, rfl⟩
  · rfl
  · rw [List.drop_eq_nil_of_le (by omega), List.drop_eq_nil_of_le (by omega)]

theorem from_none (s : ByteArray) (j : Nat) (h : min s.size 72 ≤ j - 1) : ByteArray.empty = strL (fromB s.data.toList j) := by
  apply str_ext
  rw [strL_data]
  unfold fromB
  have hsz := size_data s
  rw [List.drop_eq_nil_of_le (by rw [List.length_take]; omega)]
  rfl
set_option maxHeartbeats 1000000 in
theorem c_from (n : Nat) (s : ByteArray) (hs : s.size ≤ 140737488355328) (col : Nat) (h1 : 8 ≤ col) (h2 : col ≤ 73) (w : World) :
    Calls Tryz.prog 54 #[rowC n s, .int .i64 col] w fun e w' => e = .returned (.string (strL (fromB s.data.toList col))) ∧ Below w.heap.size w w' := by
  by_cases ha : (s.size : Int) < 72
  all_goals by_cases hb : (col : Int) - 1 < s.size
  all_goals
    go_enter Tryz.func54, Tryz.ntmps54
    go_wp2
  all_goals
    go_returns
    refine ⟨?_, by go_grown⟩
    first
      | exact retS (extract_from _ _ _ _ (by omega) (by omega))
      | exact retS (from_none _ _ (by omega))

theorem c_at (n : Nat) (s : ByteArray) (col : Nat) (w : World) :
    Calls Tryz.prog 79 #[rowC n s, .int .i64 col] w fun e w' => e = .returned (.agg #[.int .i64 n, .int .i64 col]) ∧ w' = (w.alloc (.cells #[.int .i64 n, .string s] 72)).alloc (.cells #[.int .i64 n, .int .i64 col] 26) := by
  go_enter Tryz.func79, Tryz.ntmps79
  go_wp2
  go_returns
  exact ⟨rfl, rfl⟩
theorem c_fault (n : Nat) (s : ByteArray) (e0 : Nat) (col : Nat) (w : World) :
    Calls Tryz.prog 49 #[rowC n s, .int .i64 e0, .int .i64 col] w fun e w' => e = .returned (.agg #[.int .i64 e0, .int .i64 n, .int .i64 col]) ∧ Below w.heap.size w w' := by
  go_enter Tryz.func49, Tryz.ntmps49
  go_wp2
  go_returns
  refine ⟨?_, by go_grown⟩
  rfl
theorem c_ind (n : Nat) (s : ByteArray) (w : World) :
    Calls Tryz.prog 24 #[rowC n s] w fun e w' => e = .returned (.int .u8 (s.data.toList.getD 6 32).toNat) ∧ w' = w.alloc (.cells #[.int .i64 n, .string s] 72) := by
  by_cases h : (s.size : Int) < 7
  · have H : Hid (s.data.toList.getD 6 32 = 32) := by
      show _ = _
      simp [List.getD, List.getElem?_eq_none (show s.data.toList.length ≤ 6 by rw [← size_data]; omega)]
    go_enter Tryz.func24, Tryz.ntmps24
    go_wp2
    go_returns
    refine ⟨?_, rfl⟩
    rw [H.out]
    rfl
  · have h6 : 6 < s.size := by omega
    have H : Hid (s.data.toList.getD 6 32 = s[6]) := by
      show _ = _
      simp [List.getD, get_data s 6 h6]
    go_enter Tryz.func24, Tryz.ntmps24
    go_wp2
    go_returns
    refine ⟨?_, rfl⟩
    rw [H.out]
    rfl

/-! ### The counter of quotes: a block O of one cell -/
def opener (O : Nat) : Value := .func (.func 47) #[] #[.pointer (some ⟨O, 0, none⟩)]
theorem c_opener (w : World) : Calls Tryz.prog 20 #[] w fun e w' => e = .returned (opener w.heap.size) ∧ w' = w.alloc (.cells #[.bool false] 4) := by
  go_enter Tryz.func20, Tryz.ntmps20
  go_wp2
  go_ret
  exact ⟨rfl, rfl⟩
theorem opens_enter (args : Array Value) (w : World) : (callFunc 47 args).run Tryz.prog w = .ok (.enter 47 args) w := by kernel_rfl
/-- Another value in the one cell of block O; nothing else. -/
structure OneTurn (O : Nat) (t : TypeId) (v : Value) (w w' : World) : Prop where
  here : w'.heap[O]? = some (.cells #[v] t (0, 0))
  os : w'.os = w.os
  tape : w'.tape = w.tape
  output : w'.output = w.output
  size : w'.heap.size = w.heap.size
  block : ∀ k, k ≠ O → w'.heap[k]? = w.heap[k]?
theorem OneTurn.refl {O : Nat} {t : TypeId} {v : Value} {w : World} (h : w.heap[O]? = some (.cells #[v] t (0, 0))) : OneTurn O t v w w := ⟨h, rfl, rfl, rfl, rfl, fun _ _ => rfl⟩
theorem OneTurn.store {O : Nat} {t : TypeId} {v : Value} {w w' : World} (h : OneTurn O t v w w') (u : Value) : OneTurn O t u w (w'.setCell ⟨O, 0, none⟩ u) :=
  ⟨one_setCell h.here, h.os, h.tape, h.output, by simpa using h.size, fun k hk => (Below.heap_setCell _ _ _ _ hk).trans (h.block k hk)⟩
theorem OneTurn.below {O : Nat} {t : TypeId} {v : Value} {w w' : World} (h : OneTurn O t v w w') {B : Nat} (hB : B ≤ O) : Below B w w' :=
  ⟨h.os, h.tape, h.output, Nat.le_of_eq h.size.symm, fun k hk => h.block k (by omega)⟩
set_option maxHeartbeats 1000000 in
theorem c_opens (s : ByteArray) (hs : s.size ≤ 140737488355328) (O : Nat) (b : Bool) (w : World) (hO : w.heap[O]? = some (.cells #[.bool b] 4 (0, 0))) :
    Calls Tryz.prog 47 #[.string s, .pointer (some ⟨O, 0, none⟩)] w fun e w' => e = .returned (.bool (b ^^ openB s.data.toList)) ∧ OneTurn O 4 (.bool (b ^^ openB s.data.toList)) w w' := by
  have HL := Lib.hid (size_data s)
  have HO := Lib.hid hO; clear hO
  go_enter Tryz.func47, Tryz.ntmps47
  go_wp2
  go_loopw [7] (fun i wr => ∃ (k : Nat) (c : Bool), k ≤ s.size ∧ i = .int .i64 k ∧ Hid (c = (b ^^ openB (s.data.toList.take k))) ∧ Hid (OneTurn O 4 (.bool c) w wr)) (fun i _ => s.size - (intOf i).toNat)
  case atStart => exact ⟨0, b, Nat.zero_le _, rfl, by simp [Hid, openB, qn], OneTurn.refl HO.out⟩
  case round =>
    obtain ⟨k, c, hk, rfl, HC, HT⟩ := hrel
    have hc0 := cell_of_one HT.out.here
    have hf0 := free_of_one HT.out.here
    by_cases hlt : k < s.size
    · have HD := Lib.hid (qn_take _ k _ (get_data s k hlt))
      by_cases h34 : s[k].toNat = 34
      · have hq : ((s[k].toNat : Int) == 34) = true := by simp; omega
        have HN : Hid ((!c) = (b ^^ openB (s.data.toList.take (k + 1)))) := by
          show _ = _
          rw [HC.out]
          have e := HD.out
          rw [if_pos h34] at e
          unfold openB
          rw [e]
          rcases Nat.mod_two_eq_zero_or_one (qn (s.data.toList.take k)) with h1 | h1 <;> simp [Nat.add_mod, h1]
        have HS := Lib.hid (HT.out.store (.bool (!c)))
        clear h34
        go_wp2
        go_roundw
        case rel => exact ⟨k + 1, _, by omega, by go_num, HN, HS⟩
        case measure => simp [intOf]; omega
      · have hq : ((s[k].toNat : Int) == 34) = false := by simp; omega
        have HN : Hid (c = (b ^^ openB (s.data.toList.take (k + 1)))) := by
          show _ = _
          rw [HC.out]
          have e := HD.out
          rw [if_neg h34] at e
          unfold openB
          rw [e]; rfl
        clear h34
        go_wp2
        go_roundw
        case rel => exact ⟨k + 1, _, by omega, by go_num, HN, HT⟩
        case measure => simp [intOf]; omega
    · have HQ : Hid (c = (b ^^ openB s.data.toList)) := by
        have e := HC.out
        rw [List.take_of_length_le (by rw [← HL.out]; omega)] at e
        exact e
      go_wp2
      go_ret
      exact ⟨retB HQ.out, by rw [← HQ.out]; exact HT.out⟩
end Go.Proofs.YtpalfhfbgfnacaaGreatDoor

/-
  The contracts of package columns' methods on rows that call the library: first, isBlank, check.
-/
namespace Go.Proofs.YtpalfhfbgfnacaaGreatDoor
open Go.RowKit
set_option linter.unusedVariables false
set_option linter.unusedSimpArgs false

theorem from_areas (s : List UInt8) (k : Nat) : fromB s (k + 8) = (areasB s).drop k := by
  unfold fromB areasB
  rw [List.drop_drop]
  congr 1
  omega
theorem strL_le (l : List UInt8) (n : Nat) (h : l.length ≤ n) : (strL l).size ≤ n := h
theorem bcell {W w1 : World} {B : Nat} (hb : Below B W w1) : (∀ b o, b < B → w1.cell? ⟨b, o, none⟩ = W.cell? ⟨b, o, none⟩) ∧ (∀ b o, b < B → w1.frozen? ⟨b, o, none⟩ = W.frozen? ⟨b, o, none⟩) :=
  ⟨fun b o h => hb.cell (p := ⟨b, o, none⟩) h, fun b o h => hb.frozen (p := ⟨b, o, none⟩) h⟩

/-- A string of its own name, its size apart. -/
theorem strVar (l : List UInt8) : ∃ t : ByteArray, t = strL l ∧ t.size ≤ l.length ∧ Hid (t.size = l.length) := ⟨_, rfl, Nat.le_refl _, rfl⟩
set_option maxHeartbeats 1000000 in
theorem c_first (n : Nat) (s : ByteArray) (hs : s.size ≤ 140737488355328) (w : World) :
    Calls Tryz.prog 52 #[rowC n s] w fun e w' => e = .returned (.int .i64 (8 + fstN (areasB s.data.toList) : Nat)) ∧ Below w.heap.size w w' := by
  have HF : Hid (fromB s.data.toList 8 = areasB s.data.toList) := from_areas s.data.toList 0
  have hl : (areasB s.data.toList).length ≤ 65 := by rw [areasB_length]; omega
  have hle := fstN_le (areasB s.data.toList)
  have HT : Hid (Lib.trimLeftB (areasB s.data.toList) 32 = (areasB s.data.toList).drop (fstN (areasB s.data.toList))) := trimLeft_fstN _
  have hd : ((areasB s.data.toList).drop (fstN (areasB s.data.toList))).length + fstN (areasB s.data.toList) = (areasB s.data.toList).length := by rw [List.length_drop]; omega
  have HD := Lib.hid hd; clear hd
  generalize areasB s.data.toList = l at *
  go_enter Tryz.func52, Tryz.ntmps52
  go_wp2_with fail
  refine (c_from n s hs 8 (by omega) (by omega) _).mono ?_; rintro e w1 ⟨rfl, hb⟩
  rw [HF.out]
  obtain ⟨t, ht, hts, HTS⟩ := strVar l
  rw [← ht]
  have HTD : Hid (t.data.toList = l) := by rw [ht]; rfl
  clear ht
  go_wp2_with fail
  refine (Tryz.strings_TrimLeft_one t 32 (by decide) _).mono ?_; rintro e w2 ⟨rfl, rfl⟩
  rw [HTD.out, HT.out]
  obtain ⟨u, hu, hus, HUS⟩ := strVar (l.drop (fstN l))
  have hu2 : (⟨(l.drop (fstN l)).toArray⟩ : ByteArray) = u := hu.symm
  rw [hu2]
  clear hu hu2
  have hut : u.size ≤ t.size := by rw [HTS.out, HUS.out]; have := HD.out; omega
  have HQ : Hid ((8 : Int) + t.size - u.size = (8 + fstN l : Nat)) := by
    show _ = _
    rw [HTS.out, HUS.out]; have := HD.out; omega
  go_wp2
  go_returns
  refine ⟨retI HQ.out, ?_⟩
  exact ((Below.refl _ _).alloc (Nat.le_refl _) _).trans (hb.mono (by simp))

theorem keepBox {w W w' : World} {n : Int} {s : ByteArray} (hb : Below W.heap.size W w') (h : W.cell? ⟨w.heap.size, 0, none⟩ = some (.int .i64 n) ∧ W.cell? ⟨w.heap.size, 1, none⟩ = some (.string s) ∧ Below w.heap.size w W ∧ w.heap.size < W.heap.size) :
    w'.cell? ⟨w.heap.size, 0, none⟩ = some (.int .i64 n) ∧ w'.cell? ⟨w.heap.size, 1, none⟩ = some (.string s) ∧ Below w.heap.size w w' ∧ w.heap.size < w'.heap.size :=
  ⟨(hb.cell h.2.2.2).trans h.1, (hb.cell h.2.2.2).trans h.2.1, h.2.2.1.trans (hb.mono h.2.2.1.size), Nat.lt_of_lt_of_le h.2.2.2 hb.size⟩
theorem boxB {w w' : World} {n : Int} {s : ByteArray} (h : w'.cell? ⟨w.heap.size, 0, none⟩ = some (.int .i64 n) ∧ w'.cell? ⟨w.heap.size, 1, none⟩ = some (.string s) ∧ Below w.heap.size w w' ∧ w.heap.size < w'.heap.size) : Below w.heap.size w w' := h.2.2.1
set_option maxHeartbeats 1000000 in
theorem c_blank (n : Nat) (s : ByteArray) (hs : s.size ≤ 140737488355328) (w : World) :
    Calls Tryz.prog 26 #[rowC n s] w fun e w' => e = .returned (.bool (decide (fstN (areasB s.data.toList) = (areasB s.data.toList).length))) ∧ Below w.heap.size w w' := by
  have hl : (areasB s.data.toList).length ≤ 65 := by rw [areasB_length]; omega
  have hle := fstN_le (areasB s.data.toList)
  have HF : Hid (fromB s.data.toList (8 + fstN (areasB s.data.toList)) = (areasB s.data.toList).drop (fstN (areasB s.data.toList))) := by
    show _ = _
    rw [Nat.add_comm]; exact from_areas _ _
  have HE : Hid ((strL ((areasB s.data.toList).drop (fstN (areasB s.data.toList)))).toList.isEmpty = decide (fstN (areasB s.data.toList) = (areasB s.data.toList).length)) := by
    show _ = _
    rw [ByteArray.toList_eq, strL_data, Bool.eq_iff_iff, List.isEmpty_iff, decide_eq_true_eq]
    constructor
    · intro h; have := congrArg List.length h; rw [List.length_drop] at this; simp at this; omega
    · intro h; exact List.drop_eq_nil_of_le (by omega)
  generalize hl' : areasB s.data.toList = l at *
  have HLL := Lib.hid hl'; clear hl'
  go_enter Tryz.func26, Tryz.ntmps26
  go_wp2
  go_region_held3 (fun w' => w'.cell? ⟨w.heap.size, 0, none⟩ = some (.int .i64 n) ∧ w'.cell? ⟨w.heap.size, 1, none⟩ = some (.string s) ∧ Below w.heap.size w w' ∧ w.heap.size < w'.heap.size) (first
      | assumption
      | (refine keepBox hb ?_; first | assumption | (refine ⟨?_, ?_, ?_, ?_⟩ <;> first | (simp; done) | exact ((Below.refl _ _).alloc (Nat.le_refl _) _).drew))
      | (refine ⟨?_, ?_, ?_, ?_⟩ <;> first | (simp; done) | exact ((Below.refl _ _).alloc (Nat.le_refl _) _).drew))
    (first
      | (go_at_call 52; refine (c_first n s hs _).mono ?_; rintro e w' ⟨rfl, hb⟩; rw [HLL.out])
      | (go_at_call 54; refine (c_from n s hs (8 + fstN l) (by omega) (by omega) _).mono ?_; rintro e w' ⟨rfl, hb⟩))
  have hB : Below w.heap.size w w' := boxB (n := n) (s := s) (by assumption)
  rw [HF.out, HE.out]
  go_wp2
  go_ret
  exact ⟨rfl, hB⟩

/-! ### check -/
/-- The first fault that a line has whatever stands around it: an error and a column, or none. -/
def checkF (s : List UInt8) : Option (Nat × Nat) :=
  if 80 < s.length then some (5, 81)
  else if 0 ≤ firstI (fun c => !prtB c) 0 s then some (4, (firstI (fun c => !prtB c) 0 s + 1).toNat)
  else if Lib.indexByte [32, 45, 42, 47, 68, 100] (s.getD 6 32) < 0 then some (4, 7)
  else none
def checkV (n : Nat) : Option (Nat × Nat) → Value
  | none => .agg #[.int .i64 0, .int .i64 0, .int .i64 0]
  | some (e, c) => .agg #[.int .i64 e, .int .i64 n, .int .i64 c]
set_option maxHeartbeats 1000000 in
theorem c_check (n : Nat) (s : ByteArray) (hs : s.size ≤ 1048576) (w : World) :
    Calls Tryz.prog 22 #[rowC n s] w fun e w' => e = .returned (checkV n (checkF s.data.toList)) ∧ Below w.heap.size w w' := by
  have hsz := size_data s
  by_cases h80 : (80 : Int) < s.size
  · have HP : Hid (checkV n (checkF s.data.toList) = .agg #[.int .i64 5, .int .i64 n, .int .i64 81]) := by
      show _ = _
      unfold checkF
      rw [if_pos (by omega)]; rfl
    clear hsz
    go_enter Tryz.func22, Tryz.ntmps22
    go_wp2
    go_returns
    refine ⟨?_, by go_grown⟩
    rw [HP.out]
  have HN : Hid (¬ 80 < s.data.toList.length) := by show ¬ _; omega
  have HL := Lib.hid hsz
  clear hsz
  go_enter Tryz.func22, Tryz.ntmps22
  go_wp2
  go_loop [13] (fun i => ∃ k : Nat, k ≤ s.size ∧ i = .int .i64 k ∧ Hid (firstI (fun c => !prtB c) 0 s.data.toList = firstI (fun c => !prtB c) k (s.data.toList.drop k))) (fun i => s.size - (intOf i).toNat)
  case atStart => exact ⟨0, Nat.zero_le _, rfl, by simp [Hid]⟩
  case round =>
    obtain ⟨k, hk, rfl, HE⟩ := hrel
    by_cases hlt : k < s.size
    · have hget := get_data s k hlt
      have HD := Lib.hid (firstI_drop (fun c => !prtB c) s.data.toList k _ hget)
      have HX : Hid (printB (s.extract k (k + 1)).data.toList = prtB s[k]) := by
        show _ = _
        have hll : k < s.data.toList.length := by rw [← size_data]; exact hlt
        rw [extract_data, List.take_succ_eq_append_getElem (by rw [← size_data]; exact hlt)]
        rw [List.drop_append_of_le_length (by rw [List.length_take]; omega), List.drop_eq_nil_of_le (by rw [List.length_take]; omega)]
        have e : s.data.toList[k]'(by rw [← size_data]; exact hlt) = s[k] := rfl
        rw [e]
        simp [printB]
      clear hget
      go_wp2_with fail
      refine (printable_any (s.extract k (k + 1)) (by rw [ByteArray.size_extract]; omega) _).mono ?_; rintro e w' ⟨rfl, rfl⟩
      rw [HX.out]
      cases hp : prtB s[k]
      · have HP : Hid (checkV n (checkF s.data.toList) = .agg #[.int .i64 4, .int .i64 n, .int .i64 ((k : Int) + 1)]) := by
          show _ = _
          have hf : firstI (fun c => !prtB c) 0 s.data.toList = k := by rw [HE.out, HD.out]; simp [hp]
          unfold checkF
          rw [if_neg HN.out, hf, if_pos (by omega)]
          rfl
        clear hp
        go_wp2
        go_returns
        refine ⟨?_, by go_grown⟩
        rw [HP.out]
      · have HX2 : Hid (firstI (fun c => !prtB c) 0 s.data.toList = firstI (fun c => !prtB c) (k + 1) (s.data.toList.drop (k + 1))) := by
          show _ = _
          rw [HE.out, HD.out]; simp [hp]
        clear hp
        go_wp2
        go_round
        case rel => exact ⟨k + 1, by omega, by go_num, HX2⟩
        case measure => simp [intOf]; omega
    · have HX : Hid (¬ 0 ≤ firstI (fun c => !prtB c) 0 s.data.toList) := by
        show ¬ _
        rw [HE.out, List.drop_of_length_le (by rw [← HL.out]; omega)]; simp [firstI]
      have hml : (s.data.toList.getD 6 32).toNat.toUInt8 = s.data.toList.getD 6 32 := by simp
      have HML := Lib.hid hml; clear hml
      by_cases hneg : Lib.indexByte [32, 45, 42, 47, 68, 100] (s.data.toList.getD 6 32) < 0
      all_goals
        first
          | (have HP : Hid (checkV n (checkF s.data.toList) = .agg #[.int .i64 4, .int .i64 n, .int .i64 7]) := by
              show _ = _
              unfold checkF
              rw [if_neg HN.out, if_neg HX.out, if_pos hneg]; rfl)
          | (have HP : Hid (checkV n (checkF s.data.toList) = .agg #[.int .i64 0, .int .i64 0, .int .i64 0]) := by
              show _ = _
              unfold checkF
              rw [if_neg HN.out, if_neg HX.out, if_neg hneg]; rfl)
        go_wp2_with fail
        refine (c_ind n s _).mono ?_; rintro e w1 ⟨rfl, rfl⟩
        generalize s.data.toList.getD 6 32 = m at *
        go_wp2_with fail
        refine (Tryz.strings_IndexByte ⟨#[32, 45, 42, 47, 68, 100]⟩ m.toNat _).mono ?_; rintro e w2 ⟨rfl, rfl⟩
        have hIB : (Lib.indexByte (⟨#[32, 45, 42, 47, 68, 100]⟩ : ByteArray).data.toList ((m.toNat : Int).toNat.toUInt8)) = Lib.indexByte [32, 45, 42, 47, 68, 100] m := by
          show Lib.indexByte [32, 45, 42, 47, 68, 100] m.toNat.toUInt8 = _
          rw [HML.out]
        rw [hIB]
        clear hIB
        go_wp2
        go_returns
        refine ⟨?_, by go_grown⟩
        rw [HP.out]
        try rfl
end Go.Proofs.YtpalfhfbgfnacaaGreatDoor

/-
  The reader of package columns in memory: its block R, the counter's block O, the rows of cards, of text and of marks; what each step leaves of it. No walk here.
-/
namespace Go.Proofs.YtpalfhfbgfnacaaGreatDoor
open Go.RowKit
set_option linter.unusedVariables false
set_option linter.unusedSimpArgs false

def marksC (ms : List (Nat × Nat × Nat)) : List Value := ms.flatMap fun m => [.int .i64 m.1, .int .i64 m.2.1, .int .i64 m.2.2]
def cardsC (L : List (Kard × Value)) : List Value := L.flatMap fun c => [.bool c.1.left, .string (strL c.1.text), c.2]
def u8C (l : List UInt8) : List Value := l.map fun c => .int .u8 c.toNat
theorem marksC_length (ms : List (Nat × Nat × Nat)) : (marksC ms).length = ms.length * 3 := by
  induction ms with
  | nil => rfl
  | cons m l ih => simp only [marksC, List.flatMap_cons, List.length_append, List.length_cons, List.length_nil] at ih ⊢; rw [ih]; omega
theorem cardsC_length (L : List (Kard × Value)) : (cardsC L).length = L.length * 3 := by
  induction L with
  | nil => rfl
  | cons m l ih => simp only [cardsC, List.flatMap_cons, List.length_append, List.length_cons, List.length_nil] at ih ⊢; rw [ih]; omega
theorem cardsC_snoc (L : List (Kard × Value)) (c : Kard) (m : Value) : cardsC (L ++ [(c, m)]) = cardsC L ++ [.bool c.left, .string (strL c.text), m] := by
  simp [cardsC]
theorem marksC_snoc (L : List (Nat × Nat × Nat)) (m : Nat × Nat × Nat) : marksC (L ++ [m]) = marksC L ++ [.int .i64 m.1, .int .i64 m.2.1, .int .i64 m.2.2] := by
  simp [marksC]
theorem u8C_append (a b : List UInt8) : u8C (a ++ b) = u8C a ++ u8C b := by simp [u8C]

/-- The marks of a card that is finished: a slice without room behind it, in a block of its own from B on and below W. -/
def MarksFin (w : World) (B W : Nat) (m : Value) (ms : List (Nat × Nat × Nat)) : Prop :=
  (m = .slice none 0 0 ∧ ms = []) ∨ ∃ (g : Nat) (cs : Array Value), m = .slice (some ⟨g, 0, none⟩) ms.length ms.length ∧ B ≤ g ∧ g < W ∧ w.heap[g]? = some (.cells cs 52 (0, 0)) ∧ cs.toList.take (ms.length * 3) = marksC ms
theorem MarksFin.turns {e : TypeId} {w w' : World} {B W : Nat} {m : Value} {ms : List (Nat × Nat × Nat)} (h : MarksFin w B W m ms) (ht : Turns e w w') (hne : 52 ≠ e) : MarksFin w' B W m ms := by
  rcases h with h | ⟨g, cs, h1, h2, h3, h4, h5⟩
  · exact .inl h
  · exact .inr ⟨g, cs, h1, h2, h3, ht.block g cs _ _ h4 hne, h5⟩
theorem MarksFin.below {w w' : World} {B W : Nat} {m : Value} {ms : List (Nat × Nat × Nat)} (h : MarksFin w B W m ms) (hb : Below W w w') : MarksFin w' B W m ms := by
  rcases h with h | ⟨g, cs, h1, h2, h3, h4, h5⟩
  · exact .inl h
  · exact .inr ⟨g, cs, h1, h2, h3, (hb.block g h3).trans h4, h5⟩
theorem MarksFin.more {w : World} {B W W' : Nat} {m : Value} {ms : List (Nat × Nat × Nat)} (h : MarksFin w B W m ms) (hW : W ≤ W') : MarksFin w B W' m ms := by
  rcases h with h | ⟨g, cs, h1, h2, h3, h4, h5⟩
  · exact .inl h
  · exact .inr ⟨g, cs, h1, h2, Nat.lt_of_lt_of_le h3 hW, h4, h5⟩

/-- Blocks of rows, of faults and of strings are as they were. -/
structure Fr (w w' : World) : Prop where
  size : w.heap.size ≤ w'.heap.size
  block : ∀ (k : Nat) (cs : Array Value) (t : TypeId) (fr : Nat × Nat), w.heap[k]? = some (.cells cs t fr) → (t = 72 ∨ t = 28 ∨ t = 9) → w'.heap[k]? = some (.cells cs t fr)
theorem Fr.refl (w : World) : Fr w w := ⟨Nat.le_refl _, fun _ _ _ _ h _ => h⟩
theorem Fr.trans {a b c : World} (h : Fr a b) (k : Fr b c) : Fr a c := ⟨Nat.le_trans h.size k.size, fun i cs t fr hi ht => k.block i cs t fr (h.block i cs t fr hi ht) ht⟩
theorem Fr.of_turns {e : TypeId} {w w' : World} (h : Turns e w w') (h1 : 72 ≠ e) (h2 : 28 ≠ e) (h3 : 9 ≠ e) : Fr w w' :=
  ⟨h.size, fun k cs t fr hk ht => h.block k cs t fr hk (by rcases ht with rfl | rfl | rfl <;> assumption)⟩
theorem Fr.of_below {w w' : World} (h : Below w.heap.size w w') : Fr w w' := Fr.of_turns (e := 0) (Turns.of_below h) (by decide) (by decide) (by decide)
theorem Fr.newCell {w w' : World} (h : Fr w w') {N : Nat} (hN : w.heap.size ≤ N) (i : Nat) (u : Value) : Fr w (w'.setCell ⟨N, i, none⟩ u) :=
  ⟨by simpa using h.size, fun k cs t fr hk ht => (Below.heap_setCell w' ⟨N, i, none⟩ u k (by have := lt_of_block hk; show k ≠ N; omega)).trans (h.block k cs t fr hk ht)⟩
/-- A reader with a card c under way. cv, tc: what the reader's cells hold; tv: what owns the text; mc: what the card's cell holds; mv: what owns the marks; xc: the text in the card's cell. -/
structure RdC (B R O Wm : Nat) (ap : Nat × Nat) (cv tc tv mc mv : Value) (xc : List UInt8) (D : List (Kard × Value)) (c : Kard) (b1 b2 : Bool) (w : World) : Prop where
  rd : w.heap[R]? = some (.cells #[cv, tc, .bool b1, .int .i64 ap.1, .int .i64 ap.2, opener O] 68 (0, 0))
  op : w.heap[O]? = some (.cells #[.bool b2] 4 (0, 0))
  cards : w.ownsRow B 55 3 cv (D.length + 1) (cardsC D ++ [.bool c.left, .string (strL xc), mc])
  text : w.ownsRow B 5 1 tv c.text.length (u8C c.text)
  marks : w.ownsRow Wm 52 3 mv c.marks.length (marksC c.marks)
  fin : ∀ x ∈ D, MarksFin w B Wm x.2 x.1.marks
  bw : B ≤ Wm
  ws : Wm ≤ w.heap.size
  br : B ≤ R
  bo : B ≤ O
/-- A reader between two cards, or at the beginning. -/
structure RdN (B R O : Nat) (ap : Nat × Nat) (cv tv : Value) (D : List (Kard × Value)) (w : World) : Prop where
  rd : w.heap[R]? = some (.cells #[cv, tv, .bool false, .int .i64 ap.1, .int .i64 ap.2, opener O] 68 (0, 0))
  op : w.heap[O]? = some (.cells #[.bool false] 4 (0, 0))
  cards : w.ownsRow B 55 3 cv D.length (cardsC D)
  text : w.ownsRow B 5 1 tv 0 []
  fin : ∀ x ∈ D, MarksFin w B w.heap.size x.2 x.1.marks
  bs : B ≤ w.heap.size
  br : B ≤ R
  bo : B ≤ O

section
variable {B R O Wm : Nat} {ap : Nat × Nat} {cv tc tv mc mv : Value} {xc : List UInt8} {D : List (Kard × Value)} {c : Kard} {b1 b2 : Bool} {w w' : World}
theorem RdC.kept (h : RdC B R O Wm ap cv tc tv mc mv xc D c b1 b2 w) (hs : w.heap.size ≤ w'.heap.size) (hk : ∀ k, k < w.heap.size → w'.heap[k]? = w.heap[k]?) : RdC B R O Wm ap cv tc tv mc mv xc D c b1 b2 w' :=
  ⟨(hk _ (lt_of_block h.rd)).trans h.rd, (hk _ (lt_of_block h.op)).trans h.op, own_kept h.cards hk, own_kept h.text hk, own_kept h.marks hk,
    fun x hx => (h.fin x hx).turns (Turns.of_kept (e := 0) hs hk) (by decide), h.bw, Nat.le_trans h.ws hs, h.br, h.bo⟩
theorem RdC.below (h : RdC B R O Wm ap cv tc tv mc mv xc D c b1 b2 w) (hb : Below w.heap.size w w') : RdC B R O Wm ap cv tc tv mc mv xc D c b1 b2 w' := h.kept hb.size hb.block
theorem RdC.drew (h : RdC B R O Wm ap cv tc tv mc mv xc D c b1 b2 w) : RdC B R O Wm ap cv tc tv mc mv xc D c b1 b2 w.drew := h.kept (Nat.le_refl _) fun _ _ => rfl
theorem RdC.drewN (h : RdC B R O Wm ap cv tc tv mc mv xc D c b1 b2 w) (n : Nat) : RdC B R O Wm ap cv tc tv mc mv xc D c b1 b2 (w.drewN n) := h.kept (Nat.le_refl _) fun _ _ => rfl
theorem RdC.alloc (h : RdC B R O Wm ap cv tc tv mc mv xc D c b1 b2 w) (o : Obj) : RdC B R O Wm ap cv tc tv mc mv xc D c b1 b2 (w.alloc o) := h.kept (by simp) (kept_alloc w o)
theorem RdC.bs (h : RdC B R O Wm ap cv tc tv mc mv xc D c b1 b2 w) : B ≤ w.heap.size := Nat.le_trans h.bw h.ws
theorem OneTurn.turns {t : TypeId} {v : Value} {cs : Array Value} {fr : Nat × Nat} (ht : OneTurn O t v w w') (ho : w.heap[O]? = some (.cells cs t fr)) : Turns t w w' :=
  ⟨Nat.le_of_eq ht.size.symm, fun k cs' t' fr' hk hn => (ht.block k (fun e => by subst e; rw [ho] at hk; injection hk with hk; injection hk with h1 h2; exact hn h2.symm)).trans hk⟩
/-- The counter has turned. -/
theorem RdC.turnO (h : RdC B R O Wm ap cv tc tv mc mv xc D c b1 b2 w) {b : Bool} (ht : OneTurn O 4 (.bool b) w w') : RdC B R O Wm ap cv tc tv mc mv xc D c b1 b w' := by
  have hT : Turns 4 w w' := ht.turns h.op
  exact ⟨hT.block _ _ _ _ h.rd (by decide), ht.here, own_turns h.cards hT (by decide), own_turns h.text hT (by decide), own_turns h.marks hT (by decide),
    fun x hx => (h.fin x hx).turns hT (by decide), h.bw, by rw [ht.size]; exact h.ws, h.br, h.bo⟩
/-- A store into the reader's cell 'open'. -/
theorem RdC.setOpen (h : RdC B R O Wm ap cv tc tv mc mv xc D c b1 b2 w) (b : Bool) : RdC B R O Wm ap cv tc tv mc mv xc D c b b2 (w.setCell ⟨R, 2, none⟩ (.bool b)) := by
  have hT := Turns.setCell h.rd 2 (.bool b)
  exact ⟨Joins.block_setCell h.rd _, hT.block _ _ _ _ h.op (by decide), own_turns h.cards hT (by decide), own_turns h.text hT (by decide), own_turns h.marks hT (by decide),
    fun x hx => (h.fin x hx).turns hT (by decide), h.bw, by simpa using h.ws, h.br, h.bo⟩
/-- A store into the reader's cell 'text'. -/
theorem RdC.setText (h : RdC B R O Wm ap cv tc tv mc mv xc D c b1 b2 w) (u : Value) : RdC B R O Wm ap cv u tv mc mv xc D c b1 b2 (w.setCell ⟨R, 1, none⟩ u) := by
  have hT := Turns.setCell h.rd 1 u
  exact ⟨Joins.block_setCell h.rd _, hT.block _ _ _ _ h.op (by decide), own_turns h.cards hT (by decide), own_turns h.text hT (by decide), own_turns h.marks hT (by decide),
    fun x hx => (h.fin x hx).turns hT (by decide), h.bw, by simpa using h.ws, h.br, h.bo⟩
/-- The text row has grown. -/
theorem RdC.grownText (h : RdC B R O Wm ap cv tc tv mc mv xc D c b1 b2 w) {tv' : Value} {l : List UInt8} (ho : w'.ownsRow B 5 1 tv' (c.text ++ l).length (u8C (c.text ++ l))) (hg : w.grownBy w' tv.ownBlock) :
    RdC B R O Wm ap cv tc tv' mc mv xc D { c with text := c.text ++ l } b1 b2 w' := by
  have hT := Turns.grown hg (own_kind h.text)
  exact ⟨hT.block _ _ _ _ h.rd (by decide), hT.block _ _ _ _ h.op (by decide), own_turns h.cards hT (by decide), ho, own_turns h.marks hT (by decide),
    fun x hx => (h.fin x hx).turns hT (by decide), h.bw, Nat.le_trans h.ws hg.size, h.br, h.bo⟩
/-- The row of marks has grown. -/
theorem RdC.grownMarks (h : RdC B R O Wm ap cv tc tv mc mv xc D c b1 b2 w) {mv' : Value} {m : Nat × Nat × Nat} (ho : w'.ownsRow Wm 52 3 mv' (c.marks.length + 1) (marksC (c.marks ++ [m]))) (hg : w.grownBy w' mv.ownBlock) :
    RdC B R O Wm ap cv tc tv mc mv' xc D { c with marks := c.marks ++ [m] } b1 b2 w' := by
  have hT := Turns.grown hg (own_kind h.marks)
  have hb : Below Wm w w' := (Below.refl _ _).grown hg h.ws fun k hk => (h.marks.lt k hk).1
  exact ⟨hT.block _ _ _ _ h.rd (by decide), hT.block _ _ _ _ h.op (by decide), own_turns h.cards hT (by decide), own_turns h.text hT (by decide), by simpa using ho,
    fun x hx => (h.fin x hx).below hb, h.bw, Nat.le_trans h.ws hg.size, h.br, h.bo⟩
/-- A store into the card's cell 'Marks'. -/
theorem RdC.setMarks {g cap : Nat} (h : RdC B R O Wm ap (.slice (some ⟨g, 0, none⟩) (D.length + 1) cap) tc tv mc mv xc D c b1 b2 w) (u : Value) :
    RdC B R O Wm ap (.slice (some ⟨g, 0, none⟩) (D.length + 1) cap) tc tv u mv xc D c b1 b2 (w.setCell ⟨g, D.length * 3 + 2, none⟩ u) := by
  obtain ⟨cs, fz, hg⟩ := own_kind h.cards g rfl
  have hT := Turns.setCell hg (D.length * 3 + 2) u
  have ho := (h.cards.stored (D.length * 3 + 2) u).1
  have e : (cardsC D ++ [.bool c.left, .string (strL xc), mc]).set (D.length * 3 + 2) u = cardsC D ++ [.bool c.left, .string (strL xc), u] := by
    rw [List.set_append_right _ _ (by rw [cardsC_length]; omega), cardsC_length]
    rw [show D.length * 3 + 2 - D.length * 3 = 2 from by omega]
    rfl
  rw [e] at ho
  exact ⟨hT.block _ _ _ _ h.rd (by decide), hT.block _ _ _ _ h.op (by decide), ho, own_turns h.text hT (by decide), own_turns h.marks hT (by decide),
    fun x hx => (h.fin x hx).turns hT (by decide), h.bw, by simpa using h.ws, h.br, h.bo⟩
/-- A store into the card's cell 'Text'. -/
theorem RdC.setCard {g cap : Nat} (h : RdC B R O Wm ap (.slice (some ⟨g, 0, none⟩) (D.length + 1) cap) tc tv mc mv xc D c b1 b2 w) (l : List UInt8) :
    RdC B R O Wm ap (.slice (some ⟨g, 0, none⟩) (D.length + 1) cap) tc tv mc mv l D c b1 b2 (w.setCell ⟨g, D.length * 3 + 1, none⟩ (.string (strL l))) := by
  obtain ⟨cs, fz, hg⟩ := own_kind h.cards g rfl
  have hT := Turns.setCell hg (D.length * 3 + 1) (.string (strL l))
  have ho := (h.cards.stored (D.length * 3 + 1) (.string (strL l))).1
  have e : (cardsC D ++ [.bool c.left, .string (strL xc), mc]).set (D.length * 3 + 1) (.string (strL l)) = cardsC D ++ [.bool c.left, .string (strL l), mc] := by
    rw [List.set_append_right _ _ (by rw [cardsC_length]; omega), cardsC_length]
    rw [show D.length * 3 + 1 - D.length * 3 = 1 from by omega]
    rfl
  rw [e] at ho
  exact ⟨hT.block _ _ _ _ h.rd (by decide), hT.block _ _ _ _ h.op (by decide), ho, own_turns h.text hT (by decide), own_turns h.marks hT (by decide),
    fun x hx => (h.fin x hx).turns hT (by decide), h.bw, by simpa using h.ws, h.br, h.bo⟩
/-- The reader's own cells. -/
theorem RdC.cells (h : RdC B R O Wm ap cv tc tv mc mv xc D c b1 b2 w) : w.cell? ⟨R, 0, none⟩ = some cv ∧ w.cell? ⟨R, 1, none⟩ = some tc ∧ w.cell? ⟨R, 2, none⟩ = some (.bool b1) ∧ w.cell? ⟨R, 5, none⟩ = some (opener O) ∧ w.cell? ⟨R, 3, none⟩ = some (.int .i64 ap.1) ∧ w.cell? ⟨R, 4, none⟩ = some (.int .i64 ap.2) :=
  ⟨Joins.cell_of_block h.rd 0, Joins.cell_of_block h.rd 1, Joins.cell_of_block h.rd 2, Joins.cell_of_block h.rd 5, Joins.cell_of_block h.rd 3, Joins.cell_of_block h.rd 4⟩
theorem RdC.free (h : RdC B R O Wm ap cv tc tv mc mv xc D c b1 b2 w) : w.frozen? ⟨R, 0, none⟩ = false ∧ w.frozen? ⟨R, 1, none⟩ = false ∧ w.frozen? ⟨R, 2, none⟩ = false ∧ w.frozen? ⟨R, 5, none⟩ = false ∧ w.frozen? ⟨R, 3, none⟩ = false ∧ w.frozen? ⟨R, 4, none⟩ = false :=
  ⟨Joins.unfrozen_of_block h.rd 0, Joins.unfrozen_of_block h.rd 1, Joins.unfrozen_of_block h.rd 2, Joins.unfrozen_of_block h.rd 5, Joins.unfrozen_of_block h.rd 3, Joins.unfrozen_of_block h.rd 4⟩
/-- Stores into the reader's cells 'last'. -/
theorem RdC.setLast (h : RdC B R O Wm ap cv tc tv mc mv xc D c b1 b2 w) (l k : Nat) : RdC B R O Wm (l, k) cv tc tv mc mv xc D c b1 b2 ((w.setCell ⟨R, 3, none⟩ (.int .i64 l)).setCell ⟨R, 4, none⟩ (.int .i64 k)) := by
  have hT1 := Turns.setCell h.rd 3 (.int .i64 l)
  have r1 := Joins.block_setCell (i := 3) h.rd (.int .i64 l)
  have hT := hT1.trans (Turns.setCell r1 4 (.int .i64 k))
  exact ⟨Joins.block_setCell r1 _, hT.block _ _ _ _ h.op (by decide), own_turns h.cards hT (by decide), own_turns h.text hT (by decide), own_turns h.marks hT (by decide),
    fun x hx => (h.fin x hx).turns hT (by decide), h.bw, by simpa using h.ws, h.br, h.bo⟩
theorem RdC.form (h : RdC B R O Wm ap cv tc tv mc mv xc D c b1 b2 w) : ∃ g cap, cv = .slice (some ⟨g, 0, none⟩) (D.length + 1) cap ∧ D.length + 1 ≤ cap ∧ B ≤ g ∧ g < w.heap.size := own_form h.cards (by omega)
/-- The cells of the card under way. -/
theorem RdC.card {g cap : Nat} (h : RdC B R O Wm ap (.slice (some ⟨g, 0, none⟩) (D.length + 1) cap) tc tv mc mv xc D c b1 b2 w) :
    w.cell? ⟨g, D.length * 3, none⟩ = some (.bool c.left) ∧ w.cell? ⟨g, D.length * 3 + 1, none⟩ = some (.string (strL xc)) ∧ w.cell? ⟨g, D.length * 3 + 2, none⟩ = some mc := by
  have hl := cardsC_length D
  refine ⟨own_at h.cards _ _ ?_, own_at h.cards _ _ ?_, own_at h.cards _ _ ?_⟩
  · rw [List.getElem?_append_right (by omega), hl, Nat.sub_self]; rfl
  · rw [List.getElem?_append_right (by omega), hl, show D.length * 3 + 1 - D.length * 3 = 1 from by omega]; rfl
  · rw [List.getElem?_append_right (by omega), hl, show D.length * 3 + 2 - D.length * 3 = 2 from by omega]; rfl
theorem RdC.cardFree {g cap : Nat} (h : RdC B R O Wm ap (.slice (some ⟨g, 0, none⟩) (D.length + 1) cap) tc tv mc mv xc D c b1 b2 w) (j : Nat) : w.frozen? ⟨g, j, none⟩ = false := h.cards.frozenAt j
/-- The blocks differ. -/
theorem RdC.ne {g cap : Nat} (h : RdC B R O Wm ap (.slice (some ⟨g, 0, none⟩) (D.length + 1) cap) tc tv mc mv xc D c b1 b2 w) : g ≠ R ∧ g ≠ O ∧ R ≠ O := by
  obtain ⟨cs, fz, hg⟩ := own_kind h.cards g rfl
  refine ⟨fun e => ?_, fun e => ?_, fun e => ?_⟩
  · subst e; rw [h.rd] at hg; injection hg with hg; injection hg with h1 h2; exact absurd h2 (by decide)
  · subst e; rw [h.op] at hg; injection hg with hg; injection hg with h1 h2; exact absurd h2 (by decide)
  · subst e; have := h.op; rw [h.rd] at this; injection this with this; injection this with h1 h2; exact absurd h2 (by decide)
end
end Go.Proofs.YtpalfhfbgfnacaaGreatDoor
