/-
  The contracts of package columns' methods on rows that call the library: first, isBlank, check.
-/
import Derived.Test.YtbckdieajfbepaaDoorCol1
import Derived.Test.YtbckdieajfbepaaDoorShelf
import Derived.Deep.RegionHeld3
namespace Go.Proofs.YtbckdieajfbepaaDoor
open Go.RowKit
set_option linter.unusedVariables false
set_option linter.unusedSimpArgs false

theorem from_areas (s : List UInt8) (k : Nat) : fromB s (k + 8) = (areasB s).drop k := by
  unfold fromB areasB
  rw [List.drop_drop]
  congr 1
  omega
theorem strL_le (l : List UInt8) (n : Nat) (h : l.length ≤ n) : (strL l).size ≤ n := h
theorem bcell {W w1 : World} {B : Nat} (hb : Below B W w1) : (∀ b o, b < B → w1.cell? ⟨b, o, none⟩ = W.cell? ⟨b, o, none⟩) ∧ (∀ b o, b < B → w1.frozen? ⟨b, o, none⟩ = W.frozen? ⟨b, o, none⟩) :=
  ⟨fun b o h => hb.cell (p := ⟨b, o, none⟩) h, fun b o h => hb.frozen (p := ⟨b, o, none⟩) h⟩

/-- A string of its own name, its size apart. -/
theorem strVar (l : List UInt8) : ∃ t : ByteArray, t = strL l ∧ t.size ≤ l.length ∧ Hid (t.size = l.length) := ⟨_, rfl, Nat.le_refl _, rfl⟩
set_option maxHeartbeats 1000000 in
theorem c_first (n : Nat) (s : ByteArray) (hs : s.size ≤ 140737488355328) (w : World) :
    Calls Tryd.prog 59 #[rowC n s] w fun e w' => e = .returned (.int .i64 (8 + fstN (areasB s.data.toList) : Nat)) ∧ Below w.heap.size w w' := by
  have HF : Hid (fromB s.data.toList 8 = areasB s.data.toList) := from_areas s.data.toList 0
  have hl : (areasB s.data.toList).length ≤ 65 := by rw [areasB_length]; omega
  have hle := fstN_le (areasB s.data.toList)
  have HT : Hid (Lib.trimLeftB (areasB s.data.toList) 32 = (areasB s.data.toList).drop (fstN (areasB s.data.toList))) := trimLeft_fstN _
  have hd : ((areasB s.data.toList).drop (fstN (areasB s.data.toList))).length + fstN (areasB s.data.toList) = (areasB s.data.toList).length := by rw [List.length_drop]; omega
  have HD := Lib.hid hd; clear hd
  generalize areasB s.data.toList = l at *
  go_enter Tryd.func59, Tryd.ntmps59
  go_wp2_with fail
  refine (c_from n s hs 8 (by omega) (by omega) _).mono ?_; rintro e w1 ⟨rfl, hb⟩
  rw [HF.out]
  obtain ⟨t, ht, hts, HTS⟩ := strVar l
  rw [← ht]
  have HTD : Hid (t.data.toList = l) := by rw [ht]; rfl
  clear ht
  go_wp2_with fail
  refine (Tryd.strings_TrimLeft_one t 32 (by decide) _).mono ?_; rintro e w2 ⟨rfl, rfl⟩
  rw [HTD.out, HT.out]
  obtain ⟨u, hu, hus, HUS⟩ := strVar (l.drop (fstN l))
  have hu2 : (⟨(l.drop (fstN l)).toArray⟩ : ByteArray) = u := hu.symm
  rw [hu2]
  clear hu hu2
  have hut : u.size ≤ t.size := by rw [HTS.out, HUS.out]; have := HD.out; omega
  have HQ : Hid ((8 : Int) + t.size - u.size = (8 + fstN l : Nat)) := by
    show _ = _
    rw [HTS.out, HUS.out]; have := HD.out; omega
  go_wp2
  go_returns
  refine ⟨retI HQ.out, ?_⟩
  exact ((Below.refl _ _).alloc (Nat.le_refl _) _).trans (hb.mono (by simp))

theorem keepBox {w W w' : World} {n : Int} {s : ByteArray} (hb : Below W.heap.size W w') (h : W.cell? ⟨w.heap.size, 0, none⟩ = some (.int .i64 n) ∧ W.cell? ⟨w.heap.size, 1, none⟩ = some (.string s) ∧ Below w.heap.size w W ∧ w.heap.size < W.heap.size) :
    w'.cell? ⟨w.heap.size, 0, none⟩ = some (.int .i64 n) ∧ w'.cell? ⟨w.heap.size, 1, none⟩ = some (.string s) ∧ Below w.heap.size w w' ∧ w.heap.size < w'.heap.size :=
  ⟨(hb.cell h.2.2.2).trans h.1, (hb.cell h.2.2.2).trans h.2.1, h.2.2.1.trans (hb.mono h.2.2.1.size), Nat.lt_of_lt_of_le h.2.2.2 hb.size⟩
theorem boxB {w w' : World} {n : Int} {s : ByteArray} (h : w'.cell? ⟨w.heap.size, 0, none⟩ = some (.int .i64 n) ∧ w'.cell? ⟨w.heap.size, 1, none⟩ = some (.string s) ∧ Below w.heap.size w w' ∧ w.heap.size < w'.heap.size) : Below w.heap.size w w' := h.2.2.1
set_option maxHeartbeats 1000000 in
theorem c_blank (n : Nat) (s : ByteArray) (hs : s.size ≤ 140737488355328) (w : World) :
    Calls Tryd.prog 36 #[rowC n s] w fun e w' => e = .returned (.bool (decide (fstN (areasB s.data.toList) = (areasB s.data.toList).length))) ∧ Below w.heap.size w w' := by
  have hl : (areasB s.data.toList).length ≤ 65 := by rw [areasB_length]; omega
  have hle := fstN_le (areasB s.data.toList)
  have HF : Hid (fromB s.data.toList (8 + fstN (areasB s.data.toList)) = (areasB s.data.toList).drop (fstN (areasB s.data.toList))) := by
    show _ = _
    rw [Nat.add_comm]; exact from_areas _ _
  have HE : Hid ((strL ((areasB s.data.toList).drop (fstN (areasB s.data.toList)))).toList.isEmpty = decide (fstN (areasB s.data.toList) = (areasB s.data.toList).length)) := by
    show _ = _
    rw [ByteArray.toList_eq, strL_data, Bool.eq_iff_iff, List.isEmpty_iff, decide_eq_true_eq]
    constructor
    · intro h; have := congrArg List.length h; rw [List.length_drop] at this; simp at this; omega
    · intro h; exact List.drop_eq_nil_of_le (by omega)
  generalize hl' : areasB s.data.toList = l at *
  have HLL := Lib.hid hl'; clear hl'
  go_enter Tryd.func36, Tryd.ntmps36
  go_wp2
  go_region_held3 (fun w' => w'.cell? ⟨w.heap.size, 0, none⟩ = some (.int .i64 n) ∧ w'.cell? ⟨w.heap.size, 1, none⟩ = some (.string s) ∧ Below w.heap.size w w' ∧ w.heap.size < w'.heap.size) (first
      | assumption
      | (refine keepBox hb ?_; first | assumption | (refine ⟨?_, ?_, ?_, ?_⟩ <;> first | (simp; done) | exact ((Below.refl _ _).alloc (Nat.le_refl _) _).drew))
      | (refine ⟨?_, ?_, ?_, ?_⟩ <;> first | (simp; done) | exact ((Below.refl _ _).alloc (Nat.le_refl _) _).drew))
    (first
      | (go_at_call 59; refine (c_first n s hs _).mono ?_; rintro e w' ⟨rfl, hb⟩; rw [HLL.out])
      | (go_at_call 61; refine (c_from n s hs (8 + fstN l) (by omega) (by omega) _).mono ?_; rintro e w' ⟨rfl, hb⟩))
  have hB : Below w.heap.size w w' := boxB (n := n) (s := s) (by assumption)
  rw [HF.out, HE.out]
  go_wp2
  go_ret
  exact ⟨rfl, hB⟩

/-! ### check -/
/-- The first fault that a line has whatever stands around it: an error and a column, or none. -/
def checkF (s : List UInt8) : Option (Nat × Nat) :=
  if 80 < s.length then some (5, 81)
  else if 0 ≤ firstI (fun c => !prtB c) 0 s then some (4, (firstI (fun c => !prtB c) 0 s + 1).toNat)
  else if Lib.indexByte [32, 45, 42, 47, 68, 100] (s.getD 6 32) < 0 then some (4, 7)
  else none
def checkV (n : Nat) : Option (Nat × Nat) → Value
  | none => .agg #[.int .i64 0, .int .i64 0, .int .i64 0]
  | some (e, c) => .agg #[.int .i64 e, .int .i64 n, .int .i64 c]
set_option maxHeartbeats 1000000 in
theorem c_check (n : Nat) (s : ByteArray) (hs : s.size ≤ 1048576) (w : World) :
    Calls Tryd.prog 32 #[rowC n s] w fun e w' => e = .returned (checkV n (checkF s.data.toList)) ∧ Below w.heap.size w w' := by
  have hsz := size_data s
  by_cases h80 : (80 : Int) < s.size
  · have HP : Hid (checkV n (checkF s.data.toList) = .agg #[.int .i64 5, .int .i64 n, .int .i64 81]) := by
      show _ = _
      unfold checkF
      rw [if_pos (by omega)]; rfl
    clear hsz
    go_enter Tryd.func32, Tryd.ntmps32
    go_wp2
    go_returns
    refine ⟨?_, by go_grown⟩
    rw [HP.out]
  have HN : Hid (¬ 80 < s.data.toList.length) := by show ¬ _; omega
  have HL := Lib.hid hsz
  clear hsz
  go_enter Tryd.func32, Tryd.ntmps32
  go_wp2
  go_loop [13] (fun i => ∃ k : Nat, k ≤ s.size ∧ i = .int .i64 k ∧ Hid (firstI (fun c => !prtB c) 0 s.data.toList = firstI (fun c => !prtB c) k (s.data.toList.drop k))) (fun i => s.size - (intOf i).toNat)
  case atStart => exact ⟨0, Nat.zero_le _, rfl, by simp [Hid]⟩
  case round =>
    obtain ⟨k, hk, rfl, HE⟩ := hrel
    by_cases hlt : k < s.size
    · have hget := get_data s k hlt
      have HD := Lib.hid (firstI_drop (fun c => !prtB c) s.data.toList k _ hget)
      have HX : Hid (printB (s.extract k (k + 1)).data.toList = prtB s[k]) := by
        show _ = _
        have hll : k < s.data.toList.length := by rw [← size_data]; exact hlt
        rw [extract_data, List.take_succ_eq_append_getElem (by rw [← size_data]; exact hlt)]
        rw [List.drop_append_of_le_length (by rw [List.length_take]; omega), List.drop_eq_nil_of_le (by rw [List.length_take]; omega)]
        have e : s.data.toList[k]'(by rw [← size_data]; exact hlt) = s[k] := rfl
        rw [e]
        simp [printB]
      clear hget
      go_wp2_with fail
      refine (printable_any (s.extract k (k + 1)) (by rw [ByteArray.size_extract]; omega) _).mono ?_; rintro e w' ⟨rfl, rfl⟩
      rw [HX.out]
      cases hp : prtB s[k]
      · have HP : Hid (checkV n (checkF s.data.toList) = .agg #[.int .i64 4, .int .i64 n, .int .i64 ((k : Int) + 1)]) := by
          show _ = _
          have hf : firstI (fun c => !prtB c) 0 s.data.toList = k := by rw [HE.out, HD.out]; simp [hp]
          unfold checkF
          rw [if_neg HN.out, hf, if_pos (by omega)]
          rfl
        clear hp
        go_wp2
        go_returns
        refine ⟨?_, by go_grown⟩
        rw [HP.out]
      · have HX2 : Hid (firstI (fun c => !prtB c) 0 s.data.toList = firstI (fun c => !prtB c) (k + 1) (s.data.toList.drop (k + 1))) := by
          show _ = _
          rw [HE.out, HD.out]; simp [hp]
        clear hp
        go_wp2
        go_round
        case rel => exact ⟨k + 1, by omega, by go_num, HX2⟩
        case measure => simp [intOf]; omega
    · have HX : Hid (¬ 0 ≤ firstI (fun c => !prtB c) 0 s.data.toList) := by
        show ¬ _
        rw [HE.out, List.drop_of_length_le (by rw [← HL.out]; omega)]; simp [firstI]
      have hml : (s.data.toList.getD 6 32).toNat.toUInt8 = s.data.toList.getD 6 32 := by simp
      have HML := Lib.hid hml; clear hml
      by_cases hneg : Lib.indexByte [32, 45, 42, 47, 68, 100] (s.data.toList.getD 6 32) < 0
      all_goals
        first
          | (have HP : Hid (checkV n (checkF s.data.toList) = .agg #[.int .i64 4, .int .i64 n, .int .i64 7]) := by
              show _ = _
              unfold checkF
              rw [if_neg HN.out, if_neg HX.out, if_pos hneg]; rfl)
          | (have HP : Hid (checkV n (checkF s.data.toList) = .agg #[.int .i64 0, .int .i64 0, .int .i64 0]) := by
              show _ = _
              unfold checkF
              rw [if_neg HN.out, if_neg HX.out, if_neg hneg]; rfl)
        go_wp2_with fail
        refine (c_ind n s _).mono ?_; rintro e w1 ⟨rfl, rfl⟩
        generalize s.data.toList.getD 6 32 = m at *
        go_wp2_with fail
        refine (Tryd.strings_IndexByte ⟨#[32, 45, 42, 47, 68, 100]⟩ m.toNat _).mono ?_; rintro e w2 ⟨rfl, rfl⟩
        have hIB : (Lib.indexByte (⟨#[32, 45, 42, 47, 68, 100]⟩ : ByteArray).data.toList ((m.toNat : Int).toNat.toUInt8)) = Lib.indexByte [32, 45, 42, 47, 68, 100] m := by
          show Lib.indexByte [32, 45, 42, 47, 68, 100] m.toNat.toUInt8 = _
          rw [HML.out]
        rw [hIB]
        clear hIB
        go_wp2
        go_returns
        refine ⟨?_, by go_grown⟩
        rw [HP.out]
        try rfl
end Go.Proofs.YtbckdieajfbepaaDoor
