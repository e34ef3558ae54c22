/-
  The contract of the reference's function row (columnsevenref02).
-/
import Derived.Test.YtbckdieajfbepaaDoorRef2b
import Derived.Deep.RegionWith
namespace Go.Proofs.YtbckdieajfbepaaDoor
open Go.RowKit
set_option linter.unusedVariables false
set_option linter.unusedSimpArgs false

/-- A line as if it were 72 columns long, or longer. -/
def padTo (s : List UInt8) : List UInt8 := s ++ List.replicate (72 - s.length) 32
def markOf (s : List UInt8) : UInt8 := (padTo s).getD 6 0
def textOf (s : List UInt8) : List UInt8 := ((padTo s).take 72).drop 7
theorem padTo_length (s : List UInt8) : 72 ≤ (padTo s).length := by simp [padTo]; omega
theorem textOf_length (s : List UInt8) : (textOf s).length = 65 := by
  have := padTo_length s
  simp [textOf]; omega
def faultV (e line col : Int) : Value := .agg #[.int .i64 e, .int .i64 line, .int .i64 col]
def rowA (line : Int) (m : UInt8) (t : List UInt8) : Value := .agg #[.int .i64 line, .int .u8 m.toNat, .string (strL t)]
def row0 : Value := .agg #[.int .i64 0, .int .u8 0, .string ⟨#[]⟩]
/-- What row returns. -/
def rowV (s : List UInt8) (line : Int) (debug : Bool) : Value :=
  if 80 < s.length then .tuple #[row0, .bool false, faultV 5 line 81]
  else if 0 ≤ firstI (fun c => !prtB c) 0 s then .tuple #[row0, .bool false, faultV 4 line (firstI (fun c => !prtB c) 0 s + 1)]
  else if (markOf s).toNat = 42 ∨ (markOf s).toNat = 47 then .tuple #[rowA line (markOf s) (textOf s), .bool false, faultV 0 0 0]
  else if (markOf s).toNat = 68 ∨ (markOf s).toNat = 100 then .tuple #[rowA line 32 (textOf s), .bool (debug && decide (fstN (textOf s) < 65)), faultV 0 0 0]
  else if (markOf s).toNat ≠ 32 ∧ (markOf s).toNat ≠ 45 then .tuple #[rowA line (markOf s) (textOf s), .bool false, faultV 4 line 7]
  else .tuple #[rowA line (markOf s) (textOf s), .bool (decide (fstN (textOf s) < 65)), faultV 0 0 0]

theorem prt_no (c : UInt8) (h : (c.toNat : Int) < 32 ∨ 126 < (c.toNat : Int)) : (!prtB c) = true := by simp [prtB]; omega
theorem prt_yes (c : UInt8) (h : ¬ ((c.toNat : Int) < 32 ∨ 126 < (c.toNat : Int))) : (!prtB c) = false := by simp [prtB]; omega

/-- What the loop that pads has: t. -/
structure Padded (s t : ByteArray) : Prop where
  data : ∃ j, t.data.toList = s.data.toList ++ List.replicate j 32 ∧ (0 < j → t.size ≤ 72)
theorem Padded.start (s : ByteArray) : Padded s s := ⟨0, by simp, by omega⟩
theorem Padded.step {s t : ByteArray} (h : Padded s t) (hlt : t.size < 72) : Padded s (t ++ ⟨#[32]⟩) := by
  obtain ⟨j, hj, _⟩ := h.data
  refine ⟨j + 1, ?_, fun _ => by rw [ByteArray.size_append]; show t.size + 1 ≤ 72; omega⟩
  rw [append_data, hj, List.replicate_succ']
  simp
theorem Padded.done {s t : ByteArray} (h : Padded s t) (hge : ¬ t.size < 72) : t.data.toList = padTo s.data.toList := by
  obtain ⟨j, hj, h72⟩ := h.data
  have hsz : t.size = s.size + j := by rw [size_data t, hj, List.length_append, List.length_replicate, ← size_data]
  rw [hj]
  unfold padTo
  congr 1
  rw [← size_data]
  rcases Nat.eq_zero_or_pos j with h0 | h0
  · rw [show 72 - s.size = j from by omega]
  · have := h72 h0
    rw [show 72 - s.size = j from by omega]

set_option maxRecDepth 100000 in
set_option maxHeartbeats 2000000 in
theorem r2row (s : ByteArray) (line : Int) (debug : Bool) (hs : s.size ≤ 140737488355328) (hl0 : 0 ≤ line) (hl1 : line ≤ 1048577) (w : World) :
    Calls Tryd.prog 28 #[.string s, .int .i64 line, .bool debug] w fun e w' =>
      e = .returned (rowV s.data.toList line debug) ∧ Below w.heap.size w w' := by
  by_cases h80 : (80 : Int) < s.size
  · have HP : Hid (rowV s.data.toList line debug = .tuple #[row0, .bool false, faultV 5 line 81]) := by
      show _ = _
      unfold rowV
      rw [if_pos (by rw [← size_data]; omega)]
    go_enter Tryd.func28, Tryd.ntmps28
    go_wp2
    go_returns
    refine ⟨?_, by go_grown⟩
    rw [HP.out]
    rfl
  have h80' : ¬ 80 < s.data.toList.length := by rw [← size_data]; omega
  have HN := Lib.hid h80'; clear h80'
  go_enter Tryd.func28, Tryd.ntmps28
  go_wp2
  go_loop [9] (fun i => ∃ k : Nat, k ≤ s.size ∧ i = .int .i64 k ∧ Hid (firstI (fun c => !prtB c) 0 s.data.toList = firstI (fun c => !prtB c) k (s.data.toList.drop k))) (fun i => s.size - (intOf i).toNat)
  case atStart => exact ⟨0, Nat.zero_le _, rfl, by simp [Hid]⟩
  case round =>
    obtain ⟨k, hk, rfl, HE⟩ := hrel
    by_cases hlt : k < s.size
    · have HD := Lib.hid (firstI_drop (fun c => !prtB c) s.data.toList k _ (get_data s k hlt))
      by_cases hbad : (s[k].toNat : Int) < 32 ∨ 126 < (s[k].toNat : Int)
      · have HP : Hid (rowV s.data.toList line debug = .tuple #[row0, .bool false, faultV 4 line ((k : Int) + 1)]) := by
          show _ = _
          unfold rowV
          rw [if_neg HN.out, HE.out, HD.out, if_pos (prt_no _ hbad), if_pos (by omega)]
        by_cases hb1 : (s[k].toNat : Int) < 32
        · clear hbad
          go_wp2
          go_returns
          refine ⟨?_, by go_grown⟩
          rw [HP.out]
          rfl
        · have hb2 : 126 < (s[k].toNat : Int) := by omega
          clear hbad
          go_wp2
          go_returns
          refine ⟨?_, by go_grown⟩
          rw [HP.out]
          rfl
      · have HX : Hid (firstI (fun c => !prtB c) 0 s.data.toList = firstI (fun c => !prtB c) (k + 1) (s.data.toList.drop (k + 1))) := by
          show _ = _
          rw [HE.out, HD.out, prt_yes _ hbad]; simp
        have hb1 : ¬ (s[k].toNat : Int) < 32 := by omega
        have hb2 : ¬ 126 < (s[k].toNat : Int) := by omega
        clear hbad
        go_wp2
        go_round
        case rel => exact ⟨k + 1, by omega, by go_num, HX⟩
        case measure => simp [intOf]; omega
    · have HX : Hid (¬ 0 ≤ firstI (fun c => !prtB c) 0 s.data.toList) := by
        show ¬ _
        rw [HE.out, List.drop_of_length_le (by rw [← size_data]; omega)]
        simp [firstI]
      have hs80 : s.size ≤ 80 := by omega
      go_wp2
      go_loop [0] (fun v => ∃ t : ByteArray, v = .string t ∧ t.size ≤ 80 ∧ Hid (Padded s t)) (fun v => 72 - strSize v)
      case atStart => exact ⟨s, rfl, hs80, Padded.start s⟩
      case round =>
        obtain ⟨t, rfl, ht80, HPD⟩ := hrel
        by_cases ht : t.size < 72
        · go_wp2
          go_round
          case rel => exact ⟨_, rfl, by rw [ByteArray.size_append]; show t.size + 1 ≤ 80; omega, HPD.out.step ht⟩
          case measure => simp only [strSize_mk]; rw [ByteArray.size_append]; show 72 - (t.size + 1) < _; omega
        · have hpad := HPD.out.done ht
          have h6 : 6 < t.size := by omega
          have ht72 : (72 : Int) ≤ t.size := by omega
          have hm : t[6] = markOf s.data.toList := by
            have := get_data t 6 h6
            rw [hpad] at this
            simp [markOf, List.getD, this]
          have hx : t.extract 7 72 = strL (textOf s.data.toList) := str_ext (by rw [extract_data, hpad]; rfl)
          have htx := textOf_length s.data.toList
          have HB : Hid (¬ 80 < s.data.toList.length ∧ ¬ 0 ≤ firstI (fun c => !prtB c) 0 s.data.toList) := ⟨HN.out, by have := HX.out; omega⟩
          have HV : Hid (rowV s.data.toList line debug =
              if (markOf s.data.toList).toNat = 42 ∨ (markOf s.data.toList).toNat = 47 then .tuple #[rowA line (markOf s.data.toList) (textOf s.data.toList), .bool false, faultV 0 0 0]
              else if (markOf s.data.toList).toNat = 68 ∨ (markOf s.data.toList).toNat = 100 then .tuple #[rowA line 32 (textOf s.data.toList), .bool (debug && decide (fstN (textOf s.data.toList) < 65)), faultV 0 0 0]
              else if (markOf s.data.toList).toNat ≠ 32 ∧ (markOf s.data.toList).toNat ≠ 45 then .tuple #[rowA line (markOf s.data.toList) (textOf s.data.toList), .bool false, faultV 4 line 7]
              else .tuple #[rowA line (markOf s.data.toList) (textOf s.data.toList), .bool (decide (fstN (textOf s.data.toList) < 65)), faultV 0 0 0]) := by
            show _ = _
            unfold rowV
            rw [if_neg HB.out.1, if_neg HB.out.2]
          clear HB HN HX HPD hpad
          obtain ⟨tx, htx2⟩ : ∃ tx, tx = textOf s.data.toList := ⟨_, rfl⟩
          obtain ⟨m, hmm⟩ : ∃ m, m = markOf s.data.toList := ⟨_, rfl⟩
          rw [← htx2] at hx htx
          rw [← hmm] at hm
          rw [← hmm, ← htx2] at HV
          clear hmm htx2
          have HL := Lib.hid htx; clear htx
          have hmlt := u8lt m
          have HSZ : Hid ((strL tx).size ≤ 140737488355328) := by show _ ≤ _; rw [strL_size, HL.out]; decide
          have HDEC : Hid (decide ((fstN tx : Int) < 65) = decide (fstN tx < 65)) := by show _ = _; rw [Bool.eq_iff_iff]; simp; omega
          have g : (m.toNat : Int) = 42 ∨ (m.toNat : Int) = 47 ∨ (m.toNat : Int) = 68 ∨ (m.toNat : Int) = 100 ∨ (m.toNat : Int) = 32 ∨ (m.toNat : Int) = 45 ∨ ((m.toNat : Int) ≠ 42 ∧ (m.toNat : Int) ≠ 47 ∧ (m.toNat : Int) ≠ 68 ∧ (m.toNat : Int) ≠ 100 ∧ (m.toNat : Int) ≠ 32 ∧ (m.toNat : Int) ≠ 45) := by omega
          rcases g with g | g | g | g | g | g | g
          · have q42 : ((m.toNat : Int) == 42) = true := by simp; omega
            have q47 : ((m.toNat : Int) == 47) = false := by simp; omega
            have q68 : ((m.toNat : Int) == 68) = false := by simp; omega
            have q100 : ((m.toNat : Int) == 100) = false := by simp; omega
            have q32 : ((m.toNat : Int) != 32) = true := by simp; omega
            have q45 : ((m.toNat : Int) != 45) = true := by simp; omega
            have HF : Hid (rowV s.data.toList line debug = .tuple #[rowA line m tx, .bool false, faultV 0 0 0]) := by
              show _ = _
              rw [HV.out, if_pos (by omega)]
            clear g
            go_wp2
            go_region
            all_goals
              go_wp2
              go_returns
              refine ⟨?_, by go_grown⟩
              rw [HF.out]
              rfl
          · have q42 : ((m.toNat : Int) == 42) = false := by simp; omega
            have q47 : ((m.toNat : Int) == 47) = true := by simp; omega
            have q68 : ((m.toNat : Int) == 68) = false := by simp; omega
            have q100 : ((m.toNat : Int) == 100) = false := by simp; omega
            have q32 : ((m.toNat : Int) != 32) = true := by simp; omega
            have q45 : ((m.toNat : Int) != 45) = true := by simp; omega
            have HF : Hid (rowV s.data.toList line debug = .tuple #[rowA line m tx, .bool false, faultV 0 0 0]) := by
              show _ = _
              rw [HV.out, if_pos (by omega)]
            clear g
            go_wp2
            go_region
            all_goals
              go_wp2
              go_returns
              refine ⟨?_, by go_grown⟩
              rw [HF.out]
              rfl
          · have q42 : ((m.toNat : Int) == 42) = false := by simp; omega
            have q47 : ((m.toNat : Int) == 47) = false := by simp; omega
            have q68 : ((m.toNat : Int) == 68) = true := by simp; omega
            have q100 : ((m.toNat : Int) == 100) = false := by simp; omega
            have q32 : ((m.toNat : Int) != 32) = true := by simp; omega
            have q45 : ((m.toNat : Int) != 45) = true := by simp; omega
            cases debug
            · have HF : Hid (rowV s.data.toList line false = .tuple #[rowA line 32 tx, .bool false, faultV 0 0 0]) := by
                show _ = _
                rw [HV.out, if_neg (by omega), if_pos (by omega)]; rfl
              clear g
              go_wp2
              go_region
              all_goals
                go_wp2
                go_returns
                refine ⟨?_, by go_grown⟩
                rw [HF.out]
                rfl
            · have HF : Hid (rowV s.data.toList line true = .tuple #[rowA line 32 tx, .bool (decide (fstN tx < 65)), faultV 0 0 0]) := by
                show _ = _
                rw [HV.out, if_neg (by omega), if_pos (by omega)]; simp
              clear g
              go_wp2
              go_region
              all_goals
                go_wp2
                go_region_with (go_at_call 29; refine (r2first (strL tx) HSZ.out _).mono ?_; rintro e w' ⟨rfl, rfl⟩)
                all_goals
                  go_wp2
                  go_returns
                  refine ⟨?_, by go_grown⟩
                  rw [HF.out, ← HDEC.out]
                  rfl
          · have q42 : ((m.toNat : Int) == 42) = false := by simp; omega
            have q47 : ((m.toNat : Int) == 47) = false := by simp; omega
            have q68 : ((m.toNat : Int) == 68) = false := by simp; omega
            have q100 : ((m.toNat : Int) == 100) = true := by simp; omega
            have q32 : ((m.toNat : Int) != 32) = true := by simp; omega
            have q45 : ((m.toNat : Int) != 45) = true := by simp; omega
            cases debug
            · have HF : Hid (rowV s.data.toList line false = .tuple #[rowA line 32 tx, .bool false, faultV 0 0 0]) := by
                show _ = _
                rw [HV.out, if_neg (by omega), if_pos (by omega)]; rfl
              clear g
              go_wp2
              go_region
              all_goals
                go_wp2
                go_returns
                refine ⟨?_, by go_grown⟩
                rw [HF.out]
                rfl
            · have HF : Hid (rowV s.data.toList line true = .tuple #[rowA line 32 tx, .bool (decide (fstN tx < 65)), faultV 0 0 0]) := by
                show _ = _
                rw [HV.out, if_neg (by omega), if_pos (by omega)]; simp
              clear g
              go_wp2
              go_region
              all_goals
                go_wp2
                go_region_with (go_at_call 29; refine (r2first (strL tx) HSZ.out _).mono ?_; rintro e w' ⟨rfl, rfl⟩)
                all_goals
                  go_wp2
                  go_returns
                  refine ⟨?_, by go_grown⟩
                  rw [HF.out, ← HDEC.out]
                  rfl
          · have q42 : ((m.toNat : Int) == 42) = false := by simp; omega
            have q47 : ((m.toNat : Int) == 47) = false := by simp; omega
            have q68 : ((m.toNat : Int) == 68) = false := by simp; omega
            have q100 : ((m.toNat : Int) == 100) = false := by simp; omega
            have q32 : ((m.toNat : Int) != 32) = false := by simp; omega
            have q45 : ((m.toNat : Int) != 45) = true := by simp; omega
            have HF : Hid (rowV s.data.toList line debug = .tuple #[rowA line m tx, .bool (decide (fstN tx < 65)), faultV 0 0 0]) := by
              show _ = _
              rw [HV.out, if_neg (by omega), if_neg (by omega), if_neg (by omega)]
            clear g
            go_wp2
            go_region
            all_goals
              go_wp2
              go_region_with (go_at_call 29; refine (r2first (strL tx) HSZ.out _).mono ?_; rintro e w' ⟨rfl, rfl⟩)
              all_goals
                go_wp2
                go_returns
                refine ⟨?_, by go_grown⟩
                rw [HF.out, ← HDEC.out]
                rfl
          · have q42 : ((m.toNat : Int) == 42) = false := by simp; omega
            have q47 : ((m.toNat : Int) == 47) = false := by simp; omega
            have q68 : ((m.toNat : Int) == 68) = false := by simp; omega
            have q100 : ((m.toNat : Int) == 100) = false := by simp; omega
            have q32 : ((m.toNat : Int) != 32) = true := by simp; omega
            have q45 : ((m.toNat : Int) != 45) = false := by simp; omega
            have HF : Hid (rowV s.data.toList line debug = .tuple #[rowA line m tx, .bool (decide (fstN tx < 65)), faultV 0 0 0]) := by
              show _ = _
              rw [HV.out, if_neg (by omega), if_neg (by omega), if_neg (by omega)]
            clear g
            go_wp2
            go_region
            all_goals
              go_wp2
              go_region_with (go_at_call 29; refine (r2first (strL tx) HSZ.out _).mono ?_; rintro e w' ⟨rfl, rfl⟩)
              all_goals
                go_wp2
                go_returns
                refine ⟨?_, by go_grown⟩
                rw [HF.out, ← HDEC.out]
                rfl
          · have q42 : ((m.toNat : Int) == 42) = false := by simp; omega
            have q47 : ((m.toNat : Int) == 47) = false := by simp; omega
            have q68 : ((m.toNat : Int) == 68) = false := by simp; omega
            have q100 : ((m.toNat : Int) == 100) = false := by simp; omega
            have q32 : ((m.toNat : Int) != 32) = true := by simp; omega
            have q45 : ((m.toNat : Int) != 45) = true := by simp; omega
            have HF : Hid (rowV s.data.toList line debug = .tuple #[rowA line m tx, .bool false, faultV 4 line 7]) := by
              show _ = _
              rw [HV.out, if_neg (by omega), if_neg (by omega), if_pos (by omega)]
            clear g
            go_wp2
            go_region
            all_goals
              go_wp2
              go_returns
              refine ⟨?_, by go_grown⟩
              rw [HF.out]
              rfl
end Go.Proofs.YtbckdieajfbepaaDoor
