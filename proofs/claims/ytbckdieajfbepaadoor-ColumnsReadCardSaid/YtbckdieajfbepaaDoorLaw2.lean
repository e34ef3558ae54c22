/-
  The contracts of the law's own small functions of layer 2 (columnsevenlaw02): spaces, plain, right, divide.
-/
import Derived.Test.YtbckdieajfbepaaDoorRef2o
import Derived.Test.YtbckdieajfbepaaDoorShelf
namespace Go.Proofs.YtbckdieajfbepaaDoor
open Go.RowKit
set_option linter.unusedVariables false
set_option linter.unusedSimpArgs false

theorem repeat_one (c : UInt8) : ∀ n, Lib.repeatL [c] n = List.replicate n c
  | 0 => rfl
  | n + 1 => by simp [Lib.repeatL, repeat_one c n, List.replicate_succ]
theorem l2spaces (n : Nat) (hn : n ≤ 1048576) (w : World) :
    Calls Tryd.prog 17 #[.int .i64 n] w fun e w' => e = .returned (.string (strL (List.replicate n 32))) ∧ Below w.heap.size w w' := by
  go_enter Tryd.func17, Tryd.ntmps17
  go_wp2_with fail
  refine (Tryd.strings_Repeat ⟨#[32]⟩ n _ (by omega) (by show 1 * n ≤ _; omega)).mono ?_; rintro e w' ⟨rfl, hb⟩
  go_wp2
  go_ret
  exact ⟨retS (by show (⟨(Lib.repeatL [32] n).toArray⟩ : ByteArray) = _; rw [repeat_one]; rfl), hb⟩

theorem prt_no' (c : UInt8) (h : (c.toNat : Int) < 32 ∨ 126 < (c.toNat : Int)) : prtB c = false := by simp [prtB]; omega
theorem prt_yes' (c : UInt8) (h : ¬ ((c.toNat : Int) < 32 ∨ 126 < (c.toNat : Int))) : prtB c = true := by simp [prtB]; omega
theorem all_drop (p : UInt8 → Bool) (l : List UInt8) (k : Nat) (c : UInt8) (h : l[k]? = some c) : (l.drop k).all p = (p c && (l.drop (k + 1)).all p) := by
  have hk : k < l.length := by
    rcases Nat.lt_or_ge k l.length with hk | hk
    · exact hk
    · rw [List.getElem?_eq_none hk] at h; cases h
  rw [List.drop_eq_getElem_cons hk]
  rw [List.getElem?_eq_getElem hk] at h
  injection h with h
  rw [h]; rfl
theorem print_drop (l : List UInt8) (k : Nat) (c : UInt8) (h : l[k]? = some c) : printB (l.drop k) = (prtB c && printB (l.drop (k + 1))) := all_drop prtB l k c h
set_option maxHeartbeats 400000 in
theorem l2plain (s : ByteArray) (hs : s.size ≤ 140737488355328) (w : World) :
    Calls Tryd.prog 23 #[.string s] w fun e w' => e = .returned (.bool (printB s.data.toList)) ∧ w = w' := by
  go_enter Tryd.func23, Tryd.ntmps23
  go_wp2
  go_loop [3] (fun i => ∃ k : Nat, k ≤ s.size ∧ i = .int .i64 k ∧ Hid (printB s.data.toList = printB (s.data.toList.drop k))) (fun i => s.size - (intOf i).toNat)
  case atStart => exact ⟨0, Nat.zero_le _, rfl, by simp [Hid]⟩
  case round =>
    obtain ⟨k, hk, rfl, HE⟩ := hrel
    by_cases hlt : k < s.size
    · have HD := Lib.hid (print_drop _ k _ (get_data s k hlt))
      by_cases hbad : (s[k].toNat : Int) < 32 ∨ 126 < (s[k].toNat : Int)
      · have HF : Hid (printB s.data.toList = false) := by show _ = _; rw [HE.out, HD.out, prt_no' _ hbad]; rfl
        by_cases hb1 : (s[k].toNat : Int) < 32
        · clear hbad
          go_wp2
          go_ret
          exact ⟨retB HF.out.symm, rfl⟩
        · have hb2 : 126 < (s[k].toNat : Int) := by omega
          clear hbad
          go_wp2
          go_ret
          exact ⟨retB HF.out.symm, rfl⟩
      · have HX : Hid (printB s.data.toList = printB (s.data.toList.drop (k + 1))) := by
          show _ = _
          rw [HE.out, HD.out, prt_yes' _ hbad]; rfl
        have hb1 : ¬ (s[k].toNat : Int) < 32 := by omega
        have hb2 : ¬ 126 < (s[k].toNat : Int) := by omega
        clear hbad
        go_wp2
        go_round
        case rel => exact ⟨k + 1, by omega, by go_num, HX⟩
        case measure => simp [intOf]; omega
    · have HF : Hid (printB s.data.toList = true) := by
        show _ = _
        rw [HE.out, List.drop_of_length_le (by rw [← size_data]; omega)]; rfl
      go_wp2
      go_ret
      exact ⟨retB HF.out.symm, rfl⟩

/-- Whether a text may be laid out. -/
def rightB (l : List UInt8) : Bool := printB l && (!l.isEmpty && !decide ((l.getD 0 0).toNat = 32) && !decide ((l.getD (l.length - 1) 0).toNat = 32) && decide (qn l % 2 = 0))
theorem count_qn (l : List UInt8) : Lib.countByte l 34 = qn l := by
  unfold Lib.countByte qn
  rw [List.count_eq_countP]
  refine List.countP_congr fun c _ => ?_
  constructor
  · intro h
    have : c = 34 := by simpa using h
    subst this; rfl
  · intro h
    have : c = 34 := u8_eq (by simpa using h)
    subst this; rfl
set_option maxRecDepth 100000 in
set_option maxHeartbeats 1000000 in
theorem l2right (s : ByteArray) (hs : s.size ≤ 1048576) (w : World) :
    Calls Tryd.prog 14 #[.string s] w fun e w' => e = .returned (.bool (rightB s.data.toList)) ∧ w = w' := by
  go_enter Tryd.func14, Tryd.ntmps14
  go_wp2
  go_loop [3] (fun i => ∃ k : Nat, k ≤ s.size ∧ i = .int .i64 k ∧ Hid (printB s.data.toList = printB (s.data.toList.drop k))) (fun i => s.size - (intOf i).toNat)
  case atStart => exact ⟨0, Nat.zero_le _, rfl, by simp [Hid]⟩
  case round =>
    obtain ⟨k, hk, rfl, HE⟩ := hrel
    by_cases hlt : k < s.size
    · have HD := Lib.hid (print_drop _ k _ (get_data s k hlt))
      by_cases hbad : (s[k].toNat : Int) < 32 ∨ 126 < (s[k].toNat : Int)
      · have HF : Hid (rightB s.data.toList = false) := by show _ = _; unfold rightB; rw [HE.out, HD.out, prt_no' _ hbad]; rfl
        by_cases hb1 : (s[k].toNat : Int) < 32
        · clear hbad
          go_wp2
          go_ret
          exact ⟨retB HF.out.symm, rfl⟩
        · have hb2 : 126 < (s[k].toNat : Int) := by omega
          clear hbad
          go_wp2
          go_ret
          exact ⟨retB HF.out.symm, rfl⟩
      · have HX : Hid (printB s.data.toList = printB (s.data.toList.drop (k + 1))) := by
          show _ = _
          rw [HE.out, HD.out, prt_yes' _ hbad]; rfl
        have hb1 : ¬ (s[k].toNat : Int) < 32 := by omega
        have hb2 : ¬ 126 < (s[k].toNat : Int) := by omega
        clear hbad
        go_wp2
        go_round
        case rel => exact ⟨k + 1, by omega, by go_num, HX⟩
        case measure => simp [intOf]; omega
    · have HP : Hid (printB s.data.toList = true) := by
        show _ = _
        rw [HE.out, List.drop_of_length_le (by rw [← size_data]; omega)]; rfl
      have hd : s.toList = s.data.toList := ByteArray.toList_eq s
      have hsz := size_data s
      by_cases h0 : s.toList = []
      · have h1 : s.toList.isEmpty = true := by rw [h0]; rfl
        have HF : Hid (rightB s.data.toList = false) := by show _ = _; rw [← hd]; simp [rightB, h0]
        clear hd hsz
        go_wp2
        go_ret
        exact ⟨retB HF.out.symm, rfl⟩
      have h1 : s.toList.isEmpty = false := by
        cases h : s.toList.isEmpty
        · rfl
        · exact absurd (List.isEmpty_iff.1 h) h0
      have hpos : 0 < s.size := by rw [hsz, ← hd]; exact List.length_pos_iff.2 h0
      have hlast : s.size - 1 < s.size := by omega
      have hg0 : s.data.toList.getD 0 0 = s[0] := by simp [List.getD, get_data s 0 hpos]
      have hgl : s.data.toList.getD (s.data.toList.length - 1) 0 = s[s.size - 1]'hlast := by
        rw [← hsz]
        simp [List.getD, get_data s _ hlast]
      by_cases ha : s[0].toNat = 32
      · have HF : Hid (rightB s.data.toList = false) := by
          show _ = _
          unfold rightB
          simp only [hg0, ha, decide_true, Bool.not_true, Bool.and_false, Bool.false_and]
        have hq : ((s[0].toNat : Int) != 32) = false := by simp; omega
        clear hd hsz ha hg0 hgl
        go_wp2
        go_ret
        exact ⟨retB HF.out.symm, rfl⟩
      have hq : ((s[0].toNat : Int) != 32) = true := by simp; omega
      by_cases hb : (s[s.size - 1]'hlast).toNat = 32
      · have HF : Hid (rightB s.data.toList = false) := by
          show _ = _
          unfold rightB
          simp only [hgl, hb, decide_true, Bool.not_true, Bool.and_false, Bool.false_and]
        have hq2 : (((s[s.size - 1]'hlast).toNat : Int) != 32) = false := by simp; omega
        clear hd ha hb hg0 hgl
        clear hsz
        go_wp2
        go_ret
        exact ⟨retB HF.out.symm, rfl⟩
      have hq2 : (((s[s.size - 1]'hlast).toNat : Int) != 32) = true := by simp; omega
      have HF : Hid (rightB s.data.toList = decide (qn s.data.toList % 2 = 0)) := by
        show _ = _
        unfold rightB
        have e : s.data.toList.isEmpty = false := by rw [← hd]; exact h1
        rw [HP.out]
        simp only [hg0, hgl, ha, hb, e, decide_false, Bool.not_false, Bool.true_and]
      have hle : qn s.data.toList ≤ 1048576 := by
        have := qn_le s.data.toList
        rw [← hsz] at this; omega
      clear hd ha hb hg0 hgl
      clear hsz
      go_wp2_with fail
      refine (Tryd.strings_Count_one s 34 _).mono ?_; rintro e w' ⟨rfl, rfl⟩
      rw [count_qn]
      generalize qn s.data.toList = q at *
      go_wp2
      go_ret
      exact ⟨retB (by rw [HF.out, Bool.eq_iff_iff]; simp; omega), rfl⟩
end Go.Proofs.YtbckdieajfbepaaDoor
