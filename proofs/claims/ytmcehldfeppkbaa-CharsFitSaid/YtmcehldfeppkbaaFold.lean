/-
  The contracts of IsName and Fold.
-/
import Derived.Test.YtmcehldfeppkbaaStr
namespace Go.Proofs.Ytmcehldfeppkbaa
open Go.RowKit
set_option linter.unusedVariables false
set_option linter.unusedSimpArgs false

theorem all_not (p : UInt8 → Bool) (l : List UInt8) (b : Bool) (h : l.any p = b) : l.all (fun c => !p c) = !b := by
  subst h
  induction l with
  | nil => rfl
  | cons c l ih => rw [List.all_cons, List.any_cons, ih]; simp

/-- How far a text has been folded. -/
def foldTo (l : List UInt8) (k : Nat) : List UInt8 := (l.take k).map upB ++ l.drop k
theorem foldTo_length (l : List UInt8) (k : Nat) : (foldTo l k).length = l.length := by
  simp [foldTo]; omega
theorem foldTo_zero (l : List UInt8) : foldTo l 0 = l := by simp [foldTo]
theorem foldTo_full (l : List UInt8) (k : Nat) (h : l.length ≤ k) : foldTo l k = foldB l := by
  simp [foldTo, foldB, List.take_of_length_le h, List.drop_of_length_le h]
theorem foldTo_at (l : List UInt8) (k : Nat) (c : UInt8) (h : l[k]? = some c) : (foldTo l k)[k]? = some c := by
  have hk : k < l.length := by
    rcases Nat.lt_or_ge k l.length with hk | hk
    · exact hk
    · rw [List.getElem?_eq_none hk] at h; cases h
  unfold foldTo
  rw [List.getElem?_append_right (by simp; omega)]
  simp [Nat.min_eq_left (Nat.le_of_lt hk), h]
theorem foldTo_succ (l : List UInt8) (k : Nat) (c : UInt8) (h : l[k]? = some c) : (foldTo l k).set k (upB c) = foldTo l (k + 1) := by
  have hk : k < l.length := by
    rcases Nat.lt_or_ge k l.length with hk | hk
    · exact hk
    · rw [List.getElem?_eq_none hk] at h; cases h
  have hc : l[k] = c := by rw [List.getElem?_eq_getElem hk] at h; injection h
  unfold foldTo
  rw [List.set_append_right _ _ (by simp; omega), List.take_succ_eq_append_getElem hk, List.drop_eq_getElem_cons hk]
  simp [Nat.min_eq_left (Nat.le_of_lt hk), hc]
theorem set_same (l : List UInt8) (k : Nat) (c : UInt8) (h : l[k]? = some c) : l.set k c = l := by
  apply List.ext_getElem?
  intro i
  rw [List.getElem?_set]
  split
  · rename_i e; subst e
    rw [h]; split
    · rfl
    · rename_i hk; rw [List.getElem?_eq_none (by omega)] at h; cases h
  · rfl

/-- Block g of the world is a row of bytes of the call's own, which begins with l; below g the world is as it was. -/
structure RowAt (w0 wr : World) (g : Nat) (l : List UInt8) : Prop where
  lt : g < wr.heap.size
  cell : ∀ j c, l[j]? = some c → wr.cell? ⟨g, j, none⟩ = some (.int .u8 c.toNat)
  free : ∀ j, j < l.length → wr.frozen? ⟨g, j, none⟩ = false
  below : Below g w0 wr
theorem RowAt.store {w0 wr : World} {g : Nat} {l : List UInt8} (h : RowAt w0 wr g l) (k : Nat) (c : UInt8) (hk : k < l.length) : RowAt w0 (wr.setCell ⟨g, k, none⟩ (.int .u8 c.toNat)) g (l.set k c) where
  lt := by have := h.lt; simpa [World.setCell] using this
  cell := by
    intro j d hj
    rw [List.getElem?_set] at hj
    split at hj
    · rename_i e; subst e
      injection hj with hj; subst hj
      exact World.cell?_setCell_same wr _ _ (h.cell k _ (List.getElem?_eq_getElem hk))
    · rename_i e
      rw [World.cell?_setCell_other wr (a := ⟨g, k, none⟩) (b := ⟨g, j, none⟩) _ (by intro e2; injection e2 with _ e3; exact e e3)]
      exact h.cell j d hj
  free := by intro j hj; rw [World.frozen?_setCell]; exact h.free j (by simpa using hj)
  below := h.below.setCell (Nat.le_refl _) _
theorem RowAt.txt {w0 wr : World} {g : Nat} {l : List UInt8} (h : RowAt w0 wr g l) : Txt wr (some ⟨g, 0, none⟩) l := fun _ =>
  ⟨g, 0, rfl, h.lt, fun j c hj => by simpa using h.cell j c hj⟩
theorem RowAt.made (w : World) (t : TypeId) (s : ByteArray) : RowAt w (Lib.bytesWorld w t s) w.heap.size s.data.toList where
  lt := by rw [Lib.bytesWorld_size]; omega
  cell := by
    intro j c hj
    have hk : j < s.data.toList.length := by
      rcases Nat.lt_or_ge j s.data.toList.length with hk | hk
      · exact hk
      · rw [List.getElem?_eq_none hk] at hj; cases hj
    rw [Lib.bytesWorld_cell w t s j (by rw [show s.size = s.data.toList.length from Array.length_toList.symm]; exact hk)]
    simp only [List.getD, hj, Option.getD_some]
  free := by
    intro j hj
    have hs : j < s.size := by rw [show s.size = s.data.toList.length from Array.length_toList.symm]; exact hj
    have hb : s.size ≤ (Lib.bytesCells w t s).size := by simp only [Lib.bytesCells, Array.size_append, Array.size_map]; exact Nat.le_add_right _ _
    simp only [World.frozen?, Lib.bytesWorld_at_new]
    simp
    omega
  below := ⟨rfl, rfl, rfl, by rw [Lib.bytesWorld_size]; omega, fun k hk => Lib.bytesWorld_at_old w t s k hk⟩

theorem isName_any (s : ByteArray) (hs : s.size ≤ 140737488355328) (w : World) : Calls Try.prog 11 #[.string s] w fun e w' => e = .returned (.bool (isNameB s.data.toList)) ∧ w = w' := by
  have hd : s.toList = s.data.toList := ByteArray.toList_eq s
  have hsz : s.size = s.data.toList.length := Array.length_toList.symm
  by_cases h0 : s.toList = []
  · have h1 : s.toList.isEmpty = true := by simp [h0]
    have h2 : isNameB s.data.toList = false := by rw [← hd]; simp [isNameB, h0]
    rw [h2]; clear h2 hd hsz
    go_enter Try.func11, Try.ntmps11
    go_wp2
    go_ret
    exact ⟨rfl, rfl⟩
  have h1 : s.toList.isEmpty = false := by simp [h0]
  have hpos : 0 < s.size := by
    rw [hsz, ← hd]; exact List.length_pos_iff.2 h0
  have hlast : s.size - 1 < s.size := by omega
  by_cases h30 : (30 : Int) < s.size
  · have h2 : isNameB s.data.toList = false := by
      have : ¬ s.data.toList.length ≤ 30 := by omega
      simp only [isNameB, this, decide_false, Bool.and_false, Bool.false_and]
    have h30' : decide ((30 : Int) < s.size) = true := by simpa using h30
    rw [h2]; clear h2 hd hsz
    go_enter Try.func11, Try.ntmps11
    go_wp2
    go_ret
    exact ⟨rfl, rfl⟩
  have h30' : decide ((30 : Int) < s.size) = false := by simp; omega
  have hle : s.data.toList.length ≤ 30 := by omega
  have hg0 : s.data.toList.getD 0 0 = s[0] := by
    have : s.data.toList[0]? = some s[0] := by simp [hpos]; rfl
    simp [List.getD, this]
  have hgl : s.data.toList.getD (s.data.toList.length - 1) 0 = (s[s.size - 1]'hlast) := by
    have : s.data.toList[s.size - 1]? = some (s[s.size - 1]'hlast) := by simp [hlast]; rfl
    rw [← hsz]
    simp [List.getD, this]
  by_cases ha : s[0].toNat = 45
  · have h2 : isNameB s.data.toList = false := by
      simp only [isNameB, hg0, ha, decide_true, Bool.not_true, Bool.and_false, Bool.false_and]
    have ha' : ((s[0].toNat : Int) == 45) = true := by simp; omega
    rw [h2]; clear h2 hd hsz ha hg0 hgl hle
    go_enter Try.func11, Try.ntmps11
    go_wp2
    go_ret
    exact ⟨rfl, rfl⟩
  have ha' : ((s[0].toNat : Int) == 45) = false := by simp; omega
  by_cases hb : (s[s.size - 1]'hlast).toNat = 45
  · have h2 : isNameB s.data.toList = false := by
      simp only [isNameB, hgl, hb, decide_true, Bool.not_true, Bool.and_false, Bool.false_and]
    have hb' : (((s[s.size - 1]'hlast).toNat : Int) == 45) = true := by simp; omega
    rw [h2]; clear h2 hd hsz ha hb hg0 hgl hle
    go_enter Try.func11, Try.ntmps11
    go_wp2
    go_ret
    exact ⟨rfl, rfl⟩
  have hb' : (((s[s.size - 1]'hlast).toNat : Int) == 45) = false := by simp; omega
  have hn : isNameB s.data.toList = (s.data.toList.all nameB && s.data.toList.any capB) := by
    have e : s.data.toList.isEmpty = false := by rw [← hd]; exact h1
    simp only [isNameB, hg0, hgl, ha, hb, hle, e, decide_true, decide_false, Bool.not_false, Bool.true_and]
  rw [hn]; clear hn hd ha hb hg0 hgl hle hsz
  cases hall : s.data.toList.all nameB
  · have hf := firstI_some (fun c => !nameB c) s.data.toList 0 (by simpa using hall)
    have hf' : decide (firstI (fun c => !nameB c) 0 s.data.toList < 0) = false := by simp; omega
    clear hall
    go_enter Try.func11, Try.ntmps11
    go_wp2_with (go_at_call 20; refine (first_any s _ _ strange_any hs _).mono ?_; rintro e w' ⟨rfl, rfl⟩)
    go_ret
    exact ⟨rfl, rfl⟩
  · have hf := firstI_none (fun c => !nameB c) s.data.toList 0 (by simpa using hall)
    clear hall
    cases hany : s.data.toList.any capB
    · have hc := firstI_none capB s.data.toList 0 (all_not capB _ _ hany)
      clear hany
      go_enter Try.func11, Try.ntmps11
      go_wp2_with fail
      refine (first_any s _ _ strange_any hs _).mono ?_; rintro e w' ⟨rfl, rfl⟩
      rw [hf]
      go_wp2_with fail
      refine (first_any s _ _ capital_any hs _).mono ?_; rintro e w' ⟨rfl, rfl⟩
      rw [hc]
      go_wp2
      go_ret
      exact ⟨rfl, rfl⟩
    · have hc := firstI_some capB s.data.toList 0 (all_not capB _ _ hany)
      have hc' : decide (0 ≤ firstI capB 0 s.data.toList) = true := by simpa using hc
      clear hany
      go_enter Try.func11, Try.ntmps11
      go_wp2_with fail
      refine (first_any s _ _ strange_any hs _).mono ?_; rintro e w' ⟨rfl, rfl⟩
      rw [hf]
      go_wp2_with fail
      refine (first_any s _ _ capital_any hs _).mono ?_; rintro e w' ⟨rfl, rfl⟩
      go_wp2
      go_ret
      exact ⟨rfl, rfl⟩

theorem upB_small (c : UInt8) (h0 : 97 ≤ (c.toNat : Int)) (h1 : (c.toNat : Int) ≤ 122) : (upB c).toNat = (c.toNat : Int) - 97 + 65 := by
  have hs : smallB c = true := by simp [smallB]; omega
  have hlt := c.toNat_lt
  unfold upB
  rw [if_pos hs, UInt8.toNat_ofNat_of_lt' (by show c.toNat - 32 < 256; omega)]
  omega
theorem upB_else (c : UInt8) (h : ¬ (97 ≤ (c.toNat : Int) ∧ (c.toNat : Int) ≤ 122)) : upB c = c := by
  have hs : smallB c = false := by simp [smallB]; omega
  simp [upB, hs]

set_option maxRecDepth 100000 in
set_option maxHeartbeats 1000000 in
theorem fold_any (s : ByteArray) (hs : s.size ≤ 140737488355328) (w : World) : Calls Try.prog 13 #[.string s] w fun e w' => e = .returned (.string (strB (foldB s.data.toList))) ∧ Below w.heap.size w w' := by
  have hcv := fun W : World => Lib.run_convert_string_bytes (P := Try.prog) W 9 25 5 s Try.underlying9 Try.underlying25 Try.underlying5
  have HL : Hid (s.size = s.data.toList.length) := Array.length_toList.symm
  have HM : Hid (RowAt w (Lib.bytesWorld w 5 s) w.heap.size s.data.toList) := RowAt.made w _ s
  obtain ⟨g, hg⟩ : ∃ g, g = w.heap.size := ⟨_, rfl⟩
  go_enter Try.func13, Try.ntmps13
  go_wp2
  have HM2 := HM.out; clear HM
  generalize Lib.bytesWorld w 5 s = w1 at HM2 ⊢
  rw [← hg] at HM2 ⊢
  have HG := Lib.hid hg; clear hg hcv
  have HM := Lib.hid HM2; clear HM2
  obtain ⟨cp, hcp⟩ : ∃ cp, cp = grownCap w s.size 0 5 := ⟨_, rfl⟩
  rw [← hcp]; clear hcp
  go_loopw [10] (fun i wr => ∃ k : Nat, k ≤ s.size ∧ i = .int .i64 k ∧ RowAt w wr g (foldTo s.data.toList k)) (fun i _ => s.size - (intOf i).toNat)
  case atStart => exact ⟨0, Nat.zero_le _, rfl, by rw [foldTo_zero]; exact HM.out⟩
  case round =>
    obtain ⟨k, hk, rfl, hrow⟩ := hrel
    by_cases hlt : k < s.size
    · have hkl : k < s.data.toList.length := by rw [← HL.out]; exact hlt
      obtain ⟨c, hc⟩ : ∃ c, s.data.toList[k]? = some c := ⟨_, List.getElem?_eq_getElem hkl⟩
      have hcell := hrow.cell k c (foldTo_at _ k c hc)
      have hfree := hrow.free k (by rw [foldTo_length]; exact hkl)
      have hclt := u8lt c
      have HR := Lib.hid hrow; clear hrow
      have HC := Lib.hid hc; clear hc
      by_cases h0 : 97 ≤ (c.toNat : Int)
      · by_cases h1 : (c.toNat : Int) ≤ 122
        · go_wp2
          go_roundw
          case rel => exact ⟨k + 1, by omega, by go_num, by rw [← foldTo_succ _ k c HC.out, ← upB_small c h0 h1]; exact HR.out.store k _ (by rw [foldTo_length]; exact hkl)⟩
          case measure => simp [intOf]; omega
        · go_wp2
          go_roundw
          case rel => exact ⟨k + 1, by omega, by go_num, by rw [← foldTo_succ _ k c HC.out, upB_else c (by omega), set_same _ k c (foldTo_at _ k c HC.out)]; exact HR.out⟩
          case measure => simp [intOf]; omega
      · go_wp2
        go_roundw
        case rel => exact ⟨k + 1, by omega, by go_num, by rw [← foldTo_succ _ k c HC.out, upB_else c (by omega), set_same _ k c (foldTo_at _ k c HC.out)]; exact HR.out⟩
        case measure => simp [intOf]; omega
    · have hrow2 : RowAt w wr g (foldB s.data.toList) := by
        rw [← foldTo_full _ k (by rw [← HL.out]; omega)]; exact hrow
      have hcv := run_str (some ⟨g, 0, none⟩) (foldB s.data.toList) cp wr hrow2.txt
      rw [show (foldB s.data.toList).length = s.size from by rw [HL.out]; simp [foldB]] at hcv
      have hbel : Below w.heap.size w wr := by rw [← HG.out]; exact hrow.below
      clear hrow hrow2
      go_wp2
      go_ret
      exact ⟨rfl, hbel⟩
end Go.Proofs.Ytmcehldfeppkbaa
