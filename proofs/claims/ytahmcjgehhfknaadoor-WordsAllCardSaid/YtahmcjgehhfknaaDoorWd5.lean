/-
  words.divide, newField, number, quote, figurative and Literal.
-/
import Derived.Test.YtahmcjgehhfknaaDoorWd4
import Derived.BigQuiet
namespace Go.Proofs.YtahmcjgehhfknaaDoor
open Go.RowKit
set_option linter.unusedVariables false
set_option linter.unusedSimpArgs false

def signedB (l : List UInt8) : Bool := Lib.hasPrefix l [43] || Lib.hasPrefix l [45]
def signB (l : List UInt8) : List UInt8 := if signedB l = true then l.take 1 else []
def restB (l : List UInt8) : List UInt8 := if signedB l = true then l.drop 1 else l
def cutB (l : List UInt8) : List UInt8 × List UInt8 × Bool := Lib.cut (restB l) [46]
def badB (l : List UInt8) : Bool := ((cutB l).2.2 && (cutB l).2.1.isEmpty) || !isDigitsB ((cutB l).1 ++ (cutB l).2.1)

theorem prefix_pos {s : ByteArray} {c : UInt8} (h : Lib.hasPrefix s.data.toList [c] = true) : 1 ≤ s.size := by
  rw [Lib.size_eq]
  cases hs : s.data.toList with
  | nil => rw [hs] at h; cases h
  | cons x l => simp

/-- A block that holds three cells. -/
def NB (w : World) (N : Nat) (a b c : Value) : Prop := w.heap[N]? = some (.cells #[a, b, c] 99 (0, 0))
theorem NB.lt {w : World} {N : Nat} {a b c : Value} (h : NB w N a b c) : N < w.heap.size := (Array.getElem?_eq_some_iff.1 h).1
theorem NB.cells {w : World} {N : Nat} {a b c : Value} (h : NB w N a b c) : w.cell? ⟨N, 0, none⟩ = some a ∧ w.cell? ⟨N, 1, none⟩ = some b ∧ w.cell? ⟨N, 2, none⟩ = some c :=
  ⟨Joins.cell_of_block h 0, Joins.cell_of_block h 1, Joins.cell_of_block h 2⟩
theorem NB.free {w : World} {N : Nat} {a b c : Value} (h : NB w N a b c) : w.frozen? ⟨N, 0, none⟩ = false ∧ w.frozen? ⟨N, 1, none⟩ = false ∧ w.frozen? ⟨N, 2, none⟩ = false :=
  ⟨Joins.unfrozen_of_block h 0, Joins.unfrozen_of_block h 1, Joins.unfrozen_of_block h 2⟩
theorem NB.kept {w w' : World} {N : Nat} {a b c : Value} (h : NB w N a b c) (hb : Below w.heap.size w w') : NB w' N a b c := (hb.block N h.lt).trans h
theorem NB.alloc {w : World} {N : Nat} {a b c : Value} (h : NB w N a b c) (o : Obj) : NB (w.alloc o) N a b c := h.kept ((Below.refl _ _).alloc (Nat.le_refl _) o)
theorem NB.named {B : Nat} {w0 w : World} {N : Nat} {x y z : Value} (h : NB w N x y z) (hb : Below B w0 w) (hN : B ≤ N) (a b c : Value) :
    ∃ w', w' = ((w.setCell ⟨N, 0, none⟩ a).setCell ⟨N, 1, none⟩ b).setCell ⟨N, 2, none⟩ c ∧ Below B w0 w' ∧ w'.cell? ⟨N, 0, none⟩ = some a ∧ w'.cell? ⟨N, 1, none⟩ = some b ∧ w'.cell? ⟨N, 2, none⟩ = some c := by
  have h1 := Joins.block_setCell (i := 0) h a
  have h2 := Joins.block_setCell (i := 1) h1 b
  have h3 := Joins.block_setCell (i := 2) h2 c
  exact ⟨_, rfl, ((hb.setCell hN _).setCell hN _).setCell hN _, Joins.cell_of_block h3 0, Joins.cell_of_block h3 1, Joins.cell_of_block h3 2⟩
theorem cut_len (l sep : List UInt8) : (Lib.cut l sep).1.length ≤ l.length ∧ (Lib.cut l sep).2.1.length ≤ l.length := by
  unfold Lib.cut
  split <;> simp <;> omega
theorem rest_len (l : List UInt8) : (restB l).length ≤ l.length := by
  unfold restB; split <;> simp
theorem c_cut2 (l : List UInt8) (Y : ByteArray) (hY : Y.data.toList = restB l) (hs : l.length ≤ 1000000) (w : World) (hm : MaxLenAt w) : Calls Tryd.prog 68 #[.string Y, .string ⟨#[46]⟩] w fun e w' =>
    e = .returned (.tuple #[.string (strB (cutB l).1), .string (strB (cutB l).2.1), .bool (cutB l).2.2]) ∧ Below w.heap.size w w' := by
  obtain ⟨m, hm⟩ := hm
  have hsz : Y.size < 4294967281 := by rw [Lib.size_eq, hY]; have := rest_len l; omega
  refine (Tryd.strings_Cut Y ⟨#[46]⟩ m w hsz hm).mono ?_
  rintro e w' ⟨rfl, n, rfl⟩
  rw [hY]
  exact ⟨rfl, ⟨rfl, rfl, rfl, Nat.le_refl _, fun _ _ => rfl⟩⟩
theorem bad_cases (l : List UInt8) (C1 C2 : ByteArray) (p : Bool) (h1 : C1 = strB (cutB l).1) (h2 : C2 = strB (cutB l).2.1) (hp : p = (cutB l).2.2) :
    (badB l = true ∧ p = true ∧ C2.toList = []) ∨ (p = true ∧ C2.toList.isEmpty = false ∧ badB l = !isDigitsB (C1 ++ C2).data.toList) ∨ (p = false ∧ badB l = !isDigitsB (C1 ++ C2).data.toList) := by
  have hd : (C1 ++ C2).data.toList = (cutB l).1 ++ (cutB l).2.1 := by rw [h1, h2, strB_app]; rfl
  have ht : C2.toList = (cutB l).2.1 := by rw [ByteArray.toList_eq C2, h2]; rfl
  rw [hd, ht]
  unfold badB
  rw [← hp]
  cases p
  · exact .inr (.inr ⟨rfl, by simp⟩)
  · cases h : (cutB l).2.1 with
    | nil => exact .inl ⟨by simp, rfl, rfl⟩
    | cons x r => exact .inr (.inl ⟨rfl, rfl, by simp⟩)
set_option maxRecDepth 100000 in
set_option maxHeartbeats 4000000 in
theorem c_divide (s : ByteArray) (hs : s.size ≤ 1000000) (w : World) (hm : MaxLenAt w) : Calls Tryd.prog 49 #[.string s] w fun e w' =>
    e = .returned (if badB s.data.toList = true then .tuple #[.agg #[.string ⟨#[]⟩, .string ⟨#[]⟩, .string ⟨#[]⟩], .int .i64 4] else
      .tuple #[.agg #[.string (strB (signB s.data.toList)), .string (strB (cutB s.data.toList).1), .string (strB (cutB s.data.toList).2.1)], .int .i64 0]) ∧ Below w.heap.size w w' := by
  have HMX := Lib.hid hm
  clear hm
  obtain ⟨C1, hC1⟩ : ∃ x, x = strB (cutB s.data.toList).1 := ⟨_, rfl⟩
  obtain ⟨C2, hC2⟩ : ∃ x, x = strB (cutB s.data.toList).2.1 := ⟨_, rfl⟩
  obtain ⟨p, hp⟩ : ∃ x, x = (cutB s.data.toList).2.2 := ⟨_, rfl⟩
  have hl : s.data.toList.length ≤ 1000000 := by rw [← Lib.size_eq]; exact hs
  have hz1 : C1.size ≤ 1000000 := by rw [hC1, strB_size]; have := (cut_len (restB s.data.toList) [46]).1; have := rest_len s.data.toList; unfold cutB; omega
  have hz2 : C2.size ≤ 1000000 := by rw [hC2, strB_size]; have := (cut_len (restB s.data.toList) [46]).2; have := rest_len s.data.toList; unfold cutB; omega
  obtain ⟨X, hX⟩ : ∃ x, x = strB (signB s.data.toList) := ⟨_, rfl⟩
  obtain ⟨bad, hbad0⟩ : ∃ x, x = badB s.data.toList := ⟨_, rfl⟩
  rw [← hC1, ← hC2, ← hX, ← hbad0]
  have hbc := bad_cases s.data.toList C1 C2 p hC1 hC2 hp
  rw [← hbad0] at hbc
  obtain ⟨R, hR⟩ : ∃ R : Bool → Value, R = fun b => if b = true then .tuple #[.agg #[.string ⟨#[]⟩, .string ⟨#[]⟩, .string ⟨#[]⟩], .int .i64 4] else
      .tuple #[.agg #[.string X, .string C1, .string C2], .int .i64 0] := ⟨_, rfl⟩
  have hgoal : (if bad = true then .tuple #[.agg #[.string ⟨#[]⟩, .string ⟨#[]⟩, .string ⟨#[]⟩], .int .i64 4] else
      .tuple #[.agg #[.string X, .string C1, .string C2], .int .i64 0]) = R bad := by rw [hR]
  rw [hgoal]
  have HR := Lib.hid hR
  have HC1 := Lib.hid hC1
  have HC2 := Lib.hid hC2
  have HP := Lib.hid hp
  have HL := Lib.hid hl
  have HBC := Lib.hid hbc
  have HX := Lib.hid hX
  clear hgoal hR hC1 hC2 hp hl hbc hX hbad0
  cases h1 : Lib.hasPrefix s.data.toList [43]
  · cases h2 : Lib.hasPrefix s.data.toList [45]
    · go_enter Tryd.func49, Tryd.ntmps49
      go_upto_region 4 with (go_at_call 29; refine (Tryd.strings_HasPrefix s _ _).mono ?_; rintro e w' ⟨rfl, rfl⟩)
      have hs1 : signedB s.data.toList = false := by unfold signedB; rw [h1, h2]; rfl
      have hX0 : X = ⟨#[]⟩ := by rw [HX.out]; unfold signB; rw [hs1]; rfl
      have hY : s.data.toList = restB s.data.toList := by unfold restB; rw [hs1]; rfl
      subst hX0
      obtain ⟨W, hW⟩ : ∃ W, W = w.alloc (.cells #[.string ⟨#[]⟩, .string ⟨#[]⟩, .string ⟨#[]⟩] 99) := ⟨_, rfl⟩
      rw [← hW]
      have hW1 : Below w.heap.size w W := by rw [hW]; exact (Below.refl _ w).alloc (Nat.le_refl _) _
      have hNB : NB W w.heap.size (.string ⟨#[]⟩) (.string ⟨#[]⟩) (.string ⟨#[]⟩) := by rw [hW]; exact (MapKept.heap_alloc w _).1
      clear hW hs1
      have HW1 : Hid (Below w.heap.size w W) := Lib.hid hW1
      have HNB : Hid (NB W w.heap.size (.string ⟨#[]⟩) (.string ⟨#[]⟩) (.string ⟨#[]⟩)) := Lib.hid hNB
      have HM1 : Hid (MaxLenAt W) := Lib.hid (HMX.out.below hW1)
      clear hW1 hNB
      have HCUT : Hid (∀ W, MaxLenAt W → Calls Tryd.prog 68 #[.string s, .string ⟨#[46]⟩] W fun e w' => e = .returned (.tuple #[.string C1, .string C2, .bool p]) ∧ Below W.heap.size W w') := fun W hm => by
        rw [HC1.out, HC2.out, HP.out]; exact c_cut2 _ s hY HL.out W hm
      clear hY
      go_upto_region 6 with (go_at_call 68; refine (HCUT.out _ HM1.out).mono ?_; rintro e W2 ⟨rfl, hb2⟩)
      have HW2 := Lib.hid (HW1.out.trans (hb2.mono HW1.out.size))
      have HNB2 := Lib.hid (HNB.out.kept hb2)
      clear hb2
      have HNB3 := Lib.hid (HNB2.out.alloc (.cells #[.string ⟨#[]⟩, .string C1, .string C2] 99))
      have HNM3 : Hid (NB (W2.alloc (.cells #[.string ⟨#[]⟩, .string C1, .string C2] 99)) W2.heap.size (.string ⟨#[]⟩) (.string C1) (.string C2)) := Lib.hid (MapKept.heap_alloc W2 _).1
      have HW3 := Lib.hid (HW2.out.alloc HW2.out.size (.cells #[.string ⟨#[]⟩, .string C1, .string C2] 99))
      obtain ⟨c0, c1, c2⟩ := HNB3.out.cells
      obtain ⟨f0, f1, f2⟩ := HNB3.out.free
      rcases HBC.out with ⟨hbad, hp1, he⟩ | ⟨hp1, he, hbad⟩ | ⟨hp1, hbad⟩
      · rw [hp1]
        have HBAD := Lib.hid hbad
        clear hbad hp1 HBC HP HCUT
        go_wp2
        obtain ⟨w5, hw5, hb5, d0, d1, d2⟩ := HNB3.out.named HW3.out (Nat.le_refl _) (.string ⟨#[]⟩) (.string ⟨#[]⟩) (.string ⟨#[]⟩)
        rw [← hw5]
        clear hw5
        refine bodyPost_ret (by simp [results, Tryd.results49, go_sem, d0, d1, d2]; try rfl) rfl ?_
        exact ⟨by rw [HBAD.out, HR.out]; rfl, hb5⟩
      all_goals
        rw [hp1]
        obtain ⟨db, hdb⟩ : ∃ db, db = isDigitsB (C1 ++ C2).data.toList := ⟨_, rfl⟩
        rw [← hdb] at hbad
        have HBAD := Lib.hid hbad
        have HDIG : Hid (∀ W, Calls Tryd.prog 69 #[.string (C1 ++ C2)] W fun e w' => e = .returned (.bool db) ∧ W = w') := fun W => by
          rw [hdb]; exact isDigits_any _ (by rw [ByteArray.size_append]; omega) W
        clear hbad hp1 HBC HP HCUT hdb
        cases db
        · go_wp2_with (first
            | (go_at_call 50; refine (c_digits ⟨#[]⟩ C1 C2 hz1 hz2 _).mono ?_; rintro e W4 ⟨rfl, hb4⟩; have HNB4 := Lib.hid (HNB3.out.kept hb4); have HW4 := Lib.hid (HW3.out.trans (hb4.mono HW3.out.size)); obtain ⟨g0, g1, g2⟩ := HNB4.out.cells; obtain ⟨k0, k1, k2⟩ := HNB4.out.free; clear hb4)
            | (go_at_call 69; refine (HDIG.out _).mono ?_; rintro e w' ⟨rfl, rfl⟩))
          obtain ⟨w5, hw5, hb5, d0, d1, d2⟩ := HNB4.out.named HW4.out (Nat.le_refl _) (.string ⟨#[]⟩) (.string ⟨#[]⟩) (.string ⟨#[]⟩)
          rw [← hw5]
          clear hw5
          refine bodyPost_ret (by simp [results, Tryd.results49, go_sem, d0, d1, d2]; try rfl) rfl ?_
          exact ⟨by rw [HBAD.out, HR.out]; rfl, hb5⟩
        · go_wp2_with (first
            | (go_at_call 50; refine (c_digits ⟨#[]⟩ C1 C2 hz1 hz2 _).mono ?_; rintro e W4 ⟨rfl, hb4⟩; have HNB4 := Lib.hid (HNB3.out.kept hb4); have HNM4 := Lib.hid (HNM3.out.kept hb4); have HW4 := Lib.hid (HW3.out.trans (hb4.mono HW3.out.size)); obtain ⟨g0, g1, g2⟩ := HNB4.out.cells; obtain ⟨k0, k1, k2⟩ := HNB4.out.free; obtain ⟨n0, n1, n2⟩ := HNM4.out.cells; clear hb4)
            | (go_at_call 69; refine (HDIG.out _).mono ?_; rintro e w' ⟨rfl, rfl⟩))
          obtain ⟨w5, hw5, hb5, d0, d1, d2⟩ := HNB4.out.named HW4.out (Nat.le_refl _) (.string ⟨#[]⟩) (.string C1) (.string C2)
          rw [← hw5]
          clear hw5
          refine bodyPost_ret (by simp [results, Tryd.results49, go_sem, d0, d1, d2]; try rfl) rfl ?_
          exact ⟨by rw [HBAD.out, HR.out]; rfl, hb5⟩
    · have hpos := prefix_pos h2
      go_enter Tryd.func49, Tryd.ntmps49
      go_upto_region 4 with (go_at_call 29; refine (Tryd.strings_HasPrefix s _ _).mono ?_; rintro e w' ⟨rfl, rfl⟩)
      go_quiet (fail)
      have hs1 : signedB s.data.toList = true := by unfold signedB; rw [h1, h2]; rfl
      obtain ⟨Y, hY0⟩ : ∃ Y, Y = s.extract 1 s.size := ⟨_, rfl⟩
      have hX0 : X = s.extract 0 1 := by rw [HX.out, Lib.extract_eq]; unfold signB; rw [if_pos hs1]; rfl
      have hY : Y.data.toList = restB s.data.toList := by rw [hY0, Lib.extract_data]; unfold restB; rw [if_pos hs1]; apply List.take_of_length_le; rw [List.length_drop, ← Lib.size_eq]; exact Nat.le_refl _
      rw [← hX0, ← hY0]
      obtain ⟨W, hW⟩ : ∃ W, W = (w.alloc (.cells #[.string ⟨#[]⟩, .string ⟨#[]⟩, .string ⟨#[]⟩] 99)).drewN nq := ⟨_, rfl⟩
      rw [← hW]
      have hW1 : Below w.heap.size w W := by rw [hW]; exact ((Below.refl _ w).alloc (Nat.le_refl _) _).trans ⟨rfl, rfl, rfl, Nat.le_refl _, fun _ _ => rfl⟩
      have hNB : NB W w.heap.size (.string ⟨#[]⟩) (.string ⟨#[]⟩) (.string ⟨#[]⟩) := by rw [hW]; exact (MapKept.heap_alloc w _).1
      clear hW hX0 hY0 hs1
      have HW1 : Hid (Below w.heap.size w W) := Lib.hid hW1
      have HNB : Hid (NB W w.heap.size (.string ⟨#[]⟩) (.string ⟨#[]⟩) (.string ⟨#[]⟩)) := Lib.hid hNB
      have HM1 : Hid (MaxLenAt W) := Lib.hid (HMX.out.below hW1)
      clear hW1 hNB
      have HCUT : Hid (∀ W, MaxLenAt W → Calls Tryd.prog 68 #[.string Y, .string ⟨#[46]⟩] W fun e w' => e = .returned (.tuple #[.string C1, .string C2, .bool p]) ∧ Below W.heap.size W w') := fun W hm => by
        rw [HC1.out, HC2.out, HP.out]; exact c_cut2 _ Y hY HL.out W hm
      clear hY
      go_upto_region 6 with (go_at_call 68; refine (HCUT.out _ HM1.out).mono ?_; rintro e W2 ⟨rfl, hb2⟩)
      have HW2 := Lib.hid (HW1.out.trans (hb2.mono HW1.out.size))
      have HNB2 := Lib.hid (HNB.out.kept hb2)
      clear hb2
      have HNB3 := Lib.hid (HNB2.out.alloc (.cells #[.string X, .string C1, .string C2] 99))
      have HNM3 : Hid (NB (W2.alloc (.cells #[.string X, .string C1, .string C2] 99)) W2.heap.size (.string X) (.string C1) (.string C2)) := Lib.hid (MapKept.heap_alloc W2 _).1
      have HW3 := Lib.hid (HW2.out.alloc HW2.out.size (.cells #[.string X, .string C1, .string C2] 99))
      obtain ⟨c0, c1, c2⟩ := HNB3.out.cells
      obtain ⟨f0, f1, f2⟩ := HNB3.out.free
      rcases HBC.out with ⟨hbad, hp1, he⟩ | ⟨hp1, he, hbad⟩ | ⟨hp1, hbad⟩
      · rw [hp1]
        have HBAD := Lib.hid hbad
        clear hbad hp1 HBC HP HCUT
        go_wp2
        obtain ⟨w5, hw5, hb5, d0, d1, d2⟩ := HNB3.out.named HW3.out (Nat.le_refl _) (.string ⟨#[]⟩) (.string ⟨#[]⟩) (.string ⟨#[]⟩)
        rw [← hw5]
        clear hw5
        refine bodyPost_ret (by simp [results, Tryd.results49, go_sem, d0, d1, d2]; try rfl) rfl ?_
        exact ⟨by rw [HBAD.out, HR.out]; rfl, hb5⟩
      all_goals
        rw [hp1]
        obtain ⟨db, hdb⟩ : ∃ db, db = isDigitsB (C1 ++ C2).data.toList := ⟨_, rfl⟩
        rw [← hdb] at hbad
        have HBAD := Lib.hid hbad
        have HDIG : Hid (∀ W, Calls Tryd.prog 69 #[.string (C1 ++ C2)] W fun e w' => e = .returned (.bool db) ∧ W = w') := fun W => by
          rw [hdb]; exact isDigits_any _ (by rw [ByteArray.size_append]; omega) W
        clear hbad hp1 HBC HP HCUT hdb
        cases db
        · go_wp2_with (first
            | (go_at_call 50; refine (c_digits X C1 C2 hz1 hz2 _).mono ?_; rintro e W4 ⟨rfl, hb4⟩; have HNB4 := Lib.hid (HNB3.out.kept hb4); have HW4 := Lib.hid (HW3.out.trans (hb4.mono HW3.out.size)); obtain ⟨g0, g1, g2⟩ := HNB4.out.cells; obtain ⟨k0, k1, k2⟩ := HNB4.out.free; clear hb4)
            | (go_at_call 69; refine (HDIG.out _).mono ?_; rintro e w' ⟨rfl, rfl⟩))
          obtain ⟨w5, hw5, hb5, d0, d1, d2⟩ := HNB4.out.named HW4.out (Nat.le_refl _) (.string ⟨#[]⟩) (.string ⟨#[]⟩) (.string ⟨#[]⟩)
          rw [← hw5]
          clear hw5
          refine bodyPost_ret (by simp [results, Tryd.results49, go_sem, d0, d1, d2]; try rfl) rfl ?_
          exact ⟨by rw [HBAD.out, HR.out]; rfl, hb5⟩
        · go_wp2_with (first
            | (go_at_call 50; refine (c_digits X C1 C2 hz1 hz2 _).mono ?_; rintro e W4 ⟨rfl, hb4⟩; have HNB4 := Lib.hid (HNB3.out.kept hb4); have HNM4 := Lib.hid (HNM3.out.kept hb4); have HW4 := Lib.hid (HW3.out.trans (hb4.mono HW3.out.size)); obtain ⟨g0, g1, g2⟩ := HNB4.out.cells; obtain ⟨k0, k1, k2⟩ := HNB4.out.free; obtain ⟨n0, n1, n2⟩ := HNM4.out.cells; clear hb4)
            | (go_at_call 69; refine (HDIG.out _).mono ?_; rintro e w' ⟨rfl, rfl⟩))
          obtain ⟨w5, hw5, hb5, d0, d1, d2⟩ := HNB4.out.named HW4.out (Nat.le_refl _) (.string X) (.string C1) (.string C2)
          rw [← hw5]
          clear hw5
          refine bodyPost_ret (by simp [results, Tryd.results49, go_sem, d0, d1, d2]; try rfl) rfl ?_
          exact ⟨by rw [HBAD.out, HR.out]; rfl, hb5⟩
  · have hpos := prefix_pos h1
    go_enter Tryd.func49, Tryd.ntmps49
    go_upto_region 4 with (go_at_call 29; refine (Tryd.strings_HasPrefix s _ _).mono ?_; rintro e w' ⟨rfl, rfl⟩)
    go_quiet (fail)
    have hs1 : signedB s.data.toList = true := by unfold signedB; rw [h1]; rfl
    obtain ⟨Y, hY0⟩ : ∃ Y, Y = s.extract 1 s.size := ⟨_, rfl⟩
    have hX0 : X = s.extract 0 1 := by rw [HX.out, Lib.extract_eq]; unfold signB; rw [if_pos hs1]; rfl
    have hY : Y.data.toList = restB s.data.toList := by rw [hY0, Lib.extract_data]; unfold restB; rw [if_pos hs1]; apply List.take_of_length_le; rw [List.length_drop, ← Lib.size_eq]; exact Nat.le_refl _
    rw [← hX0, ← hY0]
    obtain ⟨W, hW⟩ : ∃ W, W = (w.alloc (.cells #[.string ⟨#[]⟩, .string ⟨#[]⟩, .string ⟨#[]⟩] 99)).drewN nq := ⟨_, rfl⟩
    rw [← hW]
    have hW1 : Below w.heap.size w W := by rw [hW]; exact ((Below.refl _ w).alloc (Nat.le_refl _) _).trans ⟨rfl, rfl, rfl, Nat.le_refl _, fun _ _ => rfl⟩
    have hNB : NB W w.heap.size (.string ⟨#[]⟩) (.string ⟨#[]⟩) (.string ⟨#[]⟩) := by rw [hW]; exact (MapKept.heap_alloc w _).1
    clear hW hX0 hY0 hs1
    have HW1 : Hid (Below w.heap.size w W) := Lib.hid hW1
    have HNB : Hid (NB W w.heap.size (.string ⟨#[]⟩) (.string ⟨#[]⟩) (.string ⟨#[]⟩)) := Lib.hid hNB
    have HM1 : Hid (MaxLenAt W) := Lib.hid (HMX.out.below hW1)
    clear hW1 hNB
    have HCUT : Hid (∀ W, MaxLenAt W → Calls Tryd.prog 68 #[.string Y, .string ⟨#[46]⟩] W fun e w' => e = .returned (.tuple #[.string C1, .string C2, .bool p]) ∧ Below W.heap.size W w') := fun W hm => by
      rw [HC1.out, HC2.out, HP.out]; exact c_cut2 _ Y hY HL.out W hm
    clear hY
    go_upto_region 6 with (go_at_call 68; refine (HCUT.out _ HM1.out).mono ?_; rintro e W2 ⟨rfl, hb2⟩)
    have HW2 := Lib.hid (HW1.out.trans (hb2.mono HW1.out.size))
    have HNB2 := Lib.hid (HNB.out.kept hb2)
    clear hb2
    have HNB3 := Lib.hid (HNB2.out.alloc (.cells #[.string X, .string C1, .string C2] 99))
    have HNM3 : Hid (NB (W2.alloc (.cells #[.string X, .string C1, .string C2] 99)) W2.heap.size (.string X) (.string C1) (.string C2)) := Lib.hid (MapKept.heap_alloc W2 _).1
    have HW3 := Lib.hid (HW2.out.alloc HW2.out.size (.cells #[.string X, .string C1, .string C2] 99))
    obtain ⟨c0, c1, c2⟩ := HNB3.out.cells
    obtain ⟨f0, f1, f2⟩ := HNB3.out.free
    rcases HBC.out with ⟨hbad, hp1, he⟩ | ⟨hp1, he, hbad⟩ | ⟨hp1, hbad⟩
    · rw [hp1]
      have HBAD := Lib.hid hbad
      clear hbad hp1 HBC HP HCUT
      go_wp2
      obtain ⟨w5, hw5, hb5, d0, d1, d2⟩ := HNB3.out.named HW3.out (Nat.le_refl _) (.string ⟨#[]⟩) (.string ⟨#[]⟩) (.string ⟨#[]⟩)
      rw [← hw5]
      clear hw5
      refine bodyPost_ret (by simp [results, Tryd.results49, go_sem, d0, d1, d2]; try rfl) rfl ?_
      exact ⟨by rw [HBAD.out, HR.out]; rfl, hb5⟩
    all_goals
      rw [hp1]
      obtain ⟨db, hdb⟩ : ∃ db, db = isDigitsB (C1 ++ C2).data.toList := ⟨_, rfl⟩
      rw [← hdb] at hbad
      have HBAD := Lib.hid hbad
      have HDIG : Hid (∀ W, Calls Tryd.prog 69 #[.string (C1 ++ C2)] W fun e w' => e = .returned (.bool db) ∧ W = w') := fun W => by
        rw [hdb]; exact isDigits_any _ (by rw [ByteArray.size_append]; omega) W
      clear hbad hp1 HBC HP HCUT hdb
      cases db
      · go_wp2_with (first
          | (go_at_call 50; refine (c_digits X C1 C2 hz1 hz2 _).mono ?_; rintro e W4 ⟨rfl, hb4⟩; have HNB4 := Lib.hid (HNB3.out.kept hb4); have HW4 := Lib.hid (HW3.out.trans (hb4.mono HW3.out.size)); obtain ⟨g0, g1, g2⟩ := HNB4.out.cells; obtain ⟨k0, k1, k2⟩ := HNB4.out.free; clear hb4)
          | (go_at_call 69; refine (HDIG.out _).mono ?_; rintro e w' ⟨rfl, rfl⟩))
        obtain ⟨w5, hw5, hb5, d0, d1, d2⟩ := HNB4.out.named HW4.out (Nat.le_refl _) (.string ⟨#[]⟩) (.string ⟨#[]⟩) (.string ⟨#[]⟩)
        rw [← hw5]
        clear hw5
        refine bodyPost_ret (by simp [results, Tryd.results49, go_sem, d0, d1, d2]; try rfl) rfl ?_
        exact ⟨by rw [HBAD.out, HR.out]; rfl, hb5⟩
      · go_wp2_with (first
          | (go_at_call 50; refine (c_digits X C1 C2 hz1 hz2 _).mono ?_; rintro e W4 ⟨rfl, hb4⟩; have HNB4 := Lib.hid (HNB3.out.kept hb4); have HNM4 := Lib.hid (HNM3.out.kept hb4); have HW4 := Lib.hid (HW3.out.trans (hb4.mono HW3.out.size)); obtain ⟨g0, g1, g2⟩ := HNB4.out.cells; obtain ⟨k0, k1, k2⟩ := HNB4.out.free; obtain ⟨n0, n1, n2⟩ := HNM4.out.cells; clear hb4)
          | (go_at_call 69; refine (HDIG.out _).mono ?_; rintro e w' ⟨rfl, rfl⟩))
        obtain ⟨w5, hw5, hb5, d0, d1, d2⟩ := HNB4.out.named HW4.out (Nat.le_refl _) (.string X) (.string C1) (.string C2)
        rw [← hw5]
        clear hw5
        refine bodyPost_ret (by simp [results, Tryd.results49, go_sem, d0, d1, d2]; try rfl) rfl ?_
        exact ⟨by rw [HBAD.out, HR.out]; rfl, hb5⟩
end Go.Proofs.YtahmcjgehhfknaaDoor
