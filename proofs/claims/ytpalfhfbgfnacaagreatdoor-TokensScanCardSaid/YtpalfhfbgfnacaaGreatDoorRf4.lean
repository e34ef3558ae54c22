/-
  The contract of the reference's numeral (columnsevenref03).
-/
import Derived.Test.YtpalfhfbgfnacaaGreatDoorRf3
namespace Go.Proofs.YtpalfhfbgfnacaaGreatDoor
open Go.RowKit
set_option linter.unusedVariables false
set_option linter.unusedSimpArgs false

def dotL (l : List UInt8) (k : Nat) : Bool := isAt l k 46 && atB digB l (k + 1)
theorem dot_drop (l : List UInt8) (i n : Nat) : dotAt (l.drop i) n = dotL l (i + n) := by
  unfold dotAt dotL isAt
  rw [atB_drop, atB_drop]
  rfl
section
variable {l : List UInt8} {i : Nat} {sep : Bool} {A D : Nat}
theorem numL1 (hA : A = i + sgN (l.drop i) sep) (h1 : atB digB l A = false) (h2 : dotL l A = false) : numR i (l.drop i) sep = (0, 0) :=
  num_none (by rw [atB_drop, ← hA]; exact h1) (by rw [dot_drop, ← hA]; exact h2)
theorem intL (hA : A = i + sgN (l.drop i) sep) (hD : D = spn digB (l.drop A)) : intN (l.drop i) sep = sgN (l.drop i) sep + D ∧ i + intN (l.drop i) sep = A + D := by
  have : intN (l.drop i) sep = sgN (l.drop i) sep + D := by
    unfold intN
    rw [List.drop_drop, ← hA, ← hD]
  exact ⟨this, by omega⟩
theorem numL2 (hA : A = i + sgN (l.drop i) sep) (hD : D = spn digB (l.drop A)) (h0 : sgN (l.drop i) sep = 0) (h1 : atB digB l A = true) (h2 : atB inwB l (A + D) = true) : numR i (l.drop i) sep = (0, 0) := by
  have hI := intL hA hD
  refine num_word h0 ?_ ?_
  · rw [atB_drop, ← h1, hA, h0]
  · rw [atB_drop, hI.2]; exact h2
theorem dotL_no {k : Nat} (h : atB inwB l k = true) : dotL l k = false := by
  unfold dotL
  cases hd : isAt l k 46
  · rfl
  · rw [dot_not_word hd] at h; cases h
theorem numL3 (hA : A = i + sgN (l.drop i) sep) (hD : D = spn digB (l.drop A)) (h0 : sgN (l.drop i) sep = 1) (h1 : atB digB l A = true) (h2 : atB inwB l (A + D) = true) : numR i (l.drop i) sep = (-1, 0) := by
  have hI := intL hA hD
  have hN : numN (l.drop i) sep = intN (l.drop i) sep := num_int (by rw [dot_drop, hI.2]; exact dotL_no h2) (fun h => by omega) (by rw [atB_drop, ← hA]; exact h1)
  rw [numR_of hN (by omega), if_pos (by rw [atB_drop, hI.2]; exact h2)]
theorem sgn_count : ((l.drop i).take (sgN (l.drop i) sep)).countP digB = 0 := by
  rcases sg_cases (l.drop i) sep with h | h
  · rw [h]; rfl
  · rw [h]
    unfold sgN at h
    split at h
    · rename_i hh
      cases hr : l.drop i with
      | nil => rfl
      | cons c r =>
        rw [hr] at hh
        simp at hh
        have : digB c = false := by simp [digB]; omega
        simp [this]
    · cases h
theorem digsL (hA : A = i + sgN (l.drop i) sep) (hD : D = spn digB (l.drop A)) : ((l.drop i).take (sgN (l.drop i) sep + D)).countP digB = D := by
  rw [count_digs, sgn_count, Nat.zero_add]
  intro j h1 h2
  rw [atB_drop]
  exact digs_in l A (i + j) (by omega) (by omega)
theorem numL5 (hA : A = i + sgN (l.drop i) sep) (hD : D = spn digB (l.drop A)) (h1 : atB digB l A = true) (h2 : atB inwB l (A + D) = false) (h3 : dotL l (A + D) = false) : numR i (l.drop i) sep = (((A + D : Nat) : Int), (D : Int)) := by
  have hI := intL hA hD
  have hN : numN (l.drop i) sep = intN (l.drop i) sep := num_int (by rw [dot_drop, hI.2]; exact h3) (fun h => by rw [atB_drop, hI.2]; exact h2) (by rw [atB_drop, ← hA]; exact h1)
  have hp : 0 < D := by rw [hD]; exact (spn_pos_at _ _ _).2 h1
  rw [numR_of hN (by omega), if_neg (by rw [atB_drop, hI.2, h2]; simp), hI.1, digsL hA hD]
  have : i + (sgN (l.drop i) sep + D) = A + D := by omega
  rw [this]
theorem numL4 {D2 : Nat} (hA : A = i + sgN (l.drop i) sep) (hD : D = spn digB (l.drop A)) (h3 : dotL l (A + D) = true) (hD2 : D2 = spn digB (l.drop (A + D + 1))) : numR i (l.drop i) sep = if atB inwB l (A + D + 1 + D2) = true then (-1, 0) else (((A + D + 1 + D2 : Nat) : Int), ((D + D2 : Nat) : Int)) := by
  have hI := intL hA hD
  have hd : dotAt (l.drop i) (intN (l.drop i) sep) = true := by rw [dot_drop, hI.2]; exact h3
  have hN := num_dot hd
  have hs2 : spn digB ((l.drop i).drop (intN (l.drop i) sep + 1)) = D2 := by rw [List.drop_drop, ← Nat.add_assoc, hI.2, hD2]
  rw [hs2] at hN
  rw [numR_of hN (by omega)]
  have e1 : atB inwB (l.drop i) (intN (l.drop i) sep + 1 + D2) = atB inwB l (A + D + 1 + D2) := by rw [atB_drop]; congr 1; omega
  have e2 : ((l.drop i).take (intN (l.drop i) sep + 1 + D2)).countP digB = D + D2 := by
    rw [count_digs]
    · rw [hI.1]
      have hdot : ∃ c, (l.drop i)[sgN (l.drop i) sep + D]? = some c ∧ digB c = false := by
        unfold dotAt at hd
        rw [Bool.and_eq_true] at hd
        obtain ⟨c, hc, h46⟩ := atB_true hd.1
        rw [hI.1] at hc
        refine ⟨c, hc, ?_⟩
        simp at h46
        simp [digB, h46]
      obtain ⟨c, hc, hp⟩ := hdot
      rw [List.take_add_one, hc, List.countP_append, digsL hA hD]
      simp [hp]
    · intro j h1 h2
      rw [atB_drop]
      exact digs_in l (A + D + 1) (i + j) (by omega) (by omega)
  rw [e1, e2]
  have : i + (intN (l.drop i) sep + 1 + D2) = A + D + 1 + D2 := by omega
  rw [this]
end
/-- The sign of a number at i. -/
def sgR (l : List UInt8) (i : Nat) (c : UInt8) : Bool := inB c [43, 45] && (decide (i = 0) || (match l[i - 1]? with | some d => inB d [32, 40] | none => false))
theorem inB_two (c a b : UInt8) : inB c [a, b] = (decide (c.toNat = a.toNat) || decide (c.toNat = b.toNat)) := by
  unfold inB
  have e1 : decide (a.toNat = c.toNat) = decide (c.toNat = a.toNat) := by rw [Bool.eq_iff_iff]; simp; exact eq_comm
  have e2 : decide (b.toNat = c.toNat) = decide (c.toNat = b.toNat) := by rw [Bool.eq_iff_iff]; simp; exact eq_comm
  simp [e1, e2]
theorem sgN_R {l : List UInt8} {i : Nat} {c : UInt8} (h : l[i]? = some c) : sgN (l.drop i) (sepAt l i) = if sgR l i c = true then 1 else 0 := by
  unfold sgN sgR
  have h0 : ((l.drop i).getD 0 0) = c := by simp [List.getD, h]
  rw [h0, inB_two]
  have hs : sepAt l i = (decide (i = 0) || (match l[i - 1]? with | some d => inB d [32, 40] | none => false)) := by
    unfold sepAt
    rcases Nat.eq_zero_or_pos i with h0 | h0
    · simp [h0]
    · have hlt := lt_of_get h
      have hd : l[i - 1]? = some l[i - 1] := List.getElem?_eq_getElem (by omega)
      rw [hd]
      dsimp only
      rw [inB_two]
      simp only [List.getD, hd, Option.getD_some]
      rw [Bool.or_assoc]
      rfl
  rw [hs]
  have h43 : (43 : UInt8).toNat = 43 := rfl
  have h45 : (45 : UInt8).toNat = 45 := rfl
  rw [h43, h45]
  generalize (decide (i = 0) || (match l[i - 1]? with | some d => inB d [32, 40] | none => false)) = S
  by_cases h1 : c.toNat = 43 <;> by_cases h2 : c.toNat = 45 <;> cases S <;> simp [h1, h2]
theorem dotL_val (s : ByteArray) (k : Nat) (h : k < s.size) : isAt s.data.toList k 46 = ((s[k].toNat : Int) == 46) := by
  unfold isAt
  rw [atB_some (get_data s k h), Bool.eq_iff_iff]
  simp; omega
theorem ret_ints {a b c d : Int} (h : (a, b) = (c, d)) : Ending.returned (.tuple #[.int .i64 a, .int .i64 b]) = .returned (.tuple #[.int .i64 c, .int .i64 d]) := by
  injection h with h1 h2; rw [h1, h2]
/-- The byte at x, a place, is wanted or not. -/
def PlP (p : UInt8 → Bool) (l : List UInt8) (x : Int) (b : Bool) : Prop := ∃ k : Nat, x = k ∧ k ≤ 140737488355328 ∧ atB p l k = b
theorem plp {p : UInt8 → Bool} {l : List UInt8} {k : Nat} {b : Bool} (hk : k ≤ 140737488355328) (h : atB p l k = b) : PlP p l (k : Int) b := ⟨k, rfl, hk, h⟩
theorem plp1 {p : UInt8 → Bool} {l : List UInt8} {k : Nat} {b : Bool} (hk : k + 1 ≤ 140737488355328) (h : atB p l (k + 1) = b) : PlP p l ((k : Int) + 1) b := ⟨k + 1, rfl, hk, h⟩
theorem r3dg (s : ByteArray) (hs : s.size ≤ 134217728) (x : Int) (b : Bool) (h : PlP digB s.data.toList x b) (w : World) : Calls Tryz.prog 60 #[.string s, .int .i64 x] w fun e w' => e = .returned (.bool b) ∧ w = w' := by
  obtain ⟨k, rfl, hk, rfl⟩ := h
  exact r3digit s k hs hk w
theorem r3wd (s : ByteArray) (hs : s.size ≤ 134217728) (x : Int) (b : Bool) (h : PlP inwB s.data.toList x b) (w : World) : Calls Tryz.prog 57 #[.string s, .int .i64 x] w fun e w' => e = .returned (.bool b) ∧ w = w' := by
  obtain ⟨k, rfl, hk, rfl⟩ := h
  exact r3wordy s k hs hk w
def w0_ok (l : List UInt8) (E : Nat) : Prop := dotL l E = true
set_option maxHeartbeats 4000000 in
set_option maxRecDepth 100000 in
theorem r3numeral (s : ByteArray) (i : Nat) (hs : s.size ≤ 134217728) (hi : i < s.size) (w : World) : Calls Tryz.prog 59 #[.string s, .int .i64 i] w fun e w' => e = .returned (.tuple #[.int .i64 (numR i (s.data.toList.drop i) (sepAt s.data.toList i)).1, .int .i64 (numR i (s.data.toList.drop i) (sepAt s.data.toList i)).2]) ∧ w = w' := by
  have HL := Lib.hid (size_data s)
  obtain ⟨X, hX⟩ : ∃ X, X = numR i (s.data.toList.drop i) (sepAt s.data.toList i) := ⟨_, rfl⟩
  rw [← hX]
  have HX := Lib.hid hX
  clear hX
  obtain ⟨X1, X2⟩ := X
  have hget := get_data s i hi
  have HSG := Lib.hid (sgN_R hget)
  obtain ⟨g, hg⟩ : ∃ g, g = sgN (s.data.toList.drop i) (sepAt s.data.toList i) := ⟨_, rfl⟩
  have hg1 : g ≤ 1 := by have := sg_cases (s.data.toList.drop i) (sepAt s.data.toList i); omega
  have HIN : Hid (∀ (c : UInt8) (a b : UInt8) (W : World), Calls Tryz.prog 30 #[.int .u8 c.toNat, .string ⟨#[a, b]⟩] W fun e w' => e = .returned (.bool (inB c [a, b])) ∧ W = w') := fun c a b W => r3in c ⟨#[a, b]⟩ (by show 2 ≤ _; omega) W
  rw [← hg] at HSG
  have HG := Lib.hid hg
  clear hg
  go_enter Tryz.func59, Tryz.ntmps59
  go_upto_region 2 with fail
  go_cut [7] (fun b wx => b = .bool (decide (g = 1)) ∧ w = wx)
  case first =>
    have HS2 : Hid (decide (g = 1) = sgR s.data.toList i s[i]) := by
      show _ = _
      rw [HSG.out]
      cases sgR s.data.toList i s[i] <;> simp
    unfold sgR at HS2
    have u0 := u8lt s[i]
    rcases Nat.eq_zero_or_pos i with h0 | h0
    · subst h0
      clear hget
      obtain ⟨b1, hb1⟩ : ∃ b1, inB s[0] [43, 45] = b1 := ⟨_, rfl⟩
      rw [hb1] at HS2
      cases b1
      all_goals
        go_wp2_with (go_at_call 30; refine (HIN.out _ _ _ _).mono ?_; rintro e w' ⟨rfl, rfl⟩)
        go_meet
        exact ⟨by rw [HS2.out]; rfl, rfl⟩
    · have hl1 : i - 1 < s.size := by omega
      have hp := get_data s (i - 1) hl1
      have hi1 : (i : Int) - 1 = ((i - 1 : Nat) : Int) := by omega
      have ei0 : ((i : Int) == 0) = false := by simp; omega
      have hid : decide (i = 0) = false := by simp; omega
      rw [hp, hid] at HS2
      have u1 := u8lt s[i - 1]
      dsimp only at HS2
      clear hp hid hget HSG
      obtain ⟨b1, hb1⟩ : ∃ b1, inB s[i] [43, 45] = b1 := ⟨_, rfl⟩
      obtain ⟨b2, hb2⟩ : ∃ b2, inB s[i - 1] [32, 40] = b2 := ⟨_, rfl⟩
      rw [hb1, hb2] at HS2
      cases b1
      · go_wp2_with (go_at_call 30; refine (HIN.out _ _ _ _).mono ?_; rintro e w' ⟨rfl, rfl⟩)
        go_meet
        exact ⟨by rw [HS2.out]; rfl, rfl⟩
      · go_wp2_with (go_at_call 30; refine (HIN.out _ _ _ _).mono ?_; rintro e w' ⟨rfl, rfl⟩)
        go_meet
        exact ⟨by rw [HS2.out]; simp, rfl⟩
  case rest =>
    obtain ⟨rfl, rfl⟩ := hcut
    clear HSG HIN hget
    obtain ⟨A, hA⟩ : ∃ A, A = i + g := ⟨_, rfl⟩
    have hAs : A ≤ s.size := by omega
    have hA2 : A = i + sgN (s.data.toList.drop i) (sepAt s.data.toList i) := by rw [hA, HG.out]
    go_upto_if 25 with fail
    go_cut [6] (fun k wx => k = .int .i64 A ∧ w = wx)
    case first =>
      have hg2 : g = 0 ∨ g = 1 := by omega
      rcases hg2 with h0 | h0
      · subst h0
        clear hA2
        subst hA
        go_wp2
        go_meet
        exact ⟨by simp, rfl⟩
      · subst h0
        clear hA2
        subst hA
        go_wp2
        go_meet
        exact ⟨by simp, rfl⟩
    case rest =>
      obtain ⟨rfl, rfl⟩ := hcut
      obtain ⟨D, hD⟩ : ∃ D, D = spn digB (s.data.toList.drop A) := ⟨_, rfl⟩
      have hDs : A + D ≤ s.size := by
        have := spn_le digB (s.data.toList.drop A)
        rw [List.length_drop, ← size_data] at this
        omega
      have HX1 : Hid (atB digB s.data.toList A = false → dotL s.data.toList A = false → (X1, X2) = ((0 : Int), (0 : Int))) := fun h1 h2 => HX.out.trans (numL1 hA2 h1 h2)
      have HX2 : Hid (g = 0 → atB digB s.data.toList A = true → atB inwB s.data.toList (A + D) = true → (X1, X2) = ((0 : Int), (0 : Int))) := fun h0 h1 h2 => HX.out.trans (numL2 hA2 hD (by rw [← HG.out]; exact h0) h1 h2)
      have HX3 : Hid (g = 1 → atB digB s.data.toList A = true → atB inwB s.data.toList (A + D) = true → (X1, X2) = ((-1 : Int), (0 : Int))) := fun h0 h1 h2 => HX.out.trans (numL3 hA2 hD (by rw [← HG.out]; exact h0) h1 h2)
      have HX5 : Hid (atB digB s.data.toList A = true → atB inwB s.data.toList (A + D) = false → dotL s.data.toList (A + D) = false → (X1, X2) = (((A + D : Nat) : Int), (D : Int))) := fun h1 h2 h3 => HX.out.trans (numL5 hA2 hD h1 h2 h3)
      have HX4 : Hid (dotL s.data.toList (A + D) = true → ∀ D2, D2 = spn digB (s.data.toList.drop (A + D + 1)) → (X1, X2) = if atB inwB s.data.toList (A + D + 1 + D2) = true then ((-1 : Int), (0 : Int)) else (((A + D + 1 + D2 : Nat) : Int), ((D + D2 : Nat) : Int))) := fun h1 D2 h2 => HX.out.trans (numL4 hA2 hD h1 h2)
      have HDD := Lib.hid hD
      have HDP : Hid (∀ d, d < D → atB digB s.data.toList (A + d) = true) := fun d hd => digs_in _ A (A + d) (by omega) (by omega)
      have HDE : Hid (atB digB s.data.toList (A + D) = false) := by
        have := spn_end digB s.data.toList A
        rw [← hD] at this
        exact this
      clear hA2 hD hA
      go_upto_region 5 with fail
      obtain ⟨d0, hd0⟩ : ∃ d0, atB digB s.data.toList A = d0 := ⟨_, rfl⟩
      obtain ⟨dt, hdt⟩ : ∃ dt, dotL s.data.toList A = dt := ⟨_, rfl⟩
      go_cut [50] (fun b wx => b = .bool (!d0 && !dt) ∧ w = wx)
      case first =>
        --P1<
        have HC0 : Hid (PlP digB s.data.toList (A : Int) d0) := plp (by omega) hd0
        obtain ⟨d1, hd1⟩ : ∃ d1, atB digB s.data.toList (A + 1) = d1 := ⟨_, rfl⟩
        have HC1 : Hid (PlP digB s.data.toList ((A : Int) + 1) d1) := plp1 (by omega) hd1
        cases d0
        · by_cases hlt : A < s.size
          · have hv := dotL_val s A hlt
            obtain ⟨p0, hp0⟩ : ∃ p0, ((s[A].toNat : Int) == 46) = p0 := ⟨_, rfl⟩
            have u0 := u8lt s[A]
            have HT : Hid (dt = (p0 && d1)) := by
              show _ = _
              rw [← hdt]
              unfold dotL
              rw [hv, hp0, hd1]
            clear hdt hd1 hd0 hv
            cases p0 <;> cases d1
            all_goals
              obtain rfl := HT.out
              clear HT
              go_wp2_with (go_at_call 60; refine (r3dg s hs _ _ (by first | exact HC0.out | exact HC1.out) _).mono ?_; rintro e w' ⟨rfl, rfl⟩)
              go_meet
              exact ⟨rfl, rfl⟩
          · have HT : dt = false := by
              rw [← hdt]
              unfold dotL isAt
              rw [atB_none (by rw [← size_data]; omega)]; rfl
            subst HT
            clear hdt hd1 hd0
            go_wp2_with (go_at_call 60; refine (r3dg s hs _ _ HC0.out _).mono ?_; rintro e w' ⟨rfl, rfl⟩)
            go_meet
            exact ⟨rfl, rfl⟩
        · clear hdt hd1 hd0
          go_wp2_with (go_at_call 60; refine (r3dg s hs _ _ HC0.out _).mono ?_; rintro e w' ⟨rfl, rfl⟩)
          go_meet
          exact ⟨rfl, rfl⟩
        --P1>
      case rest =>
        obtain ⟨rfl, rfl⟩ := hcut
        have HD0 := Lib.hid hd0
        have HDT := Lib.hid hdt
        clear hd0 hdt
        by_cases hno : d0 = false ∧ dt = false
        · obtain ⟨rfl, rfl⟩ := hno
          have hf := HX1.out HD0.out HDT.out
          injection hf with hf1 hf2
          subst hf1; subst hf2
          go_wp2
          go_returns
          exact ⟨rfl, rfl⟩
        · skip
          --P2<
          have hgo : (!d0 && !dt) = false := by cases d0 <;> cases dt <;> simp_all
          rw [hgo]
          have HNO := Lib.hid hno
          clear hno hgo HX1 HX
          go_wp2
          go_loop [6, 8] (fun k n => ∃ d : Nat, d ≤ D ∧ k = .int .i64 ((A + d : Nat) : Int) ∧ n = .int .i64 d) (fun _ n => D - (intOf n).toNat)
          case atStart => exact ⟨0, Nat.zero_le _, rfl, rfl⟩
          case round =>
            obtain ⟨d, hd, rfl, rfl⟩ := hrel
            obtain ⟨E, hE⟩ : ∃ E, E = A + d := ⟨_, rfl⟩
            have hEs : E ≤ s.size := by omega
            rw [← hE]
            by_cases hlt : d < D
            · have HC : Hid (PlP digB s.data.toList (E : Int) true) := plp (by omega) (by rw [hE]; exact HDP.out d hlt)
              have HE := Lib.hid hE
              clear hE
              go_wp2_with (go_at_call 60; refine (r3dg s hs _ _ HC.out _).mono ?_; rintro e w' ⟨rfl, rfl⟩)
              go_round
              case rel => exact ⟨d + 1, by omega, by rw [HE.out]; go_num, by go_num⟩
              case measure => simp [intOf]; omega
            · obtain rfl : d = D := by omega
              rw [← hE] at HX2 HX3 HX4 HX5 HDE
              have HSP : Hid (d0 = false → w0_ok s.data.toList E) := fun h0 => by
                have h1 : d = 0 := by
                  have := HDD.out
                  rw [spn_atB, HD0.out, h0] at this
                  exact this
                have h2 : dt = true := by
                  have := HNO.out
                  rw [h0] at this
                  cases dt
                  · exact absurd ⟨rfl, rfl⟩ this
                  · rfl
                have h3 := HDT.out
                rw [h2, show A = E from by omega] at h3
                exact h3
              have hdle : d ≤ E := by omega
              have HC : Hid (PlP digB s.data.toList (E : Int) false) := plp (by omega) HDE.out
              obtain ⟨w0, hw0⟩ : ∃ w0, atB inwB s.data.toList E = w0 := ⟨_, rfl⟩
              have HW : Hid (PlP inwB s.data.toList (E : Int) w0) := plp (by omega) hw0
              have HW0 := Lib.hid hw0
              clear hw0 hE hlt
              cases w0
              · go_upto_region 11 with (go_at_call 60; refine (r3dg s hs _ _ HC.out _).mono ?_; rintro e w' ⟨rfl, rfl⟩)
                go_upto_region 15 with (go_at_call 57; refine (r3wd s hs _ _ HW.out _).mono ?_; rintro e w' ⟨rfl, rfl⟩)
                obtain ⟨dE, hdE⟩ : ∃ b, dotL s.data.toList E = b := ⟨_, rfl⟩
                have HDE2 := Lib.hid hdE
                obtain ⟨d1, hd1⟩ : ∃ d1, atB digB s.data.toList (E + 1) = d1 := ⟨_, rfl⟩
                have HC1 : Hid (PlP digB s.data.toList ((E : Int) + 1) d1) := plp1 (by omega) hd1
                go_cut [83] (fun b wx => b = .bool dE ∧ w = wx)
                case first =>
                  by_cases hlt : E < s.size
                  · have hv := dotL_val s E hlt
                    obtain ⟨p0, hp0⟩ : ∃ p0, ((s[E].toNat : Int) == 46) = p0 := ⟨_, rfl⟩
                    have u0 := u8lt s[E]
                    have HT : Hid (dE = (p0 && d1)) := by
                      show _ = _
                      rw [← hdE]
                      unfold dotL
                      rw [hv, hp0, hd1]
                    clear hdE hd1 hv
                    cases p0 <;> cases d1
                    all_goals
                      go_wp2_with (go_at_call 60; refine (r3dg s hs _ _ HC1.out _).mono ?_; rintro e w' ⟨rfl, rfl⟩)
                      go_meet
                      exact ⟨by rw [HT.out]; rfl, rfl⟩
                  · have HT : Hid (dE = false) := by
                      show _ = _
                      rw [← hdE]
                      unfold dotL isAt
                      rw [atB_none (by rw [← size_data]; omega)]; rfl
                    clear hdE hd1
                    go_wp2
                    go_meet
                    exact ⟨by rw [HT.out], rfl⟩
                case rest =>
                  obtain ⟨rfl, rfl⟩ := hcut
                  clear hdE hd1 HC1
                  cases dE
                  · have h0 : d0 = true := by
                      cases d0
                      · have := HSP.out rfl
                        unfold w0_ok at this
                        rw [HDE2.out] at this; cases this
                      · rfl
                    subst h0
                    have hf := HX5.out HD0.out HW0.out HDE2.out
                    injection hf with hf1 hf2
                    subst hf1; subst hf2
                    go_wp2_with (go_at_call 57; refine (r3wd s hs _ _ HW.out _).mono ?_; rintro e w' ⟨rfl, rfl⟩)
                    go_returns
                    exact ⟨rfl, rfl⟩
                  · have hlt : E < s.size := by
                      have := HDE2.out
                      unfold dotL at this
                      rw [Bool.and_eq_true] at this
                      obtain ⟨c, hc, _⟩ := atB_true this.1
                      have := lt_of_get hc
                      rwa [← size_data] at this
                    obtain ⟨D2, hD2⟩ : ∃ D2, D2 = spn digB (s.data.toList.drop (E + 1)) := ⟨_, rfl⟩
                    have hD2s : E + 1 + D2 ≤ s.size := by
                      have := spn_le digB (s.data.toList.drop (E + 1))
                      rw [List.length_drop, ← size_data] at this
                      omega
                    have HF := Lib.hid (HX4.out HDE2.out D2 hD2)
                    have HDP2 : Hid (∀ e, e < D2 → atB digB s.data.toList (E + 1 + e) = true) := fun e he => digs_in _ (E + 1) (E + 1 + e) (by omega) (by omega)
                    have HDE3 : Hid (atB digB s.data.toList (E + 1 + D2) = false) := by
                      have := spn_end digB s.data.toList (E + 1)
                      rw [← hD2] at this
                      exact this
                    clear hD2 HX2 HX3 HX4 HX5 HDD HDP HDE HSP HW
                    go_wp2
                    go_loop [6, 8] (fun k n => ∃ e : Nat, e ≤ D2 ∧ k = .int .i64 ((E + 1 + e : Nat) : Int) ∧ n = .int .i64 ((d + e : Nat) : Int)) (fun _ n => d + D2 - (intOf n).toNat)
                    case atStart => exact ⟨0, Nat.zero_le _, by go_num, by go_num⟩
                    case round =>
                      obtain ⟨e, he, rfl, rfl⟩ := hrel
                      obtain ⟨H, hH⟩ : ∃ H, H = E + 1 + e := ⟨_, rfl⟩
                      obtain ⟨M, hM⟩ : ∃ M, M = d + e := ⟨_, rfl⟩
                      have hHs : H ≤ s.size := by omega
                      have hMs : M ≤ s.size := by omega
                      rw [← hH, ← hM]
                      by_cases hlt2 : e < D2
                      · have HC2 : Hid (PlP digB s.data.toList (H : Int) true) := plp (by omega) (by rw [hH]; exact HDP2.out e hlt2)
                        have HH := Lib.hid hH
                        have HM := Lib.hid hM
                        clear hH hM
                        go_wp2_with (go_at_call 60; refine (r3dg s hs _ _ HC2.out _).mono ?_; rintro e w' ⟨rfl, rfl⟩)
                        go_round
                        case rel => exact ⟨e + 1, by omega, by rw [HH.out]; go_num, by rw [HM.out]; go_num⟩
                        case measure => simp [intOf]; have := HM.out; omega
                      · obtain rfl : e = D2 := by omega
                        rw [← hH] at HDE3 HF
                        rw [← hM] at HF
                        have HC2 : Hid (PlP digB s.data.toList (H : Int) false) := plp (by omega) HDE3.out
                        obtain ⟨w1, hw1⟩ : ∃ w1, atB inwB s.data.toList H = w1 := ⟨_, rfl⟩
                        have HW1 : Hid (PlP inwB s.data.toList (H : Int) w1) := plp (by omega) hw1
                        have hf := HF.out
                        rw [hw1] at hf
                        clear hw1 hH hM HF
                        cases w1
                        · rw [if_neg (by simp)] at hf
                          injection hf with hf1 hf2
                          subst hf1; subst hf2
                          go_upto_region 20 with (go_at_call 60; refine (r3dg s hs _ _ HC2.out _).mono ?_; rintro e w' ⟨rfl, rfl⟩)
                          go_wp2_with (go_at_call 57; refine (r3wd s hs _ _ HW1.out _).mono ?_; rintro e w' ⟨rfl, rfl⟩)
                          go_returns
                          exact ⟨rfl, rfl⟩
                        · rw [if_pos rfl] at hf
                          injection hf with hf1 hf2
                          subst hf1; subst hf2
                          go_upto_region 20 with (go_at_call 60; refine (r3dg s hs _ _ HC2.out _).mono ?_; rintro e w' ⟨rfl, rfl⟩)
                          go_wp2_with (go_at_call 57; refine (r3wd s hs _ _ HW1.out _).mono ?_; rintro e w' ⟨rfl, rfl⟩)
                          go_returns
                          exact ⟨rfl, rfl⟩
              · have h0 : d0 = true := by
                  cases d0
                  · have := HSP.out rfl
                    unfold w0_ok at this
                    rw [dotL_no HW0.out] at this; cases this
                  · rfl
                subst h0
                have hg2 : g = 0 ∨ g = 1 := by omega
                rcases hg2 with h0 | h0
                · subst h0
                  have hf := HX2.out rfl HD0.out HW0.out
                  injection hf with hf1 hf2
                  subst hf1; subst hf2
                  go_upto_region 11 with (go_at_call 60; refine (r3dg s hs _ _ HC.out _).mono ?_; rintro e w' ⟨rfl, rfl⟩)
                  go_wp2_with (go_at_call 57; refine (r3wd s hs _ _ HW.out _).mono ?_; rintro e w' ⟨rfl, rfl⟩)
                  go_returns
                  exact ⟨rfl, rfl⟩
                · subst h0
                  have hf := HX3.out rfl HD0.out HW0.out
                  injection hf with hf1 hf2
                  subst hf1; subst hf2
                  go_upto_region 11 with (go_at_call 60; refine (r3dg s hs _ _ HC.out _).mono ?_; rintro e w' ⟨rfl, rfl⟩)
                  go_wp2_with (go_at_call 57; refine (r3wd s hs _ _ HW.out _).mono ?_; rintro e w' ⟨rfl, rfl⟩)
                  go_returns
                  exact ⟨rfl, rfl⟩
          --P2>
end Go.Proofs.YtpalfhfbgfnacaaGreatDoor
