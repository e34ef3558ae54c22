/-
  A world's cards, and the contract of the reference's function Same, which only reads them.
-/
import Derived.Test.YtbckdieajfbepaaDoorReadS
import Derived.Deep.QuietTactic
import Derived.Laws.StructEq
import Derived.BigQuiet
namespace Go.Proofs.YtbckdieajfbepaaDoor
open Go.RowKit
set_option linter.unusedVariables false
set_option linter.unusedSimpArgs false

/-- The slice m reads as the marks ms. -/
def MarksAt (w : World) (m : Value) (ms : List (Nat × Nat × Nat)) : Prop :=
  (m = .slice none 0 0 ∧ ms = []) ∨ ∃ b o cap, m = .slice (some ⟨b, o, none⟩) ms.length cap ∧ ms.length ≤ cap ∧ ms.length ≤ 1048576 ∧
    ∀ k x, ms[k]? = some x → w.cell? ⟨b, o + k * 3, none⟩ = some (.int .i64 x.1) ∧ w.cell? ⟨b, o + k * 3 + 1, none⟩ = some (.int .i64 x.2.1) ∧ w.cell? ⟨b, o + k * 3 + 2, none⟩ = some (.int .i64 x.2.2)
/-- The slice v reads as the cards L. -/
def KardsAt (w : World) (v : Value) (L : List Kard) : Prop :=
  (v = .slice none 0 0 ∧ L = []) ∨ ∃ b o cap, v = .slice (some ⟨b, o, none⟩) L.length cap ∧ L.length ≤ cap ∧ L.length ≤ 1048576 ∧
    ∀ k c, L[k]? = some c → w.cell? ⟨b, o + k * 3, none⟩ = some (.bool c.left) ∧ w.cell? ⟨b, o + k * 3 + 1, none⟩ = some (.string (strL c.text)) ∧ ∃ m, w.cell? ⟨b, o + k * 3 + 2, none⟩ = some m ∧ MarksAt w m c.marks

theorem eqPos (d : Nat) (a b c e : Int) (w : World) : (Op.equalIn (d + 1 + 1) 26 (.agg #[.int .i64 a, .int .i64 b]) (.agg #[.int .i64 c, .int .i64 e])).run Tryd.prog w = .ok (a == c && b == e) w := by
  have u3 := Tryd.underlying3
  have a3 := Tryd.isAgg3
  have z3 := Tryd.sizeOf3
  have hS : Tryd.prog.underlying 26 = some (.struct (Tryd.prog.fieldsOf 26)) := by kernel_rfl
  have hp : Tryd.prog.stoodInHeld 26 = false := by kernel_rfl
  rw [run_equalIn_agg w (d + 1) 26 _ _ hS hp]
  simp only [Program.fieldsOf, Tryd.underlying26]
  go_simp
  by_cases h1 : a = c <;> by_cases h2 : b = e <;> simp [h1, h2]
@[local go_sem] theorem eqMark (a b c x y z : Int) (w : World) : (Op.equalIn 10000 58 (.agg #[.int .i64 a, .int .i64 b, .int .i64 c]) (.agg #[.int .i64 x, .int .i64 y, .int .i64 z])).run Tryd.prog w = .ok (a == x && (b == y && c == z)) w := by
  have u3 := Tryd.underlying3
  have a3 := Tryd.isAgg3
  have z3 := Tryd.sizeOf3
  have a4 := Tryd.isAgg26
  have z4 := Tryd.sizeOf26
  have hS : Tryd.prog.underlying 58 = some (.struct (Tryd.prog.fieldsOf 58)) := by kernel_rfl
  have hp : Tryd.prog.stoodInHeld 58 = false := by kernel_rfl
  have hE := eqPos 9997 b c y z
  rw [show (10000 : Nat) = 9999 + 1 from rfl, run_equalIn_agg w 9999 58 _ _ hS hp]
  simp only [Program.fieldsOf, Tryd.underlying58]
  go_simp
  by_cases h1 : a = x <;> by_cases h2 : b = y <;> by_cases h3 : c = z <;> simp [h1, h2, h3]
@[local go_sem] theorem guardMark (op : BinOp) (x y : Operand) (xs ys : Array Value) (w : World) : (eqGuard op 58 x y (.agg xs) (.agg ys)).run Tryd.prog w = .ok () w :=
  run_eqGuard_agg w op 58 x y xs ys (by kernel_rfl)
@[local go_sem] theorem neqMark (a b c x y z : Int) (w : World) : (binOp .neq 58 (.agg #[.int .i64 a, .int .i64 b, .int .i64 c]) (.agg #[.int .i64 x, .int .i64 y, .int .i64 z])).run Tryd.prog w = .ok (.bool (!(a == x && (b == y && c == z)))) w := by
  rw [run_neq_struct, eqMark]
  rfl
theorem quiet_neqMark (A : Act) (o : Oper) (p q : Operand) (a b c x y z : Int) (ho : o.op = .binOp .neq 58 p q 58) (hp : A.eval p = .agg #[.int .i64 a, .int .i64 b, .int .i64 c]) (hq : A.eval q = .agg #[.int .i64 x, .int .i64 y, .int .i64 z]) (C : World → Prop) (w : World) :
    o.quietAt Tryd.prog A C w (.bool (!(a == x && (b == y && c == z)))) := by
  unfold Oper.quietAt
  have h1 := neqMark a b c x y z w
  have h2 := guardMark .neq p q #[.int .i64 a, .int .i64 b, .int .i64 c] #[.int .i64 x, .int .i64 y, .int .i64 z] w
  simp [execOp, ho, hp, hq, h1, h2, Oper.quietUpon, Result.andThen]
theorem KardsAt.get {w : World} {b o : Nat} {cap : Nat} {L : List Kard} (h : KardsAt w (.slice (some ⟨b, o, none⟩) L.length cap) L) (k : Nat) (hk : k < L.length) :
    w.cell? ⟨b, o + k * 3, none⟩ = some (.bool L[k].left) ∧ w.cell? ⟨b, o + k * 3 + 1, none⟩ = some (.string (strL L[k].text)) ∧ ∃ m, w.cell? ⟨b, o + k * 3 + 2, none⟩ = some m ∧ MarksAt w m L[k].marks := by
  rcases h with ⟨h, _⟩ | ⟨b', o', cap', h, _, _, hc⟩
  · cases h
  · injection h with h1 h2 h3
    injection h1 with h1
    injection h1 with h1 h2
    subst h1; subst h2
    exact hc k _ (List.getElem?_eq_getElem hk)
theorem MarksAt.get {w : World} {m : Value} {ms : List (Nat × Nat × Nat)} (h : MarksAt w m ms) : ∃ oa cap, m = .slice oa ms.length cap ∧ ms.length ≤ 1048576 ∧
    (0 < ms.length → ∃ b o, oa = some ⟨b, o, none⟩ ∧ ∀ k x, ms[k]? = some x → w.cell? ⟨b, o + k * 3, none⟩ = some (.int .i64 x.1) ∧ w.cell? ⟨b, o + k * 3 + 1, none⟩ = some (.int .i64 x.2.1) ∧ w.cell? ⟨b, o + k * 3 + 2, none⟩ = some (.int .i64 x.2.2)) := by
  rcases h with ⟨rfl, rfl⟩ | ⟨b, o, cap, rfl, _, h2, h3⟩
  · exact ⟨none, 0, rfl, Nat.zero_le _, fun h => absurd h (by decide)⟩
  · exact ⟨some ⟨b, o, none⟩, cap, rfl, h2, fun _ => ⟨b, o, rfl, h3⟩⟩
theorem drew2 (w : World) (n m : Nat) : (w.drewN n).drewN m = w.drewN (n + m) := by simp [World.drewN, Nat.add_assoc]
theorem str_ne {a b : List UInt8} (h : a ≠ b) : ((strL a).toList == (strL b).toList) = false := by
  rw [beq_eq_false_iff_ne, ByteArray.toList_eq, ByteArray.toList_eq]
  exact h
def sameI (A B : List Kard) : Int := if A = B then 0 else 1
theorem sameI_eq {A B : List Kard} (h : A = B) : sameI A B = 0 := if_pos h
theorem sameI_ne {A B : List Kard} (h : A ≠ B) : sameI A B = 1 := if_neg h
theorem sameI_at {A B : List Kard} {k : Nat} (hA : k < A.length) (hB : k < B.length) (h : A[k] ≠ B[k]) : sameI A B = 1 := sameI_ne fun he => by subst he; exact h rfl
theorem take_succ_eq {α : Type} {A B : List α} {k : Nat} (hA : k < A.length) (hB : k < B.length) (h : A.take k = B.take k) (he : A[k] = B[k]) : A.take (k + 1) = B.take (k + 1) := by
  rw [List.take_succ_eq_append_getElem hA, List.take_succ_eq_append_getElem hB, h, he]

set_option maxRecDepth 100000 in
set_option maxHeartbeats 2000000 in
theorem r2same_some (a ao b bo : Nat) (ca cb : Nat) (A B : List Kard) (w : World) (hA : KardsAt w (.slice (some ⟨a, ao, none⟩) A.length ca) A) (hB : KardsAt w (.slice (some ⟨b, bo, none⟩) B.length cb) B) :
    Calls Tryd.prog 12 #[.slice (some ⟨a, ao, none⟩) A.length ca, .slice (some ⟨b, bo, none⟩) B.length cb] w fun e w' => e = .returned (.int .i64 (sameI A B)) ∧ ∃ n, w' = w.drewN n := by
  have hb1 : A.length ≤ 1048576 := by rcases hA with ⟨h, _⟩ | ⟨_, _, _, _, _, h, _⟩; cases h; exact h
  have hb2 : B.length ≤ 1048576 := by rcases hB with ⟨h, _⟩ | ⟨_, _, _, _, _, h, _⟩; cases h; exact h
  have HA := Lib.hid hA; have HB := Lib.hid hB
  clear hA hB
  go_enter Tryd.func12, Tryd.ntmps12
  by_cases hl : (A.length : Int) = B.length
  · have hq : ((A.length : Int) != B.length) = false := by simp; omega
    go_wp2
    have hle : A.length ≤ B.length := by omega
    have HL := Lib.hid hl; clear hl
    go_loopw [5] (fun i wr => ∃ k nn : Nat, k ≤ A.length ∧ i = .int .i64 k ∧ wr = w.drewN nn ∧ Hid (A.take k = B.take k)) (fun i _ => A.length - (intOf i).toNat)
    case atStart => exact ⟨0, 0, Nat.zero_le _, rfl, rfl, rfl⟩
    case round =>
      obtain ⟨k, nn, hk, rfl, rfl, HT⟩ := hrel
      by_cases hlt : k < A.length
      · have hltB : k < B.length := by omega
        obtain ⟨a0, a1, ma, a2, a3⟩ := HA.out.get k hlt
        obtain ⟨b0, b1, mb, b2, b3⟩ := HB.out.get k hltB
        obtain ⟨oa, qa, rfl, ha4, ha5⟩ := a3.get
        obtain ⟨ob, qb, rfl, hb4, hb5⟩ := b3.get
        clear a3 b3
        have HMA := Lib.hid ha5; have HMB := Lib.hid hb5; clear ha5 hb5
        have HX : Hid (A[k] ≠ B[k] → sameI A B = 1) := fun h => sameI_at hlt hltB h
        have HY : Hid (A[k] = B[k] → A.take (k + 1) = B.take (k + 1)) := fun h => take_succ_eq hlt hltB HT.out h
        generalize A[k] = x at *
        generalize B[k] = y at *
        obtain ⟨xl, xt, xm⟩ := x
        obtain ⟨yl, yt, ym⟩ := y
        dsimp only at a0 a1 a2 ha4 HMA b0 b1 b2 hb4 HMB
        by_cases e1 : xl = yl
        · subst e1
          by_cases e2 : xt = yt
          · subst e2
            by_cases e3 : (xm.length : Int) = ym.length
            · have hq3 : ((xm.length : Int) != ym.length) = false := by simp; omega
              have hq1 : (xl != xl) = false := by simp
              go_wp2
              go_quiet (fail)
              go_wp2
              have hle3 : xm.length ≤ ym.length := by omega
              have H3 := Lib.hid e3; clear e3 hq3 hq1
              go_loopw [6] (fun i wr => ∃ j mm : Nat, j ≤ xm.length ∧ i = .int .i64 j ∧ wr = w.drewN mm ∧ Hid (xm.take j = ym.take j)) (fun i _ => xm.length - (intOf i).toNat)
              case atStart => exact ⟨0, _, Nat.zero_le _, rfl, drew2 _ _ _, rfl⟩
              case round =>
                obtain ⟨j, mm, hj, rfl, rfl, HJ⟩ := hrel
                by_cases hjl : j < xm.length
                · have hjB : j < ym.length := by omega
                  obtain ⟨xb, xo, rfl, hx⟩ := HMA.out (by omega)
                  obtain ⟨yb, yo, rfl, hy⟩ := HMB.out (by omega)
                  obtain ⟨c0, c1, c2⟩ := hx j _ (List.getElem?_eq_getElem hjl)
                  obtain ⟨d0, d1, d2⟩ := hy j _ (List.getElem?_eq_getElem hjB)
                  have HV : Hid (xm[j] = ym[j] → xm.take (j + 1) = ym.take (j + 1)) := fun h => take_succ_eq hjl hjB HJ.out h
                  have HW : Hid (xm[j] ≠ ym[j] → xm ≠ ym) := fun h he => by subst he; exact h rfl
                  clear hx hy
                  generalize xm[j] = u at *
                  generalize ym[j] = v at *
                  obtain ⟨u0, u1, u2⟩ := u
                  obtain ⟨v0, v1, v2⟩ := v
                  dsimp only at c0 c1 c2 d0 d1 d2
                  go_wp2
                  refine wp_region_quiet_lit (by kernel_rfl) (by kernel_rfl) ?_
                  repeat (go_big_quiet_step (fail))
                  go_big_quiet_want
                  rename_i KK hKK
                  refine ⟨.bool (!((u0 : Int) == v0 && ((u1 : Int) == v1 && (u2 : Int) == v2))), fun w' _ => ?_, hKK _ ?_⟩
                  · exact quiet_neqMark _ _ (.tmp 74) (.tmp 82) _ _ _ _ _ _ rfl rfl rfl _ _
                  refine wpQuiet_nil ?_
                  intro _ hw'
                  obtain ⟨nq2, hw''⟩ := hw'
                  subst hw''
                  clear KK hKK
                  by_cases he : (u0, u1, u2) = (v0, v1, v2)
                  · have HN := HV.out he
                    have hb : ((u0 : Int) == v0 && ((u1 : Int) == v1 && (u2 : Int) == v2)) = true := by
                      injection he with h1 h2; injection h2 with h2 h3
                      subst h1; subst h2; subst h3; simp
                    rw [hb]
                    clear he hb
                    have HN' := Lib.hid HN; clear HN
                    go_wp2
                    go_roundw
                    case rel => exact ⟨j + 1, _, by omega, by go_num, rfl, HN'.out⟩
                    case measure => simp [intOf]; omega
                  · have hb : ((u0 : Int) == v0 && ((u1 : Int) == v1 && (u2 : Int) == v2)) = false := by
                      rw [← Bool.not_eq_true]
                      intro h
                      simp at h
                      exact he (by rw [Int.ofNat.inj h.1, Int.ofNat.inj h.2.1, Int.ofNat.inj h.2.2])
                    have HN : Hid (sameI A B = 1) := HX.out fun h => HW.out he (Kard.mk.inj h).2.2
                    rw [hb]
                    clear he hb
                    go_wp2
                    go_ret
                    exact ⟨retI HN.out.symm, _, rfl⟩
                · have HE : Hid (xm = ym) := by
                    have e1 := HJ.out
                    have h2 := H3.out
                    rw [List.take_of_length_le (by omega), List.take_of_length_le (by omega)] at e1
                    exact e1
                  have HN : Hid (A.take (k + 1) = B.take (k + 1)) := HY.out (by rw [HE.out])
                  go_wp2
                  go_roundw
                  case rel => exact ⟨k + 1, _, by omega, by go_num, rfl, HN⟩
                  case measure => simp [intOf]; omega
            · have hq3 : ((xm.length : Int) != ym.length) = true := by simp; omega
              have hq1 : (xl != xl) = false := by simp
              have HN : Hid (sameI A B = 1) := HX.out fun h => e3 (by rw [(Kard.mk.inj h).2.2])
              go_wp2
              go_quiet (fail)
              go_wp2
              go_ret
              exact ⟨retI HN.out.symm, _, drew2 _ _ _⟩
          · have hq2 := str_ne e2
            have hq1 : (xl != xl) = false := by simp
            have HN : Hid (sameI A B = 1) := HX.out fun h => e2 (Kard.mk.inj h).2.1
            go_wp2
            go_quiet (fail)
            go_wp2
            go_ret
            exact ⟨retI HN.out.symm, _, drew2 _ _ _⟩
        · have HN : Hid (sameI A B = 1) := HX.out fun h => e1 (Kard.mk.inj h).1
          cases xl <;> cases yl <;> first | exact absurd rfl e1 | skip
          · clear e1 HX HY
            go_wp2
            go_quiet (fail)
            go_wp2
            go_ret
            exact ⟨retI HN.out.symm, _, drew2 _ _ _⟩
          · clear e1 HX HY
            go_wp2
            go_quiet (fail)
            go_wp2
            go_ret
            exact ⟨retI HN.out.symm, _, drew2 _ _ _⟩
      · have HE : Hid (A = B) := by
          have e1 := HT.out
          have h2 := HL.out
          rw [List.take_of_length_le (by omega), List.take_of_length_le (by omega)] at e1
          exact e1
        go_wp2
        go_ret
        exact ⟨retI (sameI_eq HE.out).symm, nn, rfl⟩
  · have hq : ((A.length : Int) != B.length) = true := by simp; omega
    have hne : ¬ A = B := fun h => hl (by rw [h])
    go_wp2
    go_ret
    exact ⟨retI (sameI_ne hne).symm, 0, rfl⟩
set_option maxHeartbeats 1000000 in
/-- A first list that is nil. -/
theorem r2same_nil (vb : Value) (B : List Kard) (w : World) (hB : KardsAt w vb B) :
    Calls Tryd.prog 12 #[.slice none 0 0, vb] w fun e w' => e = .returned (.int .i64 (sameI [] B)) ∧ ∃ n, w' = w.drewN n := by
  have hb : ∃ ob cb, vb = .slice ob B.length cb ∧ B.length ≤ 1048576 := by
    rcases hB with ⟨rfl, rfl⟩ | ⟨b, o, cb, rfl, _, h, _⟩
    · exact ⟨none, 0, rfl, by decide⟩
    · exact ⟨_, cb, rfl, h⟩
  obtain ⟨ob, cb, rfl, hlb⟩ := hb
  clear hB
  by_cases h0 : B = []
  · subst h0
    have HS : Hid (sameI [] [] = 0) := sameI_eq rfl
    go_enter Tryd.func12, Tryd.ntmps12
    go_wp2
    go_loop [5] (fun i => i = .int .i64 0) (fun _ => 0)
    case atStart => rfl
    case round =>
      subst hrel
      go_wp2
      go_ret
      exact ⟨retI HS.out.symm, 0, rfl⟩
  · have HS : Hid (sameI [] B = 1) := sameI_ne fun h => h0 h.symm
    have hp : 0 < B.length := List.length_pos_iff.2 h0
    have hq : ((0 : Int) != B.length) = true := by simp; omega
    clear h0
    go_enter Tryd.func12, Tryd.ntmps12
    go_wp2
    go_ret
    exact ⟨retI HS.out.symm, 0, rfl⟩
set_option maxHeartbeats 1000000 in
/-- A second list that is nil. -/
theorem r2same_nil' (a ao ca : Nat) (A : List Kard) (hla : A.length ≤ 1048576) (w : World) :
    Calls Tryd.prog 12 #[.slice (some ⟨a, ao, none⟩) A.length ca, .slice none 0 0] w fun e w' => e = .returned (.int .i64 (sameI A [])) ∧ ∃ n, w' = w.drewN n := by
  by_cases h0 : A = []
  · subst h0
    have HS : Hid (sameI [] [] = 0) := sameI_eq rfl
    go_enter Tryd.func12, Tryd.ntmps12
    go_wp2
    go_loop [5] (fun i => i = .int .i64 0) (fun _ => 0)
    case atStart => rfl
    case round =>
      subst hrel
      go_wp2
      go_ret
      exact ⟨retI HS.out.symm, 0, rfl⟩
  · have HS : Hid (sameI A [] = 1) := sameI_ne h0
    have hp : 0 < A.length := List.length_pos_iff.2 h0
    have hq : ((A.length : Int) != 0) = true := by simp; omega
    clear h0
    go_enter Tryd.func12, Tryd.ntmps12
    go_wp2
    go_ret
    exact ⟨retI HS.out.symm, 0, rfl⟩
theorem r2same (va vb : Value) (A B : List Kard) (w : World) (hA : KardsAt w va A) (hB : KardsAt w vb B) :
    Calls Tryd.prog 12 #[va, vb] w fun e w' => e = .returned (.int .i64 (sameI A B)) ∧ ∃ n, w' = w.drewN n := by
  rcases hA with ⟨rfl, rfl⟩ | ⟨a, ao, ca, rfl, h1, h2, h3⟩
  · exact r2same_nil vb B w hB
  · rcases hB with ⟨rfl, rfl⟩ | ⟨b, bo, cb, rfl, k1, k2, k3⟩
    · exact r2same_nil' a ao ca A h2 w
    · exact r2same_some a ao b bo ca cb A B w (.inr ⟨a, ao, ca, rfl, h1, h2, h3⟩) (.inr ⟨b, bo, cb, rfl, k1, k2, k3⟩)
end Go.Proofs.YtbckdieajfbepaaDoor
