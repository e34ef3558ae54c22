/-
  The walk of the law CharsOrder: true for any three texts.
-/
import Derived.Test.YtmcehldfeppkbaaOrder
namespace Go.Proofs.Ytmcehldfeppkbaa
open Go.RowKit
set_option linter.unusedVariables false
set_option linter.unusedSimpArgs false

theorem at_any (A : Option Addr) (xs : List UInt8) (cap k : Nat) (w : World) (h : Txt w A xs) (hl : xs.length ≤ 140737488355328) :
    Calls Try.prog 14 #[.slice A xs.length cap, .int .i64 k] w fun e w' => e = .returned (.int .u8 (padB xs k).toNat) ∧ w = w' := by
  by_cases hk : k < xs.length
  · obtain ⟨b, off, c, rfl, hb, hc, hcell⟩ := h.at_ hk
    rw [padB_some hc]; clear hc
    go_enter Try.func14, Try.ntmps14
    go_wp2
    go_ret
    exact ⟨rfl, rfl⟩
  · rw [padB_out (Nat.le_of_not_lt hk)]
    go_enter Try.func14, Try.ntmps14
    go_wp2
    go_ret
    exact ⟨rfl, rfl⟩

/-- What the loop of CharsOrder knows behind k rounds, of n. -/
def OrderRel (a b : List UInt8) (n : Nat) (z i : Value) : Prop := ∃ (k : Nat) (r : Int), k ≤ n ∧ i = .int .i64 k ∧ z = .int .i64 r ∧ ((r = 0 ∧ cmpB a b = cmpFrom a b (n - k) k) ∨ (r ≠ 0 ∧ r = cmpB a b))
theorem OrderRel.ends {a b : List UInt8} {n k : Nat} {r : Int} (h : (r = 0 ∧ cmpB a b = cmpFrom a b (n - k) k) ∨ (r ≠ 0 ∧ r = cmpB a b)) (hk : n ≤ k ∨ r ≠ 0) : r = cmpB a b := by
  rcases h with ⟨h1, h2⟩ | ⟨_, h2⟩
  · rw [h1, h2, show n - k = 0 from by omega]; rfl
  · exact h2

theorem fit_gives (W : World) (A : Option Addr) (xs : List UInt8) (cap n : Nat) (left : Bool) (h : Txt W A xs) (hm : xs.length ≤ 140737488355328) (hn : n ≤ 1048576) :
    Calls Try.prog 15 #[.slice A xs.length cap, .int .i64 n, .bool left] W fun e w' => ∃ v, e = .returned (.tuple #[v, .int .i64 0]) ∧ Gives W n (fitB xs n left) v w' := by
  refine (fit_any A xs cap n left W h hm hn).mono ?_
  rintro e w' ⟨rfl, rfl⟩
  exact ⟨_, rfl, gives_new W _ n _ (fitB_length _ _ _)⟩

theorem trim_gives (W : World) (A : Option Addr) (xs : List UInt8) (cap : Nat) (h : Txt W A xs) (hm : xs.length ≤ 140737488355328) :
    Calls Try.prog 17 #[.slice A xs.length cap] W fun e w' => ∃ v, e = .returned v ∧ Gives W (trimN xs) (trimB xs) v w' := by
  refine (trim_any A xs cap W h hm).mono ?_
  rintro e w' ⟨rfl, rfl⟩
  exact ⟨_, rfl, gives_new W _ _ _ (trimB_length _)⟩
theorem compare_gen (W : World) (A A' : Option Addr) (xs ys : List UInt8) (m n cap cap' : Nat) (r : Int) (h : Txt W A xs) (h' : Txt W A' ys) (hx : xs.length = m) (hy : ys.length = n) (hm : m ≤ 140737488355328) (hn : n ≤ 140737488355328) (hr : cmpB xs ys = r) :
    Calls Try.prog 16 #[.slice A m cap, .slice A' n cap'] W fun e w' => e = .returned (.int .i64 r) ∧ W = w' := by
  subst hx hy hr
  exact compare_any A A' xs ys _ _ W h h' hm hn

/-- append of which the run is known, also under a guard that says yes. -/
theorem wpList_append_run {P : Program} {ops : Array Oper} {rest : List Oper} {o : Oper} {a : Act} {w : World} {Q : Exit → Act → World → Prop} (hw : Region.wanted o (yielded ops a.tmps) = true) (s x : Operand) (ats : Array TypeId)
    (ho : o.op = .call { callee := .builtin .append, args := #[s, x], argTypes := ats }) (v y v' : Value) (w' : World) (hs : a.eval s = v) (hx : a.eval x = y) (hrun : (Builtin.append_ ats o.type #[v, y]).run P w = .ok v' w')
    (h : wpList P ops Q rest (a.put o.dst v') w') : wpList P ops Q (o :: rest) a w :=
  wpList_step fun K hK => by
    rw [if_pos hw]
    unfold Oper.wp
    simp [execOp, ho, resolve, invoke, builtin, hs, hx, hrun, Result.andThen]
    exact hK _ _ h

set_option maxRecDepth 100000 in
set_option maxHeartbeats 8000000 in
theorem order_walk (A B C : Option Addr) (a b c : List UInt8) (ca cb cc : Nat) (w : World) (ha : Txt w A a) (hb : Txt w B b) (hc : Txt w C c) (hA : A = none → ca = 0)
    (la0 : a.length ≤ maxLen) (lb0 : b.length ≤ maxLen) (lc0 : c.length ≤ maxLen) :
    Calls Try.prog 5 #[.slice A a.length ca, .slice B b.length cb, .slice C c.length cc] w fun e w' => e = .returned (.bool true) ∧ Below w.heap.size w w' := by
  by_cases h200 : (200 : Int) < a.length ∨ (200 : Int) < b.length ∨ (200 : Int) < c.length
  · unfold maxLen at la0 lb0 lc0
    go_enter Try.func5, Try.ntmps5
    by_cases g1 : (200 : Int) < a.length
    · clear h200
      go_wp2_with fail
      refine (lives_any _).mono ?_; rintro e w' ⟨rfl, hb⟩
      go_wp2
      go_ret
      exact ⟨rfl, hb⟩
    by_cases g2 : (200 : Int) < b.length
    · clear h200
      go_wp2_with fail
      refine (lives_any _).mono ?_; rintro e w' ⟨rfl, hb⟩
      go_wp2
      go_ret
      exact ⟨rfl, hb⟩
    have g3 : (200 : Int) < c.length := by omega
    clear h200
    go_wp2_with fail
    refine (lives_any _).mono ?_; rintro e w' ⟨rfl, hb⟩
    go_wp2
    go_ret
    exact ⟨rfl, hb⟩
  have l1 : (a.length : Int) ≤ 200 := by omega
  have l2 : (b.length : Int) ≤ 200 := by omega
  have l3 : (c.length : Int) ≤ 200 := by omega
  have la : a.length ≤ 140737488355328 := by omega
  have lb : b.length ≤ 140737488355328 := by omega
  have lc : c.length ≤ 140737488355328 := by omega
  clear h200 la0 lb0 lc0
  have TA := Lib.hid ha; have TB := Lib.hid hb; have TC := Lib.hid hc; have HA := Lib.hid hA
  clear ha hb hc hA
  obtain ⟨n, hn⟩ : ∃ n : Nat, n = max a.length b.length := ⟨_, rfl⟩
  have hmx : max (a.length : Int) (b.length : Int) = (n : Int) := by omega
  have hnn : (n : Int) ≤ 200 := by omega
  have hna : (a.length : Int) ≤ n := by omega
  have hnb : (b.length : Int) ≤ n := by omega
  have HN := Lib.hid hn; clear hn
  go_enter Try.func5, Try.ntmps5
  go_wp2
  go_loop [7, 8] (fun z i => OrderRel a b n z i) (fun _ i => n - (intOf i).toNat)
  case atStart => exact ⟨0, 0, Nat.zero_le _, rfl, rfl, .inl ⟨rfl, by rw [HN.out]; rfl⟩⟩
  case round =>
    obtain ⟨k, r, hk, rfl, rfl, hr⟩ := hrel
    by_cases hgo : k < n ∧ r = 0
    · obtain ⟨hlt, rfl⟩ := hgo
      have hcf : cmpB a b = cmpFrom a b (n - k) k := by
        rcases hr with ⟨_, h⟩ | ⟨h, _⟩
        · exact h
        · exact absurd rfl h
      have hs := cmpFrom_step a b n k hlt
      have HC := Lib.hid hcf; have HS := Lib.hid hs
      clear hcf hs hr
      have hp := u8lt (padB a k); have hq := u8lt (padB b k)
      go_wp2_with fail
      refine (at_any A a ca k _ TA.out la).mono ?_; rintro e w' ⟨rfl, rfl⟩
      go_wp2_with fail
      refine (at_any B b cb k _ TB.out lb).mono ?_; rintro e w' ⟨rfl, rfl⟩
      by_cases h1 : ((padB a k).toNat : Int) < ((padB b k).toNat : Int)
      · go_wp2_with fail
        refine (at_any A a ca k _ TA.out la).mono ?_; rintro e w' ⟨rfl, rfl⟩
        go_wp2_with fail
        refine (at_any B b cb k _ TB.out lb).mono ?_; rintro e w' ⟨rfl, rfl⟩
        go_wp2
        go_round
        case rel => exact ⟨k + 1, -1, by omega, by go_num, rfl, .inr ⟨by decide, by rw [HC.out, HS.out, if_pos (by omega)]⟩⟩
        case measure => simp [intOf]; omega
      · by_cases h2 : ((padB b k).toNat : Int) < ((padB a k).toNat : Int)
        · go_wp2_with fail
          refine (at_any A a ca k _ TA.out la).mono ?_; rintro e w' ⟨rfl, rfl⟩
          go_wp2_with fail
          refine (at_any B b cb k _ TB.out lb).mono ?_; rintro e w' ⟨rfl, rfl⟩
          go_wp2
          go_round
          case rel => exact ⟨k + 1, 1, by omega, by go_num, rfl, .inr ⟨by decide, by rw [HC.out, HS.out, if_neg (by omega), if_pos (by omega)]⟩⟩
          case measure => simp [intOf]; omega
        · go_wp2_with fail
          refine (at_any A a ca k _ TA.out la).mono ?_; rintro e w' ⟨rfl, rfl⟩
          go_wp2_with fail
          refine (at_any B b cb k _ TB.out lb).mono ?_; rintro e w' ⟨rfl, rfl⟩
          go_wp2
          go_round
          case rel => exact ⟨k + 1, 0, by omega, by go_num, rfl, .inl ⟨rfl, by rw [HC.out, HS.out, if_neg (by omega), if_neg (by omega)]⟩⟩
          case measure => simp [intOf]; omega
    · have hrc : r = cmpB a b := OrderRel.ends hr (by omega)
      clear hr
      have hbd := cmpB_bd a b
      rw [← hrc] at hbd
      obtain ⟨bd1, bd2⟩ := hbd
      have HR := Lib.hid hrc; clear hrc
      have HSW : Hid (cmpB b a = -r) := by show _ = _; rw [HR.out]; exact cmpB_swap a b
      have HE : Hid (decide (fitB a n false = fitB b n false) = decide (r = 0)) := by show _ = _; rw [HR.out, HN.out]; exact order_eq a b
      have HLT : Hid (decide (fitB a n false < fitB b n false) = decide (r < 0)) := by show _ = _; rw [HR.out, HN.out]; exact order_lt a b
      have HTR : Hid (r ≤ 0 → cmpB b c ≤ 0 → cmpB a c ≤ 0) := by show _ → _; rw [HR.out]; exact cmpB_trans a b c
      by_cases hkn : k < n
      all_goals
        first | (have hr0 : (r == 0) = false := by (simp; omega)) | skip
        clear hgo
        go_wp2_with fail
        refine (fit_gives w A a ca n false TA.out la (by omega)).mono ?_; rintro e w1 ⟨_, rfl, X, rfl, tX, b1⟩
        have TA1 : Hid (Txt w1 A a) := TA.out.below b1
        have TB1 : Hid (Txt w1 B b) := TB.out.below b1
        have TC1 : Hid (Txt w1 C c) := TC.out.below b1
        go_wp2_with fail
        refine (fit_gives w1 B b cb n false TB1.out lb (by omega)).mono ?_; rintro e w2 ⟨_, rfl, Y, rfl, tY, b2⟩
        have TA2 : Hid (Txt w2 A a) := TA1.out.below b2
        have TB2 : Hid (Txt w2 B b) := TB1.out.below b2
        have TC2 : Hid (Txt w2 C c) := TC1.out.below b2
        have tX2 : Hid (Txt w2 X (fitB a n false)) := tX.out.below b2
        have b2' := b1.trans (b2.mono b1.size)
        clear TA1 TB1 TC1 tX b2 b1
        obtain ⟨sx, hsx⟩ : ∃ sx, sx = strB (fitB a n false) := ⟨_, rfl⟩
        obtain ⟨sy, hsy⟩ : ∃ sy, sy = strB (fitB b n false) := ⟨_, rfl⟩
        have hcx := run_str X (fitB a n false) n w2 tX2.out
        have hcy := run_str Y (fitB b n false) n w2 tY.out
        rw [fitB_length, ← hsx] at hcx
        rw [fitB_length, ← hsy] at hcy
        have hE : (sx.toList == sy.toList) = (r == 0) := by
          rw [hsx, hsy, strB_toList, strB_toList, Bool.eq_iff_iff]
          have := HE.out
          rw [Bool.eq_iff_iff] at this
          simpa using this
        have hL : Op.bytesLess sx.toList sy.toList = decide (r < 0) := by
          rw [hsx, hsy, strB_toList, strB_toList, bytesLess_eq]
          exact HLT.out
        clear hsx hsy
        go_wp2_with fail
        refine (compare_any A B a b ca cb w2 TA2.out TB2.out la lb).mono ?_; rintro e w' ⟨rfl, rfl⟩
        rw [← HR.out]
        go_wp2_with fail
        refine (compare_any B A b a cb ca w2 TB2.out TA2.out lb la).mono ?_; rintro e w' ⟨rfl, rfl⟩
        rw [HSW.out]
        by_cases g1 : r ≤ 0
        · go_wp2_with fail
          refine (compare_any B C b c cb cc w2 TB2.out TC2.out lb lc).mono ?_; rintro e w' ⟨rfl, rfl⟩
          by_cases g2 : cmpB b c ≤ 0
          · have g3 := HTR.out g1 g2
            go_wp2_with fail
            refine (compare_any A C a c ca cc w2 TA2.out TC2.out la lc).mono ?_; rintro e w' ⟨rfl, rfl⟩
            go_wp2_with fail
            refine (trim_gives w2 A a ca TA2.out la).mono ?_; rintro e w3 ⟨_, rfl, Z, rfl, tZ, b3⟩
            have TA3 : Hid (Txt w3 A a) := TA2.out.below b3
            have b3' := b2'.trans (b3.mono b2'.size)
            clear b3 b2' TA2 TB2 TC2 tX2 tY hcx hcy
            go_wp2_with fail
            refine (compare_gen w3 A Z a (trimB a) a.length (trimN a) ca (trimN a) 0 TA3.out tZ.out rfl (trimB_length a) la (by have := trimN_le a; omega) (cmpB_trim a)).mono ?_; rintro e w' ⟨rfl, rfl⟩
            obtain ⟨v1, w4, hr1, hown1, b4, hb4⟩ := append_txt w3.heap.size (.slice none 0 0) [] a A ca w3 (World.ownsRow_nil _ _ _ _) TA3.out HA.out (by simp; omega) (Nat.le_refl _)
            rw [List.nil_append] at hown1
            obtain ⟨A1, c1, rfl, t1⟩ := own_form hown1
            obtain ⟨v2, w6, hr2, hown2, b6, hb6⟩ := append_txt w3.heap.size (.slice A1 a.length c1) a [32] (some ⟨w4.heap.size, 0, none⟩) 1 (w4.alloc (.cells (cellsB [32]) 5)) (hown1.alloc _) (Txt.new w4 _ [32]) (fun h => by cases h) (by simp; omega) (by simp; omega)
            rw [show cellsB [32] = #[Value.int .u8 32] from rfl, show [(32 : UInt8)].length = 1 from rfl] at hr2
            rw [show cellsB [32] = #[Value.int .u8 32] from rfl] at b6
            obtain ⟨A2, c2, rfl, t2⟩ := own_form hown2
            have b36 : Below w3.heap.size w3 w6 := b4.trans (((Below.refl _ _).alloc hb4 _).trans b6)
            have TA6 : Hid (Txt w6 A a) := TA3.out.below b36
            have T2 := Lib.hid t2
            have b6' : Below w.heap.size w w6 := b3'.trans (b36.mono b3'.size)
            clear t1 t2 hown1 hown2 b4 b6 b3' b36
            have H1 := Lib.hid hr1; have H2 := Lib.hid hr2; clear hr1 hr2
            go_wp2_with (first | (at_builtin; refine wpList_append_run rfl (.const (.slice none 0 0)) (.tmp 134) _ rfl _ _ _ _ rfl rfl H1.out ?_) | (at_builtin; refine wpList_append_run rfl (.tmp 135) (.tmp 136) _ rfl _ _ _ _ rfl rfl H2.out ?_))
            refine (compare_gen w6 A A2 a (a ++ [32]) a.length (a.length + 1) ca c2 0 TA6.out T2.out rfl (by simp) la (by omega) (cmpB_space a)).mono ?_; rintro e w' ⟨rfl, rfl⟩
            go_wp2_with fail
            refine (lives_any _).mono ?_; rintro e w7 ⟨rfl, b7⟩
            have b7' := b6'.trans (b7.mono b6'.size)
            clear b6' b7
            go_wp2
            go_ret
            exact ⟨rfl, b7'⟩
          · clear HTR
            go_wp2_with fail
            refine (trim_gives w2 A a ca TA2.out la).mono ?_; rintro e w3 ⟨_, rfl, Z, rfl, tZ, b3⟩
            have TA3 : Hid (Txt w3 A a) := TA2.out.below b3
            have b3' := b2'.trans (b3.mono b2'.size)
            clear b3 b2' TA2 TB2 TC2 tX2 tY hcx hcy
            go_wp2_with fail
            refine (compare_gen w3 A Z a (trimB a) a.length (trimN a) ca (trimN a) 0 TA3.out tZ.out rfl (trimB_length a) la (by have := trimN_le a; omega) (cmpB_trim a)).mono ?_; rintro e w' ⟨rfl, rfl⟩
            obtain ⟨v1, w4, hr1, hown1, b4, hb4⟩ := append_txt w3.heap.size (.slice none 0 0) [] a A ca w3 (World.ownsRow_nil _ _ _ _) TA3.out HA.out (by simp; omega) (Nat.le_refl _)
            rw [List.nil_append] at hown1
            obtain ⟨A1, c1, rfl, t1⟩ := own_form hown1
            obtain ⟨v2, w6, hr2, hown2, b6, hb6⟩ := append_txt w3.heap.size (.slice A1 a.length c1) a [32] (some ⟨w4.heap.size, 0, none⟩) 1 (w4.alloc (.cells (cellsB [32]) 5)) (hown1.alloc _) (Txt.new w4 _ [32]) (fun h => by cases h) (by simp; omega) (by simp; omega)
            rw [show cellsB [32] = #[Value.int .u8 32] from rfl, show [(32 : UInt8)].length = 1 from rfl] at hr2
            rw [show cellsB [32] = #[Value.int .u8 32] from rfl] at b6
            obtain ⟨A2, c2, rfl, t2⟩ := own_form hown2
            have b36 : Below w3.heap.size w3 w6 := b4.trans (((Below.refl _ _).alloc hb4 _).trans b6)
            have TA6 : Hid (Txt w6 A a) := TA3.out.below b36
            have T2 := Lib.hid t2
            have b6' : Below w.heap.size w w6 := b3'.trans (b36.mono b3'.size)
            clear t1 t2 hown1 hown2 b4 b6 b3' b36
            have H1 := Lib.hid hr1; have H2 := Lib.hid hr2; clear hr1 hr2
            go_wp2_with (first | (at_builtin; refine wpList_append_run rfl (.const (.slice none 0 0)) (.tmp 134) _ rfl _ _ _ _ rfl rfl H1.out ?_) | (at_builtin; refine wpList_append_run rfl (.tmp 135) (.tmp 136) _ rfl _ _ _ _ rfl rfl H2.out ?_))
            refine (compare_gen w6 A A2 a (a ++ [32]) a.length (a.length + 1) ca c2 0 TA6.out T2.out rfl (by simp) la (by omega) (cmpB_space a)).mono ?_; rintro e w' ⟨rfl, rfl⟩
            go_wp2_with fail
            refine (lives_any _).mono ?_; rintro e w7 ⟨rfl, b7⟩
            have b7' := b6'.trans (b7.mono b6'.size)
            clear b6' b7
            go_wp2
            go_ret
            exact ⟨rfl, b7'⟩
        · clear HTR
          go_wp2_with fail
          refine (trim_gives w2 A a ca TA2.out la).mono ?_; rintro e w3 ⟨_, rfl, Z, rfl, tZ, b3⟩
          have TA3 : Hid (Txt w3 A a) := TA2.out.below b3
          have b3' := b2'.trans (b3.mono b2'.size)
          clear b3 b2' TA2 TB2 TC2 tX2 tY hcx hcy
          go_wp2_with fail
          refine (compare_gen w3 A Z a (trimB a) a.length (trimN a) ca (trimN a) 0 TA3.out tZ.out rfl (trimB_length a) la (by have := trimN_le a; omega) (cmpB_trim a)).mono ?_; rintro e w' ⟨rfl, rfl⟩
          obtain ⟨v1, w4, hr1, hown1, b4, hb4⟩ := append_txt w3.heap.size (.slice none 0 0) [] a A ca w3 (World.ownsRow_nil _ _ _ _) TA3.out HA.out (by simp; omega) (Nat.le_refl _)
          rw [List.nil_append] at hown1
          obtain ⟨A1, c1, rfl, t1⟩ := own_form hown1
          obtain ⟨v2, w6, hr2, hown2, b6, hb6⟩ := append_txt w3.heap.size (.slice A1 a.length c1) a [32] (some ⟨w4.heap.size, 0, none⟩) 1 (w4.alloc (.cells (cellsB [32]) 5)) (hown1.alloc _) (Txt.new w4 _ [32]) (fun h => by cases h) (by simp; omega) (by simp; omega)
          rw [show cellsB [32] = #[Value.int .u8 32] from rfl, show [(32 : UInt8)].length = 1 from rfl] at hr2
          rw [show cellsB [32] = #[Value.int .u8 32] from rfl] at b6
          obtain ⟨A2, c2, rfl, t2⟩ := own_form hown2
          have b36 : Below w3.heap.size w3 w6 := b4.trans (((Below.refl _ _).alloc hb4 _).trans b6)
          have TA6 : Hid (Txt w6 A a) := TA3.out.below b36
          have T2 := Lib.hid t2
          have b6' : Below w.heap.size w w6 := b3'.trans (b36.mono b3'.size)
          clear t1 t2 hown1 hown2 b4 b6 b3' b36
          have H1 := Lib.hid hr1; have H2 := Lib.hid hr2; clear hr1 hr2
          go_wp2_with (first | (at_builtin; refine wpList_append_run rfl (.const (.slice none 0 0)) (.tmp 134) _ rfl _ _ _ _ rfl rfl H1.out ?_) | (at_builtin; refine wpList_append_run rfl (.tmp 135) (.tmp 136) _ rfl _ _ _ _ rfl rfl H2.out ?_))
          refine (compare_gen w6 A A2 a (a ++ [32]) a.length (a.length + 1) ca c2 0 TA6.out T2.out rfl (by simp) la (by omega) (cmpB_space a)).mono ?_; rintro e w' ⟨rfl, rfl⟩
          go_wp2_with fail
          refine (lives_any _).mono ?_; rintro e w7 ⟨rfl, b7⟩
          have b7' := b6'.trans (b7.mono b6'.size)
          clear b6' b7
          go_wp2
          go_ret
          exact ⟨rfl, b7'⟩
end Go.Proofs.Ytmcehldfeppkbaa
