/-
  The contract of the law's read (columnsevenlaw02): the cards' texts, joined.
-/
import Derived.Test.YtbckdieajfbepaaDoorRead
import Derived.Test.YtbckdieajfbepaaDoorRef2d
import Derived.Test.YtbckdieajfbepaaDoorLaw2
import Derived.Lib.Join
import Derived.Deep.RegionHeld3
namespace Go.Proofs.YtbckdieajfbepaaDoor
open Go.RowKit
set_option linter.unusedVariables false
set_option linter.unusedSimpArgs false
attribute [local go_sem] eqFault guardFault neqFault

theorem lt_of_cell {w : World} {p : Addr} {v : Value} (h : w.cell? p = some v) : p.block < w.heap.size := by
  rcases Nat.lt_or_ge p.block w.heap.size with h' | h'
  · exact h'
  · unfold World.cell? at h; simp [Array.getElem?_eq_none h'] at h
def textK (c : Kard) : List UInt8 := if c.left = true then c.text ++ [60] else c.text
def joinK (ks : List Kard) : List UInt8 := Lib.join (ks.map textK) [124]
/-- What the law's read returns. -/
def lread (text : List UInt8) : List UInt8 × (Nat × Nat × Nat) :=
  match readBU true text false with
  | .inl f => ([], f)
  | .inr ks => (joinK ks, (0, 0, 0))
theorem tail_le (M : Nat) (c : UInt8) : ∀ r : List (List UInt8), (∀ x ∈ r, x.length ≤ M) → (Lib.joinTail [c] r).length ≤ r.length * (M + 1)
  | [], _ => by simp [Lib.joinTail]
  | x :: r, h => by
    have h1 := tail_le M c r fun y hy => h y (List.mem_cons_of_mem _ hy)
    have h2 := h x List.mem_cons_self
    have e : (Lib.joinTail [c] (x :: r)).length = 1 + x.length + (Lib.joinTail [c] r).length := by simp [Lib.joinTail]; omega
    rw [e, List.length_cons, Nat.succ_mul]
    omega
theorem join_le (M : Nat) (c : UInt8) (xs : List (List UInt8)) (h : ∀ x ∈ xs, x.length ≤ M) : (Lib.join xs [c]).length ≤ xs.length * (M + 1) := by
  cases xs with
  | nil => simp [Lib.join_nil]
  | cons x r =>
    have h1 := tail_le M c r fun y hy => h y (List.mem_cons_of_mem _ hy)
    have h2 := h x List.mem_cons_self
    rw [Lib.join_cons, List.length_append, List.length_cons, Nat.succ_mul]
    omega
theorem joinK_le (ks : List Kard) (T : Nat) (h1 : ks.length ≤ T) (h2 : ∀ c ∈ ks, c.text.length ≤ 65 * T) (hT : T ≤ 300000) : (joinK ks).length ≤ 140737488355328 := by
  have := join_le (65 * T + 1) 124 (ks.map textK) (fun x hx => by
    obtain ⟨c, hc, rfl⟩ := List.mem_map.1 hx
    have := h2 c hc
    unfold textK
    split
    · rw [List.length_append, List.length_singleton]; omega
    · omega)
  rw [List.length_map] at this
  have h3 : ks.length * (65 * T + 1 + 1) ≤ 300000 * 19500002 := Nat.mul_le_mul (by omega) (by omega)
  unfold joinK
  omega
/-- A slice that reads as cards: its form. -/
theorem kards_form {w : World} {v : Value} {L : List Kard} (h : KardsAt w v L) : ∃ a cap, v = .slice a L.length cap ∧ L.length ≤ 1048576 ∧
    (0 < L.length → ∃ b o, a = some ⟨b, o, none⟩ ∧ b < w.heap.size ∧ ∀ k c, L[k]? = some c → w.cell? ⟨b, o + k * 3, none⟩ = some (.bool c.left) ∧ w.cell? ⟨b, o + k * 3 + 1, none⟩ = some (.string (strL c.text))) := by
  rcases h with ⟨rfl, rfl⟩ | ⟨b, o, cap, rfl, h1, h2, h3⟩
  · exact ⟨none, 0, rfl, Nat.zero_le _, fun h => absurd h (by simp)⟩
  · refine ⟨_, _, rfl, h2, fun h0 => ⟨b, o, rfl, ?_, fun k c hk => ⟨(h3 k c hk).1, (h3 k c hk).2.1⟩⟩⟩
    have := (h3 0 _ (List.getElem?_eq_getElem h0)).1
    exact lt_of_cell this
def LReadPost (text : List UInt8) (w : World) (e : Ending) (w' : World) : Prop :=
  Below w.heap.size w w' ∧ e = .returned (.tuple #[.string (strL (lread text).1), faultN (lread text).2.1 (lread text).2.2.1 (lread text).2.2.2])
set_option maxHeartbeats 1200000 in
set_option maxRecDepth 100000 in
theorem l2read (s : ByteArray) (hs : s.size ≤ 300000) (w : World) (hm : MaxLenAt w) :
    Calls Tryd.prog 24 #[.string s] w (LReadPost s.data.toList w) := by
  have hpos : 0 < w.heap.size := by
    obtain ⟨m, hm⟩ := hm
    exact lt_of_cell hm
  have HM : Hid (MaxLenAt (w.alloc (.cells #[.int .i64 0, .int .i64 0, .int .i64 0] 28))) := by
    obtain ⟨m, hm⟩ := hm
    exact ⟨m, (((Below.refl w.heap.size w).alloc (Nat.le_refl _) _).cell (p := ⟨0, 0, none⟩) hpos).trans hm⟩
  have HSZ := Lib.hid (size_data s)
  clear hm
  go_enter Tryd.func24, Tryd.ntmps24
  go_wp2_with fail
  refine (c_Read s false _ HM.out).mono ?_; rintro e w1 ⟨hb1, hm1⟩
  have hz1 := hb1.size
  simp at hz1
  have hall : ∃ (v : Value) (ks : List Kard) (f : Nat × Nat × Nat), e = .returned (.tuple #[v, faultN f.1 f.2.1 f.2.2]) ∧ KardsAt w1 v ks ∧ lread s.data.toList = (joinK ks, f) ∧ (joinK ks).length ≤ 140737488355328 ∧ ∀ c ∈ ks, c.text.length ≤ 68157440 := by
    unfold lread
    cases hr : readBU true s.data.toList false with
    | inl f =>
      rw [hr] at hm1
      exact ⟨_, [], f, hm1.1, .inl ⟨rfl, rfl⟩, rfl, by simp [joinK, Lib.join_nil], fun c hc => by simp at hc⟩
    | inr ks =>
      rw [hr] at hm1
      obtain ⟨v, h1, h2, _⟩ := hm1
      have hb := readBU_bnd _ _ _ _ hr
      exact ⟨v, ks, (0, 0, 0), h1, h2, rfl, joinK_le ks _ hb.1 (fun c hc => (hb.2.2 c hc).1) (by rw [← HSZ.out]; exact hs), fun c hc => by have := (hb.2.2 c hc).1; omega⟩
  obtain ⟨v, ks, ⟨e0, l0, c0⟩, rfl, hK, hL, hJ, hT⟩ := hall
  have HK := Lib.hid hK; have HL := Lib.hid hL; have HJ := Lib.hid hJ; have HT := Lib.hid hT
  have kf : w1.heap[w.heap.size]? = some (.cells #[.int .i64 0, .int .i64 0, .int .i64 0] 28 (0, 0)) := (hb1.block w.heap.size (by simp)).trans (heap_alloc_new w _)
  have HB1 : Hid (Below w.heap.size w w1) := ((Below.refl _ _).alloc (Nat.le_refl _) _).trans (hb1.mono (by simp))
  have HKF := Lib.hid kf
  clear hK hL hJ hT hb1 hm1 kf
  obtain ⟨a, cap, rfl, hkl, hcs⟩ := kards_form HK.out
  have HCS := Lib.hid hcs
  clear hcs
  simp only [faultN]
  go_wp2_with fail
  obtain ⟨w2, hw2⟩ : ∃ w2, w2 = w1.alloc (.cells #[.int .i64 e0, .int .i64 l0, .int .i64 c0] 28) := ⟨_, rfl⟩
  have HW2 := Lib.hid hw2
  rw [← hw2]
  clear hw2
  go_loopw [6, 7] (fun o i wr => ∃ k : Nat, k ≤ ks.length ∧ i = .int .i64 k ∧ Hid (wr.ownsRow w2.heap.size 9 1 o ((ks.take k).map textK).length (valsS ((ks.take k).map textK))) ∧ Hid (Below w2.heap.size w2 wr)) (fun _ i _ => ks.length - (intOf i).toNat)
  case atStart => exact ⟨0, Nat.zero_le _, rfl, World.ownsRow_nil _ _ _ _, Below.refl _ _⟩
  case round =>
    obtain ⟨k, hk, rfl, HO, HB⟩ := hrel
    have hsz := HB.out.size
    have hw12 : w1.heap.size < w2.heap.size := by rw [HW2.out]; simp
    by_cases hlt : k < ks.length
    · obtain ⟨b, o2, rfl, hbw, hc⟩ := HCS.out (by omega)
      have hget : ks[k]? = some ks[k] := List.getElem?_eq_getElem hlt
      have hc2 := hc k _ hget
      have hth := HT.out ks[k] (List.getElem_mem hlt)
      have htk : (ks.take (k + 1)).map textK = (ks.take k).map textK ++ [textK ks[k]] := by rw [List.take_succ_eq_append_getElem hlt, List.map_append]; rfl
      obtain ⟨x, hx⟩ : ∃ x, x = ks[k] := ⟨_, rfl⟩
      rw [← hx] at hc2 hth htk
      clear hx hget hc
      have hlw : ∀ p : Addr, p.block < w1.heap.size → wr.cell? p = w1.cell? p := fun p hp => (HB.out.cell (by omega)).trans (by rw [HW2.out]; exact ((Below.refl w1.heap.size w1).alloc (Nat.le_refl _) _).cell hp)
      have d0 := (hlw ⟨b, o2 + k * 3, none⟩ hbw).trans hc2.1
      have d1 := (hlw ⟨b, o2 + k * 3 + 1, none⟩ hbw).trans hc2.2
      obtain ⟨t, ht, hts, HTS⟩ := strVar x.text
      rw [← ht] at d1
      have hts' : t.size ≤ 68157440 := by omega
      have HTK := Lib.hid htk
      have hTD : Hid (t.data.toList = x.text) := by show _ = _; rw [ht]; rfl
      have hLl : ((ks.take k).map textK).length ≤ 2097152 := by rw [List.length_map, List.length_take]; omega
      clear hlw hc2 htk ht hth
      cases hleft : x.left
      · rw [hleft] at d0
        obtain ⟨v', w', hr, ho', hb', hbs'⟩ := append_str w2.heap.size _ ((ks.take k).map textK) t (textK x) (by unfold textK; rw [hleft, hTD.out]; rfl) wr HO.out hLl hsz
        have HR := Lib.hid hr; have HO' := Lib.hid ho'; have HB' := Lib.hid (HB.out.trans hb')
        clear hr ho' hb' hleft hLl
        go_wp2_with (at_builtin; refine wp_append_run rfl (.tmp 32) (.tmp 34) _ rfl _ _ _ _ rfl rfl HR.out ?_)
        go_roundw
        case rel => exact ⟨k + 1, by omega, by go_num, by rw [HTK.out]; exact HO', HB'⟩
        case measure => simp [intOf]; omega
      · rw [hleft] at d0
        obtain ⟨v', w', hr, ho', hb', hbs'⟩ := append_str w2.heap.size _ ((ks.take k).map textK) (t ++ ⟨#[60]⟩) (textK x) (by unfold textK; rw [hleft, append_data, hTD.out]; rfl) wr HO.out hLl hsz
        have HR := Lib.hid hr; have HO' := Lib.hid ho'; have HB' := Lib.hid (HB.out.trans hb')
        clear hr ho' hb' hleft hLl
        go_wp2_with (at_builtin; refine wp_append_run rfl (.tmp 32) (.tmp 34) _ rfl _ _ _ _ rfl rfl HR.out ?_)
        go_roundw
        case rel => exact ⟨k + 1, by omega, by go_num, by rw [HTK.out]; exact HO', HB'⟩
        case measure => simp [intOf]; omega
    · have HFULL : Hid ((ks.take k).map textK = ks.map textK) := by show _ = _; rw [List.take_of_length_le (by omega)]
      have HO2 := HO
      rw [HFULL.out, List.length_map] at HO2
      obtain ⟨oa, oc, rfl⟩ := own_sl HO2.out
      have hocap := own_le HO2.out
      have hjoin : ∀ W : World, Below wr.heap.size wr W → Calls Tryd.prog 25 #[.slice oa ks.length oc, .string ⟨#[124]⟩] W fun e w' => e = .returned (.string (strL (joinK ks))) ∧ Below wr.heap.size wr w' := by
        intro W hW
        rcases HO2.out.2 with ⟨e, h0⟩ | ⟨g, cp, cur, e, hb, hh, hc, _⟩
        · have hk0 : ks = [] := List.eq_nil_of_length_eq_zero h0
          subst hk0
          refine (Tryd.strings_Join_none oa oc ⟨#[124]⟩ W).mono ?_
          rintro e w' ⟨rfl, rfl⟩
          exact ⟨rfl, hW⟩
        · injection e with e1 e2 e3
          subst e1; subst e3
          have hOW := own_kept HO2.out hW.block
          have := Tryd.strings_Join g 0 oc (ks.map fun c => strL (textK c)) ⟨#[124]⟩ W (fun j y hj => by
            rw [Nat.zero_add]
            refine own_at hOW j _ ?_
            unfold valsS
            rw [List.getElem?_map, List.getElem?_map]
            rw [List.getElem?_map] at hj
            cases hd : ks[j]? with
            | none => rw [hd] at hj; cases hj
            | some c => rw [hd] at hj; injection hj with hj; rw [← hj]; rfl) (Nat.lt_of_lt_of_le (lt_of_block hh) hW.size) (by rw [List.length_map]; omega) (by rw [List.length_map]; omega) (by
              have := HJ.out
              unfold joinK at this
              rw [List.map_map]
              exact this)
          rw [List.length_map] at this
          refine this.mono ?_
          rintro e w' ⟨rfl, hb⟩
          refine ⟨?_, hW.trans (hb.mono hW.size)⟩
          rw [List.map_map]
          rfl
      have HJN := Lib.hid hjoin
      have k1 : wr.heap[w.heap.size]? = some (.cells #[.int .i64 0, .int .i64 0, .int .i64 0] 28 (0, 0)) := by
        have := lt_of_block HKF.out
        refine (HB.out.block _ (by omega)).trans ?_
        rw [HW2.out]
        exact (Below.heap_alloc _ _ _ this).trans HKF.out
      have k2 : wr.heap[w1.heap.size]? = some (.cells #[.int .i64 e0, .int .i64 l0, .int .i64 c0] 28 (0, 0)) := by
        refine (HB.out.block _ (by omega)).trans ?_
        rw [HW2.out]
        exact heap_alloc_new _ _
      have HBW : Hid (Below w.heap.size w wr) := by
        have h1 : Below w.heap.size w w2 := by rw [HW2.out]; exact HB1.out.alloc (by omega) _
        exact h1.trans (HB.out.mono (by omega))
      have HK1 := Lib.hid k1; have HK2 := Lib.hid k2
      clear k1 k2 hjoin hocap
      have y0 : wr.cell? ⟨w1.heap.size, 0, none⟩ = some (.int .i64 e0) := Joins.cell_of_block HK2.out 0
      have y1 : wr.cell? ⟨w1.heap.size, 1, none⟩ = some (.int .i64 l0) := Joins.cell_of_block HK2.out 1
      have y2 : wr.cell? ⟨w1.heap.size, 2, none⟩ = some (.int .i64 c0) := Joins.cell_of_block HK2.out 2
      go_wp2_with fail
      go_region_with (go_at_call 25; refine (HJN.out _ (by first | exact Below.refl _ _ | exact (Below.refl _ _).drew)).mono ?_; rintro e w4 ⟨rfl, hb4⟩; have j1 := (hb4.block w.heap.size (lt_of_block HK1.out)).trans HK1.out; have j2 := (hb4.block w1.heap.size (lt_of_block HK2.out)).trans HK2.out; have HB4 : Hid (Below w.heap.size w w4) := HBW.out.trans (hb4.mono HBW.out.size); have x0 : w4.cell? ⟨w1.heap.size, 0, none⟩ = some (.int .i64 e0) := Joins.cell_of_block j2 0; have x1 : w4.cell? ⟨w1.heap.size, 1, none⟩ = some (.int .i64 l0) := Joins.cell_of_block j2 1; have x2 : w4.cell? ⟨w1.heap.size, 2, none⟩ = some (.int .i64 c0) := Joins.cell_of_block j2 2; have z0 : w4.cell? ⟨w.heap.size, 0, none⟩ = some (.int .i64 0) := Joins.cell_of_block j1 0; have z1 : w4.cell? ⟨w.heap.size, 1, none⟩ = some (.int .i64 0) := Joins.cell_of_block j1 1; have z2 : w4.cell? ⟨w.heap.size, 2, none⟩ = some (.int .i64 0) := Joins.cell_of_block j1 2; have f0 := Joins.unfrozen_of_block j1 0; have f1 := Joins.unfrozen_of_block j1 1; have f2 := Joins.unfrozen_of_block j1 2; obtain ⟨r0, r1, r2⟩ := faultCells (u := .int .i64 e0) (v := .int .i64 l0) (x := .int .i64 c0) j1; have hlt4 : w.heap.size < w4.heap.size := lt_of_block j1; clear j1 j2 hb4)
      all_goals go_wp2_with fail
      all_goals
        refine bodyPost_ret (v := .tuple #[.string (strL (joinK ks)), faultN e0 l0 c0]) (by simp [results, Tryd.results24, go_sem, r0, r1, r2, faultN, hlt4]) rfl ⟨((HB4.out.setCell (Nat.le_refl _) _).setCell (Nat.le_refl _) _).setCell (Nat.le_refl _) _, ?_⟩
        rw [HL.out]
end Go.Proofs.YtbckdieajfbepaaDoor
