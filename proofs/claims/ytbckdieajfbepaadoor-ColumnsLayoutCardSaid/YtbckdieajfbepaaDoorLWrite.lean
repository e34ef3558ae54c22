/-
  The law ColumnsWrite (columnsevenlaw02), walked.
-/
import Derived.Test.YtbckdieajfbepaaDoorLives2
import Derived.Test.YtbckdieajfbepaaDoorSqzL
import Derived.Deep.CutBlock
namespace Go.Proofs.YtbckdieajfbepaaDoor
open Go.RowKit
set_option linter.unusedVariables false
set_option linter.unusedSimpArgs false
attribute [local go_sem] eqFault guardFault neqFault eqlFault

theorem tabUpW {w w1 : World} {name : String} {kd : IntKind} {zs : List Int} (h : Lib.TabBelow Tryd.prog w.heap.size w name kd zs) (hb : Below w.heap.size w w1) : Lib.TabBelow Tryd.prog w1.heap.size w1 name kd zs := fun w' h' => h w' (hb.trans (h'.mono hb.size))
theorem tabIsW {w : World} {name : String} {kd : IntKind} {zs : List Int} (h : Lib.TabBelow Tryd.prog w.heap.size w name kd zs) : Lib.TabIs Tryd.prog w name kd zs := h w (Below.refl _ _)
/-- Write of one text. -/
theorem c_write1 (b : Nat) (left : Bool) (text : ByteArray) (S : ByteArray) (hS : S = strL (layAll [(left, text.data.toList)] ([], 0)).1) (w : World) (hL : LinesIn w b 1 [(left, text.data.toList)]) (htab : Lib.TabIs Tryd.prog w "internal/strconv.uint64pow10" .u64 Lib.pow10Tab) (hl : text.size ≤ 2048) (rb : Bool) (hrb : rb = rightB text.data.toList) :
    Calls Tryd.prog 13 #[.slice (some ⟨b, 0, none⟩) 1 1] w fun e w' => e = .returned (.tuple #[.string (if rb = true then S else ⟨#[]⟩), .int .i64 (if rb = true then 0 else 1)]) ∧ Below w.heap.size w w' := by
  have := c_write b 1 [(left, text.data.toList)] w hL htab (fun x hx => by simp at hx; subst hx; show text.data.toList.length ≤ 2048; rw [← size_data]; exact hl) (by simp)
  refine this.mono ?_
  rintro e w' ⟨rfl, hb⟩
  refine ⟨?_, hb⟩
  unfold writeV
  have e1 : ([(left, text.data.toList)] : List (Bool × List UInt8)).all (fun x => rightB x.2) = rb := by simp [hrb]
  rw [e1, hS]
  cases rb <;> rfl
theorem linesIn1 {w : World} {b : Nat} {left : Bool} {text : ByteArray} {t : TypeId} {fr : Nat × Nat} (h : w.heap[b]? = some (.cells #[.bool left, .string text] t fr)) : LinesIn w b 1 [(left, text.data.toList)] := by
  refine ⟨lt_of_block h, fun k x hx => ?_⟩
  match k, hx with
  | 0, hx =>
    injection hx with hx
    subst hx
    exact ⟨Joins.cell_of_block h 0, Joins.cell_of_block h 1⟩
  | k + 1, hx => simp at hx
set_option maxHeartbeats 4000000 in
set_option maxRecDepth 100000 in
theorem l2write (text : ByteArray) (left : Bool) (ht : text.size ≤ 9223372036854775807) (w : World) (hml : MaxLenAt w) (htab : Lib.TabBelow Tryd.prog w.heap.size w "internal/strconv.uint64pow10" .u64 Lib.pow10Tab) :
    Calls Tryd.prog 4 #[.string text, .bool left] w fun e w' => e = .returned (.bool true) ∧ Below w.heap.size w w' := by
  have HLIVE : Hid (∀ w1, Below w.heap.size w w1 → Calls Tryd.prog 9 #[] w1 fun e w' => e = .returned (.bool true) ∧ Below w.heap.size w w') := fun w1 hb =>
    (l2lives w1 (hml.below hb) (tabUpW htab hb)).mono fun e w' h => ⟨h.1, hb.trans (h.2.mono hb.size)⟩
  have HMAX := Lib.hid hml
  have HTAB := Lib.hid htab
  clear htab hml
  by_cases hbig : (1000 : Int) < text.size
  · go_enter Tryd.func4, Tryd.ntmps4
    go_wp2_with fail
    refine (HLIVE.out _ (Below.refl _ _)).mono ?_; rintro e w1 ⟨rfl, hb⟩
    go_wp2
    go_ret
    exact ⟨rfl, hb⟩
  have hT : text.size ≤ 1000 := by omega
  have HTS := Lib.hid (size_data text)
  clear hbig ht
  obtain ⟨S, hS⟩ : ∃ S, S = strL (layAll [(left, text.data.toList)] ([], 0)).1 := ⟨_, rfl⟩
  have HS := Lib.hid hS
  clear hS
  obtain ⟨rb, hrb⟩ : ∃ rb, rb = rightB text.data.toList := ⟨_, rfl⟩
  have HRB := Lib.hid hrb
  clear hrb
  go_enter Tryd.func4, Tryd.ntmps4
  go_wp2_with fail
  refine (c_write1 w.heap.size left text S HS.out _ (linesIn1 (heap_alloc_new w _)) (tabIsW (tabUpW HTAB.out (by go_grown))) (by omega) rb HRB.out).mono ?_
  rintro e w1 ⟨rfl, hb1⟩
  have HB1 : Hid (Below w.heap.size w w1) := ((Below.refl _ _).alloc (Nat.le_refl _) _).trans (hb1.mono (by simp))
  clear hb1
  cases rb
  · have HR : Hid (rightB text.data.toList = false) := HRB.out.symm
    go_wp2_with fail
    refine (l2right text (by omega) _).mono ?_; rintro e w2 ⟨rfl, rfl⟩
    rw [HR.out]
    go_wp2_with fail
    refine (HLIVE.out _ HB1.out).mono ?_; rintro e w2 ⟨rfl, hb⟩
    go_wp2
    go_ret
    exact ⟨rfl, hb⟩
  · have HR : Hid (rightB text.data.toList = true) := HRB.out.symm
    obtain ⟨ks, t, Ts, Ls, q1, q2, q3, q4, q5, q6⟩ := write_read text.data.toList left HR.out (by rw [← size_data]; omega)
    have HRD : Hid (readBU true S.data.toList false = .inr ks) := by
      show _ = _; rw [readBU_true, HS.out]; exact q1
    have HPC : Hid ((piecesA S).map (·.data.toList) = Ls ++ [[]]) := by
      show _ = _; rw [piecesA_data, HS.out]; exact q5
    have HSL : S.size ≤ 1048576 := by
      have := readBU_bnd _ _ _ _ HRD.out
      rw [size_data]; exact this.2.1
    have HK := Lib.hid q2
    have HSQ : Hid (sqzB (joinS (t :: Ts)) = sqzB text.data.toList) := q3
    have HJ : Hid ((joinS (t :: Ts)).length ≤ 1000) := by show _ ≤ _; have := q4; rw [← size_data] at this; omega
    have HLN := Lib.hid q6
    clear q1 q2 q3 q4 q5 q6
    simp only [if_true]
    go_wp2_with fail
    refine (l2right text (by omega) _).mono ?_; rintro e w2 ⟨rfl, rfl⟩
    rw [HR.out]
    go_wp2_with fail
    refine (c_Read S false w1 (HMAX.out.below HB1.out)).mono ?_
    rintro e w2 ⟨hb2, hr2⟩
    rw [HRD.out] at hr2
    obtain ⟨v, rfl, hK, _⟩ := hr2
    obtain ⟨a, cap, rfl, hkl, hcs⟩ := kards_form hK
    have hkn : ks.length = Ts.length + 1 := by
      have := congrArg List.length HK.out
      simpa using this
    have hk1 : ks.length ≤ 1048576 := hkl
    obtain ⟨b, o, rfl, hbw, hcell⟩ := hcs (by omega)
    have HC0 : Hid (w2.cell? ⟨b, o, none⟩ = some (.bool left) ∧ w2.cell? ⟨b, o + 1, none⟩ = some (.string (strL t))) := by
      have h0 : (ks.map tk)[0]? = some (left, t) := by rw [HK.out]; rfl
      rw [List.getElem?_map] at h0
      cases hc : ks[0]? with
      | none => rw [hc] at h0; cases h0
      | some c =>
        rw [hc] at h0
        injection h0 with h0
        have := hcell 0 c hc
        rw [Nat.zero_mul, Nat.add_zero] at this
        rw [(Prod.mk.inj h0).1, (Prod.mk.inj h0).2] at this
        exact this
    have HCK : Hid (∀ k x, Ts[k]? = some x → w2.cell? ⟨b, o + (k + 1) * 3, none⟩ = some (.bool false) ∧ w2.cell? ⟨b, o + (k + 1) * 3 + 1, none⟩ = some (.string (strL x))) := by
      intro k x hx
      have h0 : (ks.map tk)[k + 1]? = some (false, x) := by rw [HK.out]; simp [hx]
      rw [List.getElem?_map] at h0
      cases hc : ks[k + 1]? with
      | none => rw [hc] at h0; cases h0
      | some c =>
        rw [hc] at h0
        injection h0 with h0
        have := hcell (k + 1) c hc
        rw [(Prod.mk.inj h0).1, (Prod.mk.inj h0).2] at this
        exact this
    rw [hkn]
    have HB2 : Hid (Below w.heap.size w w2) := HB1.out.trans (hb2.mono HB1.out.size)
    obtain ⟨y0, y1⟩ := HC0.out
    have hTl : Ts.length ≤ 1048576 := by omega
    clear hcs hcell hK hb2 hkn hk1 hkl
    simp only [zeroF]
    obtain ⟨tt, htt, htl, HTT⟩ := strVar t
    rw [← htt] at y1
    have HTD : Hid (tt.data.toList = t) := by show _ = _; rw [htt]; rfl
    have htl2 : tt.size ≤ 1000 := by
      have h1 := HJ.out
      have h2 := joinS_take t Ts 0
      simp [joinS] at h2 h1; omega
    clear htt htl
    have hq1 : ((Ts.length : Int) + 1 == 0) = false := by simp; omega
    have hq2 : (left != left) = false := by simp
    have hlen0 : (0 : Int) < (Ts.length : Int) + 1 := by omega
    obtain ⟨n, hn⟩ : ∃ n, n = Ls.length := ⟨_, rfl⟩
    have HPL : Hid (n + 1 = (piecesA S).length) := by
      have := congrArg List.length HPC.out
      simp at this
      show _ = _; omega
    have HN := Lib.hid hn
    clear hn
    have hn2 : n ≤ 1048577 := by
      have := Lib.countB_le ⟨#[10]⟩ (by decide) S.size S (Nat.le_refl _)
      have h2 := HPL.out
      rw [piecesA_len] at h2; omega
    obtain ⟨m0, hm0⟩ : MaxLenAt (w2.alloc (.cells #[.int .i64 0, .int .i64 0, .int .i64 0] 28)) := HMAX.out.below (HB2.out.alloc HB2.out.size _)
    have HM0 := Lib.hid hm0
    clear hm0
    obtain ⟨Z, hZ⟩ : ∃ Z, Z = strL (sqzB text.data.toList) := ⟨_, rfl⟩
    have HZ := Lib.hid hZ
    clear hZ
    have HBF : Hid (Below w.heap.size w (w2.alloc (.cells #[.int .i64 0, .int .i64 0, .int .i64 0] 28))) := HB2.out.alloc HB2.out.size _
    go_wp2_with fail
    go_loop [9, 10] (fun j i => ∃ (m : Nat) (jj : ByteArray), 1 ≤ m ∧ m ≤ Ts.length + 1 ∧ i = .int .i64 m ∧ j = .string jj ∧ jj.size ≤ 1000 ∧ Hid (jj.data.toList = joinS (t :: Ts.take (m - 1)))) (fun _ i => Ts.length + 1 - (intOf i).toNat)
    case atStart => exact ⟨1, tt, by omega, by omega, rfl, rfl, htl2, by show _ = _; rw [HTD.out]; simp [joinS]⟩
    case round =>
      obtain ⟨m, jj, hm1, hm2, rfl, rfl, hjs, HJJ⟩ := hrel
      by_cases hlt : m < Ts.length + 1
      · have hx : Ts[m - 1]? = some Ts[m - 1] := List.getElem?_eq_getElem (by omega)
        obtain ⟨x, hxe⟩ : ∃ x, x = Ts[m - 1] := ⟨_, rfl⟩
        rw [← hxe] at hx
        have hck := HCK.out (m - 1) x hx
        rw [show m - 1 + 1 = m from by omega] at hck
        obtain ⟨z0, z1⟩ := hck
        obtain ⟨xx, hxx, hxl, HXX⟩ := strVar x
        rw [← hxx] at z1
        have HXD : Hid (xx.data.toList = x) := by show _ = _; rw [hxx]; rfl
        have HNX : Hid (((jj ++ ⟨#[32]⟩) ++ xx).data.toList = joinS (t :: Ts.take (m + 1 - 1))) := by
          show _ = _
          obtain ⟨q, rfl⟩ : ∃ q, m = q + 1 := ⟨m - 1, by omega⟩
          have hq : q < Ts.length := by omega
          have e1 : Ts.take (q + 1 + 1 - 1) = Ts.take q ++ [x] := by
            rw [show q + 1 + 1 - 1 = q + 1 from rfl, List.take_succ_eq_append_getElem hq, hxe]; rfl
          rw [e1, joinS_snoc, append_data, append_data, HJJ.out, HXD.out]
          simp
        have hns : ((jj ++ ⟨#[32]⟩) ++ xx).size ≤ 1000 := by
          rw [size_data, HNX.out]
          exact Nat.le_trans (joinS_take t Ts _) HJ.out
        have hxs : xx.size ≤ 1000 := by
          rw [ByteArray.size_append] at hns; omega
        clear hx hxe hxx hxl
        have HNS := Lib.hid hns
        clear hns
        go_wp2
        go_round
        case rel => exact ⟨m + 1, _, by omega, by omega, by go_num, rfl, HNS.out, HNX⟩
        case measure => simp [intOf]; omega
      · obtain rfl : m = Ts.length + 1 := by omega
        have HJX : Hid (jj.data.toList = joinS (t :: Ts)) := by
          show _ = _; rw [HJJ.out, show Ts.length + 1 - 1 = Ts.length from rfl, List.take_length]
        clear y0 y1 hq1 hq2 hlen0 HJJ hlt
        go_wp2_with fail
        refine (c_split S m0 _ HM0.out HSL (w2.heap.size + 1) (n + 1) (by simp) HPL.out).mono ?_
        rintro e w3 ⟨rfl, hw3⟩
        have HB3 : Hid (Below w.heap.size w w3) := by
          show Below _ _ _
          rw [hw3]; exact HBF.out.alloc (by have := HB2.out.size; simp; omega) _
        have HK3 : Hid (w3.heap[w2.heap.size + 1]? = some (.cells ((piecesA S).map Value.string).toArray 9)) := by
          show _ = _
          rw [hw3]; exact alloc_at5 _ _ _ (by simp)
        clear hw3
        have hpc : ∀ k, k < n + 1 → ∃ p, (piecesA S)[k]? = some p ∧ w3.cell? ⟨w2.heap.size + 1, k, none⟩ = some (.string p) := fun k hk => by
          have hl : k < (piecesA S).length := by rw [← HPL.out]; exact hk
          refine ⟨(piecesA S)[k], List.getElem?_eq_getElem hl, ?_⟩
          rw [Joins.cell_of_block HK3.out k]
          simp [List.getElem?_eq_getElem hl]
        have HPCX := Lib.hid hpc
        clear hpc
        have HPX : Hid (∀ k p, (piecesA S)[k]? = some p → (k < n → 8 ≤ p.size ∧ p.size ≤ 72) ∧ (k = n → p.data.toList = [])) := fun k p hp => by
          have h1 : ((piecesA S).map (·.data.toList))[k]? = some p.data.toList := by rw [List.getElem?_map, hp]; rfl
          rw [HPC.out] at h1
          refine ⟨fun hk => ?_, fun hk => ?_⟩
          · rw [List.getElem?_append_left (by rw [← HN.out]; exact hk)] at h1
            have := HLN.out _ (List.mem_of_getElem? h1)
            rw [size_data]; exact this
          · subst hk
            rw [HN.out, List.getElem?_append_right (Nat.le_refl _), Nat.sub_self] at h1
            injection h1 with h1
            exact h1.symm
        go_wp2_with fail
        go_loop [12] (fun i => ∃ k : Nat, k ≤ n ∧ i = .int .i64 k) (fun i => n - (intOf i).toNat)
        case atStart => exact ⟨0, Nat.zero_le _, rfl⟩
        case round =>
          obtain ⟨k, hk, rfl⟩ := hrel
          by_cases hlt : k < n
          · obtain ⟨p, hp, hpcell⟩ := HPCX.out k (by omega)
            obtain ⟨hp8, hp72⟩ := (HPX.out k p hp).1 hlt
            clear hp
            go_wp2
            go_round
            case rel => exact ⟨k + 1, by omega, by go_num⟩
            case measure => simp [intOf]; omega
          · obtain rfl : k = n := by omega
            obtain ⟨p, hp, hpcell⟩ := HPCX.out k (by omega)
            have hp0 : p.toList.isEmpty = true := by
              have := (HPX.out k p hp).2 rfl
              rw [ByteArray.toList_eq, this]; rfl
            have HQ1 : Hid (∀ W : World, Calls Tryd.prog 16 #[.string jj] W fun e w' => e = .returned (.string Z) ∧ W = w') := fun W => by
              have := r2squeeze jj (by omega) W
              rw [HJX.out, HSQ.out, ← HZ.out] at this
              exact this
            have HQ2 : Hid (∀ W : World, Calls Tryd.prog 16 #[.string text] W fun e w' => e = .returned (.string Z) ∧ W = w') := fun W => by
              have := r2squeeze text (by omega) W
              rw [← HZ.out] at this
              exact this
            clear hp hlt
            go_wp2_with fail
            refine (HQ1.out _).mono ?_; rintro e w' ⟨rfl, rfl⟩
            go_wp2_with fail
            refine (HQ2.out _).mono ?_; rintro e w' ⟨rfl, rfl⟩
            go_wp2_with fail
            refine (HLIVE.out _ HB3.out).mono ?_; rintro e w5 ⟨rfl, hb⟩
            go_wp2
            go_ret
            exact ⟨rfl, hb⟩
end Go.Proofs.YtbckdieajfbepaaDoor
