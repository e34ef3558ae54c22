/-
  The law ColumnsLayout (columnsevenlaw02), walked.
-/
import Derived.Test.YtbckdieajfbepaaDoorLives2
import Derived.Test.YtbckdieajfbepaaDoorLayL
import Derived.Test.YtbckdieajfbepaaDoorLWrite
import Derived.Deep.CutBlock
import Derived.Deep.QuietTactic
import Derived.BigQuiet
namespace Go.Proofs.YtbckdieajfbepaaDoor
open Go.RowKit
set_option linter.unusedVariables false
set_option linter.unusedSimpArgs false

theorem linesIn2 {w : World} {b : Nat} {left : Bool} {x y : ByteArray} {t : TypeId} {fr : Nat × Nat} (h : w.heap[b]? = some (.cells #[.bool left, .string x, .bool false, .string y] t fr)) : LinesIn w b 2 [(left, x.data.toList), (false, y.data.toList)] := by
  refine ⟨lt_of_block h, fun k z hz => ?_⟩
  match k, hz with
  | 0, hz =>
    injection hz with hz
    subst hz
    exact ⟨Joins.cell_of_block h 0, Joins.cell_of_block h 1⟩
  | 1, hz =>
    injection hz with hz
    subst hz
    exact ⟨Joins.cell_of_block h 2, Joins.cell_of_block h 3⟩
  | k + 2, hz => simp at hz
theorem c_write2 (b : Nat) (left : Bool) (x y S : ByteArray) (hS : S = strL (layAll [(left, x.data.toList), (false, y.data.toList)] ([], 0)).1) (w : World) (hL : LinesIn w b 2 [(left, x.data.toList), (false, y.data.toList)]) (htab : Lib.TabIs Tryd.prog w "internal/strconv.uint64pow10" .u64 Lib.pow10Tab) (hx : x.size ≤ 400) (hy : y.size ≤ 400) (rx : rightB x.data.toList = true) (ry : rightB y.data.toList = true) :
    Calls Tryd.prog 13 #[.slice (some ⟨b, 0, none⟩) 2 2] w fun e w' => e = .returned (.tuple #[.string S, .int .i64 0]) ∧ Below w.heap.size w w' := by
  have := c_write b 2 [(left, x.data.toList), (false, y.data.toList)] w hL htab (fun z hz => by
    simp at hz
    rcases hz with rfl | rfl
    · show x.data.toList.length ≤ 2048; rw [← size_data]; omega
    · show y.data.toList.length ≤ 2048; rw [← size_data]; omega) (by simp)
  refine this.mono ?_
  rintro e w' ⟨rfl, hb⟩
  refine ⟨?_, hb⟩
  unfold writeV
  have e1 : ([(left, x.data.toList), (false, y.data.toList)] : List (Bool × List UInt8)).all (fun x => rightB x.2) = true := by simp [rx, ry]
  rw [e1, hS]
  rfl
/-- What the law's outer loop knows. -/
def sumL : List (Bool × List UInt8) → Nat
  | [] => 0
  | x :: L => x.2.length + 1 + sumL L
structure LayAt (L : List (Bool × List UInt8)) (G : List UInt8 × Nat) (k : Nat) (o : List UInt8) (n : Nat) : Prop where
  goal : layAll (L.drop k) (o, n) = G
  room : o.length + roomL (L.drop k) ≤ 70000
  num : n + sumL (L.drop k) ≤ 900
theorem LayAt.next {L : List (Bool × List UInt8)} {G : List UInt8 × Nat} {k : Nat} {o : List UInt8} {n : Nat} (h : LayAt L G k o n) {x : Bool × List UInt8} (hx : L[k]? = some x) :
    LayAt L G (k + 1) (o ++ (layF (x.2.length + 1) n (if x.1 then headAL else headBL) x.2 false).1) (layF (x.2.length + 1) n (if x.1 then headAL else headBL) x.2 false).2 ∧ o.length + (x.2.length + 1) * 80 ≤ 70000 ∧ n + x.2.length ≤ 900 := by
  have hk : k < L.length := by
    rcases Nat.lt_or_ge k L.length with hk | hk
    · exact hk
    · rw [List.getElem?_eq_none hk] at hx; cases hx
  have hd : L.drop k = x :: L.drop (k + 1) := by
    rw [List.drop_eq_getElem_cons hk]
    rw [List.getElem?_eq_getElem hk] at hx
    injection hx with hx
    rw [hx]
  have hb := layF_bound (x.2.length + 1) n (if x.1 then headAL else headBL) x.2 false (by omega) (by cases x.1 <;> decide) (by cases x.1 <;> decide)
  obtain ⟨h1, h2, h3⟩ := h
  rw [layAll_step L k x hx] at h1
  rw [hd] at h2 h3
  simp only [roomL, sumL] at h2 h3
  refine ⟨⟨h1, ?_, by omega⟩, by omega, by omega⟩
  rw [List.length_append]; omega
theorem str_zeros : ∀ z : Fin 7, ((⟨#[48, 48, 48, 48, 48, 48]⟩ : ByteArray).extract 0 z.val).data.toList = List.replicate z.val 48 := by decide +kernel
set_option maxHeartbeats 8000000 in
set_option maxRecDepth 100000 in
theorem l2layout (a b : ByteArray) (left : Bool) (ha : a.size ≤ 9223372036854775807) (hb : b.size ≤ 9223372036854775807) (w : World) (hml : MaxLenAt w) (htab : Lib.TabBelow Tryd.prog w.heap.size w "internal/strconv.uint64pow10" .u64 Lib.pow10Tab) :
    Calls Tryd.prog 5 #[.string a, .string b, .bool left] w fun e w' => e = .returned (.bool true) ∧ Below w.heap.size w w' := by
  have HLIVE : Hid (∀ w1, Below w.heap.size w w1 → Calls Tryd.prog 9 #[] w1 fun e w' => e = .returned (.bool true) ∧ Below w.heap.size w w') := fun w1 hb =>
    (l2lives w1 (hml.below hb) (tabUpW htab hb)).mono fun e w' h => ⟨h.1, hb.trans (h.2.mono hb.size)⟩
  have HTAB := Lib.hid htab
  clear htab hml
  by_cases hbig : (400 : Int) < a.size
  · go_enter Tryd.func5, Tryd.ntmps5
    go_wp2_with fail
    refine (HLIVE.out _ (Below.refl _ _)).mono ?_; rintro e w1 ⟨rfl, hb⟩
    go_wp2
    go_ret
    exact ⟨rfl, hb⟩
  by_cases hbig2 : (400 : Int) < b.size
  · go_enter Tryd.func5, Tryd.ntmps5
    go_wp2_with fail
    refine (HLIVE.out _ (Below.refl _ _)).mono ?_; rintro e w1 ⟨rfl, hb⟩
    go_wp2
    go_ret
    exact ⟨rfl, hb⟩
  have hA : a.size ≤ 400 := by omega
  have hB : b.size ≤ 400 := by omega
  have HRA0 : Hid (∀ W : World, Calls Tryd.prog 14 #[.string a] W fun e w' => e = .returned (.bool (rightB a.data.toList)) ∧ W = w') := fun W => l2right a (by omega) W
  have HRB0 : Hid (∀ W : World, Calls Tryd.prog 14 #[.string b] W fun e w' => e = .returned (.bool (rightB b.data.toList)) ∧ W = w') := fun W => l2right b (by omega) W
  clear ha hb
  cases hra : rightB a.data.toList
  · rw [hra] at HRA0
    clear hra
    go_enter Tryd.func5, Tryd.ntmps5
    go_wp2_with fail
    refine (HRA0.out _).mono ?_; rintro e w' ⟨rfl, rfl⟩
    go_wp2_with fail
    refine (HLIVE.out _ (Below.refl _ _)).mono ?_; rintro e w1 ⟨rfl, hb⟩
    go_wp2
    go_ret
    exact ⟨rfl, hb⟩
  cases hrb : rightB b.data.toList
  · rw [hra] at HRA0
    rw [hrb] at HRB0
    clear hra hrb
    go_enter Tryd.func5, Tryd.ntmps5
    go_wp2_with fail
    refine (HRA0.out _).mono ?_; rintro e w' ⟨rfl, rfl⟩
    go_wp2_with fail
    refine (HRB0.out _).mono ?_; rintro e w' ⟨rfl, rfl⟩
    go_wp2_with fail
    refine (HLIVE.out _ (Below.refl _ _)).mono ?_; rintro e w1 ⟨rfl, hb⟩
    go_wp2
    go_ret
    exact ⟨rfl, hb⟩
  have HRA := Lib.hid hra; have HRB := Lib.hid hrb
  rw [hra] at HRA0
  rw [hrb] at HRB0
  clear hra hrb
  obtain ⟨L, hL⟩ : ∃ L, L = [(left, a.data.toList), (false, b.data.toList)] := ⟨_, rfl⟩
  obtain ⟨G, hG⟩ : ∃ G, G = layAll L ([], 0) := ⟨_, rfl⟩
  obtain ⟨S, hS⟩ : ∃ S, S = strL G.1 := ⟨_, rfl⟩
  have HLS := Lib.hid hL; have HG := Lib.hid hG; have HS := Lib.hid hS
  have HSS : Hid (S = strL (layAll [(left, a.data.toList), (false, b.data.toList)] ([], 0)).1) := by show _ = _; rw [hS, hG, hL]
  have HL0 : Hid (LayAt L G 0 [] 0) := by
    have h1 := size_data a
    have h2 := size_data b
    refine ⟨by rw [List.drop_zero]; exact hG.symm, ?_, ?_⟩
    · rw [List.drop_zero, hL]; simp only [roomL, List.length_nil]; omega
    · rw [List.drop_zero, hL]; simp only [sumL]; omega
  clear hL hG hS
  obtain ⟨t4, ht4⟩ : ∃ t, t = strL (List.replicate 4 32) := ⟨_, rfl⟩
  have HT4 := Lib.hid ht4
  have HT4D : Hid (t4.data.toList = [32, 32, 32, 32]) := by show _ = _; rw [ht4]; rfl
  have ht4s : t4.size ≤ 4 := by rw [ht4]; exact Nat.le_refl _
  have HSP : Hid (∀ W : World, Calls Tryd.prog 17 #[.int .i64 4] W fun e w' => e = .returned (.string t4) ∧ Below W.heap.size W w') := fun W => l2sp 4 t4 HT4.out (by omega) W
  clear ht4
  go_enter Tryd.func5, Tryd.ntmps5
  go_wp2_with fail
  refine (HRA0.out _).mono ?_; rintro e w' ⟨rfl, rfl⟩
  go_wp2_with fail
  refine (HRB0.out _).mono ?_; rintro e w' ⟨rfl, rfl⟩
  go_wp2_with fail
  refine (c_write2 w.heap.size left a b S HSS.out _ (linesIn2 (heap_alloc_new w _)) (tabIsW (tabUpW HTAB.out (by go_grown))) (by omega) (by omega) HRA.out HRB.out).mono ?_
  rintro e w1 ⟨rfl, hb1⟩
  have HB1 : Hid (Below w.heap.size w w1) := ((Below.refl _ _).alloc (Nat.le_refl _) _).trans (hb1.mono (by simp))
  clear hb1
  go_wp2_with fail
  obtain ⟨w2, hw2⟩ : ∃ w2, w2 = w1.alloc (.cells #[.string a, .string b] 9) := ⟨_, rfl⟩
  have HB2 : Hid (Below w.heap.size w w2) := by show Below _ _ _; rw [hw2]; exact HB1.out.alloc HB1.out.size _
  have HK2 : Hid (w2.heap[w1.heap.size]? = some (.cells #[.string a, .string b] 9 (0, 0))) := by show _ = _; rw [hw2]; exact heap_alloc_new w1 _
  have hw12 : w1.heap.size < w2.heap.size := lt_of_block HK2.out
  rw [← hw2]
  clear hw2
  go_loopw [9, 10, 12] (fun wt n i wr => ∃ (k m : Nat) (ws : ByteArray), k ≤ 2 ∧ i = .int .i64 k ∧ n = .int .i64 m ∧ wt = .string ws ∧ Hid (LayAt L G k ws.data.toList m) ∧ Hid (Below w2.heap.size w2 wr)) (fun _ _ i _ => 2 - (intOf i).toNat)
  case atStart => exact ⟨0, 0, ⟨#[]⟩, by omega, rfl, rfl, rfl, HL0, Below.refl _ _⟩
  case round =>
    obtain ⟨k, m, ws, hk, rfl, rfl, rfl, HLA, HBW⟩ := hrel
    by_cases hlt : k < 2
    · have hlti : (k : Int) < 2 := by omega
      obtain ⟨x, lf, hx, hcell, hxs, hxr, hlf⟩ : ∃ (x : ByteArray) (lf : Bool), L[k]? = some (lf, x.data.toList) ∧ wr.cell? ⟨w1.heap.size, k, none⟩ = some (.string x) ∧ x.size ≤ 400 ∧ rightB x.data.toList = true ∧ ((k = 0 ∧ lf = left) ∨ (k = 1 ∧ lf = false)) := by
        have hc := fun j => (HBW.out.cell (p := ⟨w1.heap.size, j, none⟩) hw12).trans (Joins.cell_of_block HK2.out j)
        rcases (show k = 0 ∨ k = 1 by omega) with rfl | rfl
        · exact ⟨a, left, by rw [HLS.out]; rfl, hc 0, hA, HRA.out, .inl ⟨rfl, rfl⟩⟩
        · exact ⟨b, false, by rw [HLS.out]; rfl, hc 1, hB, HRB.out, .inr ⟨rfl, rfl⟩⟩
      obtain ⟨hnext, hroom, hnum⟩ := HLA.out.next hx
      obtain ⟨G1, hG1⟩ : ∃ G1, G1 = (ws.data.toList ++ (layF (x.data.toList.length + 1) m (if lf then headAL else headBL) x.data.toList false).1, (layF (x.data.toList.length + 1) m (if lf then headAL else headBL) x.data.toList false).2) := ⟨_, rfl⟩
      have HNX : Hid (LayAt L G (k + 1) G1.1 G1.2) := by show LayAt _ _ _ _ _; rw [hG1]; exact hnext
      have HIN : Hid (InAt G1 (if lf then headAL else headBL) x.data.toList false ws.data.toList m) := by
        show InAt _ _ _ _ _ _
        rw [hG1]; exact InAt.start lf hxr hroom hnum
      clear hx hxr hnext hroom hnum hG1 hlt
      go_wp2_with fail
      refine (HSP.out _).mono ?_; rintro e w3 ⟨rfl, hb3⟩
      have HBW3 : Hid (Below w2.heap.size w2 w3) := HBW.out.trans (hb3.mono HBW.out.size)
      clear hb3 hcell
      go_upto_region 12 with fail
      go_cut [65] (fun s65 wx => s65 = .bool lf ∧ wx = w3)
      case first =>
        rcases hlf with ⟨rfl, rfl⟩ | ⟨rfl, rfl⟩
        · go_wp2
          go_meet
          exact ⟨rfl, rfl⟩
        · go_wp2
          go_meet
          exact ⟨rfl, rfl⟩
      case rest =>
        obtain ⟨rfl, rfl⟩ := hcut
        generalize wc = w3 at *
        clear hlf
        go_upto_if 65 with fail
        go_cut [14] (fun s14 wx => ∃ fs : ByteArray, s14 = .string fs ∧ Hid (fs.data.toList = if lf then headAL else headBL) ∧ wx = w3)
        case first =>
          cases lf
          · go_wp2
            go_meet
            exact ⟨_, rfl, by show _ = _; rw [append_data, HT4D.out]; rfl, rfl⟩
          · go_wp2
            go_meet
            exact ⟨_, rfl, rfl, rfl⟩
        case rest =>
        obtain ⟨fs0, rfl, HF0, rfl⟩ := hcut
        generalize wc = w3 at *
        rw [← HF0.out] at HIN
        go_wp2_with fail
        go_loopw [9, 10, 13, 14] (fun wt n r fr wr2 => ∃ (wsn rs fs : ByteArray) (m1 : Nat) (op : Bool), wt = .string wsn ∧ n = .int .i64 m1 ∧ r = .string rs ∧ fr = .string fs ∧ Hid (InAt G1 fs.data.toList rs.data.toList op wsn.data.toList m1) ∧ Hid (Below w2.heap.size w2 wr2)) (fun _ _ r _ _ => strSize r)
        case atStart => exact ⟨ws, x, fs0, m, false, rfl, rfl, rfl, rfl, HIN, HBW3⟩
        case round =>
          obtain ⟨wn, rs, fs, m1, op, rfl, rfl, rfl, rfl, HI, HBW4⟩ := hrel
          have HRS := Lib.hid (size_data rs)
          have HFS := Lib.hid (size_data fs)
          have HWS := Lib.hid (size_data wn)
          have hrm := HI.out.room
          have hnm := HI.out.num
          have hne := HI.out.ok.1
          have hfl := head_len HI.out.fr.1
          have hfq := HI.out.fr.2
          rw [← HWS.out, ← HRS.out] at hrm
          rw [← HRS.out] at hnm
          rw [← HFS.out] at hfl hfq
          have hrs0 : 0 < rs.size := by rw [HRS.out]; exact List.length_pos_iff.2 hne
          have hemp : rs.toList.isEmpty = false := by
            cases hh : rs.toList.isEmpty
            · rfl
            · exact absurd (by rw [← ByteArray.toList_eq]; exact List.isEmpty_iff.1 hh) hne
          obtain ⟨D, hD⟩ : ∃ D, D = strL (digN (m1 + 1)) := ⟨_, rfl⟩
          have hnum6 := num6_dig (m1 + 1) (by omega)
          have hds : D.size ≤ 6 := by rw [hD, strL_size]; exact hnum6.2
          obtain ⟨z, hz⟩ : ∃ z, z = 6 - D.size := ⟨_, rfl⟩
          have hz6 : z ≤ 6 := by omega
          have HDG : Hid (∀ W : World, Calls Tryd.prog 18 #[.int .i64 ((m1 : Int) + 1)] W fun e w' => e = .returned (.string D) ∧ w' = W) := fun W => by
            have := l2digits (m1 + 1) (by omega) W
            rw [← hD] at this
            exact this.mono fun e w' ⟨h1, h2⟩ => ⟨h1, h2.symm⟩
          have HZD : Hid ((((⟨#[48, 48, 48, 48, 48, 48]⟩ : ByteArray).extract 0 z) ++ D).data.toList = num6 (m1 + 1)) := by
            show _ = _
            have hzz : ((⟨#[48, 48, 48, 48, 48, 48]⟩ : ByteArray).extract 0 z).data.toList = List.replicate z 48 := str_zeros ⟨z, by omega⟩
            rw [append_data, hzz, hnum6.1, hz, hD, strL_size, strL_data]
          have hzi : IntKind.i64.wrap (6 - (D.size : Int)) = (z : Int) := by rw [IntWalk.i64_in _ (by omega)]; omega
          have hz0 : (0 : Int) ≤ (z : Int) := by omega
          have hz1 : (z : Int) ≤ 6 := by omega
          clear hD hnum6 hz hne
          have hlast : fs.size - 1 < fs.size := by omega
          have hq34 : ((fs[fs.size - 1].toNat : Int) == 34) = op := by
            have hg := get_data fs (fs.size - 1) hlast
            have hg2 : fs.data.toList.getD (fs.size - 1) 0 = fs[fs.size - 1] := by simp [List.getD, hg]
            rw [hg2] at hfq
            rw [← hfq, Bool.eq_iff_iff, beq_iff_eq, decide_eq_true_eq]
            omega
          have hrN : 66 - fs.data.toList.length = 66 - fs.size := by rw [← HFS.out]
          have HRN := Lib.hid hrN
          have HQ34 := Lib.hid hq34
          clear hrN hfq hq34
          by_cases hfit : (rs.size : Int) ≤ 66 - (fs.size : Int)
          · have HGG : Hid (G1 = (wn.data.toList ++ lineB (m1 + 1) fs.data.toList rs.data.toList, m1 + 1)) := HI.out.last (by rw [HRN.out, ← HRS.out]; omega)
            go_wp2_with fail
            go_quiet ((go_at_call 18; exact Calls.quiet_of_same (HDG.out _)))
            go_wp2_with fail
            go_roundw
            case rel =>
              refine ⟨k + 1, m1 + 1, _, by omega, by go_num, by go_num, rfl, ?_, below_drewN2 _ HBW4.out⟩
              show LayAt _ _ _ _ _
              have hn := HNX.out
              rw [HGG.out] at hn
              have hd : (((((wn ++ (⟨#[48, 48, 48, 48, 48, 48]⟩ : ByteArray).extract 0 z) ++ D) ++ fs) ++ rs) ++ ⟨#[10]⟩ : ByteArray).data.toList = wn.data.toList ++ lineB (m1 + 1) fs.data.toList rs.data.toList := by
                have hz2 := HZD.out
                rw [append_data] at hz2
                rw [append_data, append_data, append_data, append_data, append_data]
                unfold lineB
                rw [← hz2]
                simp [List.append_assoc]
              rw [hd]
              exact hn
            case measure => simp [intOf]; omega
          · obtain ⟨e, he⟩ : ∃ e, (divN rs.data.toList op (66 - fs.size)).getD (66 - fs.size) = e := ⟨_, rfl⟩
            obtain ⟨d, hd⟩ : ∃ d, (divN rs.data.toList op (66 - fs.size)).isSome = d := ⟨_, rfl⟩
            obtain ⟨op', hop'⟩ : ∃ o, (op ^^ openB (rs.data.toList.take e)) = o := ⟨_, rfl⟩
            have hnext := HI.out.next (e := e) (d := d) (op' := op') (by rw [HRN.out, ← HRS.out]; omega) (by rw [HRN.out]; exact he) (by rw [HRN.out]; exact hd) hop'
            obtain ⟨he1, he2, hn1, hn2⟩ := hnext
            rw [← HRS.out] at he2
            have hei : (e : Int) ≤ (rs.size : Int) := by omega
            have hrI : (66 : Int) - (fs.size : Int) = ((66 - fs.size : Nat) : Int) := by omega
            have HDV : Hid (∀ W : World, Calls Tryd.prog 19 #[.string rs, .int .i64 (66 - (fs.size : Int)), .bool op] W fun e' w' => e' = .returned (.tuple #[.int .i64 e, .bool d]) ∧ W = w') := fun W => by
              have := l2divide rs (by omega) (66 - fs.size) (by omega) op W
              rw [he, hd] at this
              rw [hrI]
              exact this
            have HOP : Hid (∀ W : World, Calls Tryd.prog 20 #[.string (rs.extract 0 e)] W fun e' w' => e' = .returned (.bool (openB (rs.data.toList.take e))) ∧ w' = W) := fun W => by
              have := r2open (rs.extract 0 e) (by rw [ByteArray.size_extract]; omega) W
              rw [extract_data, List.drop_zero] at this
              exact this.mono fun e w' ⟨h1, h2⟩ => ⟨h1, h2.symm⟩
            have HOO : Hid ((!(openB (rs.data.toList.take e) == op)) = op') := by
              show _ = _; rw [← hop']; cases op <;> cases openB (rs.data.toList.take e) <;> rfl
            obtain ⟨W2, hW2⟩ : ∃ W2 : ByteArray, W2 = (((((wn ++ (⟨#[48, 48, 48, 48, 48, 48]⟩ : ByteArray).extract 0 z) ++ D) ++ fs) ++ rs.extract 0 e) ++ ⟨#[10]⟩) := ⟨_, rfl⟩
            have HW2 : Hid (W2.data.toList = wn.data.toList ++ lineB (m1 + 1) fs.data.toList (rs.data.toList.take e)) := by
              show _ = _
              have hz2 := HZD.out
              rw [append_data] at hz2
              rw [hW2, append_data, append_data, append_data, append_data, append_data, extract_data, List.drop_zero]
              unfold lineB
              rw [← hz2]
              simp [List.append_assoc]
            have HN1 : Hid (d = true → InAt G1 headBL ((rs.data.toList.drop e).drop (fstN (rs.data.toList.drop e))) false W2.data.toList (m1 + 1)) := by rw [HW2.out]; exact hn1
            have HN2 : Hid (d = false → InAt G1 (if op' then headQL else headML) (rs.data.toList.drop e) op' W2.data.toList (m1 + 1)) := by rw [HW2.out]; exact hn2
            have HWE := Lib.hid hW2
            have HRD : Hid ((rs.extract e rs.size).data.toList = rs.data.toList.drop e) := by show _ = _; rw [extract_data, size_data, List.take_length]
            have hq34 := HQ34.out
            clear he hd hop' hn1 hn2 hW2 hrI
            go_wp2_with fail
            go_quiet ((go_at_call 18; exact Calls.quiet_of_same (HDG.out _)))
            go_wp2_with fail
            refine (HDV.out _).mono ?_; rintro e' w' ⟨rfl, rfl⟩
            have HBW5 : Hid (Below w2.heap.size w2 (wr.drewN nq)) := below_drewN2 _ HBW4.out
            clear HBW4
            generalize wr.drewN nq = w5 at *
            go_wp2_with fail
            go_quiet ((go_at_call 20; exact Calls.quiet_of_same (HOP.out _)))
            rw [HOO.out, ← HWE.out]
            have HBW6 : Hid (Below w2.heap.size w2 (w5.drewN nq)) := below_drewN2 _ HBW5.out
            clear HBW5 hq34
            generalize w5.drewN nq = w6 at *
            have hxs2 : (rs.extract e rs.size).size = rs.size - e := by rw [ByteArray.size_extract]; omega
            have HXS := Lib.hid hxs2
            clear hxs2
            go_wp2_with fail
            refine (HSP.out _).mono ?_; rintro e' w7 ⟨rfl, hb7⟩
            have HBW7 : Hid (Below w2.heap.size w2 w7) := HBW6.out.trans (hb7.mono HBW6.out.size)
            clear hb7 HBW6
            cases d
            · have HI2 := Lib.hid (HN2.out rfl)
              go_wp2_with fail
              refine (HSP.out _).mono ?_; rintro e' w8 ⟨rfl, hb8⟩
              have HBW8 : Hid (Below w2.heap.size w2 w8) := HBW7.out.trans (hb8.mono HBW7.out.size)
              clear hb8 HBW7
              cases op'
              · go_wp2_with fail
                go_roundw
                case rel => exact ⟨W2, rs.extract e rs.size, _, m1 + 1, false, rfl, by go_num, rfl, rfl, by rw [HRD.out, append_data, HT4D.out]; exact HI2, HBW8⟩
                case measure => simp only [strSize]; rw [HXS.out]; omega
              · go_wp2_with fail
                go_roundw
                case rel => exact ⟨W2, rs.extract e rs.size, _, m1 + 1, true, rfl, by go_num, rfl, rfl, by rw [HRD.out, append_data, append_data, HT4D.out]; exact HI2, HBW8⟩
                case measure => simp only [strSize]; rw [HXS.out]; omega
            · have HI1 := Lib.hid (HN1.out rfl)
              go_wp2_with fail
              refine (Tryd.strings_TrimLeft_one (rs.extract e rs.size) 32 (by decide) _).mono ?_; rintro e' w' ⟨rfl, rfl⟩
              have hr3 : (⟨(Lib.trimLeftB (rs.extract e rs.size).data.toList 32).toArray⟩ : ByteArray) = strL ((rs.data.toList.drop e).drop (fstN (rs.data.toList.drop e))) := by
                rw [HRD.out, trimLeft_fstN]; rfl
              rw [hr3]
              obtain ⟨r3, hr4⟩ : ∃ r, r = strL ((rs.data.toList.drop e).drop (fstN (rs.data.toList.drop e))) := ⟨_, rfl⟩
              rw [← hr4]
              have HR3 : Hid (r3.data.toList = (rs.data.toList.drop e).drop (fstN (rs.data.toList.drop e))) := by show _ = _; rw [hr4]; rfl
              have HR3S : Hid (r3.size ≤ rs.size - e) := by
                show _ ≤ _
                rw [size_data, HR3.out, List.length_drop, List.length_drop, HRS.out]; omega
              clear hr3 hr4
              go_wp2_with fail
              go_roundw
              case rel => exact ⟨W2, r3, _, m1 + 1, false, rfl, by go_num, rfl, rfl, by rw [HR3.out, append_data, HT4D.out]; exact HI1, HBW7⟩
              case measure => have := HR3S.out; simp only [strSize]; omega
    · obtain rfl : k = 2 := by omega
      have hws : ws = S := by
        have h1 := HLA.out.goal
        rw [HLS.out] at h1
        refine str_ext ?_
        rw [HS.out, ← h1]; rfl
      subst hws
      go_wp2_with fail
      refine (HLIVE.out _ (HB2.out.trans (HBW.out.mono HB2.out.size))).mono ?_; rintro e w5 ⟨rfl, hb⟩
      go_wp2
      go_ret
      exact ⟨rfl, hb⟩
end Go.Proofs.YtbckdieajfbepaaDoor
