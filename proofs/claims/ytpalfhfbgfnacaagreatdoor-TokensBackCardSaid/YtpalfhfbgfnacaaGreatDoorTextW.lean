/-
  The contract of the writer's method text.
-/
import Derived.Test.YtpalfhfbgfnacaaGreatDoorLine
import Derived.Test.YtpalfhfbgfnacaaGreatDoorLast
import Derived.Test.YtpalfhfbgfnacaaGreatDoorGW
import Derived.Deep.QuietTactic
import Derived.BigQuiet
namespace Go.Proofs.YtpalfhfbgfnacaaGreatDoor
open Go.RowKit
set_option linter.unusedVariables false
set_option linter.unusedSimpArgs false

theorem alloc_at2 (w : World) (o : Obj) (n : Nat) (hn : n = w.heap.size) : (w.alloc o).heap[n]? = some o := by subst hn; exact heap_alloc_new w o
theorem WrAt.drewN {B Wr : Nat} {ov : Value} {o : List UInt8} {n : Nat} {w : World} (h : WrAt B Wr ov o n w) (k : Nat) : WrAt B Wr ov o n (w.drewN k) := h.kept (Nat.le_refl _) fun _ _ => rfl
theorem WrAt.alloc {B Wr : Nat} {ov : Value} {o : List UInt8} {n : Nat} {w : World} (h : WrAt B Wr ov o n w) (ob : Obj) : WrAt B Wr ov o n (w.alloc ob) := h.kept (by simp) (kept_alloc w ob)
theorem below_drewN2 {B : Nat} {a w : World} (n : Nat) (h : Below B a w) : Below B a (w.drewN n) := ⟨h.os, h.tape, h.output, h.size, h.block⟩
def OpAt (O : Nat) (b : Bool) (w : World) : Prop := w.heap[O]? = some (.cells #[.bool b] 4 (0, 0))

/-- What the loop of text knows. -/
structure TxtAt (B Wr O : Nat) (goal : List UInt8 × Nat) (head rest : List UInt8) (op : Bool) (w0 w : World) : Prop where
  ex : ∃ (f n : Nat) (o : List UInt8) (ov : Value), rest.length < f ∧ (o ++ (layF f n head rest op).1, (layF f n head rest op).2) = goal ∧ WrAt B Wr ov o n w ∧ o.length + (rest.length / 2 + 1) * 80 ≤ 1048576 ∧ n + rest.length ≤ 65536
  op : OpAt O op w
  below : Below B w0 w
  bo : B ≤ O
/-- What text has done: its bytes are o', its lines n'. -/
def TextPost (B Wr : Nat) (g : List UInt8 × Nat) (w : World) (e : Ending) (w' : World) : Prop :=
  e = .returned (.bool true) ∧ Below B w w' ∧ ∃ ov, WrAt B Wr ov g.1 g.2 w'
theorem TxtAt.next {B Wr O : Nat} {goal : List UInt8 × Nat} {head rest head' rest' : List UInt8} {op b : Bool} {w0 w w1 w2 : World} {f n : Nat} {o : List UInt8} {ov2 : Value} {e : Nat} (hbo : B ≤ O)
    (hf : rest.length < f + 1) (hg : (o ++ (lineB (n + 1) head (rest.take e) ++ (layF f (n + 1) head' rest' b).1), (layF f (n + 1) head' rest' b).2) = goal) (hh : head.length ≤ 6) (he : 1 ≤ e) (her : e ≤ rest.length) (hr : rest'.length + e ≤ rest.length) (hr2 : rest'.length + 2 ≤ rest.length) (hhe : head.length + e ≤ 66)
    (hl : o.length + (rest.length / 2 + 1) * 80 ≤ 1048576) (hn : n + rest.length ≤ 65536) (h1 : WrAt B Wr ov2 (o ++ lineB (n + 1) head (rest.take e)) (n + 1) w1) (hO : OpAt O op w) (hu : Turns2 95 5 w w1)
    (ht : OneTurn O 4 (.bool b) w1 w2) (hb0 : Below B w0 w) (hb1 : Below B w w1) : TxtAt B Wr O goal head' rest' b w0 w2 := by
  have hO1 : OpAt O op w1 := hu.block _ _ _ _ hO (by decide) (by decide)
  have hT := ht.turns hO1
  refine ⟨⟨f, n + 1, _, ov2, by omega, by rw [List.append_assoc]; exact hg, h1.turns hT (by decide) (by decide), ?_, by omega⟩, ht.here, (hb0.trans hb1).trans (ht.below hbo), hbo⟩
  have := lineB_len (n + 1) head (rest.take e)
  rw [List.length_append, this, List.length_take, Nat.min_eq_left her]
  omega
set_option maxHeartbeats 4000000 in
set_option maxRecDepth 100000 in
theorem c_text {B Wr : Nat} {ov : Value} {o : List UInt8} {n : Nat} (left : Bool) (text : ByteArray) (w : World) (h : WrAt B Wr ov o n w) (htab : Lib.TabBelow Tryz.prog B w "internal/strconv.uint64pow10" .u64 Lib.pow10Tab)
    (ht : text.size ≤ 32768) (ho : o.length + (text.size / 2 + 1) * 80 ≤ 1048576) (hn : n + text.size ≤ 65536) (f : Nat) (hf : text.size < f) :
    Calls Tryz.prog 39 #[.pointer (some ⟨Wr, 0, none⟩), .agg #[.bool left, .string text]] w
      (TextPost B Wr (o ++ (layF f n (if left then headAL else headBL) text.data.toList false).1, (layF f n (if left then headAL else headBL) text.data.toList false).2) w) := by
  have hlt : Wr < w.heap.size := lt_of_block h.wr
  have H := Lib.hid h
  have HT := Lib.hid htab
  clear h htab
  have hen := opens_enter
  have hsz := Lib.hid (size_data text)
  obtain ⟨G, hG⟩ : ∃ G, G = (o ++ (layF f n (if left then headAL else headBL) text.data.toList false).1, (layF f n (if left then headAL else headBL) text.data.toList false).2) := ⟨_, rfl⟩
  have HG := Lib.hid hG
  rw [← hG]
  clear hG
  have hbs := H.out.bs
  go_enter Tryz.func39, Tryz.ntmps39
  go_wp2
  go_quiet (fail)
  go_upto_if 15 with fail
  go_cut [5] (fun s5 wx => ∃ hd : ByteArray, s5 = .string hd ∧ Hid (hd.data.toList = if left then headAL else headBL) ∧ 1 ≤ hd.size ∧ hd.size ≤ 6 ∧ wx = (w.alloc (.cells #[.bool left, .string text] 49)).drewN nq)
  case first =>
    cases left
    · go_wp2
      go_meet
      exact ⟨_, rfl, rfl, by decide, by decide, rfl⟩
    · go_wp2
      go_meet
      exact ⟨_, rfl, rfl, by decide, by decide, rfl⟩
  case rest =>
    obtain ⟨hd0, rfl, HD0, hd1, hd6, rfl⟩ := hcut
    rw [← HD0.out] at HG
    go_wp2_with fail
    refine (c_opener _).mono ?_; rintro e w1 ⟨rfl, rfl⟩
    unfold opener
    go_wp2_with fail
    go_loopw [5, 6, 7] (fun h r b wr => ∃ (hd rs : ByteArray) (op : Bool), h = .string hd ∧ r = .string rs ∧ b = .bool op ∧ 1 ≤ hd.size ∧ hd.size ≤ 6 ∧ rs.size ≤ 32768 ∧ Hid (TxtAt B Wr (w.heap.size + 1) G hd.data.toList rs.data.toList op w wr))
      (fun _ r _ _ => strSize r)
    case atStart =>
      refine ⟨hd0, text, false, rfl, rfl, rfl, hd1, hd6, ht, ⟨⟨f, n, o, ov, by rw [← hsz.out]; exact hf, HG.out.symm, ((H.out.alloc _).drewN nq).alloc _, by rw [← hsz.out]; exact ho, by rw [← hsz.out]; omega⟩, ?_, ?_, ?_⟩⟩
      · show OpAt _ _ _
        unfold OpAt
        exact alloc_at2 _ _ _ (by simp)
      · exact ((below_drewN2 nq ((Below.refl _ _).alloc hbs _))).alloc (by simp; omega) _
      · omega
    case round =>
      obtain ⟨hd, rs, op, rfl, rfl, rfl, hh1, hh6, hrs, HX⟩ := hrel
      obtain ⟨⟨f', n', o', ov', hff, hgoal, HW, hbo, hbn⟩, hop, hbe, hbo2⟩ := HX.out
      obtain ⟨f2, rfl⟩ : ∃ f2, f' = f2 + 1 := ⟨f' - 1, by omega⟩
      have HGO := Lib.hid hgoal; have HWW := Lib.hid HW; have HOP := Lib.hid hop; have HBE := Lib.hid hbe
      have HRS := Lib.hid (size_data rs)
      have HHS := Lib.hid (size_data hd)
      have HTB := Lib.hid (HT.out.on hbe)
      have hbo' : o'.length + (rs.size / 2 + 1) * 80 ≤ 1048576 := by rw [HRS.out]; exact hbo
      have hbn' : n' + rs.size ≤ 65536 := by rw [HRS.out]; exact hbn
      have HFF := Lib.hid hff; have HBO := Lib.hid hbo; have HBN := Lib.hid hbn
      clear hgoal HW hop hbe hbo hbn hff HX
      obtain ⟨room, hroom⟩ : ∃ room : Nat, (66 : Int) - (hd.size : Int) = (room : Int) := ⟨66 - hd.size, by omega⟩
      have hroom2 : room + hd.size = 66 := by omega
      have HRM : Hid (66 - hd.data.toList.length = room) := by show _ = _; rw [← HHS.out]; omega
      by_cases hfit : (rs.size : Int) ≤ (room : Int)
      · have HLF := Lib.hid (layF_last f2 n' hd.data.toList rs.data.toList op (by rw [HRM.out, ← HRS.out]; omega))
        go_wp2_with fail
        refine (c_line hd rs wr HWW.out HTB.out (by omega) (by omega) (by omega) (by omega)).mono ?_; rintro e w2 ⟨rfl, hb2, hu2, ov2, HW2⟩
        have hll := lineB_len (n' + 1) hd.data.toList rs.data.toList
        rw [← HRS.out, ← HHS.out] at hll
        have hle : (o' ++ lineB (n' + 1) hd.data.toList rs.data.toList).length ≤ 1048576 := by rw [List.length_append, hll]; omega
        rw [decide_eq_true hle]
        have HPOST : Hid (TextPost B Wr G w (.returned (.bool true)) w2) := ⟨rfl, HBE.out.trans hb2, ov2, by
          rw [← HGO.out, HLF.out]; exact HW2⟩
        clear hll hle hb2 hu2 HW2
        go_wp2
        go_returns
        exact HPOST.out
      · have hrl : room + 1 ≤ rs.size := by omega
        have hrl2 : (room : Int) + 1 ≤ (rs.size : Int) := by omega
        have HD1 : Hid ((rs.extract 0 (room + 1)).data.toList = rs.data.toList.take (room + 1)) := by show _ = _; rw [extract_data, List.drop_zero]
        have HD2 : Hid ((rs.data.toList.take (room + 1)).length = room + 1) := by show _ = _; rw [List.length_take, ← HRS.out]; omega
        have hEle := lastHit_le (rs.data.toList.take (room + 1)) op (room + 1)
        have HCUT : Hid (cutAt rs.data.toList op room = if 0 < lastHit (rs.data.toList.take (room + 1)) op (room + 1) then (lastHit (rs.data.toList.take (room + 1)) op (room + 1), true) else (room, false)) := rfl
        go_wp2_with fail
        refine (c_last (rs.extract 0 (room + 1)) (by rw [ByteArray.size_extract]; omega) op _).mono ?_; rintro e w' ⟨rfl, rfl⟩
        rw [HD1.out, HD2.out]
        generalize lastHit (rs.data.toList.take (room + 1)) op (room + 1) = E at *
        by_cases hpos : (0 : Int) < (E : Int)
        · have HC2 : Hid (cutAt rs.data.toList op (66 - hd.data.toList.length) = (E, true)) := by show _ = _; rw [HRM.out]; exact HCUT.out.trans (if_pos (by omega))
          have HLF := Lib.hid (layF_space f2 n' hd.data.toList rs.data.toList op E (by rw [HRM.out, ← HRS.out]; omega) HC2.out)
          have hE1 : E ≤ rs.size := by omega
          have hE2 : (E : Int) ≤ (rs.size : Int) := by omega
          have HD3 : Hid ((rs.extract 0 E).data.toList = rs.data.toList.take E) := by show _ = _; rw [extract_data, List.drop_zero]
          have HD4 : Hid ((rs.extract E rs.size).data.toList = rs.data.toList.drop E) := by show _ = _; rw [extract_data, List.take_of_length_le (by rw [HRS.out]; exact Nat.le_refl _)]
          have hposN : 0 < E := by omega
          go_wp2_with fail
          refine (c_line hd (rs.extract 0 E) wr HWW.out HTB.out (by omega) (by omega) (by rw [ByteArray.size_extract]; omega) (by omega)).mono ?_; rintro e w2 ⟨rfl, hb2, hu2, ov2, HW2⟩
          rw [HD3.out] at HW2
          have hll := lineB_len (n' + 1) hd.data.toList (rs.data.toList.take E)
          rw [List.length_take, ← HRS.out, ← HHS.out] at hll
          have hle : (o' ++ lineB (n' + 1) hd.data.toList (rs.extract 0 E).data.toList).length ≤ 1048576 := by rw [HD3.out, List.length_append, hll]; omega
          rw [decide_eq_true hle]
          have HO2 : OpAt (w.heap.size + 1) op w2 := hu2.block _ _ _ _ HOP.out (by decide) (by decide)
          have HB2 := Lib.hid hb2; have HU2 := Lib.hid hu2; have HW2' := Lib.hid HW2
          clear hll hle hb2 hu2 HW2
          go_wp2_with fail
          refine (c_opens (rs.extract 0 E) (by rw [ByteArray.size_extract]; omega) _ op w2 HO2).mono ?_; rintro e w3 ⟨rfl, hot⟩
          rw [HD3.out] at hot ⊢
          have HOT := Lib.hid hot
          clear hot HO2
          generalize hb : (op ^^ openB (rs.data.toList.take E)) = b at *
          have HBB := Lib.hid hb; clear hb
          go_wp2_with fail
          refine (Tryz.strings_TrimLeft_one (rs.extract E rs.size) 32 (by decide) _).mono ?_; rintro e w4 ⟨rfl, rfl⟩
          rw [HD4.out, trimLeft_fstN]
          obtain ⟨v, hv, hvs, HVS⟩ := strVar ((rs.data.toList.drop E).drop (fstN (rs.data.toList.drop E)))
          have hv2 : (⟨((rs.data.toList.drop E).drop (fstN (rs.data.toList.drop E))).toArray⟩ : ByteArray) = v := hv.symm
          rw [hv2]
          have HVD : Hid (v.data.toList = (rs.data.toList.drop E).drop (fstN (rs.data.toList.drop E))) := by rw [hv]; rfl
          have hfs : 1 ≤ fstN (rs.data.toList.drop E) ∧ fstN (rs.data.toList.drop E) ≤ rs.size - E := by
            obtain ⟨_, _, ⟨c, hc, h32⟩, _⟩ := cut_space HC2.out
            have h1 := fstN_drop rs.data.toList E c hc
            rw [if_pos h32] at h1
            have h2 := fstN_le (rs.data.toList.drop E)
            rw [List.length_drop, ← HRS.out] at h2
            omega
          have hvE : v.size + E ≤ rs.size := by rw [HVS.out, List.length_drop, List.length_drop, ← HRS.out]; omega
          have hvE2 : v.size + E + 1 ≤ rs.size := by rw [HVS.out, List.length_drop, List.length_drop, ← HRS.out]; omega
          clear hv hv2 hvs
          go_wp2
          go_roundw
          case rel =>
            refine ⟨_, v, b, rfl, rfl, rfl, by decide, by decide, by omega, ?_⟩
            have hg := HGO.out
            rw [HLF.out, ← HVD.out] at hg
            exact TxtAt.next (head' := headBL) hbo2 HFF.out hg (by rw [← HHS.out]; omega) hposN (by rw [← HRS.out]; omega) (by rw [← HRS.out, ← size_data]; exact hvE) (by rw [← HRS.out, ← size_data]; omega) (by rw [← HHS.out]; omega) HBO.out HBN.out HW2'.out HOP.out HU2.out HOT.out HBE.out HB2.out
          case measure => simp only [strSize_mk]; omega
        · have hneg : ¬ 0 < E := by omega
          have hC3 : cutAt rs.data.toList op (66 - hd.data.toList.length) = (room, false) := by rw [HRM.out]; exact HCUT.out.trans (if_neg hneg)
          have HC2 := Lib.hid hC3; clear hC3
          have HLF := fun b hb => Lib.hid (layF_hard f2 n' hd.data.toList rs.data.toList op room (by rw [HRM.out, ← HRS.out]; omega) HC2.out b hb)
          have hE1 : room ≤ rs.size := by omega
          have hE2 : (room : Int) ≤ (rs.size : Int) := by omega
          have hr0 : 1 ≤ room := by omega
          have HD3 : Hid ((rs.extract 0 room).data.toList = rs.data.toList.take room) := by show _ = _; rw [extract_data, List.drop_zero]
          have HD4 : Hid ((rs.extract room rs.size).data.toList = rs.data.toList.drop room) := by show _ = _; rw [extract_data, List.take_of_length_le (by rw [HRS.out]; exact Nat.le_refl _)]
          have HD5 : Hid ((rs.extract room rs.size).size = rs.size - room) := by show _ = _; rw [ByteArray.size_extract]; omega
          go_wp2_with fail
          refine (c_line hd (rs.extract 0 room) wr HWW.out HTB.out (by omega) (by omega) (by rw [ByteArray.size_extract]; omega) (by omega)).mono ?_; rintro e w2 ⟨rfl, hb2, hu2, ov2, HW2⟩
          rw [HD3.out] at HW2
          have hll := lineB_len (n' + 1) hd.data.toList (rs.data.toList.take room)
          rw [List.length_take, ← HRS.out, ← HHS.out] at hll
          have hle : (o' ++ lineB (n' + 1) hd.data.toList (rs.extract 0 room).data.toList).length ≤ 1048576 := by rw [HD3.out, List.length_append, hll]; omega
          rw [decide_eq_true hle]
          have HO2 : OpAt (w.heap.size + 1) op w2 := hu2.block _ _ _ _ HOP.out (by decide) (by decide)
          have HB2 := Lib.hid hb2; have HU2 := Lib.hid hu2; have HW2' := Lib.hid HW2
          clear hll hle hb2 hu2 HW2
          go_wp2_with fail
          refine (c_opens (rs.extract 0 room) (by rw [ByteArray.size_extract]; omega) _ op w2 HO2).mono ?_; rintro e w3 ⟨rfl, hot⟩
          rw [HD3.out] at hot ⊢
          have HOT := Lib.hid hot
          clear hot HO2
          generalize hb : (op ^^ openB (rs.data.toList.take room)) = b at *
          have HLB := HLF b rfl
          clear hb HLF
          cases b
          · go_wp2
            go_roundw
            case rel =>
              refine ⟨_, rs.extract room rs.size, false, rfl, rfl, rfl, by decide, by decide, by rw [HD5.out]; omega, ?_⟩
              have hg := HGO.out
              rw [HLB.out, ← HD4.out] at hg
              exact TxtAt.next (head' := headML) hbo2 HFF.out hg (by rw [← HHS.out]; omega) hr0 (by rw [← HRS.out]; omega) (by rw [← HRS.out, ← size_data, HD5.out]; omega) (by rw [← HRS.out, ← size_data, HD5.out]; omega) (by rw [← HHS.out]; omega) HBO.out HBN.out HW2'.out HOP.out HU2.out HOT.out HBE.out HB2.out
            case measure => simp only [strSize_mk]; rw [HD5.out]; omega
          · go_wp2
            go_roundw
            case rel =>
              refine ⟨_, rs.extract room rs.size, true, rfl, rfl, rfl, by decide, by decide, by rw [HD5.out]; omega, ?_⟩
              have hg := HGO.out
              rw [HLB.out, ← HD4.out] at hg
              exact TxtAt.next (head' := headQL) hbo2 HFF.out hg (by rw [← HHS.out]; omega) hr0 (by rw [← HRS.out]; omega) (by rw [← HRS.out, ← size_data, HD5.out]; omega) (by rw [← HRS.out, ← size_data, HD5.out]; omega) (by rw [← HHS.out]; omega) HBO.out HBN.out HW2'.out HOP.out HU2.out HOT.out HBE.out HB2.out
            case measure => simp only [strSize_mk]; rw [HD5.out]; omega
end Go.Proofs.YtpalfhfbgfnacaaGreatDoor
