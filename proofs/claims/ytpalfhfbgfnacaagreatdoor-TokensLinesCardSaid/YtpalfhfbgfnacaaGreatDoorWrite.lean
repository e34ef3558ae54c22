/-
  The contract of package columns' function Write.
-/
import Derived.Test.YtpalfhfbgfnacaaGreatDoorTextW
import Derived.Test.YtpalfhfbgfnacaaGreatDoorFin
namespace Go.Proofs.YtpalfhfbgfnacaaGreatDoor
open Go.RowKit
set_option linter.unusedVariables false
set_option linter.unusedSimpArgs false

/-- A slice of lines that reads as L. -/
def LinesIn (w : World) (b cap : Nat) (L : List (Bool × List UInt8)) : Prop :=
  b < w.heap.size ∧ ∀ k x, L[k]? = some x → w.cell? ⟨b, k * 2, none⟩ = some (.bool x.1) ∧ w.cell? ⟨b, k * 2 + 1, none⟩ = some (.string (strL x.2))
theorem LinesIn.below {w w' : World} {b cap : Nat} {L : List (Bool × List UInt8)} (h : LinesIn w b cap L) (hb : Below w.heap.size w w') : LinesIn w' b cap L :=
  ⟨Nat.lt_of_lt_of_le h.1 hb.size, fun k x hx => ⟨(hb.cell h.1).trans (h.2 k x hx).1, (hb.cell h.1).trans (h.2 k x hx).2⟩⟩
def writeV (L : List (Bool × List UInt8)) : Value :=
  if L.all (fun x => rightB x.2) = true then .tuple #[.string (strL (layAll L ([], 0)).1), .int .i64 0] else .tuple #[.string ⟨#[]⟩, .int .i64 1]

set_option maxHeartbeats 4000000 in
set_option maxRecDepth 100000 in
theorem c_write (b cap : Nat) (L : List (Bool × List UInt8)) (w : World) (hL : LinesIn w b cap L) (htab : Lib.TabIs Tryz.prog w "internal/strconv.uint64pow10" .u64 Lib.pow10Tab)
    (hl : ∀ x ∈ L, x.2.length ≤ 2048) (hn : L.length ≤ 2) :
    Calls Tryz.prog 16 #[.slice (some ⟨b, 0, none⟩) L.length cap] w fun e w' => e = .returned (writeV L) ∧ Below w.heap.size w w' := by
  have HL := Lib.hid hL
  have HTB := Lib.hid (Lib.tabBelow_of_tabIs htab)
  have HLL := Lib.hid hl
  have hbl : b < w.heap.size := hL.1
  clear hL htab hl
  go_enter Tryz.func16, Tryz.ntmps16
  go_wp2
  go_loopw [11] (fun i wr => ∃ k : Nat, k ≤ L.length ∧ i = .int .i64 k ∧ Hid (∀ j x, j < k → L[j]? = some x → rightB x.2 = true) ∧ Hid (Below w.heap.size w wr)) (fun i _ => L.length - (intOf i).toNat)
  case atStart => exact ⟨0, Nat.zero_le _, rfl, fun j x hj => by omega, Below.refl _ _⟩
  case round =>
    obtain ⟨k, hk, rfl, HA, HB⟩ := hrel
    by_cases hlt : k < L.length
    · have hget : L[k]? = some L[k] := List.getElem?_eq_getElem hlt
      obtain ⟨hc0, hc1⟩ := (HL.out.below HB.out).2 k _ hget
      have hxl := HLL.out L[k] (List.getElem_mem hlt)
      have HX := Lib.hid hget; clear hget
      obtain ⟨x, hx⟩ : ∃ x, x = L[k] := ⟨_, rfl⟩
      rw [← hx] at hc0 hc1 hxl
      have HXX : Hid (L[k]? = some x) := by show _ = _; rw [HX.out, hx]
      clear hx HX
      go_wp2_with fail
      refine (c_complete (strL x.2) (by rw [strL_size]; omega) _).mono ?_; rintro e w2 ⟨rfl, hb2⟩
      rw [strL_data]
      have HB2 : Hid (Below w.heap.size w w2) := by
        show Below _ _ _
        have := HB.out.size
        exact (HB.out.alloc this _).trans (hb2.mono (by simp; omega))
      clear hb2
      cases hr : rightB x.2
      · have HF : Hid (writeV L = .tuple #[.string ⟨#[]⟩, .int .i64 1]) := by
          show _ = _
          unfold writeV
          rw [if_neg]
          intro h
          rw [List.all_eq_true] at h
          have := h x (List.mem_of_getElem? HXX.out)
          rw [hr] at this; cases this
        clear hr
        go_wp2
        go_returns
        exact ⟨by rw [HF.out]; rfl, HB2.out⟩
      · have HA2 : Hid (∀ j y, j < k + 1 → L[j]? = some y → rightB y.2 = true) := by
          intro j y hj hy
          by_cases e : j = k
          · subst e
            have := HXX.out
            rw [hy] at this; injection this with this; subst this; exact hr
          · exact HA.out j y (by omega) hy
        clear hr
        go_wp2
        go_roundw
        case rel => exact ⟨k + 1, by omega, by go_num, HA2, HB2⟩
        case measure => simp [intOf]; omega
    · have HALL : Hid (L.all (fun x => rightB x.2) = true) := by
        show _ = _
        rw [List.all_eq_true]
        intro x hx
        obtain ⟨j, hj⟩ := List.mem_iff_getElem?.1 hx
        have hjl : j < L.length := by
          rcases Nat.lt_or_ge j L.length with h | h
          · exact h
          · rw [List.getElem?_eq_none h] at hj; cases hj
        exact HA.out j x (by omega) hj
      obtain ⟨wo, rfl⟩ : ∃ wo : World, wo = wr := ⟨_, rfl⟩
      have hbs := HB.out.size
      go_wp2
      go_loopw [24] (fun i wr => ∃ (k : Nat) (ov : Value) (st : List UInt8 × Nat), k ≤ L.length ∧ i = .int .i64 k ∧ Hid (layAll (L.drop k) st = layAll L ([], 0)) ∧ Hid (WrAt w.heap.size wo.heap.size ov st.1 st.2 wr) ∧ Hid (Below w.heap.size w wr) ∧ st.2 ≤ k * 2050 ∧ st.1.length ≤ k * 170000) (fun i _ => L.length - (intOf i).toNat)
      case atStart =>
        refine ⟨0, .slice none 0 0, ([], 0), Nat.zero_le _, rfl, rfl, ⟨heap_alloc_new wo _, World.ownsRow_nil _ _ _ _, by simp; omega, hbs⟩, HB.out.alloc hbs _, by simp, by simp⟩
      case round =>
        obtain ⟨k2, ov, st, hk2, rfl, HST, HW, HB2, hs2, hs1⟩ := hrel
        by_cases hlt2 : k2 < L.length
        · have hget : L[k2]? = some L[k2] := List.getElem?_eq_getElem hlt2
          obtain ⟨hc0, hc1⟩ := (HL.out.below HB2.out).2 k2 _ hget
          have hxl := HLL.out L[k2] (List.getElem_mem hlt2)
          have HX := Lib.hid hget; clear hget
          obtain ⟨x, hx⟩ : ∃ x, x = L[k2] := ⟨_, rfl⟩
          rw [← hx] at hc0 hc1 hxl
          have HXX : Hid (L[k2]? = some x) := by show _ = _; rw [HX.out, hx]
          have HSTEP := Lib.hid (layAll_step L k2 x HXX.out st)
          have HBD := Lib.hid (layF_bound (x.2.length + 1) st.2 (if x.1 then headAL else headBL) x.2 false (by omega) (by cases x.1 <;> decide) (by cases x.1 <;> decide))
          clear hx HX
          have hk2' : k2 ≤ 1 := by omega
          have hbs2 := HB2.out.size
          go_wp2_with fail
          refine (c_text x.1 (strL x.2) _ (HW.out.kept (by simp) (kept_alloc _ _)) (HTB.out.on (HB2.out.alloc hbs2 _)) (by rw [strL_size]; omega) (by rw [strL_size]; omega) (by omega) (x.2.length + 1) (by rw [strL_size]; omega)).mono ?_
          rintro e w3 ⟨rfl, hb3, ov3, HW3⟩
          rw [strL_data] at HW3
          have HW3' := Lib.hid HW3
          have HB3 : Hid (Below w.heap.size w w3) := (HB2.out.alloc hbs2 _).trans hb3
          clear hb3 HW3
          go_wp2
          go_roundw
          case rel =>
            refine ⟨k2 + 1, ov3, (st.1 ++ (layF (x.2.length + 1) st.2 (if x.1 then headAL else headBL) x.2 false).1, (layF (x.2.length + 1) st.2 (if x.1 then headAL else headBL) x.2 false).2), by omega, by go_num, ?_, HW3'.out, HB3.out, ?_, ?_⟩
            · show _ = _
              rw [← HSTEP.out]; exact HST.out
            · have := HBD.out.2
              show (layF _ _ _ _ _).2 ≤ _
              omega
            · have := HBD.out.1
              show (st.1 ++ (layF _ _ _ _ _).1).length ≤ _
              rw [List.length_append]; omega
          case measure => simp [intOf]; omega
        · obtain ⟨oa, oc, rfl⟩ := own_sl HW.out.out
          have hc0 := HW.out.cells.1
          have HFIN : Hid (writeV L = .tuple #[.string (strL st.1), .int .i64 0]) := by
            show _ = _
            unfold writeV
            rw [if_pos HALL.out]
            have := HST.out
            rw [List.drop_eq_nil_of_le (by omega)] at this
            rw [← this]; rfl
          have hv := run_strL oa st.1 oc _ (own_txt HW.out.out)
          go_wp2
          go_returns
          exact ⟨by rw [HFIN.out]; rfl, HB2.out⟩
end Go.Proofs.YtpalfhfbgfnacaaGreatDoor
