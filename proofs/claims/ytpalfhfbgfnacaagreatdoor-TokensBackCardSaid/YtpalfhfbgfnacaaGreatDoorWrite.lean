/-
  The contract of package columns' function Write.
-/
import Derived.Test.YtpalfhfbgfnacaaGreatDoorTextW
import Derived.Test.YtpalfhfbgfnacaaGreatDoorFin
namespace Go.Proofs.YtpalfhfbgfnacaaGreatDoor
open Go.RowKit
set_option linter.unusedVariables false
set_option linter.unusedSimpArgs false

/-- A slice of lines that reads as L. -/
def LinesIn (w : World) (b cap : Nat) (L : List (Bool × List UInt8)) : Prop :=
  b < w.heap.size ∧ ∀ k x, L[k]? = some x → w.cell? ⟨b, k * 2, none⟩ = some (.bool x.1) ∧ w.cell? ⟨b, k * 2 + 1, none⟩ = some (.string (strL x.2))
theorem LinesIn.below {w w' : World} {b cap : Nat} {L : List (Bool × List UInt8)} (h : LinesIn w b cap L) (hb : Below w.heap.size w w') : LinesIn w' b cap L :=
  ⟨Nat.lt_of_lt_of_le h.1 hb.size, fun k x hx => ⟨(hb.cell h.1).trans (h.2 k x hx).1, (hb.cell h.1).trans (h.2 k x hx).2⟩⟩
def writeV (L : List (Bool × List UInt8)) : Value :=
  if L.all (fun x => rightB x.2) = true then .tuple #[.string (strL (layAll L ([], 0)).1), .int .i64 0] else .tuple #[.string ⟨#[]⟩, .int .i64 1]

/-- The bytes that texts may take, laid out. -/
def roomH : List (Bool × List UInt8) → Nat
  | [] => 0
  | x :: L => (x.2.length / 2 + 1) * 80 + roomH L
def sumH : List (Bool × List UInt8) → Nat
  | [] => 0
  | x :: L => x.2.length + 1 + sumH L
theorem roomH_drop {L : List (Bool × List UInt8)} {k : Nat} {x : Bool × List UInt8} (h : L[k]? = some x) : roomH (L.drop k) = (x.2.length / 2 + 1) * 80 + roomH (L.drop (k + 1)) ∧ sumH (L.drop k) = x.2.length + 1 + sumH (L.drop (k + 1)) := by
  have hk : k < L.length := by
    rcases Nat.lt_or_ge k L.length with h' | h'
    · exact h'
    · rw [List.getElem?_eq_none h'] at h; cases h
  rw [List.drop_eq_getElem_cons hk]
  rw [List.getElem?_eq_getElem hk] at h
  injection h with h
  rw [h]; exact ⟨rfl, rfl⟩
theorem layF_half : ∀ (f n : Nat) (head rest : List UInt8) (op : Bool), rest.length < f → 1 ≤ head.length → head.length ≤ 6 → (layF f n head rest op).1.length ≤ (rest.length / 2 + 1) * 80
  | 0, _, _, _, _, h, _, _ => by omega
  | f + 1, n, head, rest, op, hf, h1, h6 => by
    by_cases hfit : rest.length ≤ 66 - head.length
    · rw [layF_last f n head rest op hfit]
      show (lineB (n + 1) head rest).length ≤ _
      rw [lineB_len]; omega
    · rcases hc : cutAt rest op (66 - head.length) with ⟨e, d⟩
      cases d
      · have he : e = 66 - head.length := by
          unfold cutAt at hc
          split at hc
          · injection hc with _ h2; cases h2
          · injection hc with h1 _; exact h1.symm
        have hlen := lineB_len (n + 1) head (rest.take e)
        rw [List.length_take, Nat.min_eq_left (by omega)] at hlen
        rw [layF_hard f n head rest op e hfit hc _ rfl]
        have hd : (rest.drop e).length = rest.length - e := List.length_drop ..
        generalize (op ^^ openB (rest.take e)) = b
        have ih := layF_half f (n + 1) (if b then headQL else headML) (rest.drop e) b (by omega) (by cases b <;> decide) (by cases b <;> decide)
        rw [hd] at ih
        rw [List.length_append, hlen]; omega
      · obtain ⟨he1, he2, ⟨c, hcs, h32⟩, _⟩ := cut_space hc
        have hlen := lineB_len (n + 1) head (rest.take e)
        rw [List.length_take, Nat.min_eq_left (by omega)] at hlen
        rw [layF_space f n head rest op e hfit hc]
        have hfs := fstN_drop rest e c hcs
        rw [if_pos h32] at hfs
        have hd : ((rest.drop e).drop (fstN (rest.drop e))).length + e + 1 ≤ rest.length := by rw [List.length_drop, List.length_drop, hfs]; omega
        generalize (op ^^ openB (rest.take e)) = b
        have ih := layF_half f (n + 1) headBL ((rest.drop e).drop (fstN (rest.drop e))) b (by omega) (by decide) (by decide)
        rw [List.length_append, hlen]; omega
set_option maxHeartbeats 4000000 in
set_option maxRecDepth 100000 in
theorem c_writeS (b cap : Nat) (L : List (Bool × List UInt8)) (w : World) (hL : LinesIn w b cap L) (htab : Lib.TabIs Tryz.prog w "internal/strconv.uint64pow10" .u64 Lib.pow10Tab)
    (hl : ∀ x ∈ L, x.2.length ≤ 32768) (hn : L.length ≤ 1048576) (hro : roomH L ≤ 1048576) (hsu : sumH L ≤ 65536) :
    Calls Tryz.prog 16 #[.slice (some ⟨b, 0, none⟩) L.length cap] w fun e w' => e = .returned (writeV L) ∧ Below w.heap.size w w' := by
  have HL := Lib.hid hL
  have HTB := Lib.hid (Lib.tabBelow_of_tabIs htab)
  have HLL := Lib.hid hl
  have hbl : b < w.heap.size := hL.1
  clear hL htab hl
  go_enter Tryz.func16, Tryz.ntmps16
  go_wp2
  go_loopw [11] (fun i wr => ∃ k : Nat, k ≤ L.length ∧ i = .int .i64 k ∧ Hid (∀ j x, j < k → L[j]? = some x → rightB x.2 = true) ∧ Hid (Below w.heap.size w wr)) (fun i _ => L.length - (intOf i).toNat)
  case atStart => exact ⟨0, Nat.zero_le _, rfl, fun j x hj => by omega, Below.refl _ _⟩
  case round =>
    obtain ⟨k, hk, rfl, HA, HB⟩ := hrel
    by_cases hlt : k < L.length
    · have hget : L[k]? = some L[k] := List.getElem?_eq_getElem hlt
      obtain ⟨hc0, hc1⟩ := (HL.out.below HB.out).2 k _ hget
      have hxl := HLL.out L[k] (List.getElem_mem hlt)
      have HX := Lib.hid hget; clear hget
      obtain ⟨x, hx⟩ : ∃ x, x = L[k] := ⟨_, rfl⟩
      rw [← hx] at hc0 hc1 hxl
      have HXX : Hid (L[k]? = some x) := by show _ = _; rw [HX.out, hx]
      clear hx HX
      go_wp2_with fail
      refine (c_complete (strL x.2) (by rw [strL_size]; omega) _).mono ?_; rintro e w2 ⟨rfl, hb2⟩
      rw [strL_data]
      have HB2 : Hid (Below w.heap.size w w2) := by
        show Below _ _ _
        have := HB.out.size
        exact (HB.out.alloc this _).trans (hb2.mono (by simp; omega))
      clear hb2
      cases hr : rightB x.2
      · have HF : Hid (writeV L = .tuple #[.string ⟨#[]⟩, .int .i64 1]) := by
          show _ = _
          unfold writeV
          rw [if_neg]
          intro h
          rw [List.all_eq_true] at h
          have := h x (List.mem_of_getElem? HXX.out)
          rw [hr] at this; cases this
        clear hr
        go_wp2
        go_returns
        exact ⟨by rw [HF.out]; rfl, HB2.out⟩
      · have HA2 : Hid (∀ j y, j < k + 1 → L[j]? = some y → rightB y.2 = true) := by
          intro j y hj hy
          by_cases e : j = k
          · subst e
            have := HXX.out
            rw [hy] at this; injection this with this; subst this; exact hr
          · exact HA.out j y (by omega) hy
        clear hr
        go_wp2
        go_roundw
        case rel => exact ⟨k + 1, by omega, by go_num, HA2, HB2⟩
        case measure => simp [intOf]; omega
    · have HALL : Hid (L.all (fun x => rightB x.2) = true) := by
        show _ = _
        rw [List.all_eq_true]
        intro x hx
        obtain ⟨j, hj⟩ := List.mem_iff_getElem?.1 hx
        have hjl : j < L.length := by
          rcases Nat.lt_or_ge j L.length with h | h
          · exact h
          · rw [List.getElem?_eq_none h] at hj; cases hj
        exact HA.out j x (by omega) hj
      obtain ⟨wo, rfl⟩ : ∃ wo : World, wo = wr := ⟨_, rfl⟩
      have hbs := HB.out.size
      go_wp2
      go_loopw [24] (fun i wr => ∃ (k : Nat) (ov : Value) (st : List UInt8 × Nat), k ≤ L.length ∧ i = .int .i64 k ∧ Hid (layAll (L.drop k) st = layAll L ([], 0)) ∧ Hid (WrAt w.heap.size wo.heap.size ov st.1 st.2 wr) ∧ Hid (Below w.heap.size w wr) ∧ st.2 + sumH (L.drop k) ≤ 65536 ∧ st.1.length + roomH (L.drop k) ≤ 1048576) (fun i _ => L.length - (intOf i).toNat)
      case atStart =>
        refine ⟨0, .slice none 0 0, ([], 0), Nat.zero_le _, rfl, rfl, ⟨heap_alloc_new wo _, World.ownsRow_nil _ _ _ _, by simp; omega, hbs⟩, HB.out.alloc hbs _, by simpa using hsu, by simpa using hro⟩
      case round =>
        obtain ⟨k2, ov, st, hk2, rfl, HST, HW, HB2, hs2, hs1⟩ := hrel
        by_cases hlt2 : k2 < L.length
        · have hget : L[k2]? = some L[k2] := List.getElem?_eq_getElem hlt2
          obtain ⟨hc0, hc1⟩ := (HL.out.below HB2.out).2 k2 _ hget
          have hxl := HLL.out L[k2] (List.getElem_mem hlt2)
          have HX := Lib.hid hget; clear hget
          obtain ⟨x, hx⟩ : ∃ x, x = L[k2] := ⟨_, rfl⟩
          rw [← hx] at hc0 hc1 hxl
          have HXX : Hid (L[k2]? = some x) := by show _ = _; rw [HX.out, hx]
          have HSTEP := Lib.hid (layAll_step L k2 x HXX.out st)
          have HBD := Lib.hid (layF_bound (x.2.length + 1) st.2 (if x.1 then headAL else headBL) x.2 false (by omega) (by cases x.1 <;> decide) (by cases x.1 <;> decide))
          clear hx HX
          obtain ⟨hr1, hr2⟩ := roomH_drop HXX.out
          have HLH := Lib.hid (layF_half (x.2.length + 1) st.2 (if x.1 then headAL else headBL) x.2 false (by omega) (by cases x.1 <;> decide) (by cases x.1 <;> decide))
          rw [hr2] at hs2
          rw [hr1] at hs1
          have HS2 := Lib.hid hs2
          have HS1 := Lib.hid hs1
          have ho1 : st.1.length + ((strL x.2).size / 2 + 1) * 80 ≤ 1048576 := by rw [strL_size]; omega
          have ho2 : st.2 + (strL x.2).size ≤ 65536 := by rw [strL_size]; omega
          clear hr1 hr2 hs1 hs2
          have hbs2 := HB2.out.size
          go_wp2_with fail
          refine (c_text x.1 (strL x.2) _ (HW.out.kept (by simp) (kept_alloc _ _)) (HTB.out.on (HB2.out.alloc hbs2 _)) (by rw [strL_size]; omega) ho1 ho2 (x.2.length + 1) (by rw [strL_size]; omega)).mono ?_
          rintro e w3 ⟨rfl, hb3, ov3, HW3⟩
          rw [strL_data] at HW3
          have HW3' := Lib.hid HW3
          have HB3 : Hid (Below w.heap.size w w3) := (HB2.out.alloc hbs2 _).trans hb3
          clear hb3 HW3
          go_wp2
          go_roundw
          case rel =>
            refine ⟨k2 + 1, ov3, (st.1 ++ (layF (x.2.length + 1) st.2 (if x.1 then headAL else headBL) x.2 false).1, (layF (x.2.length + 1) st.2 (if x.1 then headAL else headBL) x.2 false).2), by omega, by go_num, ?_, HW3'.out, HB3.out, ?_, ?_⟩
            · show _ = _
              rw [← HSTEP.out]; exact HST.out
            · have h1 := HBD.out.2
              have h2 := HS2.out
              show (layF _ _ _ _ _).2 + _ ≤ _
              omega
            · have h1 := HLH.out
              have h2 := HS1.out
              show (st.1 ++ (layF _ _ _ _ _).1).length + _ ≤ _
              rw [List.length_append]; omega
          case measure => simp [intOf]; omega
        · obtain ⟨oa, oc, rfl⟩ := own_sl HW.out.out
          have hc0 := HW.out.cells.1
          have HFIN : Hid (writeV L = .tuple #[.string (strL st.1), .int .i64 0]) := by
            show _ = _
            unfold writeV
            rw [if_pos HALL.out]
            have := HST.out
            rw [List.drop_eq_nil_of_le (by omega)] at this
            rw [← this]; rfl
          have hv := run_strL oa st.1 oc _ (own_txt HW.out.out)
          go_wp2
          go_returns
          exact ⟨by rw [HFIN.out]; rfl, HB2.out⟩
theorem c_write (b cap : Nat) (L : List (Bool × List UInt8)) (w : World) (hL : LinesIn w b cap L) (htab : Lib.TabIs Tryz.prog w "internal/strconv.uint64pow10" .u64 Lib.pow10Tab)
    (hl : ∀ x ∈ L, x.2.length ≤ 2048) (hn : L.length ≤ 2) :
    Calls Tryz.prog 16 #[.slice (some ⟨b, 0, none⟩) L.length cap] w fun e w' => e = .returned (writeV L) ∧ Below w.heap.size w w' := by
  have h : roomH L ≤ 1048576 ∧ sumH L ≤ 65536 := by
    match L, hn with
    | [], _ => exact ⟨by decide, by decide⟩
    | [x], _ =>
      have := hl x (by simp)
      simp only [roomH, sumH]; omega
    | [x, y], _ =>
      have h1 := hl x (by simp)
      have h2 := hl y (by simp)
      simp only [roomH, sumH]; omega
  exact c_writeS b cap L w hL htab (fun x hx => by have := hl x hx; omega) (by omega) h.1 h.2
end Go.Proofs.YtpalfhfbgfnacaaGreatDoor
