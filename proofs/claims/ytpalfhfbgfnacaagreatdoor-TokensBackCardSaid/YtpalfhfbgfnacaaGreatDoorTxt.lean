/-
  The contract of package tokens' Text.
-/
import Derived.Test.YtpalfhfbgfnacaaGreatDoorFmt
import Derived.Test.YtpalfhfbgfnacaaGreatDoorGC
import Derived.Lib.Join
import Derived.Deep.OwnRows
namespace Go.Proofs.YtpalfhfbgfnacaaGreatDoor
open Go.RowKit
set_option linter.unusedVariables false
set_option linter.unusedSimpArgs false

/-- The cells of the parts when k of them are made. -/
def pcells (A : List ByteArray) (k : Nat) : Array Value := ((A.take k ++ List.replicate (A.length - k) (⟨#[]⟩ : ByteArray)).map Value.string).toArray
theorem pcells_zero (A : List ByteArray) : pcells A 0 = Array.replicate A.length (.string ⟨#[]⟩) := by simp [pcells]
theorem pcells_all (A : List ByteArray) : pcells A A.length = (A.map Value.string).toArray := by simp [pcells]
theorem pcells_get (A : List ByteArray) (k : Nat) (h : k < A.length) : (pcells A k)[k]? = some (.string ⟨#[]⟩) := by
  unfold pcells
  rw [List.getElem?_toArray, List.getElem?_map, List.getElem?_append_right (by simp; omega)]
  rw [List.length_take, Nat.min_eq_left (by omega), Nat.sub_self, List.getElem?_replicate, if_pos (by omega)]
  rfl
theorem pcells_set (A : List ByteArray) (k : Nat) (a : ByteArray) (h : A[k]? = some a) : (pcells A k).setIfInBounds k (.string a) = pcells A (k + 1) := by
  have hk : k < A.length := lt_of_get h
  unfold pcells
  rw [List.setIfInBounds_toArray, ← List.map_set]
  congr 2
  have e : A.length - k = A.length - (k + 1) + 1 := by omega
  rw [e, List.replicate_succ, List.set_append_right _ _ (by simp; omega), List.length_take, Nat.min_eq_left (by omega), Nat.sub_self]
  rw [List.set_cons_zero, List.take_add_one, h]
  simp
theorem made_str (n : Nat) : madeCells (Value.cells (.string ⟨#[]⟩)) (n * 1) = Array.replicate n (.string ⟨#[]⟩) := by
  apply Array.ext
  · simp [madeCells]
  · intro i h1 h2; simp [madeCells, Value.cells, Nat.mod_one]
theorem make_str (n : Nat) (hn : n ≤ 1048576) (w : World) :
    (Instr.makeSlice 69 (.int .i64 (n : Int)) (.int .i64 (n : Int))).run Tryz.prog w = .ok (.slice (some ⟨w.heap.size, 0, none⟩) n n) (w.alloc (.cells (Array.replicate n (.string ⟨#[]⟩)) 9)) := by
  obtain ⟨i0, hi, hz0, hz1, hz2⟩ := info_parts Tryz.infoStr
  have hr := run_make (P := Tryz.prog) w 69 9 i0 (.string ⟨#[]⟩) Tryz.underlying69 hi hz0 .i64 .i64 n n (by omega) (by omega) (by rw [hz2]; omega) (by omega)
  rw [hz1] at hr
  simp only [Int.toNat_natCast] at hr
  rw [made_str] at hr
  exact hr
theorem joinT_lib : ∀ L : List (List UInt8), joinT L = Lib.join L [32]
  | [] => by rw [joinT, Lib.join_nil]
  | [x] => by rw [joinT, Lib.join_one]
  | x :: y :: L => by
    rw [joinT, joinT_lib (y :: L), Lib.join_cons, Lib.join_cons]
    simp [Lib.joinTail]
/-- The parts of a text. -/
def partsT (L : List Tok) : List ByteArray := L.map fun t => strL (fmtT t.kind t.text)
theorem partsT_len (L : List Tok) : (partsT L).length = L.length := by simp [partsT]
theorem textT_parts (L : List Tok) : textT L = Lib.join ((partsT L).map (·.data.toList)) [32] := by
  unfold textT partsT
  rw [joinT_lib, List.map_map]
  rfl
theorem partsT_at (L : List Tok) (k : Nat) (t : Tok) (h : L[k]? = some t) : (partsT L)[k]? = some (strL (fmtT t.kind t.text)) := by
  unfold partsT
  rw [List.getElem?_map, h]
  rfl
theorem join_leT (B : Nat) (c : UInt8) : ∀ L : List (List UInt8), (∀ x ∈ L, x.length ≤ B) → (Lib.join L [c]).length ≤ L.length * (B + 1)
  | [], _ => by simp [Lib.join_nil]
  | [x], h => by
    have := h x (by simp)
    rw [Lib.join_one]
    simp
    omega
  | x :: y :: L, h => by
    have h1 := h x (by simp)
    have h2 := join_leT B c (y :: L) (fun z hz => h z (by simp at hz ⊢; exact .inr hz))
    rw [Lib.join_cons] at h2 ⊢
    rw [List.length_cons (a := x), Nat.succ_mul]
    simp [Lib.joinTail] at h2 ⊢
    omega
theorem textT_len (L : List Tok) (B : Nat) (h : ∀ t ∈ L, t.text.length ≤ B) : (textT L).length ≤ L.length * (2 * B + 3) := by
  unfold textT
  rw [joinT_lib]
  have := join_leT (2 * B + 2) 32 (L.map fun t => fmtT t.kind t.text) (fun x hx => by
    obtain ⟨t, ht, rfl⟩ := List.mem_map.1 hx
    have h1 := fmtT_len t.kind t.text
    have h2 := h t ht
    omega)
  rw [List.length_map] at this
  exact this
set_option maxHeartbeats 2000000 in
set_option maxRecDepth 100000 in
theorem c_textT (v : Value) (L : List Tok) (w : World) (h : ToksAt w v L) (hl : L.length ≤ 65536) (ht : ∀ t ∈ L, t.text.length ≤ 134217729) (hx : MaxLenAt w) :
    Calls Tryz.prog 35 #[v] w fun e w' => e = .returned (.string (strL (textT L))) ∧ Below w.heap.size w w' := by
  have hml : 1 < w.heap.size := by obtain ⟨m, hm⟩ := hx; exact lt_of_cellR hm
  have HML := Lib.hid hml
  have HX := Lib.hid hx
  obtain ⟨a, cap, rfl, hcap, hlen, hcells⟩ := h
  have HC := Lib.hid hcells
  have HT := Lib.hid ht
  have hmk := make_str L.length (by omega)
  have hjl : (Lib.join ((partsT L).map (·.data.toList)) [32]).length ≤ 140737488355328 := by
    have h1 := textT_len L 134217729 ht
    have h2 : L.length * (2 * 134217729 + 3) ≤ 65536 * (2 * 134217729 + 3) := Nat.mul_le_mul hl (Nat.le_refl _)
    rw [← textT_parts]
    omega
  have HJN : Hid (∀ W : World, W.heap[w.heap.size]? = some (.cells (pcells (partsT L) L.length) 9 (0, 0)) → Calls Tryz.prog 67 #[.slice (some ⟨w.heap.size, 0, none⟩) L.length L.length, .string ⟨#[32]⟩] W fun e w' => e = .returned (.string (strL (textT L))) ∧ Below W.heap.size W w') := fun W hW => by
    have hp := partsT_len L
    have := Tryz.strings_Join w.heap.size 0 L.length (partsT L) ⟨#[32]⟩ W (fun j y hy => by
      rw [Nat.zero_add]
      have h1 := Joins.cell_of_block hW j
      rw [h1]
      rw [← hp, pcells_all, List.getElem?_toArray, List.getElem?_map, hy]
      rfl) (lt_of_block hW) (by omega) (by omega) hjl
    rw [hp] at this
    rw [textT_parts]
    exact this
  clear hx hml hcells ht hjl
  go_enter Tryz.func35, Tryz.ntmps35
  go_upto_region 2 with fail
  clear hmk
  obtain ⟨w1, hw1⟩ : ∃ w1, w1 = w.alloc (.cells (Array.replicate L.length (.string ⟨#[]⟩)) 9) := ⟨_, rfl⟩
  have HP1 : Hid (w1.heap[w.heap.size]? = some (.cells (pcells (partsT L) 0) 9 (0, 0))) := by
    show _ = _
    rw [hw1, pcells_zero, partsT_len]
    exact heap_alloc_new _ _
  have HB1 : Hid (Below w.heap.size w w1) := by show Below _ _ _; rw [hw1]; exact (Below.refl _ _).alloc (Nat.le_refl _) _
  rw [← hw1]
  clear hw1
  go_wp2_with fail
  go_loopw [11] (fun i wr => ∃ k : Nat, k ≤ L.length ∧ i = .int .i64 k ∧ Hid (wr.heap[w.heap.size]? = some (.cells (pcells (partsT L) k) 9 (0, 0))) ∧ Hid (Below w.heap.size w wr)) (fun i _ => L.length - (intOf i).toNat)
  case atStart => exact ⟨0, Nat.zero_le _, rfl, HP1, HB1⟩
  case round =>
    clear HP1 HB1
    obtain ⟨k, hk, rfl, HP, HB⟩ := hrel
    have hwz := lt_of_block HP.out
    by_cases hlt : k < L.length
    · obtain ⟨b, o, rfl, hbw, hc⟩ := HC.out (by omega)
      obtain ⟨x, hget⟩ : ∃ x, L[k]? = some x := ⟨_, List.getElem?_eq_getElem hlt⟩
      obtain ⟨e0, e1, e2, e3, e4, e5⟩ := hc k _ hget
      have hxt := HT.out x (List.mem_of_getElem? hget)
      obtain ⟨xk, xt, xl, xc, xf⟩ := x
      simp only at e0 e1 e2 e3 e4 e5 hxt
      obtain ⟨t, htt, hts, HTS⟩ := strVar xt
      have HPA : Hid ((partsT L)[k]? = some (strL (fmtT xk t.data.toList))) := by
        show _ = _
        rw [partsT_at L k _ hget, htt, strL_data]
      have d0 := (HB.out.cell (p := ⟨b, o + k * 5, none⟩) hbw).trans e1
      have d1 := (HB.out.cell (p := ⟨b, o + k * 5 + 1, none⟩) hbw).trans e2
      have d2 := (HB.out.cell (p := ⟨b, o + k * 5 + 2, none⟩) hbw).trans e3
      have d3 := (HB.out.cell (p := ⟨b, o + k * 5 + 3, none⟩) hbw).trans e4
      have d4 := (HB.out.cell (p := ⟨b, o + k * 5 + 4, none⟩) hbw).trans e5
      rw [← htt] at d1
      have hts2 : t.size ≤ 134217729 := by omega
      clear e1 e2 e3 e4 e5 hc hget htt hts hxt
      go_upto_region 5 with fail
      obtain ⟨w2, hw2⟩ : ∃ w2, w2 = wr.alloc (.cells #[.int .u8 xk, .string t, .int .i64 xl, .int .i64 xc, .bool xf] 44) := ⟨_, rfl⟩
      obtain ⟨N, hN⟩ : ∃ N, N = wr.heap.size := ⟨_, rfl⟩
      have HN2 : Hid (w2.heap[N]? = some (.cells #[.int .u8 xk, .string t, .int .i64 xl, .int .i64 xc, .bool xf] 44 (0, 0))) := by
        show _ = _
        rw [hw2, hN]
        exact heap_alloc_new _ _
      have HB2 : Hid (Below w.heap.size w w2) := by
        show Below _ _ _
        rw [hw2]
        exact HB.out.alloc (by omega) _
      have HP2 : Hid (w2.heap[w.heap.size]? = some (.cells (pcells (partsT L) k) 9 (0, 0))) := by
        show _ = _
        rw [hw2]
        exact (Below.heap_alloc _ _ _ hwz).trans HP.out
      rw [← hw2, ← hN]
      clear hw2 hN d0 d1 d2 d3 d4 HP HB hwz
      have y0 := Joins.cell_of_block HN2.out 0
      have y1 := Joins.cell_of_block HN2.out 1
      have y2 := Joins.cell_of_block HN2.out 2
      have y3 := Joins.cell_of_block HN2.out 3
      have y4 := Joins.cell_of_block HN2.out 4
      simp only [List.getElem?_toArray, List.getElem?_cons_zero, List.getElem?_cons_succ] at y0 y1 y2 y3 y4
      have hx2 : MaxLenAt w2 := by
        obtain ⟨m, hm⟩ := HX.out
        exact ⟨m, (HB2.out.cell (p := ⟨1, 0, none⟩) HML.out).trans hm⟩
      have HF := Lib.hid (format_any xk xl xc xf t e0 hts2 w2 hx2)
      have hkp : k < (partsT L).length := by rw [partsT_len]; exact hlt
      clear hx2
      go_wp2_with (go_at_call 66; refine HF.out.mono ?_; rintro e w3 ⟨rfl, hb3⟩; have HB3 : Hid (Below w.heap.size w w3) := HB2.out.trans (hb3.mono HB2.out.size); have HP3 : Hid (w3.heap[w.heap.size]? = some (.cells (pcells (partsT L) k) 9 (0, 0))) := (hb3.block _ (lt_of_block HP2.out)).trans HP2.out; have z0 : w3.cell? ⟨w.heap.size, k, none⟩ = some (.string ⟨#[]⟩) := (Joins.cell_of_block HP3.out k).trans (pcells_get _ _ hkp); have f0 := Joins.unfrozen_of_block HP3.out k; clear hb3)
      go_roundw
      case rel => exact ⟨k + 1, by omega, by go_num, by show _ = _; rw [← pcells_set _ _ _ HPA.out]; exact Joins.block_setCell HP3.out _, HB3.out.setCell (Nat.le_refl _) _⟩
      case measure => simp [intOf]; omega
    · obtain rfl : k = L.length := by omega
      go_wp2_with (go_at_call 67; refine (HJN.out _ HP.out).mono ?_; rintro e w3 ⟨rfl, hb3⟩)
      go_returns
      exact ⟨rfl, HB.out.trans (hb3.mono (by omega))⟩
end Go.Proofs.YtpalfhfbgfnacaaGreatDoor
