/-
  The contracts of the reader's method finish.
-/
import Derived.Test.YtpalfhfbgfnacaaGreatDoorGD
import Derived.IntWalk
import Derived.Sort.Walk0
namespace Go.Proofs.YtpalfhfbgfnacaaGreatDoor
open Go.RowKit
set_option linter.unusedVariables false
set_option linter.unusedSimpArgs false

set_option maxRecDepth 100000 in
theorem run_strL (A : Option Addr) (xs : List UInt8) (cap : Nat) (w : World) (h : Txt w A xs) :
    (convert 66 9 (.slice A xs.length cap)).run Tryz.prog w = .ok (.string (strL xs)) w := by
  rcases Nat.eq_zero_or_pos xs.length with h0 | h0
  · obtain rfl : xs = [] := List.eq_nil_of_length_eq_zero h0
    rw [run_convert_bytes_string w 66 9 5 A _ cap Tryz.underlying66 Tryz.underlying5 Tryz.underlying9]
    rcases A with _ | a
    · simp [Conv.bytesToString]; rfl
    · refine (run_bytesToString w a _ cap [] ?_).trans rfl
      exact run_loadCells_list (P := Tryz.prog) w a [] (fun j v hj => by simp at hj)
  · obtain ⟨b, off, rfl, hb, hc⟩ := h h0
    have := run_convert_bytes_arg (P := Tryz.prog) w 66 5 Tryz.underlying66 Tryz.underlying5 b off xs.length cap (xs.map fun c => (c.toNat : Int)) (by simp) (fun i hi => by
      rw [hc i _ (List.getElem?_eq_getElem hi)]
      simp [List.getD, hi]) 9 Tryz.underlying9
    refine this.trans ?_
    congr 2
    show strOfNums (xs.map fun c => (c.toNat : Int)) = strL xs
    unfold strOfNums strL
    congr 1
    simp [Function.comp_def]
/-- An owned row of bytes reads as its text. -/
theorem own_txt {w : World} {B : Nat} {a : Option Addr} {cap : Nat} {l : List UInt8} (h : w.ownsRow B 5 1 (.slice a l.length cap) l.length (u8C l)) : Txt w a l := fun hl => by
  obtain ⟨g, cp, e, _, _, hg⟩ := own_form h hl
  injection e with e1 e2 e3
  subst e1; subst e3
  refine ⟨g, 0, rfl, hg, fun j c hj => ?_⟩
  rw [Nat.zero_add]
  exact own_at h j _ (by simp [u8C, hj])

theorem c_clipCards (v : Value) (a : Option Addr) (n cap : Nat) (hv : v = .slice a n cap) (hn : n ≤ cap) (w : World) :
    Calls Tryz.prog 28 #[v] w fun e w' => e = .returned (.slice a n n) ∧ w = w' := by
  subst hv
  go_enter Tryz.func28, Tryz.ntmps28
  go_wp2
  go_ret
  exact ⟨rfl, rfl⟩
theorem c_clipMarks (v : Value) (a : Option Addr) (n cap : Nat) (hv : v = .slice a n cap) (hn : n ≤ cap) (w : World) :
    Calls Tryz.prog 55 #[v] w fun e w' => e = .returned (.slice a n n) ∧ w = w' := by
  subst hv
  go_enter Tryz.func55, Tryz.ntmps55
  go_wp2
  go_ret
  exact ⟨rfl, rfl⟩

theorem bdrewN {B : Nat} {a w : World} (n : Nat) (h : Below B a w) : Below B a (w.drewN n) := ⟨h.os, h.tape, h.output, h.size, h.block⟩
def zeroF : Value := .agg #[.int .i64 0, .int .i64 0, .int .i64 0]
def faultN (e l c : Nat) : Value := .agg #[.int .i64 e, .int .i64 l, .int .i64 c]
set_option maxHeartbeats 1000000 in
theorem c_finish_none {B R O : Nat} {ap : Nat × Nat} {cv tv : Value} (w : World) (h : RdN B R O ap cv tv [] w) :
    Calls Tryz.prog 27 #[.pointer (some ⟨R, 0, none⟩)] w fun e w' => e = .returned zeroF ∧ w' = w.alloc (.cells #[.int .i64 0, .int .i64 0, .int .i64 0] 28) := by
  have hlt : R < w.heap.size := lt_of_block h.rd
  obtain ⟨a, cap, rfl⟩ := own_sl h.cards
  have hc0 : w.cell? ⟨R, 0, none⟩ = some (.slice a 0 cap) := Joins.cell_of_block h.rd 0
  have H := Lib.hid h; clear h
  go_enter Tryz.func27, Tryz.ntmps27
  go_wp2
  go_returns
  exact ⟨rfl, rfl⟩
set_option maxHeartbeats 1000000 in
theorem c_finish_open {B R O Wm : Nat} {ap : Nat × Nat} {cv tv mv : Value} {D : List (Kard × Value)} {c : Kard} (w : World)
    (h : RdC B R O Wm ap cv tv tv mv mv [] D c true true w) (hcd : D.length ≤ 4194304) :
    Calls Tryz.prog 27 #[.pointer (some ⟨R, 0, none⟩)] w fun e w' => e = .returned (faultN 4 ap.1 ap.2) ∧ Below w.heap.size w w' := by
  obtain ⟨g, cap, rfl, hgc, hgB, hgw⟩ := h.form
  have hR : R < w.heap.size := lt_of_block h.rd
  obtain ⟨hc0, hc1, hc2, hc3, hc4, hc5⟩ := h.cells
  have H := Lib.hid h
  clear h
  go_enter Tryz.func27, Tryz.ntmps27
  go_wp2
  go_returns
  exact ⟨rfl, by go_grown⟩

/-- A finished card: the reader is between two cards. -/
theorem RdC.done {B R O Wm : Nat} {ap : Nat × Nat} {cv tc tv mc mv : Value} {D : List (Kard × Value)} {c : Kard} {w : World} (h : RdC B R O Wm ap cv tc tv mc mv c.text D c false false w)
    (ht : w.ownsRow B 5 1 tc 0 []) (hm : MarksFin w B w.heap.size mc c.marks) : RdN B R O ap cv tc (D ++ [(c, mc)]) w :=
  ⟨h.rd, h.op, by rw [cardsC_snoc, List.length_append]; exact h.cards, ht, fun x hx => by
    rcases List.mem_append.1 hx with hx | hx
    · exact (h.fin x hx).more h.ws
    · obtain rfl : x = (c, mc) := by simpa using hx
      exact hm, h.bs, h.br, h.bo⟩
/-- A slice of marks that has been cut at its length. -/
theorem fin_of_own {w : World} {B W : Nat} {a : Option Addr} {cap : Nat} {ms : List (Nat × Nat × Nat)} (h : w.ownsRow W 52 3 (.slice a ms.length cap) ms.length (marksC ms)) (hB : B ≤ W) : MarksFin w B w.heap.size (.slice a ms.length ms.length) ms := by
  rcases h.2 with ⟨e, h0⟩ | ⟨g, cp, cur, e, hb, hh, hc, _, _, ht⟩
  · injection e with e1 e2 e3
    subst e1
    exact .inl ⟨by rw [h0], List.eq_nil_of_length_eq_zero h0⟩
  · injection e with e1 e2 e3
    subst e1
    exact .inr ⟨g, cur, rfl, Nat.le_trans hB hb, lt_of_block hh, hh, ht⟩
theorem own_le {w : World} {B : Nat} {e : TypeId} {size n cap : Nat} {a : Option Addr} {xs : List Value} (h : w.ownsRow B e size (.slice a n cap) n xs) : n ≤ cap := by
  rcases h.2 with ⟨e, h0⟩ | ⟨g, cp, cur, e, hb, hh, hc, _⟩
  · omega
  · injection e with e1 e2 e3; omega
theorem own_cut0 {w : World} {B : Nat} {e : TypeId} {size n cap : Nat} {a : Option Addr} {xs : List Value} (h : w.ownsRow B e size (.slice a n cap) n xs) : w.ownsRow B e size (.slice a 0 cap) 0 [] := by
  rcases h.2 with ⟨e, h0⟩ | ⟨g, cp, cur, e, hb, hh, hc, hm, hs, _⟩
  · injection e with e1 e2 e3
    subst e1; subst e3
    exact World.ownsRow_nil _ _ _ _
  · injection e with e1 e2 e3
    subst e1; subst e3
    exact ⟨by simp, .inr ⟨g, _, cur, rfl, hb, hh, Nat.zero_le _, hm, hs, by simp⟩⟩
theorem RdN.turns {B R O : Nat} {ap : Nat × Nat} {cv tv : Value} {D : List (Kard × Value)} {w w' : World} (h : RdN B R O ap cv tv D w) (ht : Turns 28 w w') : RdN B R O ap cv tv D w' :=
  ⟨ht.block _ _ _ _ h.rd (by decide), ht.block _ _ _ _ h.op (by decide), own_turns h.cards ht (by decide), own_turns h.text ht (by decide),
    fun x hx => ((h.fin x hx).turns ht (by decide)).more ht.size, Nat.le_trans h.bs ht.size, h.br, h.bo⟩
def FinPost (B R O : Nat) (ap : Nat × Nat) (cv : Value) (D : List (Kard × Value)) (c : Kard) (w : World) (e : Ending) (w' : World) : Prop :=
  e = .returned zeroF ∧ Below B w w' ∧ Fr w w' ∧ ∃ tv m, RdN B R O ap cv tv (D ++ [(c, m)]) w'
set_option maxHeartbeats 2000000 in
theorem c_finish_done {B R O Wm : Nat} {ap : Nat × Nat} {cv tv mv : Value} {D : List (Kard × Value)} {c : Kard} (w : World)
    (h : RdC B R O Wm ap cv tv tv mv mv [] D c false false w) (hct : c.text.length ≤ 134217728) (hcm : c.marks.length ≤ 4194304) (hcd : D.length ≤ 4194304) :
    Calls Tryz.prog 27 #[.pointer (some ⟨R, 0, none⟩)] w (FinPost B R O ap cv D c w) := by
  obtain ⟨g, cap, rfl, hgc, hgB, hgw⟩ := h.form
  obtain ⟨ma, mcap, rfl⟩ := own_sl h.marks
  obtain ⟨ta, tcap, rfl⟩ := own_sl h.text
  have hmc := own_le h.marks
  have htc := own_le h.text
  have hR : R < w.heap.size := lt_of_block h.rd
  obtain ⟨hc0, hc1, hc2, hc3, hc4, hc5⟩ := h.cells
  obtain ⟨hf0, hf1, hf2, hf3, hf4, hf5⟩ := h.free
  obtain ⟨hk0, hk1, hk2⟩ := h.card
  have hkf1 := h.cardFree (D.length * 3 + 1)
  have hkf2 := h.cardFree (D.length * 3 + 2)
  obtain ⟨hgR, hgO, hRO⟩ := h.ne
  have hi0 : IntKind.i64.wrap (((D.length + 1 : Nat) : Int) - 1) = (D.length : Int) := by
    rw [IntWalk.i64_in _ (by omega)]; omega
  have HV : ∀ n, Hid ((convert 66 9 (.slice ta c.text.length tcap)).run Tryz.prog ((w.alloc (.cells #[.int .i64 0, .int .i64 0, .int .i64 0] 28)).drewN n) = .ok (.string (strL c.text)) ((w.alloc (.cells #[.int .i64 0, .int .i64 0, .int .i64 0] 28)).drewN n)) := fun n =>
    run_strL ta c.text tcap _ (own_txt (((h.alloc _).drewN n).text))
  have H := Lib.hid h; clear h
  go_enter Tryz.func27, Tryz.ntmps27
  go_wp2
  go_quiet (fail)
  have hv := (HV nq).out
  clear HV
  go_wp2
  go_returns
  obtain ⟨W0, hW0⟩ : ∃ W0, W0 = (w.alloc (.cells #[.int .i64 0, .int .i64 0, .int .i64 0] 28)).drewN nq := ⟨_, rfl⟩
  rw [← hW0]
  have b0 : W0.heap[w.heap.size]? = some (.cells #[.int .i64 0, .int .i64 0, .int .i64 0] 28 (0, 0)) := by rw [hW0]; exact heap_alloc_new w _
  have HA := (H.out.alloc (.cells #[.int .i64 0, .int .i64 0, .int .i64 0] 28)).drewN nq
  have hb0 : Below B w W0 := by rw [hW0]; exact bdrewN _ ((Below.refl _ _).alloc H.out.bs _)
  rw [← hW0] at HA
  have HB := HA.setCard c.text
  have HC := HB.setMarks (.slice ma c.marks.length c.marks.length)
  have HD := HC.setText (.slice ta 0 tcap)
  have HN := HD.done (own_cut0 HD.text) (fin_of_own HD.marks HD.bw)
  have hgN : w.heap.size ≠ g := by omega
  have hRN : w.heap.size ≠ R := by omega
  have b1 := (Below.heap_setCell (W0.setCell ⟨g, D.length * 3 + 1, none⟩ (.string (strL c.text))) ⟨g, D.length * 3 + 2, none⟩ (.slice ma c.marks.length c.marks.length) w.heap.size hgN).trans ((Below.heap_setCell W0 ⟨g, D.length * 3 + 1, none⟩ (.string (strL c.text)) w.heap.size hgN).trans b0)
  have b2 := (Below.heap_setCell _ ⟨R, 1, none⟩ (.slice ta 0 tcap) w.heap.size hRN).trans b1
  have N1 := HN.turns (Turns.setCell b2 0 (.int .i64 0))
  have b3 := Joins.block_setCell (i := 0) b2 (.int .i64 0)
  have N2 := N1.turns (Turns.setCell b3 1 (.int .i64 0))
  have b4 := Joins.block_setCell (i := 1) b3 (.int .i64 0)
  have N3 := N2.turns (Turns.setCell b4 2 (.int .i64 0))
  have F0 : Fr w W0 := by rw [hW0]; exact Fr.of_below (bdrewN _ ((Below.refl _ _).alloc (Nat.le_refl _) _))
  obtain ⟨cs0, fz0, hg0⟩ := own_kind HA.cards g rfl
  have F1 := F0.trans (Fr.of_turns (Turns.setCell hg0 (D.length * 3 + 1) (.string (strL c.text))) (by decide) (by decide) (by decide))
  obtain ⟨cs1, fz1, hg1⟩ := own_kind HB.cards g rfl
  have F2 := F1.trans (Fr.of_turns (Turns.setCell hg1 (D.length * 3 + 2) (.slice ma c.marks.length c.marks.length)) (by decide) (by decide) (by decide))
  have F3 := F2.trans (Fr.of_turns (Turns.setCell HC.rd 1 (.slice ta 0 tcap)) (by decide) (by decide) (by decide))
  have F6 := ((F3.newCell (Nat.le_refl _) 0 (.int .i64 0)).newCell (Nat.le_refl _) 1 (.int .i64 0)).newCell (Nat.le_refl _) 2 (.int .i64 0)
  refine ⟨rfl, ?_, F6, _, _, N3⟩
  have hbN : B ≤ w.heap.size := H.out.bs
  exact (((((hb0.setCell hgB _).setCell hgB _).setCell H.out.br _).setCell hbN _).setCell hbN _).setCell hbN _
end Go.Proofs.YtpalfhfbgfnacaaGreatDoor
