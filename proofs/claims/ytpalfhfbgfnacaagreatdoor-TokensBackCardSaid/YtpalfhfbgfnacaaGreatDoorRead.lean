/-
  The contract of package columns' Read.
-/
import Derived.Test.YtpalfhfbgfnacaaGreatDoorReadL
import Derived.Test.YtpalfhfbgfnacaaGreatDoorRes
import Derived.Test.YtpalfhfbgfnacaaGreatDoorGC
import Derived.Test.YtpalfhfbgfnacaaGreatDoorShelf
import Derived.WalkMore
namespace Go.Proofs.YtpalfhfbgfnacaaGreatDoor
open Go.RowKit
set_option linter.unusedVariables false
set_option linter.unusedSimpArgs false
attribute [local go_sem] eqFault guardFault neqFault

/-- The library's own variable that strings.Split reads. -/
theorem lt_of_cellR {w : World} {p : Addr} {v : Value} (h : w.cell? p = some v) : p.block < w.heap.size := by
  rcases Nat.lt_or_ge p.block w.heap.size with hk | hk
  · exact hk
  · unfold World.cell? at h
    rw [Array.getElem?_eq_none hk] at h
    simp at h
def MaxLenAt (w : World) : Prop := ∃ m, w.cell? ⟨1, 0, none⟩ = some (.int .i64 m)
/-- The slices of the cards have no room behind them. -/
def TightAt (w : World) (v : Value) (L : List Kard) : Prop :=
  ∃ a, v = .slice a L.length L.length ∧ ∀ b o, a = some ⟨b, o, none⟩ → ∀ k c, L[k]? = some c → ∃ m, w.cell? ⟨b, o + k * 3 + 2, none⟩ = some (.slice m c.marks.length c.marks.length)
def ReadPost (u : Bool) (text : List UInt8) (debug : Bool) (w : World) (e : Ending) (w' : World) : Prop :=
  Below w.heap.size w w' ∧ match readBU u text debug with
    | .inl f => e = .returned (.tuple #[.slice none 0 0, faultN f.1 f.2.1 f.2.2]) ∧ f.1 ≠ 0
    | .inr ks => ∃ v, e = .returned (.tuple #[v, zeroF]) ∧ KardsAt w' v ks ∧ TightAt w' v ks
/-- The pieces of a text. -/
def piecesA (s : ByteArray) : List ByteArray := Lib.splitB ⟨#[10]⟩ 0 (Lib.countB s ⟨#[10]⟩) s
theorem piecesA_data (s : ByteArray) : (piecesA s).map (·.data.toList) = piecesG [] s.data.toList := by
  unfold piecesA
  rw [Lib.splitB_data]
  exact split_pieces _
theorem piecesA_len (s : ByteArray) : (piecesA s).length = Lib.countB s ⟨#[10]⟩ + 1 := Lib.splitB_all ⟨#[10]⟩ (by decide) 0 _ s rfl
theorem piecesA_get (s : ByteArray) (k : Nat) (p : ByteArray) (h : (piecesA s)[k]? = some p) : (piecesG [] s.data.toList)[k]? = some p.data.toList := by
  rw [← piecesA_data, List.getElem?_map, h]; rfl
theorem c_split (s : ByteArray) (m : Int) (W : World) (hm : W.cell? ⟨1, 0, none⟩ = some (.int .i64 m)) (hs : s.size ≤ 1048576) (N PL : Nat) (hN : W.heap.size = N) (hP : PL = (piecesA s).length) :
    Calls Tryz.prog 21 #[.string s, .string ⟨#[10]⟩] W fun e w' => e = .returned (.slice (some ⟨N, 0, none⟩) PL PL) ∧ w' = W.alloc (.cells ((piecesA s).map Value.string).toArray 9) := by
  subst hN; subst hP
  refine (Tryz.strings_Split s ⟨#[10]⟩ m W (by omega) hm (by decide)).mono ?_
  rintro e w' ⟨rfl, rfl⟩
  rw [piecesA_len]
  exact ⟨rfl, rfl⟩
/-- The world ahead of the first line. -/
structure Start (w w1 : World) (S : Obj) : Prop where
  rd : RdN w.heap.size (w.heap.size + 2) (w.heap.size + 1) (0, 0) (.slice none 0 0) (.slice none 0 0) [] w1
  res : w1.heap[w.heap.size]? = some (.cells #[.int .i64 0, .int .i64 0, .int .i64 0] 28 (0, 0))
  str : w1.heap[w.heap.size + 3]? = some S
  below : Below w.heap.size w w1
theorem start_of (w w1 : World) (S : Obj) (h : w1 = (((w.alloc (.cells #[.int .i64 0, .int .i64 0, .int .i64 0] 28)).alloc (.cells #[.bool false] 4)).alloc (.cells #[.slice none 0 0, .slice none 0 0, .bool false, .int .i64 0, .int .i64 0, opener (w.heap.size + 1)] 68)).alloc S) : Start w w1 S := by
  subst h
  have h0 : ((((w.alloc (.cells #[.int .i64 0, .int .i64 0, .int .i64 0] 28)).alloc (.cells #[.bool false] 4)).alloc (.cells #[.slice none 0 0, .slice none 0 0, .bool false, .int .i64 0, .int .i64 0, opener (w.heap.size + 1)] 68)).alloc S).heap.size = w.heap.size + 4 := by simp
  refine ⟨⟨?_, ?_, World.ownsRow_nil _ _ _ _, World.ownsRow_nil _ _ _ _, (fun x hx => by simp at hx), by rw [h0]; omega, by omega, by omega⟩, ?_, ?_, ?_⟩
  · refine (Below.heap_alloc _ _ _ (by simp)).trans ?_
    exact alloc_at5 _ _ _ (by simp)
  · refine (Below.heap_alloc _ _ _ (by simp)).trans ((Below.heap_alloc _ _ _ (by simp)).trans ?_)
    exact alloc_at5 _ _ _ (by simp)
  · refine (Below.heap_alloc _ _ _ (by simp; omega)).trans ((Below.heap_alloc _ _ _ (by simp; omega)).trans ((Below.heap_alloc _ _ _ (by simp)).trans ?_))
    exact alloc_at5 _ _ _ rfl
  · exact alloc_at5 _ _ _ (by simp)
  · exact ((((Below.refl _ _).alloc (Nat.le_refl _) _).alloc (by simp) _).alloc (by simp; omega) _).alloc (by simp; omega) _
/-- The cards of a reader that is between two cards, in the slice that is cut at its length. -/
theorem kards_of {B R O : Nat} {ap : Nat × Nat} {a : Option Addr} {cap : Nat} {tv : Value} {D : List (Kard × Value)} {w : World} (h : RdN B R O ap (.slice a D.length cap) tv D w) (hD : D.length ≤ 1048576) (hM : ∀ x ∈ D, x.1.marks.length ≤ 1048576) :
    KardsAt w (.slice a D.length D.length) (D.map Prod.fst) := by
  rcases h.cards.2 with ⟨e, h0⟩ | ⟨g, cp, cur, e, hb, hh, hc, _⟩
  · injection e with e1 e2 e3
    subst e1
    obtain rfl : D = [] := List.eq_nil_of_length_eq_zero h0
    exact .inl ⟨rfl, rfl⟩
  · injection e with e1 e2 e3
    subst e1; subst e3
    refine .inr ⟨g, 0, D.length, by simp, by simp, by simpa using hD, fun k c hk => ?_⟩
    obtain ⟨x, hx, rfl⟩ : ∃ x, D[k]? = some x ∧ x.1 = c := by
      rw [List.getElem?_map] at hk
      cases hd : D[k]? with
      | none => rw [hd] at hk; cases hk
      | some x => rw [hd] at hk; injection hk with hk; exact ⟨x, rfl, hk⟩
    have hkl : k < D.length := by
      rcases Nat.lt_or_ge k D.length with h' | h'
      · exact h'
      · rw [List.getElem?_eq_none h'] at hx; cases hx
    have hsp : cardsC D = cardsC (D.take k) ++ ([.bool x.1.left, .string (strL x.1.text), x.2] ++ cardsC (D.drop (k + 1))) := by
      have : D = D.take k ++ (x :: D.drop (k + 1)) := by
        rw [List.getElem?_eq_getElem hkl] at hx
        injection hx with hx
        rw [← hx, ← List.drop_eq_getElem_cons hkl, List.take_append_drop]
      conv => lhs; rw [this]
      simp [cardsC]
    have hl : (cardsC (D.take k)).length = k * 3 := by rw [cardsC_length, List.length_take, Nat.min_eq_left (by omega)]
    have hat : ∀ j u, ([.bool x.1.left, .string (strL x.1.text), x.2] : List Value)[j]? = some u → w.cell? ⟨g, k * 3 + j, none⟩ = some u := fun j u hu => by
      refine own_at h.cards _ _ ?_
      rw [hsp, List.getElem?_append_right (by omega), hl, show k * 3 + j - k * 3 = j from by omega]
      have : j < 3 := by
        rcases Nat.lt_or_ge j 3 with h' | h'
        · exact h'
        · rw [List.getElem?_eq_none (by simpa using h')] at hu; cases hu
      rw [List.getElem?_append_left (by simpa using this)]
      exact hu
    refine ⟨by rw [Nat.zero_add]; exact hat 0 _ rfl, by rw [Nat.zero_add]; exact hat 1 _ rfl, x.2, by rw [Nat.zero_add]; exact hat 2 _ rfl, ?_⟩
    have hxm := List.mem_iff_getElem?.2 ⟨k, hx⟩
    rcases h.fin x hxm with ⟨h1, h2⟩ | ⟨gm, cs, h1, h2, h3, h4, h5⟩
    · rw [h1, h2]; exact .inl ⟨rfl, rfl⟩
    · refine .inr ⟨gm, 0, x.1.marks.length, h1, Nat.le_refl _, hM x hxm, fun j y hj => ?_⟩
      have hjl : j < x.1.marks.length := by
        rcases Nat.lt_or_ge j x.1.marks.length with h' | h'
        · exact h'
        · rw [List.getElem?_eq_none h'] at hj; cases hj
      have hsm : marksC x.1.marks = marksC (x.1.marks.take j) ++ ([.int .i64 y.1, .int .i64 y.2.1, .int .i64 y.2.2] ++ marksC (x.1.marks.drop (j + 1))) := by
        have : x.1.marks = x.1.marks.take j ++ (y :: x.1.marks.drop (j + 1)) := by
          rw [List.getElem?_eq_getElem hjl] at hj
          injection hj with hj
          rw [← hj, ← List.drop_eq_getElem_cons hjl, List.take_append_drop]
        conv => lhs; rw [this]
        simp [marksC]
      have hml : (marksC (x.1.marks.take j)).length = j * 3 := by rw [marksC_length, List.length_take, Nat.min_eq_left (by omega)]
      have hmt : ∀ i u, ([.int .i64 y.1, .int .i64 y.2.1, .int .i64 y.2.2] : List Value)[i]? = some u → w.cell? ⟨gm, j * 3 + i, none⟩ = some u := fun i u hu => by
        have hi : i < 3 := by
          rcases Nat.lt_or_ge i 3 with h' | h'
          · exact h'
          · rw [List.getElem?_eq_none (by simpa using h')] at hu; cases hu
        have e : (marksC x.1.marks)[j * 3 + i]? = some u := by
          rw [hsm, List.getElem?_append_right (by omega), hml, show j * 3 + i - j * 3 = i from by omega, List.getElem?_append_left (by simpa using hi)]
          exact hu
        rw [← h5, List.getElem?_take_of_lt (by omega)] at e
        rw [Joins.cell_of_block h4 (j * 3 + i)]
        simpa using e
      exact ⟨by rw [Nat.zero_add]; exact hmt 0 _ rfl, by rw [Nat.zero_add]; exact hmt 1 _ rfl, by rw [Nat.zero_add]; exact hmt 2 _ rfl⟩
theorem tight_of {B R O : Nat} {ap : Nat × Nat} {a : Option Addr} {cap : Nat} {tv : Value} {D : List (Kard × Value)} {w : World} (h : RdN B R O ap (.slice a D.length cap) tv D w) : TightAt w (.slice a D.length D.length) (D.map Prod.fst) := by
  refine ⟨a, by simp, fun b o hbo k c hk => ?_⟩
  rcases h.cards.2 with ⟨e, h0⟩ | ⟨g, cp, cur, e, hb, hh, hc, _⟩
  · obtain rfl : D = [] := List.eq_nil_of_length_eq_zero h0
    simp at hk
  · injection e with e1 e2 e3
    rw [e1] at hbo
    injection hbo with hbo
    injection hbo with hb1 hb2 hb3
    subst hb1; subst hb2; subst e1
    obtain ⟨x, hx, rfl⟩ : ∃ x, D[k]? = some x ∧ x.1 = c := by
      rw [List.getElem?_map] at hk
      cases hd : D[k]? with
      | none => rw [hd] at hk; cases hk
      | some x => rw [hd] at hk; injection hk with hk; exact ⟨x, rfl, hk⟩
    have hkl : k < D.length := by
      rcases Nat.lt_or_ge k D.length with h' | h'
      · exact h'
      · rw [List.getElem?_eq_none h'] at hx; cases hx
    have hsp : cardsC D = cardsC (D.take k) ++ ([.bool x.1.left, .string (strL x.1.text), x.2] ++ cardsC (D.drop (k + 1))) := by
      have : D = D.take k ++ (x :: D.drop (k + 1)) := by
        rw [List.getElem?_eq_getElem hkl] at hx
        injection hx with hx
        rw [← hx, ← List.drop_eq_getElem_cons hkl, List.take_append_drop]
      conv => lhs; rw [this]
      simp [cardsC]
    have hl : (cardsC (D.take k)).length = k * 3 := by rw [cardsC_length, List.length_take, Nat.min_eq_left (by omega)]
    have hat : w.cell? ⟨g, k * 3 + 2, none⟩ = some x.2 := by
      refine own_at (e3 ▸ h.cards) _ _ ?_
      rw [hsp, List.getElem?_append_right (by omega), hl, show k * 3 + 2 - k * 3 = 2 from by omega]
      rfl
    rw [Nat.zero_add]
    rcases h.fin x (List.mem_iff_getElem?.2 ⟨k, hx⟩) with ⟨h1, h2⟩ | ⟨gm, cs, h1, _⟩
    · exact ⟨none, by rw [hat, h1, h2]; rfl⟩
    · exact ⟨_, by rw [hat, h1]⟩
/-- Between two lines: k of them are read. -/
def ReadRel (s : List UInt8) (debug : Bool) (PL : Nat) (w w1 : World) (v : Value) (wr : World) : Prop :=
  ∃ (k : Nat) (r : ReadAt), k ≤ PL ∧ v = .int .i64 k ∧ readFromU true debug r k ((piecesG [] s).drop k) = readBU true s debug ∧ StAt w.heap.size (w.heap.size + 2) (w.heap.size + 1) r wr ∧ Fr w1 wr ∧ Below w.heap.size w wr ∧ Bnd r k
theorem readRel_step {s : List UInt8} {debug : Bool} {PL n : Nat} {w w1 wx : World} {k : Nat} {r r' : ReadAt} {p : List UInt8} (hk : k < PL) (hn : n = k + 1)
    (hs : readFromU true debug r k ((piecesG [] s).drop k) = readBU true s debug)
    (hst : readFromU true debug r k ((piecesG [] s).drop k) = match readLineU true debug r p n with | .inl f => .inl f | .inr r' => readFromU true debug r' n ((piecesG [] s).drop n))
    (he : readLineU true debug r p n = .inr r') (h1 : StAt w.heap.size (w.heap.size + 2) (w.heap.size + 1) r' wx) (h2 : Fr w1 wx) (h3 : Below w.heap.size w wx) (hb : Bnd r k) : ReadRel s debug PL w w1 (.int .i64 ((k : Int) + 1)) wx := by
  subst hn
  refine ⟨k + 1, r', by omega, by simp, ?_, h1, h2, h3, row_bnd hb he⟩
  rw [he] at hst
  rw [← hs, hst]
theorem readBU_fault {s : List UInt8} {debug : Bool} {n : Nat} {k : Nat} {r : ReadAt} {p : List UInt8} {f : Nat × Nat × Nat}
    (hs : readFromU true debug r k ((piecesG [] s).drop k) = readBU true s debug)
    (hst : readFromU true debug r k ((piecesG [] s).drop k) = match readLineU true debug r p n with | .inl f => .inl f | .inr r' => readFromU true debug r' n ((piecesG [] s).drop n))
    (he : readLineU true debug r p n = .inl f) : readBU true s debug = .inl f := by
  rw [he] at hst
  rw [← hs, hst]
theorem begin_enter (args : Array Value) (w : World) : (callFunc 23 args).run Tryz.prog w = .ok (.enter 23 args) w := by kernel_rfl
theorem resume_enter (args : Array Value) (w : World) : (callFunc 25 args).run Tryz.prog w = .ok (.enter 25 args) w := by kernel_rfl
theorem BoxAt.kept5 {N n : Nat} {s : ByteArray} {w w' : World} (h : BoxAt N n s w) (hb : Below w.heap.size w w') : BoxAt N n s w' := (hb.block _ (lt_of_block h)).trans h
set_option maxHeartbeats 8000000 in
set_option maxRecDepth 100000 in
theorem c_Read (s : ByteArray) (debug : Bool) (w : World) (hm : MaxLenAt w) :
    Calls Tryz.prog 8 #[.string s, .bool debug] w (ReadPost true s.data.toList debug w) := by
  obtain ⟨m, hm⟩ := hm
  have hpos : 1 < w.heap.size := lt_of_cellR hm
  by_cases hbig : (1048576 : Int) < s.size
  · have HV : Hid (readBU true s.data.toList debug = .inl (3, 0, 0)) := by
      show _ = _
      unfold readBU
      rw [if_pos (by rw [← size_data]; omega)]
    clear hm hpos
    go_enter Tryz.func8, Tryz.ntmps8
    go_wp2_with go_step3
    rw [Exit.noGoto_ret]
    refine bodyPost_ret (v := .tuple #[.slice none 0 0, faultN 3 0 0]) (by simp [results, Tryz.results8, go_sem, faultN]) rfl ⟨by go_grown, ?_⟩
    rw [HV.out]
    exact ⟨rfl, by decide⟩
  have hs : s.size ≤ 1048576 := by omega
  have HP : Hid (readBU true s.data.toList debug = readFromU true debug ⟨[], none, (0, 0)⟩ 0 (piecesG [] s.data.toList)) := readBU_pieces _ _ _ (by rw [← size_data]; omega)
  obtain ⟨PL, hPL⟩ : ∃ n, n = (piecesA s).length := ⟨_, rfl⟩
  have hPLn : PL ≤ 1048577 := by
    have := Lib.countB_le ⟨#[10]⟩ (by decide) s.size s (Nat.le_refl _)
    rw [hPL, piecesA_len]; omega
  have HPL := Lib.hid hPL
  have HM := Lib.hid hm
  clear hPL hm
  go_enter Tryz.func8, Tryz.ntmps8
  go_wp2_with go_step3
  refine (c_opener _).mono ?_; rintro e w1 ⟨rfl, rfl⟩
  unfold opener
  go_wp2_with go_step3
  refine (c_split s m _ ?_ hs (w.heap.size + 3) PL (by simp) HPL.out).mono ?_
  · exact ((((Below.refl w.heap.size w).alloc (Nat.le_refl _) _).alloc (by simp) _).alloc (by simp; omega) _ |>.cell (p := ⟨1, 0, none⟩) hpos).trans HM.out
  rintro e w1 ⟨rfl, hw1⟩
  have hst := start_of w w1 _ hw1
  have HST := Lib.hid hst
  clear hst hw1
  go_wp2_with go_step3
  go_loopw [24] (fun i wr => ReadRel s.data.toList debug PL w w1 i wr) (fun i _ => PL - (intOf i).toNat)
  case atStart =>
    exact ⟨0, ⟨[], none, (0, 0)⟩, Nat.zero_le _, rfl, HP.out.symm, .inl ⟨rfl, rfl, _, _, _, HST.out.rd⟩, Fr.refl _, HST.out.below, ⟨by simp [ReadAt.all], fun c hc => by simp [ReadAt.all] at hc⟩⟩
  case round =>
    obtain ⟨k, r, hk, rfl, hS, hR, hF, hB, hBD⟩ := hrel
    have HS := Lib.hid hS; have HR := Lib.hid hR; have HF := Lib.hid hF; have HB := Lib.hid hB; have HBD := Lib.hid hBD
    clear hS hR hF hB hBD
    have kf := HF.out.block _ _ _ _ HST.out.res (.inr (.inl rfl))
    have ks := HF.out.block _ _ _ _ HST.out.str (.inr (.inr rfl))
    have hlt1 := lt_of_block kf
    by_cases hlt : k < PL
    · obtain ⟨p, hp⟩ : ∃ p, (piecesA s)[k]? = some p := ⟨_, List.getElem?_eq_getElem (by rw [← HPL.out]; exact hlt)⟩
      have HPC := Lib.hid (piecesA_get s k p hp)
      have hc : wr.cell? ⟨w.heap.size + 3, k, none⟩ = some (.string p) := by
        rw [Joins.cell_of_block ks k]; simp [hp]
      clear ks
      have hpsz : p.size ≤ 1048576 := by
        have := pieces_le s.data.toList [] _ (List.mem_iff_getElem?.2 ⟨k, HPC.out⟩)
        rw [← size_data, ← size_data] at this
        simp at this; omega
      have HST2 := Lib.hid (readFromU_step true debug r _ k _ HPC.out)
      clear hp
      go_wp2_with fail
      obtain ⟨n, hn⟩ : ∃ n : Nat, n = k + 1 := ⟨_, rfl⟩
      have hni : (k : Int) + 1 = (n : Int) := by omega
      rw [hni]
      rw [← hn] at HST2
      have HN := Lib.hid hn
      clear hni hn
      refine (c_check n p hpsz _).mono ?_; rintro e w2 ⟨rfl, hb2⟩
      have hz2 := hb2.size
      simp at hz2
      have hz3 : wr.heap.size < w2.heap.size := by omega
      have hz4 : wr.heap.size < w2.heap.size + 1 := by omega
      have HB2 : Hid (Below wr.heap.size wr w2) := ((Below.refl _ _).alloc (Nat.le_refl _) _).trans (hb2.mono (by simp))
      have k0 : BoxAt wr.heap.size n p w2 := (hb2.block wr.heap.size (by simp)).trans (heap_alloc_new wr _)
      have k1 := (HB2.out.block _ hlt1).trans kf
      have hlt2 : w.heap.size < w2.heap.size := lt_of_block k1
      obtain ⟨x0, x1⟩ := k0.cells
      have HK0 := Lib.hid k0; have HK1 := Lib.hid k1
      clear hb2 kf hc k0 k1
      cases hck : checkF p.data.toList with
      | some ec =>
        obtain ⟨e0, c0⟩ := ec
        have hbad := line_bad (n := n) debug hck
        have HV : Hid (readBU true s.data.toList debug = .inl (e0, n, c0)) := readBU_fault HS.out HST2.out (by unfold readLineU; rw [hbad.1])
        have HE := Lib.hid hbad.2
        have hE : ((e0 : Int) == 0) = false := by have := hbad.2; simp; omega
        clear hck hbad
        simp only [checkV]
        go_wp2_with fail
        have k3 : (w2.alloc (.cells #[.int .i64 e0, .int .i64 n, .int .i64 c0] 28)).heap[w2.heap.size]? = some (.cells #[.int .i64 e0, .int .i64 n, .int .i64 c0] 28 (0, 0)) := heap_alloc_new _ _
        have k4 : (w2.alloc (.cells #[.int .i64 e0, .int .i64 n, .int .i64 c0] 28)).heap[w.heap.size]? = some (.cells #[.int .i64 0, .int .i64 0, .int .i64 0] 28 (0, 0)) := (Below.heap_alloc _ _ _ hlt2).trans HK1.out
        have hb3 : Below w.heap.size w (w2.alloc (.cells #[.int .i64 e0, .int .i64 n, .int .i64 c0] 28)) := (HB.out.trans (HB2.out.mono HB.out.size)).alloc (by omega) _
        obtain ⟨w3, hw3⟩ : ∃ w3, w3 = w2.alloc (.cells #[.int .i64 e0, .int .i64 n, .int .i64 c0] 28) := ⟨_, rfl⟩
        rw [← hw3] at k3 k4 hb3 ⊢
        clear hw3
        have y0 : w3.cell? ⟨w2.heap.size, 0, none⟩ = some (.int .i64 e0) := Joins.cell_of_block k3 0
        have y1 : w3.cell? ⟨w2.heap.size, 1, none⟩ = some (.int .i64 n) := Joins.cell_of_block k3 1
        have y2 : w3.cell? ⟨w2.heap.size, 2, none⟩ = some (.int .i64 c0) := Joins.cell_of_block k3 2
        have z0 : w3.cell? ⟨w.heap.size, 0, none⟩ = some (.int .i64 0) := Joins.cell_of_block k4 0
        have z1 : w3.cell? ⟨w.heap.size, 1, none⟩ = some (.int .i64 0) := Joins.cell_of_block k4 1
        have z2 : w3.cell? ⟨w.heap.size, 2, none⟩ = some (.int .i64 0) := Joins.cell_of_block k4 2
        have f0 := Joins.unfrozen_of_block k4 0
        have f1 := Joins.unfrozen_of_block k4 1
        have f2 := Joins.unfrozen_of_block k4 2
        obtain ⟨r0, r1, r2⟩ := faultCells (u := .int .i64 e0) (v := .int .i64 n) (x := .int .i64 c0) k4
        have hlt3 : w.heap.size < w3.heap.size := lt_of_block k4
        have HB3 := Lib.hid hb3
        clear k3 k4 hb3
        go_region
        go_wp2_with fail
        rw [Exit.noGoto_ret]
        refine bodyPost_ret (v := .tuple #[.slice none 0 0, faultN e0 n c0]) (by simp [results, Tryz.results8, go_sem, r0, r1, r2, faultN, hlt3]) rfl ⟨(((HB3.out.setCell (Nat.le_refl _) _).setCell (Nat.le_refl _) _).setCell (Nat.le_refl _) _).drew, ?_⟩
        rw [HV.out]
        exact ⟨rfl, HE.out⟩
      | none =>
        obtain ⟨hp80, hmk, hline⟩ := line_good hck
        have hln := hline n debug
        have HP80 : Hid (p.size ≤ 80) := by show _ ≤ _; rw [size_data]; exact hp80
        have HBB : Hid (Below w.heap.size w w2) := HB.out.trans (HB2.out.mono HB.out.size)
        have HFF : Hid (Fr w1 w2) := HF.out.trans (Fr.of_below HB2.out)
        have HRR : Hid (StAt w.heap.size (w.heap.size + 2) (w.heap.size + 1) r w2) := HR.out.kept HB2.out.size HB2.out.block
        clear hck hline hp80
        simp only [checkV]
        obtain ⟨mb, hmb⟩ : ∃ b, b = p.data.toList.getD 6 32 := ⟨_, rfl⟩
        rw [← hmb] at hmk hln
        have HMB := Lib.hid hmb
        clear hmb
        have HCONT : Hid (∀ wx, Below w2.heap.size w2 wx → StAt w.heap.size (w.heap.size + 2) (w.heap.size + 1) r wx ∧ Fr w1 wx ∧ Below w.heap.size w wx) := fun wx hx => ⟨HRR.out.kept hx.size hx.block, HFF.out.trans (Fr.of_below hx), HBB.out.trans (hx.mono (Nat.le_of_lt hlt2))⟩
        by_cases hm1 : mb.toNat = 42 ∨ mb.toNat = 47
        · have HOFF : Hid (readLineU true debug r p.data.toList n = .inr r) := by
            show _ = _
            unfold readLineU; rw [hln, if_pos hm1]
          clear hln hmk
          go_wp2_with fail
          refine (c_ind n p _).mono ?_; rintro e w4 ⟨rfl, rfl⟩
          rw [← HMB.out]
          rcases hm1 with hm1 | hm1 <;> rw [hm1]
          all_goals clear hm1
          all_goals go_wp2_with fail
          all_goals
            have hX := HCONT.out _ (((Below.refl _ _).alloc (Nat.le_refl _) (.cells #[.int .i64 0, .int .i64 0, .int .i64 0] 28)).alloc (by simp) (.cells #[.int .i64 n, .string p] 72))
            exact ⟨readRel_step hlt HN.out HS.out HST2.out HOFF.out hX.1 hX.2.1 hX.2.2 HBD.out, by simp [intOf]; omega⟩
        rw [if_neg hm1] at hln
        by_cases hm2 : (mb.toNat = 68 ∨ mb.toNat = 100) ∧ debug = false
        · have HOFF : Hid (readLineU true debug r p.data.toList n = .inr r) := by
            show _ = _
            unfold readLineU; rw [hln, if_pos hm2.1, if_neg (by simp [hm2.2])]
          clear hln hmk hm1
          obtain ⟨hm2, rfl⟩ := hm2
          go_wp2_with fail
          refine (c_ind n p _).mono ?_; rintro e w4 ⟨rfl, rfl⟩
          rw [← HMB.out]
          rcases hm2 with hm1 | hm1 <;> rw [hm1]
          all_goals clear hm1
          all_goals go_wp2_with fail
          all_goals
            have hX := HCONT.out _ (((Below.refl _ _).alloc (Nat.le_refl _) (.cells #[.int .i64 0, .int .i64 0, .int .i64 0] 28)).alloc (by simp) (.cells #[.int .i64 n, .string p] 72))
            exact ⟨readRel_step hlt HN.out HS.out HST2.out HOFF.out hX.1 hX.2.1 hX.2.2 HBD.out, by simp [intOf]; omega⟩
        have HW4 : ∀ a b, Below w2.heap.size w2 ((w2.alloc a).alloc b) := fun a b => ((Below.refl _ _).alloc (Nat.le_refl _) _).alloc (by simp) _
        have HW4' := Lib.hid HW4; clear HW4
        by_cases hbl : fstN (areasB p.data.toList) = (areasB p.data.toList).length
        · have HOFF : Hid (readLineU true debug r p.data.toList n = .inr r) := by
            show _ = _
            unfold readLineU
            rw [hln, if_neg (c := debug = true ∧ _) (by omega), if_neg (c := fstN (areasB p.data.toList) < _) (by omega), ite_self]
          have HBL : Hid (decide (fstN (areasB p.data.toList) = (areasB p.data.toList).length) = true) := by show _ = _; simp [hbl]
          clear hln hbl
          have hmd : mb.toNat = 32 ∨ mb.toNat = 45 ∨ (mb.toNat = 68 ∧ debug = true) ∨ (mb.toNat = 100 ∧ debug = true) := by
            cases debug <;> simp at hm2 ⊢ <;> omega
          clear hmk hm1 hm2
          go_wp2_with fail
          refine (c_ind n p _).mono ?_; rintro e w4 ⟨rfl, rfl⟩
          rw [← HMB.out]
          rcases hmd with hm1 | hm1 | ⟨hm1, rfl⟩ | ⟨hm1, rfl⟩ <;> rw [hm1]
          all_goals clear hm1
          all_goals go_wp2_with fail
          all_goals (refine (c_blank n p (by omega) _).mono ?_; rintro e w5 ⟨rfl, hb5⟩)
          all_goals rw [HBL.out]
          all_goals
            have HB5 : Hid (Below w2.heap.size w2 w5) := (HW4'.out _ _).trans (hb5.mono (by simp; omega))
          all_goals clear hb5
          all_goals go_wp2_with fail
          all_goals
            have hX := HCONT.out _ HB5.out
            exact ⟨readRel_step hlt HN.out HS.out HST2.out HOFF.out hX.1 hX.2.1 hX.2.2 HBD.out, by simp [intOf]; omega⟩
        · have HKK : Hid (fstN (areasB p.data.toList) < (areasB p.data.toList).length) := by
            show _ < _
            have := fstN_le (areasB p.data.toList)
            omega
          have HBL : Hid (decide (fstN (areasB p.data.toList) = (areasB p.data.toList).length) = false) := by show _ = _; simp [hbl]
          clear hbl
          have hmd2 : (mb.toNat = 32 ∨ ((mb.toNat = 68 ∨ mb.toNat = 100) ∧ debug = true)) ∨ mb.toNat = 45 := by
            cases debug <;> simp at hm2 ⊢ <;> omega
          rcases hmd2 with hmd | hmd
          · have HROW : Hid (readLineU true debug r p.data.toList n = readRowU true r 32 (textOf p.data.toList) n) := by
              show _ = _
              unfold readLineU
              rw [hln]
              rcases hmd with hm | hm
              · rw [if_neg (by omega), if_pos HKK.out, u8_eq (a := mb) (b := 32) hm]
              · rw [if_pos hm.1, if_pos ⟨hm.2, HKK.out⟩]
            clear hln hmk hm1 hm2
            go_wp2_with fail
            refine (c_ind n p _).mono ?_; rintro e w4 ⟨rfl, rfl⟩
            rw [← HMB.out]
            rcases hmd with hm1 | ⟨hm1 | hm1, rfl⟩ <;> rw [hm1]
            all_goals clear hm1
            all_goals go_wp2_with fail
            all_goals (refine (c_blank n p (by omega) _).mono ?_; rintro e w5 ⟨rfl, hb5⟩)
            all_goals rw [HBL.out]
            all_goals
              have HB5 : Hid (Below w2.heap.size w2 w5) := (HW4'.out _ _).trans (hb5.mono (by simp; omega))
              have HX := Lib.hid (HCONT.out _ HB5.out)
              have HK5 := Lib.hid (HK0.out.kept5 HB5.out)
              have HF5 := Lib.hid ((HB5.out.block _ hlt2).trans HK1.out)
              have hs5 : w2.heap.size ≤ w5.heap.size := HB5.out.size
              have hs5' : wr.heap.size < w5.heap.size := by omega
              obtain ⟨x2, x3⟩ := HK5.out.cells
              clear hb5
              have hen1 := begin_enter
              have hen2 := resume_enter
              go_wp2_with fail
              refine (c_begin r n p w5 HX.out.2.2.size (by omega) HX.out.1 (HBD.out.small (by omega)) HP80.out HKK.out (by have := HN.out; omega)).mono ?_
              rintro e w6 ⟨hb6, hf6, hm6⟩
              have k6 := hf6.block _ _ _ _ HF5.out (.inr (.inl rfl))
              have hlt6 : w.heap.size < w6.heap.size := lt_of_block k6
              have HK6 := Lib.hid k6; have HB6 := Lib.hid hb6; have HF6 := Lib.hid hf6
              clear hb6 hf6 k6 hen1 hen2
              cases hres : readRowU true r 32 (textOf p.data.toList) n with
              | inl f =>
                obtain ⟨e0, l0, c0⟩ := f
                rw [hres] at hm6
                obtain ⟨rfl, hne⟩ := hm6
                have HV := Lib.hid (readBU_fault HS.out HST2.out (HROW.out.trans hres))
                have HE := Lib.hid hne
                have hE : ((e0 : Int) == 0) = false := by simp only [] at hne; simp; omega
                clear hres hne
                simp only [faultN]
                go_wp2_with fail
                have k3 : (w6.alloc (.cells #[.int .i64 e0, .int .i64 l0, .int .i64 c0] 28)).heap[w6.heap.size]? = some (.cells #[.int .i64 e0, .int .i64 l0, .int .i64 c0] 28 (0, 0)) := heap_alloc_new _ _
                have k4 : (w6.alloc (.cells #[.int .i64 e0, .int .i64 l0, .int .i64 c0] 28)).heap[w.heap.size]? = some (.cells #[.int .i64 0, .int .i64 0, .int .i64 0] 28 (0, 0)) := (Below.heap_alloc _ _ _ hlt6).trans HK6.out
                have hb3 : Below w.heap.size w (w6.alloc (.cells #[.int .i64 e0, .int .i64 l0, .int .i64 c0] 28)) := (HX.out.2.2.trans HB6.out).alloc (by omega) _
                obtain ⟨w3, hw3⟩ : ∃ w3, w3 = w6.alloc (.cells #[.int .i64 e0, .int .i64 l0, .int .i64 c0] 28) := ⟨_, rfl⟩
                rw [← hw3] at k3 k4 hb3 ⊢
                clear hw3
                have y0 : w3.cell? ⟨w6.heap.size, 0, none⟩ = some (.int .i64 e0) := Joins.cell_of_block k3 0
                have y1 : w3.cell? ⟨w6.heap.size, 1, none⟩ = some (.int .i64 l0) := Joins.cell_of_block k3 1
                have y2 : w3.cell? ⟨w6.heap.size, 2, none⟩ = some (.int .i64 c0) := Joins.cell_of_block k3 2
                have z0 : w3.cell? ⟨w.heap.size, 0, none⟩ = some (.int .i64 0) := Joins.cell_of_block k4 0
                have z1 : w3.cell? ⟨w.heap.size, 1, none⟩ = some (.int .i64 0) := Joins.cell_of_block k4 1
                have z2 : w3.cell? ⟨w.heap.size, 2, none⟩ = some (.int .i64 0) := Joins.cell_of_block k4 2
                have f0 := Joins.unfrozen_of_block k4 0
                have f1 := Joins.unfrozen_of_block k4 1
                have f2 := Joins.unfrozen_of_block k4 2
                obtain ⟨r0, r1, r2⟩ := faultCells (u := .int .i64 e0) (v := .int .i64 l0) (x := .int .i64 c0) k4
                have hlt3 : w.heap.size < w3.heap.size := lt_of_block k4
                have HB3 := Lib.hid hb3
                clear k3 k4 hb3
                go_region
                go_wp2_with fail
                rw [Exit.noGoto_ret]
                refine bodyPost_ret (v := .tuple #[.slice none 0 0, faultN e0 l0 c0]) (by simp [results, Tryz.results8, go_sem, r0, r1, r2, faultN, hlt3]) rfl ⟨(((HB3.out.setCell (Nat.le_refl _) _).setCell (Nat.le_refl _) _).setCell (Nat.le_refl _) _).drew, ?_⟩
                rw [HV.out]
                exact ⟨rfl, HE.out⟩
              | inr r' =>
                rw [hres] at hm6
                obtain ⟨rfl, hst6⟩ := hm6
                have HST6 := Lib.hid hst6
                have HRES := Lib.hid hres
                clear hst6 hres
                simp only [zeroF]
                go_wp2_with fail
                have hA := Below.refl w6.heap.size w6 |>.alloc (Nat.le_refl _) (.cells #[.int .i64 0, .int .i64 0, .int .i64 0] 28)
                exact ⟨readRel_step hlt HN.out HS.out HST2.out (HROW.out.trans HRES.out) (HST6.out.kept hA.size hA.block) ((HX.out.2.1.trans HF6.out).trans (Fr.of_below hA)) ((HX.out.2.2.trans HB6.out).alloc (by omega) _) HBD.out, by simp [intOf]; omega⟩
          · have HROW : Hid (readLineU true debug r p.data.toList n = readRowU true r 45 (textOf p.data.toList) n) := by
              show _ = _
              unfold readLineU
              rw [hln, if_neg (by omega), if_pos HKK.out, u8_eq (a := mb) (b := 45) hmd]
            clear hln hmk hm1 hm2
            go_wp2_with fail
            refine (c_ind n p _).mono ?_; rintro e w4 ⟨rfl, rfl⟩
            rw [← HMB.out]
            rw [hmd]
            clear hmd
            all_goals go_wp2_with fail
            all_goals (refine (c_blank n p (by omega) _).mono ?_; rintro e w5 ⟨rfl, hb5⟩)
            all_goals rw [HBL.out]
            all_goals
              have HB5 : Hid (Below w2.heap.size w2 w5) := (HW4'.out _ _).trans (hb5.mono (by simp; omega))
              have HX := Lib.hid (HCONT.out _ HB5.out)
              have HK5 := Lib.hid (HK0.out.kept5 HB5.out)
              have HF5 := Lib.hid ((HB5.out.block _ hlt2).trans HK1.out)
              have hs5 : w2.heap.size ≤ w5.heap.size := HB5.out.size
              have hs5' : wr.heap.size < w5.heap.size := by omega
              obtain ⟨x2, x3⟩ := HK5.out.cells
              clear hb5
              have hen1 := begin_enter
              have hen2 := resume_enter
              go_wp2_with fail
              refine (c_resume r n p w5 HX.out.1 (HBD.out.small (by omega)) HP80.out HKK.out (by have := HN.out; omega)).mono ?_
              rintro e w6 ⟨hb6, hf6, hm6⟩
              have k6 := hf6.block _ _ _ _ HF5.out (.inr (.inl rfl))
              have hlt6 : w.heap.size < w6.heap.size := lt_of_block k6
              have HK6 := Lib.hid k6; have HB6 := Lib.hid hb6; have HF6 := Lib.hid hf6
              clear hb6 hf6 k6 hen1 hen2
              cases hres : readRowU true r 45 (textOf p.data.toList) n with
              | inl f =>
                obtain ⟨e0, l0, c0⟩ := f
                rw [hres] at hm6
                obtain ⟨rfl, hne⟩ := hm6
                have HV := Lib.hid (readBU_fault HS.out HST2.out (HROW.out.trans hres))
                have HE := Lib.hid hne
                have hE : ((e0 : Int) == 0) = false := by simp only [] at hne; simp; omega
                clear hres hne
                simp only [faultN]
                go_wp2_with fail
                have k3 : (w6.alloc (.cells #[.int .i64 e0, .int .i64 l0, .int .i64 c0] 28)).heap[w6.heap.size]? = some (.cells #[.int .i64 e0, .int .i64 l0, .int .i64 c0] 28 (0, 0)) := heap_alloc_new _ _
                have k4 : (w6.alloc (.cells #[.int .i64 e0, .int .i64 l0, .int .i64 c0] 28)).heap[w.heap.size]? = some (.cells #[.int .i64 0, .int .i64 0, .int .i64 0] 28 (0, 0)) := (Below.heap_alloc _ _ _ hlt6).trans HK6.out
                have hb3 : Below w.heap.size w (w6.alloc (.cells #[.int .i64 e0, .int .i64 l0, .int .i64 c0] 28)) := (HX.out.2.2.trans HB6.out).alloc (by omega) _
                obtain ⟨w3, hw3⟩ : ∃ w3, w3 = w6.alloc (.cells #[.int .i64 e0, .int .i64 l0, .int .i64 c0] 28) := ⟨_, rfl⟩
                rw [← hw3] at k3 k4 hb3 ⊢
                clear hw3
                have y0 : w3.cell? ⟨w6.heap.size, 0, none⟩ = some (.int .i64 e0) := Joins.cell_of_block k3 0
                have y1 : w3.cell? ⟨w6.heap.size, 1, none⟩ = some (.int .i64 l0) := Joins.cell_of_block k3 1
                have y2 : w3.cell? ⟨w6.heap.size, 2, none⟩ = some (.int .i64 c0) := Joins.cell_of_block k3 2
                have z0 : w3.cell? ⟨w.heap.size, 0, none⟩ = some (.int .i64 0) := Joins.cell_of_block k4 0
                have z1 : w3.cell? ⟨w.heap.size, 1, none⟩ = some (.int .i64 0) := Joins.cell_of_block k4 1
                have z2 : w3.cell? ⟨w.heap.size, 2, none⟩ = some (.int .i64 0) := Joins.cell_of_block k4 2
                have f0 := Joins.unfrozen_of_block k4 0
                have f1 := Joins.unfrozen_of_block k4 1
                have f2 := Joins.unfrozen_of_block k4 2
                obtain ⟨r0, r1, r2⟩ := faultCells (u := .int .i64 e0) (v := .int .i64 l0) (x := .int .i64 c0) k4
                have hlt3 : w.heap.size < w3.heap.size := lt_of_block k4
                have HB3 := Lib.hid hb3
                clear k3 k4 hb3
                go_region
                go_wp2_with fail
                rw [Exit.noGoto_ret]
                refine bodyPost_ret (v := .tuple #[.slice none 0 0, faultN e0 l0 c0]) (by simp [results, Tryz.results8, go_sem, r0, r1, r2, faultN, hlt3]) rfl ⟨(((HB3.out.setCell (Nat.le_refl _) _).setCell (Nat.le_refl _) _).setCell (Nat.le_refl _) _).drew, ?_⟩
                rw [HV.out]
                exact ⟨rfl, HE.out⟩
              | inr r' =>
                rw [hres] at hm6
                obtain ⟨rfl, hst6⟩ := hm6
                have HST6 := Lib.hid hst6
                have HRES := Lib.hid hres
                clear hst6 hres
                simp only [zeroF]
                go_wp2_with fail
                have hA := Below.refl w6.heap.size w6 |>.alloc (Nat.le_refl _) (.cells #[.int .i64 0, .int .i64 0, .int .i64 0] 28)
                exact ⟨readRel_step hlt HN.out HS.out HST2.out (HROW.out.trans HRES.out) (HST6.out.kept hA.size hA.block) ((HX.out.2.1.trans HF6.out).trans (Fr.of_below hA)) ((HX.out.2.2.trans HB6.out).alloc (by omega) _) HBD.out, by simp [intOf]; omega⟩
    · have HEND : Hid (readBU true s.data.toList debug = endOf r) := by
        show _ = _
        rw [← HS.out, List.drop_eq_nil_of_le]
        · rfl
        · rw [← piecesA_data, List.length_map, ← HPL.out]; omega
      have HKF := Lib.hid kf
      clear kf ks
      have hfin : (∃ cv ks, FinOk w.heap.size (w.heap.size + 2) (w.heap.size + 1) cv ks wr ∧ Hid (readBU true s.data.toList debug = .inr ks)) ∨
          (∃ (c : Kard) (Wm : Nat) (cv tv mv : Value) (D : List (Kard × Value)) (l0 k0 : Nat), RdC w.heap.size (w.heap.size + 2) (w.heap.size + 1) Wm (l0, k0) cv tv tv mv mv [] D c true true wr ∧ D.length ≤ 4194304 ∧ Hid (readBU true s.data.toList debug = .inl (4, l0, k0))) := by
        have hsm := HBD.out.small (by omega)
        have he := HEND.out
        unfold endOf at he
        rcases HR.out with ⟨h1, h2, ap, cv, tv, h3⟩ | ⟨c, Wm, cv, tv, mv, D, h1, h2, h5⟩
        · rw [h1] at he
          simp only [] at he
          refine .inl ⟨cv, [], finOk_none h3, ?_⟩
          show _ = _
          rw [he]; unfold ReadAt.all; rw [h1, h2]; rfl
        · rw [h1] at he
          simp only [] at he
          have hdl : D.length = r.done.length := by rw [← h2]; simp
          have hd := hsm.done
          cases ho : openB c.text
          · rw [ho] at he h5
            simp only [Bool.false_eq_true, if_false] at he
            refine .inl ⟨cv, D.map Prod.fst ++ [c], finOk_some h5 (hsm.text c h1) (hsm.marks c h1) (by omega), ?_⟩
            show _ = _
            rw [he]; unfold ReadAt.all; rw [h1, h2]; rfl
          · rw [ho] at he h5
            simp only [if_true] at he
            refine .inr ⟨c, Wm, cv, tv, mv, D, r.at_.1, r.at_.2, h5, by omega, ?_⟩
            show _ = _
            rw [he]
      clear HR HBD
      rcases hfin with hok | hop
      · obtain ⟨cv, ks, hfin, HV⟩ := hok
        have HFIN := Lib.hid hfin
        clear hfin
        go_wp2_with fail
        refine (HFIN.out wr (Nat.le_refl _) (fun _ _ => rfl)).mono ?_
        rintro e w2 ⟨rfl, hb2, hf2, ap, tv, D, hD, hN⟩
        have HD := Lib.hid hD; have HN := Lib.hid hN; have HB2 := Lib.hid hb2
        have HK2 := Lib.hid (hf2.block _ _ _ _ HKF.out (.inr (.inl rfl)))
        clear hb2 hf2 hD hN
        obtain ⟨a, cap, rfl⟩ := own_sl HN.out.cards
        have hcap : D.length ≤ cap := own_le HN.out.cards
        have y0 : w2.cell? ⟨w.heap.size + 1 + 1, 0, none⟩ = some (.slice a D.length cap) := Joins.cell_of_block HN.out.rd 0
        have hR2 : w.heap.size + 1 + 1 < w2.heap.size := lt_of_block HN.out.rd
        have hlt2 : w.heap.size < w2.heap.size := lt_of_block HK2.out
        simp only [zeroF]
        go_wp2_with fail
        refine (c_clipCards _ a D.length cap rfl hcap _).mono ?_
        rintro e w4 ⟨rfl, rfl⟩
        have hN3 := HN.out.kept (w' := w2.alloc (.cells #[.int .i64 0, .int .i64 0, .int .i64 0] 28)) (by simp) (kept_alloc _ _)
        have k4 : (w2.alloc (.cells #[.int .i64 0, .int .i64 0, .int .i64 0] 28)).heap[w.heap.size]? = some (.cells #[.int .i64 0, .int .i64 0, .int .i64 0] 28 (0, 0)) := (Below.heap_alloc _ _ _ hlt2).trans HK2.out
        have hb3 : Below w.heap.size w (w2.alloc (.cells #[.int .i64 0, .int .i64 0, .int .i64 0] 28)) := (HB.out.trans HB2.out).alloc (by omega) _
        obtain ⟨w3, hw3⟩ : ∃ w3, w3 = w2.alloc (.cells #[.int .i64 0, .int .i64 0, .int .i64 0] 28) := ⟨_, rfl⟩
        rw [← hw3] at k4 hb3 hN3 ⊢
        clear hw3 y0
        have z0 : w3.cell? ⟨w.heap.size, 0, none⟩ = some (.int .i64 0) := Joins.cell_of_block k4 0
        have z1 : w3.cell? ⟨w.heap.size, 1, none⟩ = some (.int .i64 0) := Joins.cell_of_block k4 1
        have z2 : w3.cell? ⟨w.heap.size, 2, none⟩ = some (.int .i64 0) := Joins.cell_of_block k4 2
        have f0 := Joins.unfrozen_of_block k4 0
        have f1 := Joins.unfrozen_of_block k4 1
        have f2 := Joins.unfrozen_of_block k4 2
        obtain ⟨r0, r1, r2⟩ := faultCells (u := .int .i64 0) (v := .int .i64 0) (x := .int .i64 0) k4
        have hlt3 : w.heap.size < w3.heap.size := lt_of_block k4
        have HB3 := Lib.hid hb3
        have HFN : Hid (KardsAt (((w3.setCell ⟨w.heap.size, 0, none⟩ (.int .i64 0)).setCell ⟨w.heap.size, 1, none⟩ (.int .i64 0)).setCell ⟨w.heap.size, 2, none⟩ (.int .i64 0)) (.slice a D.length D.length) ks ∧ TightAt (((w3.setCell ⟨w.heap.size, 0, none⟩ (.int .i64 0)).setCell ⟨w.heap.size, 1, none⟩ (.int .i64 0)).setCell ⟨w.heap.size, 2, none⟩ (.int .i64 0)) (.slice a D.length D.length) ks) := by
          have hT0 := Turns.setCell k4 0 (.int .i64 0)
          have b1 := Joins.block_setCell (i := 0) k4 (.int .i64 0)
          have hT1 := hT0.trans (Turns.setCell b1 1 (.int .i64 0))
          have b2 := Joins.block_setCell (i := 1) b1 (.int .i64 0)
          have hT2 := hT1.trans (Turns.setCell b2 2 (.int .i64 0))
          have hb := readBU_bnd _ _ _ _ HV.out
          show KardsAt _ _ _ ∧ TightAt _ _ _
          have hDl : D.length = ks.length := by rw [← HD.out]; simp
          rw [← HD.out]
          refine ⟨?_, tight_of (hN3.turns hT2)⟩
          exact kards_of (hN3.turns hT2) (by omega) (fun x hx => by
            have := (hb.2.2 x.1 (by rw [← HD.out]; exact List.mem_map_of_mem hx)).2
            omega)
        clear k4 hb3 hN3
        go_wp2_with fail
        rw [Exit.noGoto_ret]
        refine bodyPost_ret (v := .tuple #[.slice a D.length D.length, zeroF]) (by simp [results, Tryz.results8, go_sem, r0, r1, r2, zeroF, hlt3]) rfl ⟨((HB3.out.setCell (Nat.le_refl _) _).setCell (Nat.le_refl _) _).setCell (Nat.le_refl _) _, ?_⟩
        rw [HV.out]
        exact ⟨_, rfl, HFN.out⟩
      · obtain ⟨c, Wm, cv, tv, mv, D, l0, k0, h5, hcd, HV⟩ := hop
        have H5 := Lib.hid h5
        clear h5
        go_wp2_with fail
        refine (c_finish_open wr H5.out hcd).mono ?_
        rintro e w2 ⟨rfl, hb2⟩
        have HB2 := Lib.hid hb2
        have HK2 := Lib.hid ((hb2.block _ hlt1).trans HKF.out)
        have hlt2 : w.heap.size < w2.heap.size := lt_of_block HK2.out
        have hs2 := hb2.size
        have HE : Hid ((4 : Nat) ≠ 0) := by show _ ≠ _; decide
        clear hb2
        simp only [faultN]
        go_wp2_with fail
        have k3 : (w2.alloc (.cells #[.int .i64 4, .int .i64 l0, .int .i64 k0] 28)).heap[w2.heap.size]? = some (.cells #[.int .i64 4, .int .i64 l0, .int .i64 k0] 28 (0, 0)) := heap_alloc_new _ _
        have k4 : (w2.alloc (.cells #[.int .i64 4, .int .i64 l0, .int .i64 k0] 28)).heap[w.heap.size]? = some (.cells #[.int .i64 0, .int .i64 0, .int .i64 0] 28 (0, 0)) := (Below.heap_alloc _ _ _ hlt2).trans HK2.out
        have hb3 : Below w.heap.size w (w2.alloc (.cells #[.int .i64 4, .int .i64 l0, .int .i64 k0] 28)) := (HB.out.trans (HB2.out.mono HB.out.size)).alloc (by omega) _
        obtain ⟨w3, hw3⟩ : ∃ w3, w3 = w2.alloc (.cells #[.int .i64 4, .int .i64 l0, .int .i64 k0] 28) := ⟨_, rfl⟩
        rw [← hw3] at k3 k4 hb3 ⊢
        clear hw3
        have y0 : w3.cell? ⟨w2.heap.size, 0, none⟩ = some (.int .i64 4) := Joins.cell_of_block k3 0
        have y1 : w3.cell? ⟨w2.heap.size, 1, none⟩ = some (.int .i64 l0) := Joins.cell_of_block k3 1
        have y2 : w3.cell? ⟨w2.heap.size, 2, none⟩ = some (.int .i64 k0) := Joins.cell_of_block k3 2
        have z0 : w3.cell? ⟨w.heap.size, 0, none⟩ = some (.int .i64 0) := Joins.cell_of_block k4 0
        have z1 : w3.cell? ⟨w.heap.size, 1, none⟩ = some (.int .i64 0) := Joins.cell_of_block k4 1
        have z2 : w3.cell? ⟨w.heap.size, 2, none⟩ = some (.int .i64 0) := Joins.cell_of_block k4 2
        have f0 := Joins.unfrozen_of_block k4 0
        have f1 := Joins.unfrozen_of_block k4 1
        have f2 := Joins.unfrozen_of_block k4 2
        obtain ⟨r0, r1, r2⟩ := faultCells (u := .int .i64 4) (v := .int .i64 l0) (x := .int .i64 k0) k4
        have hlt3 : w.heap.size < w3.heap.size := lt_of_block k4
        have HB3 := Lib.hid hb3
        clear k3 k4 hb3
        go_region
        go_wp2_with fail
        rw [Exit.noGoto_ret]
        refine bodyPost_ret (v := .tuple #[.slice none 0 0, faultN 4 l0 k0]) (by simp [results, Tryz.results8, go_sem, r0, r1, r2, faultN, hlt3]) rfl ⟨(((HB3.out.setCell (Nat.le_refl _) _).setCell (Nat.le_refl _) _).setCell (Nat.le_refl _) _).drew, ?_⟩
        rw [HV.out]
        exact ⟨rfl, HE.out⟩
end Go.Proofs.YtpalfhfbgfnacaaGreatDoor
