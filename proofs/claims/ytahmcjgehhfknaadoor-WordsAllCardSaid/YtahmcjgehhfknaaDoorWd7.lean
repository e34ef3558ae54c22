/-
  words.number, quote, figurative and Literal.
-/
import Derived.Test.YtahmcjgehhfknaaDoorWd6
import Derived.Deep.RegionHeld3
namespace Go.Proofs.YtahmcjgehhfknaaDoor
open Go.RowKit
set_option linter.unusedVariables false
set_option linter.unusedSimpArgs false

def zeroF : Value := fdV 0 ⟨#[]⟩ 0 0 false 0 (.slice none 0 0)
def digsB (l : List UInt8) : List UInt8 := (cutB l).1 ++ (cutB l).2.1
theorem digsB_len (l : List UInt8) : (digsB l).length ≤ 2 * l.length := by
  unfold digsB cutB
  have h1 := cut_len (restB l) [46]
  have h2 := rest_len l
  rw [List.length_append]; omega

theorem Row2.keep {w W W' : World} {g : Nat} {l : List UInt8} (h : Row2 w W g l) (hb : Below W.heap.size W W') : Row2 w W' g l :=
  ⟨Nat.lt_of_lt_of_le h.lt hb.size, fun j c hj => (hb.cell (p := ⟨g, j, none⟩) h.lt).trans (h.cell j c hj), h.lo, h.bel.trans (hb.mono h.bel.size)⟩
theorem Row2.base {w w1 W : World} {g : Nat} {l : List UInt8} (h : Row2 w1 W g l) (hb : Below w.heap.size w w1) : Row2 w W g l :=
  ⟨h.lt, h.cell, Nat.le_trans hb.size h.lo, hb.trans (h.bel.mono hb.size)⟩
theorem Row2.other {w W W' : World} {g N : Nat} {l : List UInt8} (h : Row2 w W g l) (ho : ∀ b, b ≠ N → W'.heap[b]? = W.heap[b]?) (hg : g ≠ N) (hb : Below w.heap.size w W') : Row2 w W' g l := by
  have hh := ho g hg
  refine ⟨?_, fun j c hj => (World.cell?_of_block hh).trans (h.cell j c hj), h.lo, hb⟩
  rw [Array.getElem?_eq_getElem h.lt] at hh
  exact (Array.getElem?_eq_some_iff.1 hh).1
/-- While the field of a number is built: the numeral's block. -/
structure SN (w : World) (M : Nat) (X C1 C2 : ByteArray) (W : World) : Prop where
  h0 : W.cell? ⟨M, 0, none⟩ = some (.string X)
  h1 : W.cell? ⟨M, 1, none⟩ = some (.string C1)
  h2 : W.cell? ⟨M, 2, none⟩ = some (.string C2)
  bel : Below w.heap.size w W
theorem SN.conj {w : World} {M : Nat} {X C1 C2 : ByteArray} {W : World} (h : SN w M X C1 C2 W) : W.cell? ⟨M, 0, none⟩ = some (.string X) ∧ W.cell? ⟨M, 1, none⟩ = some (.string C1) ∧ W.cell? ⟨M, 2, none⟩ = some (.string C2) ∧ Below w.heap.size w W := ⟨h.h0, h.h1, h.h2, h.bel⟩
theorem SN.below {w : World} {M : Nat} {X C1 C2 : ByteArray} {W W' : World} (h : SN w M X C1 C2 W) (hb : Below W.heap.size W W') : SN w M X C1 C2 W' :=
  ⟨(hb.cell (World.block_lt_of_cell? _ _ h.h0)).trans h.h0, (hb.cell (World.block_lt_of_cell? _ _ h.h1)).trans h.h1, (hb.cell (World.block_lt_of_cell? _ _ h.h2)).trans h.h2, h.bel.trans (hb.mono h.bel.size)⟩
theorem SN.drew {w : World} {M : Nat} {X C1 C2 : ByteArray} {W : World} (h : SN w M X C1 C2 W) : SN w M X C1 C2 W.drew := h.below (Below.refl _ _).drew
theorem SN.setF {w : World} {M N : Nat} {X C1 C2 : ByteArray} {W : World} (h : SN w M X C1 C2 W) (hMN : M ≠ N) (hN : w.heap.size ≤ N) (l : List Value) : SN w M X C1 C2 (setF W N l 0) := by
  have ho := setF_other N l 0 W M hMN
  exact ⟨(World.cell?_of_block ho).trans h.h0, (World.cell?_of_block ho).trans h.h1, (World.cell?_of_block ho).trans h.h2, setF_below hN l 0 W h.bel⟩
theorem SN.store {w : World} {M N : Nat} {X C1 C2 : ByteArray} {W : World} (h : SN w M X C1 C2 W) (hMN : M ≠ N) (hN : w.heap.size ≤ N) (a0 a1 a2 a3 a4 a5 a6 a7 a8 a9 a10 a11 : Value) : SN w M X C1 C2 ((((((((((((W.setCell ⟨N, 0, none⟩ a0).setCell ⟨N, 1, none⟩ a1).setCell ⟨N, 2, none⟩ a2).setCell ⟨N, 3, none⟩ a3).setCell ⟨N, 4, none⟩ a4).setCell ⟨N, 5, none⟩ a5).setCell ⟨N, 6, none⟩ a6).setCell ⟨N, 7, none⟩ a7).setCell ⟨N, 8, none⟩ a8).setCell ⟨N, 9, none⟩ a9).setCell ⟨N, 10, none⟩ a10).setCell ⟨N, 11, none⟩ a11) :=
  h.setF hMN hN [a0, a1, a2, a3, a4, a5, a6, a7, a8, a9, a10, a11]

set_option maxRecDepth 100000 in
set_option maxHeartbeats 4000000 in
theorem c_number (s : ByteArray) (hs : s.size ≤ 1000000) (hb : badB s.data.toList = false) (hn : (digsB s.data.toList).length ≤ 18) (w : World) (hm : MaxLenAt w) :
    Calls Tryd.prog 34 #[.string s] w fun e w' => ∃ g : Nat,
      e = .returned (.tuple #[fdV 4 (strB (picB (signB s.data.toList) (cutB s.data.toList).1 (cutB s.data.toList).2.1)) (digsB s.data.toList).length (cutB s.data.toList).2.1.length (!(signB s.data.toList).isEmpty) (digsB s.data.toList).length
        (.slice (some ⟨g, 0, none⟩) (digsB s.data.toList).length (digsB s.data.toList).length), .int .i64 0]) ∧ Row2 w w' g (bytesB (signB s.data.toList) (digsB s.data.toList)) := by
  obtain ⟨C1, hC1⟩ : ∃ x, x = strB (cutB s.data.toList).1 := ⟨_, rfl⟩
  obtain ⟨C2, hC2⟩ : ∃ x, x = strB (cutB s.data.toList).2.1 := ⟨_, rfl⟩
  obtain ⟨X, hX⟩ : ∃ x, x = strB (signB s.data.toList) := ⟨_, rfl⟩
  obtain ⟨D, hD⟩ : ∃ x, x = C1 ++ C2 := ⟨_, rfl⟩
  have hl : s.data.toList.length ≤ 1000000 := by rw [← Lib.size_eq]; exact hs
  have hz1 : C1.size ≤ 1000000 := by rw [hC1, strB_size]; have := (cut_len (restB s.data.toList) [46]).1; have := rest_len s.data.toList; unfold cutB; omega
  have hz2 : C2.size ≤ 1000000 := by rw [hC2, strB_size]; have := (cut_len (restB s.data.toList) [46]).2; have := rest_len s.data.toList; unfold cutB; omega
  have hDl : D.data.toList = digsB s.data.toList := by rw [hD, hC1, hC2, strB_app]; rfl
  obtain ⟨n, hn0⟩ : ∃ n, n = (digsB s.data.toList).length := ⟨_, rfl⟩
  have hDs : D.size = n := by rw [Lib.size_eq, hDl, hn0]
  obtain ⟨k, hk0⟩ : ∃ k, k = (cutB s.data.toList).2.1.length := ⟨_, rfl⟩
  have hC2s : C2.size = k := by rw [hC2, strB_size, hk0]
  obtain ⟨P, hP⟩ : ∃ x, x = strB (picB (signB s.data.toList) (cutB s.data.toList).1 (cutB s.data.toList).2.1) := ⟨_, rfl⟩
  have hdd : isDigitsB (digsB s.data.toList) = true := by
    unfold badB at hb
    simp only [Bool.or_eq_false_iff, Bool.not_eq_false'] at hb
    exact hb.2
  obtain ⟨sg, hsg⟩ : ∃ x, x = !(signB s.data.toList).isEmpty := ⟨_, rfl⟩
  rw [← hP, ← hn0, ← hk0, ← hsg]
  have HDIV : Hid (∀ W, MaxLenAt W → Calls Tryd.prog 49 #[.string s] W fun e w' => e = .returned (.tuple #[.agg #[.string X, .string C1, .string C2], .int .i64 0]) ∧ Below W.heap.size W w') := fun W hm => by
    have h := c_divide s hs W hm
    rw [hb, ← hX, ← hC1, ← hC2] at h
    exact h
  have HDG : Hid (∀ W, Calls Tryd.prog 50 #[.agg #[.string X, .string C1, .string C2]] W fun e w' => e = .returned (.string D) ∧ Below W.heap.size W w') := fun W => by
    rw [hD]; exact c_digits X C1 C2 hz1 hz2 W
  have HPI : Hid (∀ W, Calls Tryd.prog 52 #[.agg #[.string X, .string C1, .string C2]] W fun e w' => e = .returned (.string P) ∧ Below W.heap.size W w') := fun W => by
    have h := c_picture X C1 C2 hz1 hz2 W
    rw [hP, hX, hC1, hC2] at *
    exact h
  have HBY : Hid (∀ W, Calls Tryd.prog 53 #[.agg #[.string X, .string C1, .string C2]] W fun e w' =>
      ∃ g cp : Nat, e = .returned (.slice (some ⟨g, 0, none⟩) n cp) ∧ n ≤ cp ∧ Row2 W w' g (bytesB (signB s.data.toList) (digsB s.data.toList))) := fun W => by
    have h := c_bytes X C1 C2 hz1 hz2 (digsB s.data.toList) (by rw [hC1, hC2]; rfl) hdd W
    rw [hX] at h ⊢
    rw [← hn0] at h
    exact h
  have HSG : Hid ((X.toList != []) = sg) := by
    refine Lib.hid ?_
    rw [hsg, ByteArray.toList_eq X, hX]
    show ((signB s.data.toList) != []) = _
    cases signB s.data.toList <;> rfl
  have HFB := Lib.hid (FB.new w)
  have HB := Lib.hid ((Below.refl w.heap.size w).alloc (Nat.le_refl _) (.cells #[.int .u8 0, .int .u8 0, .string ⟨#[]⟩, .int .i64 0, .int .i64 0, .bool false, .bool false, .bool false, .bool false, .bool false, .int .i64 0, .slice none 0 0] 43))
  have HMX := Lib.hid (hm.below ((Below.refl w.heap.size w).alloc (Nat.le_refl _) (.cells #[.int .u8 0, .int .u8 0, .string ⟨#[]⟩, .int .i64 0, .int .i64 0, .bool false, .bool false, .bool false, .bool false, .bool false, .int .i64 0, .slice none 0 0] 43)))
  rw [← hn0] at hn
  have hnz : (n : Int) ≤ 18 := by omega
  have HDS := Lib.hid hDs
  have HC2S := Lib.hid hC2s
  clear hP hX hC1 hC2 hD hDl hn0 hDs hk0 hC2s hsg hdd hb hl hm
  go_enter Tryd.func34, Tryd.ntmps34
  go_upto_region 4 with (go_at_call 49; refine (HDIV.out _ HMX.out).mono ?_; rintro e w1 ⟨rfl, hb1⟩; have HFB1 := Lib.hid (HFB.out.kept hb1); have HB1 := Lib.hid (HB.out.trans (hb1.mono HB.out.size)); clear hb1)
  obtain ⟨M, hM⟩ : ∃ M, M = w1.heap.size := ⟨_, rfl⟩
  obtain ⟨W2, hW2⟩ : ∃ W2, W2 = w1.alloc (.cells #[.string X, .string C1, .string C2] 99) := ⟨_, rfl⟩
  rw [← hW2, ← hM]
  have HNM2 : Hid (NB W2 M (.string X) (.string C1) (.string C2)) := Lib.hid (by rw [hW2, hM]; exact (MapKept.heap_alloc w1 _).1)
  have HFB2 : Hid (FB W2 w.heap.size) := Lib.hid (by rw [hW2]; exact HFB1.out.alloc _)
  have HB2 : Hid (Below w.heap.size w W2) := Lib.hid (by rw [hW2]; exact HB1.out.alloc HB1.out.size _)
  have HMN : Hid (M ≠ w.heap.size) := Lib.hid (by have := HFB1.out.lt; omega)
  have hDn : (D.size : Int) ≤ 18 := by have := HDS.out; omega
  clear hW2 hM HB1 HFB1
  obtain ⟨n0, n1, n2⟩ := HNM2.out.cells
  go_upto_region 6 with (go_at_call 50; refine (HDG.out _).mono ?_; rintro e w3 ⟨rfl, hb3⟩; have HFB3 := Lib.hid (HFB2.out.kept hb3); have HNM3 := Lib.hid (HNM2.out.kept hb3); have HB3 := Lib.hid (HB2.out.trans (hb3.mono HB2.out.size)); clear hb3)
  obtain ⟨m0, m1, m2⟩ := HNM3.out.cells
  have S3 : SN w M X C1 C2 w3 := ⟨m0, m1, m2, HB3.out⟩
  have HS3 := Lib.hid S3
  have HS3d := Lib.hid S3.drew
  have HFB3d : Hid (FB w3.drew w.heap.size) := HFB3
  clear S3
  have HEMP := Lib.hid (emp_cases X)
  rcases HEMP.out with hx | hx
  · have hx2 := hx.2
    have HX := Lib.hid hx
    clear hx
    go_region_held3 (fun W => W.cell? ⟨M, 0, none⟩ = some (.string X) ∧ W.cell? ⟨M, 1, none⟩ = some (.string C1) ∧ W.cell? ⟨M, 2, none⟩ = some (.string C2) ∧ Below w.heap.size w W)
      ((refine SN.conj (w := w) (M := M) (X := X) (C1 := C1) (C2 := C2) ?_; first
        | with_reducible exact HSD.out
        | with_reducible exact HSC.out
        | with_reducible exact HSB.out
        | with_reducible exact HSA.out
        | with_reducible exact HS3d.out
        | with_reducible exact HS3.out
        | with_reducible exact HSD.out.store HMN.out (Nat.le_refl _) _ _ _ _ _ _ _ _ _ _ _ _))
      (first
        | (go_at_call 52; refine (HPI.out _).mono ?_; rintro e wA ⟨rfl, hA⟩; have HSA := Lib.hid ((by first | exact HS3d.out | exact HS3.out : SN w M X C1 C2 _).below hA); have HFBA := Lib.hid ((by first | exact HFB3d.out | exact HFB3.out : FB _ w.heap.size).kept hA); clear hA)
        | (go_at_call 50; refine (HDG.out _).mono ?_; rintro e wB ⟨rfl, hB⟩; have HSB := Lib.hid (HSA.out.below hB); have HFBB := Lib.hid (HFBA.out.kept hB); clear hB)
        | (go_at_call 53; refine (HBY.out _).mono ?_; rintro e wC ⟨g, cp, rfl, hcp, hrow⟩; have HSC := Lib.hid (HSB.out.below hrow.bel); have HFBC := Lib.hid (HFBB.out.kept hrow.bel); have HGN : Hid (g ≠ w.heap.size) := Lib.hid (by have := hrow.lo; have := HFBB.out.lt; omega); have HROW := Lib.hid (hrow.base HSB.out.bel); have HCP := Lib.hid hcp; clear hrow hcp)
        | (go_at_call 51; refine (c_newField 4 P D.size C2.size _ g n cp HCP.out _).mono ?_; rintro e wD ⟨rfl, hD⟩; dsimp only [fdV]; have HSD := Lib.hid (HSC.out.below hD); have HFBD := Lib.hid (HFBC.out.kept hD); have HROWD := Lib.hid (HROW.out.keep hD); clear hD; obtain ⟨c0, c1, c2, c3, c4, c5, c6, c7, c8, c9, c10, c11⟩ := HFBD.out.cells; obtain ⟨f0, f1, f2, f3, f4, f5, f6, f7, f8, f9, f10, f11⟩ := HFBD.out.free))
    all_goals
      go_wp2
      obtain ⟨w5, hw5, hb5, ho5, d0, d1, d2, d3, d4, d5, d6, d7, d8, d9, d10, d11⟩ := HFBD.out.named HSD.out.bel (Nat.le_refl _) (.int .u8 4) (.int .u8 0) (.string P) (.int .i64 D.size) (.int .i64 C2.size) (.bool false) (.bool false) (.bool false) (.bool false) (.bool false) (.int .i64 n) (.slice (some ⟨g, 0, none⟩) n n)
      rw [← hw5]
      clear hw5
      have hsgv : sg = false := by rw [← HSG.out]; rw [hx2]; rfl
      refine bodyPost_ret (by simp [results, Tryd.results34, go_sem, d0, d1, d2, d3, d4, d5, d6, d7, d8, d9, d10, d11]; try rfl) rfl ?_
      exact ⟨g, by rw [hsgv, HDS.out, HC2S.out]; rfl, HROWD.out.other ho5 HGN.out hb5⟩
  · have hx2 := hx.2
    have HX := Lib.hid hx
    clear hx
    go_region_held3 (fun W => W.cell? ⟨M, 0, none⟩ = some (.string X) ∧ W.cell? ⟨M, 1, none⟩ = some (.string C1) ∧ W.cell? ⟨M, 2, none⟩ = some (.string C2) ∧ Below w.heap.size w W)
      ((refine SN.conj (w := w) (M := M) (X := X) (C1 := C1) (C2 := C2) ?_; first
        | with_reducible exact HSD.out
        | with_reducible exact HSC.out
        | with_reducible exact HSB.out
        | with_reducible exact HSA.out
        | with_reducible exact HS3d.out
        | with_reducible exact HS3.out
        | with_reducible exact HSD.out.store HMN.out (Nat.le_refl _) _ _ _ _ _ _ _ _ _ _ _ _))
      (first
        | (go_at_call 52; refine (HPI.out _).mono ?_; rintro e wA ⟨rfl, hA⟩; have HSA := Lib.hid ((by first | exact HS3d.out | exact HS3.out : SN w M X C1 C2 _).below hA); have HFBA := Lib.hid ((by first | exact HFB3d.out | exact HFB3.out : FB _ w.heap.size).kept hA); clear hA)
        | (go_at_call 50; refine (HDG.out _).mono ?_; rintro e wB ⟨rfl, hB⟩; have HSB := Lib.hid (HSA.out.below hB); have HFBB := Lib.hid (HFBA.out.kept hB); clear hB)
        | (go_at_call 53; refine (HBY.out _).mono ?_; rintro e wC ⟨g, cp, rfl, hcp, hrow⟩; have HSC := Lib.hid (HSB.out.below hrow.bel); have HFBC := Lib.hid (HFBB.out.kept hrow.bel); have HGN : Hid (g ≠ w.heap.size) := Lib.hid (by have := hrow.lo; have := HFBB.out.lt; omega); have HROW := Lib.hid (hrow.base HSB.out.bel); have HCP := Lib.hid hcp; clear hrow hcp)
        | (go_at_call 51; refine (c_newField 4 P D.size C2.size _ g n cp HCP.out _).mono ?_; rintro e wD ⟨rfl, hD⟩; dsimp only [fdV]; have HSD := Lib.hid (HSC.out.below hD); have HFBD := Lib.hid (HFBC.out.kept hD); have HROWD := Lib.hid (HROW.out.keep hD); clear hD; obtain ⟨c0, c1, c2, c3, c4, c5, c6, c7, c8, c9, c10, c11⟩ := HFBD.out.cells; obtain ⟨f0, f1, f2, f3, f4, f5, f6, f7, f8, f9, f10, f11⟩ := HFBD.out.free))
    all_goals
      go_wp2
      obtain ⟨w5, hw5, hb5, ho5, d0, d1, d2, d3, d4, d5, d6, d7, d8, d9, d10, d11⟩ := HFBD.out.named HSD.out.bel (Nat.le_refl _) (.int .u8 4) (.int .u8 0) (.string P) (.int .i64 D.size) (.int .i64 C2.size) (.bool true) (.bool false) (.bool false) (.bool false) (.bool false) (.int .i64 n) (.slice (some ⟨g, 0, none⟩) n n)
      rw [← hw5]
      clear hw5
      have hsgv : sg = true := by rw [← HSG.out]; cases hxl : X.toList with
        | nil => rw [hxl] at hx2; cases hx2
        | cons a l => rfl
      refine bodyPost_ret (by simp [results, Tryd.results34, go_sem, d0, d1, d2, d3, d4, d5, d6, d7, d8, d9, d10, d11]; try rfl) rfl ?_
      exact ⟨g, by rw [hsgv, HDS.out, HC2S.out]; rfl, HROWD.out.other ho5 HGN.out hb5⟩
end Go.Proofs.YtahmcjgehhfknaaDoor
