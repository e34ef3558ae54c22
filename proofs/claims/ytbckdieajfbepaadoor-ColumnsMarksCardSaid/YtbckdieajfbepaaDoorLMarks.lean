/-
  The law ColumnsMarks (columnsevenlaw02), walked.
-/
import Derived.Test.YtbckdieajfbepaaDoorLives2
import Derived.Test.YtbckdieajfbepaaDoorAtK
import Derived.Test.YtbckdieajfbepaaDoorLWrite
import Derived.Deep.CutBlock
import Derived.Deep.RegionHeld3
import Derived.Deep.QuietTactic
import Derived.BigQuiet
namespace Go.Proofs.YtbckdieajfbepaaDoor
open Go.RowKit
set_option linter.unusedVariables false
set_option linter.unusedSimpArgs false
attribute [local go_sem] eqFault guardFault neqFault eqlFault

/-- What the law's before holds ahead of byte q of a card. -/
def BefAt (c : Kard) (lo q pl pc : Nat) : Prop := (q = 0 ∧ pl ≤ lo) ∨ (∃ p j m, q = p + 1 ∧ InPart c p j m ∧ pl = m.2.1 ∧ pc = m.2.2 + (p - m.1))
/-- The next byte's place is behind it. -/
theorem bef_next {L : List (List UInt8)} {lo hi : Nat} {c : Kard} (h : GoodK L lo hi c) {q pl pc j : Nat} {m : Nat × Nat × Nat} (hb : BefAt c lo q pl pc) (h1 : InPart c q j m) : pl < m.2.1 ∨ (m.2.1 = pl ∧ m.2.2 + (q - m.1) = pc + 1) := by
  rcases hb with ⟨rfl, h2⟩ | ⟨p, j', m', rfl, h2, rfl, rfl⟩
  · left
    have := (line_in h h1).1
    omega
  · rcases step_in h h2 h1 with ⟨e, _⟩ | ⟨e1, e2⟩
    · exact .inl e
    · exact .inr ⟨e1, e2⟩
theorem bef_end {L : List (List UInt8)} {lo hi : Nat} {c : Kard} (h : GoodK L lo hi c) (hne : c.text ≠ []) {pl pc j : Nat} {m : Nat × Nat × Nat} (hb : BefAt c lo c.text.length pl pc) (h1 : InPart c c.text.length j m) : m.2.1 = pl ∧ m.2.2 + (c.text.length - m.1) = pc + 1 := by
  have hl := List.length_pos_iff.2 hne
  rcases hb with ⟨h0, _⟩ | ⟨p, j', m', h0, h2, rfl, rfl⟩
  · omega
  · rw [h0] at h1 ⊢
    rcases step_in h h2 h1 with ⟨_, e⟩ | ⟨e1, e2⟩
    · omega
    · exact ⟨e1, e2⟩
theorem bef_line {L : List (List UInt8)} {lo hi : Nat} {c : Kard} (h : GoodK L lo hi c) (hne : c.text ≠ []) {pl pc : Nat} (hb : BefAt c lo c.text.length pl pc) : pl ≤ hi := by
  have hl := List.length_pos_iff.2 hne
  rcases hb with ⟨h0, _⟩ | ⟨p, j', m', h0, h2, rfl, rfl⟩
  · omega
  · exact (line_in h h2).2.1
theorem drop_cons {α : Type} {l : List α} {k : Nat} {c : α} (h : l[k]? = some c) : l.drop k = c :: l.drop (k + 1) := by
  have hk : k < l.length := by
    rcases Nat.lt_or_ge k l.length with hk | hk
    · exact hk
    · rw [List.getElem?_eq_none hk] at h; cases h
  rw [List.drop_eq_getElem_cons hk]
  rw [List.getElem?_eq_getElem hk] at h
  injection h with h
  rw [h]
/-- The cells of a card that was read. -/
theorem kard_cells {w : World} {b o cap : Nat} {L : List Kard} (h : KardsAt w (.slice (some ⟨b, o, none⟩) L.length cap) L) (k : Nat) (c : Kard) (hk : L[k]? = some c) :
    b < w.heap.size ∧ w.cell? ⟨b, o + k * 3, none⟩ = some (.bool c.left) ∧ w.cell? ⟨b, o + k * 3 + 1, none⟩ = some (.string (strL c.text)) ∧ ∃ m, w.cell? ⟨b, o + k * 3 + 2, none⟩ = some m ∧ MarksIn w m (c.marks.map castM) := by
  have hl : k < L.length := by
    rcases Nat.lt_or_ge k L.length with hk' | hk'
    · exact hk'
    · rw [List.getElem?_eq_none hk'] at hk; cases hk
  have := h.get k hl
  rw [List.getElem?_eq_getElem hl] at hk
  injection hk with hk
  rw [hk] at this
  obtain ⟨h1, h2, m, h3, h4⟩ := this
  exact ⟨lt_of_cell h1, h1, h2, m, h3, marksIn_of h4⟩
theorem posBlk {w : World} {N : Nat} {a b : Value} (h : w.heap[N]? = some (.cells #[a, b] 26 (0, 0))) : w.cell? ⟨N, 0, none⟩ = some a ∧ w.cell? ⟨N, 1, none⟩ = some b ∧ w.frozen? ⟨N, 0, none⟩ = false ∧ w.frozen? ⟨N, 1, none⟩ = false ∧ N < w.heap.size :=
  ⟨Joins.cell_of_block h 0, Joins.cell_of_block h 1, Joins.unfrozen_of_block h 0, Joins.unfrozen_of_block h 1, lt_of_block h⟩
theorem bef_col {L : List (List UInt8)} {lo hi : Nat} {c : Kard} (h : GoodK L lo hi c) (hne : c.text ≠ []) {pl pc : Nat} (hb : BefAt c lo c.text.length pl pc) : pc ≤ 72 := by
  have hl := List.length_pos_iff.2 hne
  rcases hb with ⟨h0, _⟩ | ⟨p, j', m', h0, h2, rfl, rfl⟩
  · omega
  · exact (byte_in h h2 _ (List.getElem?_eq_getElem (show p < c.text.length by omega))).1
theorem new_alloc {wr w5 : World} (h : Below wr.heap.size wr.drew w5) (o : Obj) : Below wr.heap.size wr (w5.alloc o) := ((Below.refl wr.heap.size wr).drew.trans h).alloc h.size o
theorem new_store {wr w5 : World} {O : Obj} (h : Below (wr.alloc O).heap.size (wr.alloc O).drew w5) (u v : Value) : Below wr.heap.size wr ((w5.setCell ⟨wr.heap.size, 0, none⟩ u).setCell ⟨wr.heap.size, 1, none⟩ v) :=
  ((((Below.refl wr.heap.size wr).alloc (Nat.le_refl _) O).drew.trans (h.mono (by simp))).setCell (Nat.le_refl _) _).setCell (Nat.le_refl _) _
theorem new_storeAt {wr w5 : World} {a b : Value} (h : Below (wr.alloc (.cells #[a, b] 26)).heap.size (wr.alloc (.cells #[a, b] 26)).drew w5) (u v : Value) : ((w5.setCell ⟨wr.heap.size, 0, none⟩ u).setCell ⟨wr.heap.size, 1, none⟩ v).heap[wr.heap.size]? = some (.cells #[u, v] 26 (0, 0)) := by
  have h1 : w5.heap[wr.heap.size]? = some (.cells #[a, b] 26 (0, 0)) := (h.block wr.heap.size (by simp)).trans (heap_alloc_new wr _)
  exact Joins.block_setCell (Joins.block_setCell h1 u) v
theorem bef_store {NB : Nat} {w3 w5 : World} {x y : Value} (hN : w5.heap[NB]? = some (.cells #[x, y] 26 (0, 0))) (hb : Below NB w3 w5) (hs : NB ≤ w5.heap.size) (o : Obj) (n : Nat) (u v : Value) :
    ((((w5.alloc o).drewN n).setCell ⟨NB, 0, none⟩ u).setCell ⟨NB, 1, none⟩ v).heap[NB]? = some (.cells #[u, v] 26 (0, 0)) ∧ Below NB w3 ((((w5.alloc o).drewN n).setCell ⟨NB, 0, none⟩ u).setCell ⟨NB, 1, none⟩ v) := by
  have h1 : ((w5.alloc o).drewN n).heap[NB]? = some (.cells #[x, y] 26 (0, 0)) := (Below.heap_alloc _ _ _ (lt_of_block hN)).trans hN
  have h2 : Below NB w3 ((w5.alloc o).drewN n) := below_drewNA n (hb.alloc hs o)
  exact ⟨Joins.block_setCell (Joins.block_setCell h1 u) v, (h2.setCell (Nat.le_refl _) _).setCell (Nat.le_refl _) _⟩
set_option maxHeartbeats 8000000 in
set_option maxRecDepth 100000 in
theorem l2marks (text : ByteArray) (debug : Bool) (ht : text.size ≤ 9223372036854775807) (w : World) (hml : MaxLenAt w) (htab : Lib.TabBelow Tryd.prog w.heap.size w "internal/strconv.uint64pow10" .u64 Lib.pow10Tab) :
    Calls Tryd.prog 6 #[.string text, .bool debug] w fun e w' => e = .returned (.bool true) ∧ Below w.heap.size w w' := by
  have HLIVE : Hid (∀ w1, Below w.heap.size w w1 → Calls Tryd.prog 9 #[] w1 fun e w' => e = .returned (.bool true) ∧ Below w.heap.size w w') := fun w1 hb =>
    (l2lives w1 (hml.below hb) (tabUpW htab hb)).mono fun e w' h => ⟨h.1, hb.trans (h.2.mono hb.size)⟩
  have HMAX := Lib.hid hml
  clear htab hml
  by_cases hbig : (2000 : Int) < text.size
  · go_enter Tryd.func6, Tryd.ntmps6
    go_wp2_with fail
    refine (HLIVE.out _ (Below.refl _ _)).mono ?_; rintro e w1 ⟨rfl, hb⟩
    go_wp2
    go_ret
    exact ⟨rfl, hb⟩
  have hT : text.size ≤ 2000 := by omega
  have HTS := Lib.hid (size_data text)
  clear hbig ht
  go_enter Tryd.func6, Tryd.ntmps6
  go_wp2_with fail
  refine (c_Read text debug w HMAX.out).mono ?_
  rintro e w1 ⟨hb1, hr1⟩
  have HB1 := Lib.hid hb1
  clear hb1
  cases hr : readBU true text.data.toList debug with
  | inl f =>
    rw [hr] at hr1
    obtain ⟨rfl, hf⟩ := hr1
    obtain ⟨e0, l0, c0⟩ := f
    have hq : ((e0 : Int) == 0) = false := by simp; exact hf
    clear hr hf
    simp only [faultN]
    go_wp2_with fail
    refine (HLIVE.out _ (HB1.out.alloc HB1.out.size _)).mono ?_; rintro e w2 ⟨rfl, hb⟩
    go_wp2
    go_ret
    exact ⟨rfl, hb⟩
  | inr ks =>
    rw [hr] at hr1
    obtain ⟨v, rfl, hK, _⟩ := hr1
    have hbnd := readBU_bnd _ _ _ _ hr
    have hpl := readB_pieces debug text.data.toList (by rw [← size_data]; omega)
    rw [readBU_true, hpl] at hr
    have hgood := good_from (piecesG [] text.data.toList) debug (piecesG [] text.data.toList).length 0 _ ks (by simp) (good_start _) hr
    obtain ⟨L, hL⟩ : ∃ L, L = piecesG [] text.data.toList := ⟨_, rfl⟩
    rw [← hL] at hgood
    have HL : Hid (L = (piecesA text).map (·.data.toList)) := by show _ = _; rw [hL, piecesA_data]
    have HG := Lib.hid hgood
    have hksl : ks.length ≤ 2000 := by have := hbnd.1; rw [← size_data] at this; omega
    have HKT : Hid (∀ c ∈ ks, c.text.length ≤ 130000) := fun c hc => by have := (hbnd.2.2 c hc).1; rw [← size_data] at this; omega
    clear hr hbnd hpl hgood hL
    obtain ⟨a, cap, rfl, _, _⟩ := kards_form hK
    have HK := Lib.hid hK
    clear hK
    obtain ⟨PL, hPL⟩ : ∃ n, n = (piecesA text).length := ⟨_, rfl⟩
    have hPLn : PL ≤ 2001 := by
      have := Lib.countB_le ⟨#[10]⟩ (by decide) text.size text (Nat.le_refl _)
      rw [hPL, piecesA_len]; omega
    have HPL := Lib.hid hPL
    clear hPL
    simp only [zeroF]
    obtain ⟨m0, hm0⟩ : MaxLenAt (w1.alloc (.cells #[.int .i64 0, .int .i64 0, .int .i64 0] 28)) := HMAX.out.below (HB1.out.alloc HB1.out.size _)
    have HM0 := Lib.hid hm0
    clear hm0
    go_wp2_with fail
    refine (c_split text m0 _ HM0.out (by omega) (w1.heap.size + 1) PL (by simp) HPL.out).mono ?_
    rintro e w3 ⟨rfl, hw3⟩
    have hb13 : Below w1.heap.size w1 w3 := by rw [hw3]; exact ((Below.refl _ _).alloc (Nat.le_refl _) _).alloc (by simp) _
    have HB3 : Hid (Below w.heap.size w w3) := HB1.out.trans (hb13.mono HB1.out.size)
    have HK3 : Hid (w3.heap[w1.heap.size + 1]? = some (.cells ((piecesA text).map Value.string).toArray 9)) := by
      show _ = _
      rw [hw3]; exact alloc_at5 _ _ _ (by simp)
    have HB13 := Lib.hid hb13
    have hw13 : w1.heap.size + 1 < w3.heap.size := lt_of_block HK3.out
    clear hw3 hb13
    have hpc : ∀ W, Below w3.heap.size w3 W → ∀ k, k < PL → ∃ p : ByteArray, L[k]? = some p.data.toList ∧ W.cell? ⟨w1.heap.size + 1, k, none⟩ = some (.string p) := fun W hW k hk => by
      have hl : k < (piecesA text).length := by rw [← HPL.out]; exact hk
      refine ⟨(piecesA text)[k], by rw [HL.out, List.getElem?_map, List.getElem?_eq_getElem hl]; rfl, ?_⟩
      rw [hW.cell (p := ⟨w1.heap.size + 1, k, none⟩) hw13, Joins.cell_of_block HK3.out k]
      simp [List.getElem?_eq_getElem hl]
    have HPC := Lib.hid hpc
    have HLL : Hid (L.length = PL) := by show _ = _; rw [HL.out, List.length_map, HPL.out]
    clear hpc
    go_wp2_with fail
    go_loopw [9] (fun i wr => ∃ (k bl bc lo : Nat), k ≤ ks.length ∧ i = .int .i64 k ∧ bl ≤ lo ∧ Hid (GoodL L lo (ks.drop k) L.length) ∧ Hid (wr.heap[w3.heap.size]? = some (.cells #[.int .i64 bl, .int .i64 bc] 26 (0, 0))) ∧ Hid (Below w3.heap.size w3 wr)) (fun i _ => ks.length - (intOf i).toNat)
    case atStart =>
      refine ⟨0, 0, 0, 0, Nat.zero_le _, rfl, Nat.le_refl _, ?_, ?_, (Below.refl _ _).alloc (Nat.le_refl _) _⟩
      · show GoodL _ _ _ _; rw [List.drop_zero]; exact HG.out
      · exact heap_alloc_new w3 _
    case round =>
      obtain ⟨k, bl, bc, lo, hk, rfl, hlo, HGL, HNB, HBW⟩ := hrel
      by_cases hlt : k < ks.length
      · obtain ⟨c, hc⟩ : ∃ c, ks[k]? = some c := ⟨_, List.getElem?_eq_getElem hlt⟩
        have hgl := HGL.out
        rw [drop_cons hc] at hgl
        obtain ⟨mid, hlm, hg, hne, hgr⟩ := hgl
        have HGK := Lib.hid hg; have HNE := Lib.hid hne; have HGR := Lib.hid hgr
        have hclen := HKT.out c (List.mem_of_getElem? hc)
        have hlen0 : 0 < c.text.length := List.length_pos_iff.2 hne
        obtain ⟨b, o, rfl⟩ : ∃ b o, a = some ⟨b, o, none⟩ := by
          rcases HK.out with ⟨_, h0⟩ | ⟨b, o, cap', h0, _⟩
          · rw [h0] at hlt; simp at hlt
          · injection h0 with h0; exact ⟨b, o, h0⟩
        obtain ⟨hbw, hk0, hk1, mv, hk2, hk3⟩ := kard_cells HK.out k c hc
        obtain ⟨tt, htt, htl, HTT⟩ := strVar c.text
        rw [← htt] at hk1
        have HTD : Hid (tt.data.toList = c.text) := by show _ = _; rw [htt]; rfl
        have hts : tt.size ≤ 130000 := by omega
        have HCELL : Hid (∀ W, Below w3.heap.size w3 W → W.cell? ⟨b, o + k * 3, none⟩ = some (.bool c.left) ∧ W.cell? ⟨b, o + k * 3 + 1, none⟩ = some (.string tt) ∧ W.cell? ⟨b, o + k * 3 + 2, none⟩ = some mv ∧ b < W.heap.size) := fun W hW => by
          have hB : Below w1.heap.size w1 W := HB13.out.trans (hW.mono HB13.out.size)
          exact ⟨(hB.cell (p := ⟨b, _, none⟩) hbw).trans hk0, (hB.cell (p := ⟨b, _, none⟩) hbw).trans hk1, (hB.cell (p := ⟨b, _, none⟩) hbw).trans hk2, Nat.lt_of_lt_of_le hbw hB.size⟩
        have HAT : Hid (∀ (q : Nat), q ≤ tt.size → ∀ W, Below w3.heap.size w3 W → Calls Tryd.prog 22 #[.agg #[.bool c.left, .string tt, mv], .int .i64 q] W (AtK c q W)) := fun q hq W hW => by
          have hB : Below w1.heap.size w1 W := HB13.out.trans (hW.mono HB13.out.size)
          exact c_AtK hg hne c.left tt HTD.out mv q (by rw [← HTD.out, ← size_data]; exact hq) W (hk3.below hB) (by omega)
        have HBAD : Hid (∀ (q : Int), (q < 0 ∨ tt.size < q) → -9223372036854775808 ≤ q → q ≤ 9223372036854775807 → ∀ W, Below w3.heap.size w3 W → Calls Tryd.prog 22 #[.agg #[.bool c.left, .string tt, mv], .int .i64 q] W fun e w' => e = .returned (.tuple #[.agg #[.int .i64 0, .int .i64 0], .int .i64 1]) ∧ Below W.heap.size W w') := fun q hq h1 h2 W hW => by
          have hB : Below w1.heap.size w1 W := HB13.out.trans (hW.mono HB13.out.size)
          exact c_AtBad c.left tt HTD.out mv q (by rw [← HTD.out, ← size_data]; exact hq) h1 h2 W (hk3.below hB) (by omega)
        have HLEN : Hid (c.text.length = tt.size) := by show _ = _; rw [← HTD.out, ← size_data]
        rw [HLEN.out] at hlen0
        clear hg hne hgr hc hclen hk0 hk1 hk2 hk3 htt htl hbw
        go_wp2_with fail
        go_loopw [10] (fun j wr2 => ∃ (q pl pc : Nat), q ≤ tt.size ∧ j = .int .i64 q ∧ Hid (BefAt c lo q pl pc) ∧ Hid (wr2.heap[w3.heap.size]? = some (.cells #[.int .i64 pl, .int .i64 pc] 26 (0, 0))) ∧ Hid (Below w3.heap.size w3 wr2)) (fun j _ => tt.size - (intOf j).toNat)
        case atStart => exact ⟨0, bl, bc, Nat.zero_le _, rfl, .inl ⟨rfl, hlo⟩, HNB, HBW⟩
        case round =>
          obtain ⟨q, pl, pc, hq, rfl, HBF, HNB2, HBW2⟩ := hrel
          obtain ⟨d0, d1, d2, hbw2⟩ := HCELL.out _ HBW2.out
          by_cases hqt : q < tt.size
          · go_wp2_with fail
            refine (HAT.out q (by omega) _ HBW2.out).mono ?_
            rintro e w5 ⟨hb5, j5, m5, hin, rfl⟩
            have hget := get_data tt q hqt
            rw [HTD.out] at hget
            obtain ⟨hl1, hl2, hl3⟩ := line_in HGK.out hin
            obtain ⟨hc1, hc2⟩ := byte_in HGK.out hin _ hget
            have hbn := bef_next HGK.out HBF.out hin
            have hmid := HGR.out.le
            rw [HLL.out] at hmid
            have HBN : Hid (BefAt c lo (q + 1) m5.2.1 (m5.2.2 + (q - m5.1))) := .inr ⟨q, j5, m5, rfl, hin, rfl, rfl⟩
            obtain ⟨l1, hln⟩ : ∃ l1, m5.2.1 = l1 + 1 := ⟨m5.2.1 - 1, by omega⟩
            obtain ⟨c1, hcl⟩ : ∃ c1, m5.2.2 + (q - m5.1) = c1 + 1 := ⟨m5.2.2 + (q - m5.1) - 1, by omega⟩
            rw [hln, hcl] at HBN ⊢
            rw [hln, hcl] at hc2 hbn
            rw [hcl] at hc1
            rw [hln] at hl1 hl2
            have hl1b : l1 < PL := by omega
            have hc1b : 7 ≤ c1 ∧ c1 ≤ 71 := by omega
            obtain ⟨p, hp, hpcell⟩ := HPC.out _ (HBW2.out.trans (hb5.mono HBW2.out.size)) l1 hl1b
            have HBY : Hid (p.data.toList.getD c1 32 = tt[q]) := by
              show _ = _
              rw [show l1 + 1 - 1 = l1 from rfl, show c1 + 1 - 1 = c1 from rfl] at hc2
              simpa [List.getD, hp] using hc2
            have HB5 : Hid (Below w3.heap.size w3 w5) := HBW2.out.trans (hb5.mono HBW2.out.size)
            have HN5 : Hid (w5.heap[w3.heap.size]? = some (.cells #[.int .i64 pl, .int .i64 pc] 26 (0, 0))) := (hb5.block _ (lt_of_block HNB2.out)).trans HNB2.out
            obtain ⟨d0, d1, d2, hbw2⟩ := HCELL.out _ HB5.out
            obtain ⟨n0, n1, nf0, nf1, hN5⟩ := posBlk HN5.out
            have hlw : w1.heap.size + 1 < w5.heap.size := by omega
            clear hb5 hin hln hcl hc1 hc2 hl1 hl2 hl3 hmid hget hp
            go_upto_region 15 with fail
            go_cut [106] (fun s106 wx => s106 = .bool false ∧ wx = w5.alloc (.cells #[.int .i64 ((l1 : Int) + 1), .int .i64 ((c1 : Int) + 1)] 26))
            case first =>
              rcases hbn with hbn | ⟨hbn, hbn2⟩
              · have hq1 : ((l1 : Int) + 1 == (pl : Int)) = false := by simp; omega
                have hq2 : ¬ (l1 : Int) + 1 < pl := by omega
                go_wp2
                go_meet
                refine ⟨?_, rfl⟩
                congr 1
                simp
                omega
              · subst hbn
                have hq2 : ¬ (l1 : Int) + 1 < ((l1 + 1 : Nat) : Int) := by omega
                have hq3 : ¬ (c1 : Int) + 1 ≤ pc := by omega
                go_wp2
                go_meet
                refine ⟨?_, rfl⟩
                congr 1
                simp
                omega
            case rest =>
              obtain ⟨rfl, rfl⟩ := hcut
              clear hbn
              have hw1 : IntKind.i64.wrap ((l1 : Int) + 1 - 1) = (l1 : Int) := by rw [IntWalk.i64_in _ (by omega)]; omega
              have hw2 : IntKind.i64.wrap ((c1 : Int) + 1 - 1) = (c1 : Int) := by rw [IntWalk.i64_in _ (by omega)]; omega
              have hw3 : IntKind.i64.wrap (l1 : Int) = (l1 : Int) := IntWalk.i64_in _ (by omega)
              have hw4 : IntKind.i64.wrap (c1 : Int) = (c1 : Int) := IntWalk.i64_in _ (by omega)
              have hw5 : (0 : Int) ≤ (l1 : Int) := by omega
              have hw6 : (l1 : Int) < (PL : Int) := by omega
              have hw7 : (0 : Int) ≤ (c1 : Int) := by omega
              by_cases hcp : c1 < p.size
              · have hpg := get_data p c1 hcp
                have HBE : Hid (p[c1] = tt[q]) := by
                  show _ = _
                  have := HBY.out
                  simpa [List.getD, hpg] using this
                have hq4 : ((p[c1].toNat : Int) != (tt[q].toNat : Int)) = false := by rw [HBE.out]; simp
                have hw8 : (c1 : Int) < (p.size : Int) := by omega
                have hw9 : (c1 : Int) + 1 ≤ (p.size : Int) := by omega
                clear hpg
                go_wp2_with fail
                go_quiet (fail)
                go_wp2_with fail
                go_quiet (fail)
                go_wp2_with fail
                go_roundw
                case rel =>
                  obtain ⟨z1, z2⟩ := bef_store HN5.out HB5.out (by omega) (.cells #[.int .i64 ((l1 : Int) + 1), .int .i64 ((c1 : Int) + 1)] 26) _ (.int .i64 ((l1 : Int) + 1)) (.int .i64 ((c1 : Int) + 1))
                  exact ⟨q + 1, l1 + 1, c1 + 1, by omega, by go_num, HBN, z1, z2⟩
                case measure => simp [intOf]; omega
              · have HBE : Hid ((32 : UInt8) = tt[q]) := by
                  show _ = _
                  have := HBY.out
                  simpa [List.getD, List.getElem?_eq_none (show p.data.toList.length ≤ c1 by rw [← size_data]; omega)] using this
                have hq4 : ((32 : Int) != (tt[q].toNat : Int)) = false := by rw [← HBE.out]; rfl
                have hw9 : ¬ (c1 : Int) + 1 ≤ (p.size : Int) := by omega
                go_wp2_with fail
                go_quiet (fail)
                go_wp2_with fail
                go_roundw
                case rel =>
                  obtain ⟨z1, z2⟩ := bef_store HN5.out HB5.out (by omega) (.cells #[.int .i64 ((l1 : Int) + 1), .int .i64 ((c1 : Int) + 1)] 26) _ (.int .i64 ((l1 : Int) + 1)) (.int .i64 ((c1 : Int) + 1))
                  exact ⟨q + 1, l1 + 1, c1 + 1, by omega, by go_num, HBN, z1, z2⟩
                case measure => simp [intOf]; omega
          · obtain rfl : q = tt.size := by omega
            go_wp2_with fail
            have HBF2 : Hid (∀ e w', AtK c tt.size w' e w' → True) := fun _ _ _ => trivial
            obtain ⟨n0, n1, nf0, nf1, hN5⟩ := posBlk HNB2.out
            have HEND : Hid (∀ j m, InPart c tt.size j m → m.2.1 = pl ∧ m.2.2 + (tt.size - m.1) = pc + 1) := fun j m hin => by
              have h1 := HBF.out
              rw [← HLEN.out] at h1 hin ⊢
              exact bef_end HGK.out HNE.out h1 hin
            have HPL2 : pl ≤ mid := by
              have h1 := HBF.out
              rw [← HLEN.out] at h1
              exact bef_line HGK.out HNE.out h1
            have hts2 : (tt.size : Int) ≤ 130000 := by omega
            go_upto_region 23 with fail
            have hpc72 : pc ≤ 72 := by
              have h1 := HBF.out
              rw [← HLEN.out] at h1
              exact bef_col HGK.out HNE.out h1
            generalize wr = w6 at *
            go_cut [14, 15] (fun s14 s15 wx => ∃ N14 : Nat, s14 = .pointer (some ⟨N14, 0, none⟩) ∧ s15 = .int .i64 0 ∧ Hid (wx.heap[N14]? = some (.cells #[.int .i64 pl, .int .i64 ((pc : Int) + 1)] 26 (0, 0))) ∧ Hid (Below w6.heap.size w6 wx))
            case first =>
              have KEEP : Hid (∀ W, Below w6.heap.size w6 W → W.cell? ⟨b, o + k * 3, none⟩ = some (.bool c.left) ∧ W.cell? ⟨b, o + k * 3 + 1, none⟩ = some (.string tt) ∧ W.cell? ⟨b, o + k * 3 + 2, none⟩ = some mv ∧ Below w6.heap.size w6 W) := fun W hW => by
                obtain ⟨g0, g1, g2, _⟩ := HCELL.out _ (HBW2.out.trans (hW.mono HBW2.out.size))
                exact ⟨g0, g1, g2, hW⟩
              go_region_held3 (fun W => W.cell? ⟨b, o + k * 3, none⟩ = some (.bool c.left) ∧ W.cell? ⟨b, o + k * 3 + 1, none⟩ = some (.string tt) ∧ W.cell? ⟨b, o + k * 3 + 2, none⟩ = some mv ∧ Below w6.heap.size w6 W)
                ((refine KEEP.out _ ?_; first
                  | exact (Below.refl _ _).drew
                  | exact ((Below.refl _ _).alloc (Nat.le_refl _) _).drew
                  | exact (Below.refl _ _).drew.trans hb5
                  | exact new_alloc hb5 _
                  | exact ((Below.refl _ _).alloc (Nat.le_refl _) _).drew.trans (hb5.mono (by simp))
                  | exact new_store hb5 _ _))
                (first | (go_at_call 22; refine (HAT.out tt.size (Nat.le_refl _) _ (by first | exact HBW2.out.drew | exact (HBW2.out.alloc HBW2.out.size _).drew)).mono ?_; rintro e w5 ⟨hb5, j5, m5, hin, rfl⟩; obtain ⟨he1, he2⟩ := HEND.out j5 m5 hin; rw [he1, he2]; obtain ⟨hbc1, hbc2⟩ := bcell hb5; have hz5 := hb5.size))
              all_goals
                go_wp2_with fail
                go_meet
                first
                  | exact ⟨_, rfl, rfl, heap_alloc_new _ _, new_alloc hb5 _⟩
                  | exact ⟨_, rfl, rfl, new_storeAt hb5 _ _, new_store hb5 _ _⟩
            case rest =>
              obtain ⟨N14, rfl, rfl, HP14, HBW6⟩ := hcut
              have HBW7 : Hid (Below w3.heap.size w3 wc) := HBW2.out.trans (HBW6.out.mono HBW2.out.size)
              have HNB7 : Hid (wc.heap[w3.heap.size]? = some (.cells #[.int .i64 pl, .int .i64 pc] 26 (0, 0))) := (HBW6.out.block _ (lt_of_block HNB2.out)).trans HNB2.out
              clear HBW6 HNB2 HBW2 HBF2 d0 d1 d2 hbw2 n0 n1 nf0 nf1 hN5 HEND
              generalize wc = w7 at *
              obtain ⟨d0, d1, d2, hbw2⟩ := HCELL.out _ HBW7.out
              have hwl : IntKind.i64.wrap ((tt.size : Int) + 1) = (tt.size : Int) + 1 := IntWalk.i64_in _ (by omega)
              go_upto_region 24 with fail
              go_cut [16, 17] (fun s16 s17 wx => ∃ N16 : Nat, s16 = .pointer (some ⟨N16, 0, none⟩) ∧ s17 = .int .i64 1 ∧ Hid (Below w7.heap.size w7 wx))
              case first =>
                have KEEP : Hid (∀ W, Below w7.heap.size w7 W → W.cell? ⟨b, o + k * 3, none⟩ = some (.bool c.left) ∧ W.cell? ⟨b, o + k * 3 + 1, none⟩ = some (.string tt) ∧ W.cell? ⟨b, o + k * 3 + 2, none⟩ = some mv ∧ Below w7.heap.size w7 W) := fun W hW => by
                  obtain ⟨g0, g1, g2, _⟩ := HCELL.out _ (HBW7.out.trans (hW.mono HBW7.out.size))
                  exact ⟨g0, g1, g2, hW⟩
                go_region_held3 (fun W => W.cell? ⟨b, o + k * 3, none⟩ = some (.bool c.left) ∧ W.cell? ⟨b, o + k * 3 + 1, none⟩ = some (.string tt) ∧ W.cell? ⟨b, o + k * 3 + 2, none⟩ = some mv ∧ Below w7.heap.size w7 W)
                  ((refine KEEP.out _ ?_; first
                    | exact (Below.refl _ _).drew
                    | exact ((Below.refl _ _).alloc (Nat.le_refl _) _).drew
                    | exact (Below.refl _ _).drew.trans hb5
                    | exact new_alloc hb5 _
                    | exact ((Below.refl _ _).alloc (Nat.le_refl _) _).drew.trans (hb5.mono (by simp))
                    | exact new_store hb5 _ _))
                  (first | (go_at_call 22; refine (HBAD.out ((tt.size : Int) + 1) (.inr (by omega)) (by omega) (by omega) _ (by first | exact HBW7.out.drew | exact (HBW7.out.alloc HBW7.out.size _).drew)).mono ?_; rintro e w5 ⟨rfl, hb5⟩; obtain ⟨hbc1, hbc2⟩ := bcell hb5; have hz5 := hb5.size))
                all_goals
                  go_wp2_with fail
                  go_meet
                  first
                    | exact ⟨_, rfl, rfl, new_alloc hb5 _⟩
                    | exact ⟨_, rfl, rfl, new_store hb5 _ _⟩
              case rest =>
                obtain ⟨N16, rfl, rfl, HBW8⟩ := hcut
                have HBW9 : Hid (Below w3.heap.size w3 wc) := HBW7.out.trans (HBW8.out.mono HBW7.out.size)
                have HNB9 : Hid (wc.heap[w3.heap.size]? = some (.cells #[.int .i64 pl, .int .i64 pc] 26 (0, 0))) := (HBW8.out.block _ (lt_of_block HNB7.out)).trans HNB7.out
                have HP9 : Hid (wc.heap[N14]? = some (.cells #[.int .i64 pl, .int .i64 ((pc : Int) + 1)] 26 (0, 0))) := (HBW8.out.block _ (lt_of_block HP14.out)).trans HP14.out
                clear HBW8 HNB7 HBW7 HP14 d0 d1 d2 hbw2 hwl
                generalize wc = w9 at *
                obtain ⟨d0, d1, d2, hbw2⟩ := HCELL.out _ HBW9.out
                go_wp2_with fail
                refine (HBAD.out (-1) (.inl (by omega)) (by omega) (by omega) _ HBW9.out).mono ?_
                rintro e w10 ⟨rfl, hb10⟩
                have HBW10 : Hid (Below w3.heap.size w3 w10) := HBW9.out.trans (hb10.mono HBW9.out.size)
                have HNB10 : Hid (w10.heap[w3.heap.size]? = some (.cells #[.int .i64 pl, .int .i64 pc] 26 (0, 0))) := (hb10.block _ (lt_of_block HNB9.out)).trans HNB9.out
                have HP10 : Hid (w10.heap[N14]? = some (.cells #[.int .i64 pl, .int .i64 ((pc : Int) + 1)] 26 (0, 0))) := (hb10.block _ (lt_of_block HP9.out)).trans HP9.out
                obtain ⟨n0, n1, nf0, nf1, hN10⟩ := posBlk HNB10.out
                obtain ⟨v0, v1, vf0, vf1, hV10⟩ := posBlk HP10.out
                have hpc0 : (0 : Int) ≤ (pc : Int) ∧ (pc : Int) ≤ 72 := by omega
                clear hb10 d0 d1 d2 hbw2
                go_wp2_with fail
                go_roundw
                case rel =>
                  exact ⟨k + 1, pl, pc, mid, by omega, by go_num, HPL2, HGR, (Below.heap_alloc _ _ _ hN10).trans HNB10.out, HBW10.out.alloc HBW10.out.size _⟩
                case measure => simp [intOf]; omega
      · go_wp2_with fail
        refine (HLIVE.out _ (HB3.out.trans (HBW.out.mono HB3.out.size))).mono ?_; rintro e w5 ⟨rfl, hb⟩
        go_wp2
        go_ret
        exact ⟨rfl, hb⟩
end Go.Proofs.YtbckdieajfbepaaDoor
