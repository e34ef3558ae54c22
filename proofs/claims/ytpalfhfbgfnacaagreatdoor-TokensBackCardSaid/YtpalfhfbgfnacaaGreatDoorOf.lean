/-
  The contract of the law's S.Of (columnsevenlaw03): the tokens of the pieces, in memory.
-/
import Derived.Test.YtpalfhfbgfnacaaGreatDoorOfL
import Derived.Test.YtpalfhfbgfnacaaGreatDoorSc7
namespace Go.Proofs.YtpalfhfbgfnacaaGreatDoor
open Go.RowKit
set_option linter.unusedVariables false
set_option linter.unusedSimpArgs false
attribute [local go_sem] eqFault guardFault neqFault

def strsC (L : List (List UInt8)) : Array Value := (L.map fun l => Value.string (strL l)).toArray
/-- A table of strings in block T. -/
def TabO (w : World) (T : Nat) (L : List (List UInt8)) : Prop := ∃ fr, w.heap[T]? = some (.cells (strsC L) 9 fr)
theorem TabO.cell {w : World} {T j : Nat} {L : List (List UInt8)} (h : TabO w T L) (hj : j < L.length) : w.cell? ⟨T, j, none⟩ = some (.string (strL (L.getD j []))) := by
  obtain ⟨fr, h⟩ := h
  have h1 := Joins.cell_of_block h j
  rw [h1]
  simp [strsC, List.getD, List.getElem?_eq_getElem hj]
theorem TabO.below {B : Nat} {w w' : World} {T : Nat} {L : List (List UInt8)} (h : TabO w T L) (hT : T < B) (hb : Below B w w') : TabO w' T L := by
  obtain ⟨fr, h⟩ := h
  exact ⟨fr, (hb.block T hT).trans h⟩
/-- The pieces in memory. -/
def PsIn (B : Nat) (w : World) (v : Value) (S : List (Nat × Nat)) : Prop :=
  ∃ a cap, v = .slice a S.length cap ∧ S.length ≤ 9223372036854775807 ∧ (0 < S.length → ∃ b o, a = some ⟨b, o, none⟩ ∧ b < B ∧
    ∀ k p, k < 200 → S[k]? = some p → p.1 < 256 ∧ p.2 < 65536 ∧ w.cell? ⟨b, o + k * 2, none⟩ = some (.int .u8 p.1) ∧ w.cell? ⟨b, o + k * 2 + 1, none⟩ = some (.int .u16 p.2))
structure OfR (B : Nat) (w0 : World) (acc : List Tok) (ov : Value) (wr : World) : Prop where
  own : TkOwn B wr ov acc
  bel : Below B w0 wr
  size : B ≤ wr.heap.size
theorem OfR.next {B : Nat} {w0 wr w6 : World} {acc : List Tok} {ov v' : Value} {tok : Tok} {cs : Array Value} {t : TypeId} (h : OfR B w0 acc ov wr) (hcn : acc.length < 65536) (hkd : tok.kind < 256)
    (ho : w6.ownsRow B 44 5 v' (acc.length + 1) (toksC acc ++ tokC tok)) (hg : (wr.alloc (.cells cs t)).grownBy w6 ov.ownBlock) : OfR B w0 (acc ++ [tok]) v' w6 := by
  have hW : Below wr.heap.size wr (wr.alloc (.cells cs t)) := (Below.refl _ _).alloc (Nat.le_refl _) _
  have h2 := h.own.below hW
  have hs : B ≤ (wr.alloc (.cells cs t)).heap.size := Nat.le_trans h.size hW.size
  have hB6 : Below B (wr.alloc (.cells cs t)) w6 := (Below.refl B _).grown hg hs fun k hk => (h2.1.lt k hk).1
  refine ⟨⟨?_, ?_, ?_⟩, (h.bel.trans (hW.mono h.size)).trans hB6, Nat.le_trans hs hB6.size⟩
  · rw [List.length_append, toksC_snoc]; exact ho
  · rw [List.length_append]; simp; omega
  · intro t ht
    rcases List.mem_append.1 ht with ht | ht
    · exact h.own.2.2 t ht
    · rw [List.mem_singleton] at ht; rw [ht]; exact hkd
theorem pieceO_k {p : Nat × Nat} {c : Nat} (h : p.1 % 8 = c) : pieceO p = pieceK c p.2 := by rw [← h]; rfl
set_option maxHeartbeats 8000000 in
set_option maxRecDepth 100000 in
theorem c_Of (v : Value) (S : List (Nat × Nat)) (w : World) (h : PsIn w.heap.size w v S) :
    Calls Tryz.prog 13 #[v] w fun e w' => Below w.heap.size w w' ∧ ∃ ov, e = .returned ov ∧ ToksAt w' ov (OfT S) := by
  obtain ⟨a, cap, rfl, hSl, hps⟩ := h
  have HPS := Lib.hid hps
  clear hps
  go_enter Tryz.func13, Tryz.ntmps13
  go_upto_region 2 with fail
  obtain ⟨w1, hw1⟩ : ∃ x, x = w.alloc (.cells (strsC wordsO) 9) := ⟨_, rfl⟩
  have HT0 : TabO w1 w.heap.size wordsO := ⟨(0, 0), by rw [hw1]; exact heap_alloc_new w _⟩
  have hb0 : Below w.heap.size w w1 := by rw [hw1]; exact (Below.refl _ _).alloc (Nat.le_refl _) _
  have hs0 : w1.heap.size = w.heap.size + 1 := by rw [hw1]; simp
  have HS0 := Lib.hid hs0
  have HB0 := Lib.hid hb0
  have HH0 := Lib.hid HT0
  clear HT0 hb0 hs0
  have hE0 : w.alloc (.cells (strsC wordsO) 9) = w1 := hw1.symm
  clear hw1
  change Code.wp _ _ _ _ (w.alloc (.cells (strsC wordsO) 9))
  rw [hE0]
  clear hE0
  obtain ⟨T0, hT0⟩ : ∃ x, x = w.heap.size := ⟨_, rfl⟩
  have HN0 := Lib.hid hT0
  rw [← hT0]
  clear hT0
  go_upto_region 3 with fail
  obtain ⟨w2, hw2⟩ : ∃ x, x = w1.alloc (.cells (strsC numsO) 9) := ⟨_, rfl⟩
  have HT1 : TabO w2 w1.heap.size numsO := ⟨(0, 0), by rw [hw2]; exact heap_alloc_new w1 _⟩
  have hb1 : Below w1.heap.size w1 w2 := by rw [hw2]; exact (Below.refl _ _).alloc (Nat.le_refl _) _
  have hs1 : w2.heap.size = w1.heap.size + 1 := by rw [hw2]; simp
  have HS1 := Lib.hid hs1
  have HB1 := Lib.hid hb1
  have HH1 := Lib.hid HT1
  clear HT1 hb1 hs1
  have hE1 : w1.alloc (.cells (strsC numsO) 9) = w2 := hw2.symm
  clear hw2
  change Code.wp _ _ _ _ (w1.alloc (.cells (strsC numsO) 9))
  rw [hE1]
  clear hE1
  obtain ⟨T1, hT1⟩ : ∃ x, x = w1.heap.size := ⟨_, rfl⟩
  have HN1 := Lib.hid hT1
  rw [← hT1]
  clear hT1
  go_upto_region 4 with fail
  obtain ⟨w3, hw3⟩ : ∃ x, x = w2.alloc (.cells (strsC quosO) 9) := ⟨_, rfl⟩
  have HT2 : TabO w3 w2.heap.size quosO := ⟨(0, 0), by rw [hw3]; exact heap_alloc_new w2 _⟩
  have hb2 : Below w2.heap.size w2 w3 := by rw [hw3]; exact (Below.refl _ _).alloc (Nat.le_refl _) _
  have hs2 : w3.heap.size = w2.heap.size + 1 := by rw [hw3]; simp
  have HS2 := Lib.hid hs2
  have HB2 := Lib.hid hb2
  have HH2 := Lib.hid HT2
  clear HT2 hb2 hs2
  have hE2 : w2.alloc (.cells (strsC quosO) 9) = w3 := hw3.symm
  clear hw3
  change Code.wp _ _ _ _ (w2.alloc (.cells (strsC quosO) 9))
  rw [hE2]
  clear hE2
  obtain ⟨T2, hT2⟩ : ∃ x, x = w2.heap.size := ⟨_, rfl⟩
  have HN2 := Lib.hid hT2
  rw [← hT2]
  clear hT2
  go_upto_region 5 with fail
  obtain ⟨w4, hw4⟩ : ∃ x, x = w3.alloc (.cells (strsC sgnsO) 9) := ⟨_, rfl⟩
  have HT3 : TabO w4 w3.heap.size sgnsO := ⟨(0, 0), by rw [hw4]; exact heap_alloc_new w3 _⟩
  have hb3 : Below w3.heap.size w3 w4 := by rw [hw4]; exact (Below.refl _ _).alloc (Nat.le_refl _) _
  have hs3 : w4.heap.size = w3.heap.size + 1 := by rw [hw4]; simp
  have HS3 := Lib.hid hs3
  have HB3 := Lib.hid hb3
  have HH3 := Lib.hid HT3
  clear HT3 hb3 hs3
  have hE3 : w3.alloc (.cells (strsC sgnsO) 9) = w4 := hw4.symm
  clear hw4
  change Code.wp _ _ _ _ (w3.alloc (.cells (strsC sgnsO) 9))
  rw [hE3]
  clear hE3
  obtain ⟨T3, hT3⟩ : ∃ x, x = w3.heap.size := ⟨_, rfl⟩
  have HN3 := Lib.hid hT3
  rw [← hT3]
  clear hT3
  go_upto_region 6 with fail
  obtain ⟨w5, hw5⟩ : ∃ x, x = w4.alloc (.cells (strsC picsO) 9) := ⟨_, rfl⟩
  have HT4 : TabO w5 w4.heap.size picsO := ⟨(0, 0), by rw [hw5]; exact heap_alloc_new w4 _⟩
  have hb4 : Below w4.heap.size w4 w5 := by rw [hw5]; exact (Below.refl _ _).alloc (Nat.le_refl _) _
  have hs4 : w5.heap.size = w4.heap.size + 1 := by rw [hw5]; simp
  have HS4 := Lib.hid hs4
  have HB4 := Lib.hid hb4
  have HH4 := Lib.hid HT4
  clear HT4 hb4 hs4
  have hE4 : w4.alloc (.cells (strsC picsO) 9) = w5 := hw5.symm
  clear hw5
  change Code.wp _ _ _ _ (w4.alloc (.cells (strsC picsO) 9))
  rw [hE4]
  clear hE4
  obtain ⟨T4, hT4⟩ : ∃ x, x = w4.heap.size := ⟨_, rfl⟩
  have HN4 := Lib.hid hT4
  rw [← hT4]
  clear hT4
  obtain ⟨B, hB⟩ : ∃ B, B = w5.heap.size := ⟨_, rfl⟩
  have HWW : Hid (Below w.heap.size w w5) := ((((HB0.out).trans (HB1.out.mono (by have := HS0.out; omega))).trans (HB2.out.mono (by have := HS0.out; have := HS1.out; omega))).trans (HB3.out.mono (by have := HS0.out; have := HS1.out; have := HS2.out; omega))).trans (HB4.out.mono (by have := HS0.out; have := HS1.out; have := HS2.out; have := HS3.out; omega))
  have hwB : w.heap.size ≤ B := by rw [hB]; exact HWW.out.size
  have HTAB : Hid (∀ W2, Below B w5 W2 → TabO W2 T0 wordsO ∧ TabO W2 T1 numsO ∧ TabO W2 T2 quosO ∧ TabO W2 T3 sgnsO ∧ TabO W2 T4 picsO) := fun W2 h2 => by
    have a0 := HS0.out; have a1 := HS1.out; have a2 := HS2.out; have a3 := HS3.out; have a4 := HS4.out
    have b4 := HB4.out
    have b3 := HB3.out.trans (b4.mono (by omega))
    have b2 := HB2.out.trans (b3.mono (by omega))
    have b1 := HB1.out.trans (b2.mono (by omega))
    rw [HN0.out, HN1.out, HN2.out, HN3.out, HN4.out]
    exact ⟨(HH0.out.below (B := w1.heap.size) (by omega) b1).below (B := B) (by omega) h2, (HH1.out.below (B := w2.heap.size) (by omega) b2).below (B := B) (by omega) h2, (HH2.out.below (B := w3.heap.size) (by omega) b3).below (B := B) (by omega) h2, (HH3.out.below (B := w4.heap.size) (by omega) b4).below (B := B) (by omega) h2, HH4.out.below (B := B) (by omega) h2⟩
  have HST : Hid (OfR B w5 [] (.slice none 0 0) w5) := ⟨⟨World.ownsRow_nil _ _ _ _, by simp, by simp⟩, Below.refl _ _, by omega⟩
  clear HB0 HB1 HB2 HB3 HB4 HS0 HS1 HS2 HS3 HS4 HN0 HN1 HN2 HN3 HN4 HH0 HH1 HH2 HH3 HH4
  have HBE := Lib.hid hB
  clear hB
  go_wp2
  go_loopw [8, 9] (fun ov iv wr => ∃ k : Nat, k ≤ S.length ∧ k ≤ 200 ∧ iv = .int .i64 k ∧ Hid (OfR B w5 ((S.take k).flatMap pieceO) ov wr)) (fun _ iv _ => S.length - (intOf iv).toNat)
  case atStart => exact ⟨0, Nat.zero_le _, by omega, rfl, HST⟩
  case round =>
    obtain ⟨k, hk, hk2, rfl, HR⟩ := hrel
    clear HST
    by_cases hlt : k < S.length
    · by_cases hlt2 : k < 200
      · obtain ⟨p, hp⟩ : ∃ p, S[k]? = some p := ⟨_, List.getElem?_eq_getElem hlt⟩
        obtain ⟨b, o, rfl, hbB, hcells⟩ := HPS.out (by omega)
        obtain ⟨hp1, hp2, k0, k1⟩ := hcells k p hlt2 hp
        have HE : Hid ((S.take (k + 1)).flatMap pieceO = (S.take k).flatMap pieceO ++ pieceO p) := pieces_snoc S k p hp
        have HL : Hid (((S.take k).flatMap pieceO).length ≤ 600) := pieces_len S k (by omega)
        obtain ⟨acc, hacc⟩ : ∃ acc, acc = (S.take k).flatMap pieceO := ⟨_, rfl⟩
        rw [← hacc] at HE HL HR
        obtain ⟨K, n⟩ := p
        have hbW : Below w.heap.size w wr := HWW.out.trans (HR.out.bel.mono hwB)
        have c0 := (hbW.cell (p := ⟨b, o + k * 2, none⟩) hbB).trans k0
        have c1 := (hbW.cell (p := ⟨b, o + k * 2 + 1, none⟩) hbB).trans k1
        obtain ⟨X0, X1, X2, X3, X4⟩ := HTAB.out wr HR.out.bel
        have HX0 := Lib.hid X0
        have HX1 := Lib.hid X1
        have HX2 := Lib.hid X2
        have HX3 := Lib.hid X3
        have HX4 := Lib.hid X4
        obtain ⟨ta, tcap, rfl⟩ := own_sl HR.out.own.1
        clear hp k0 k1 hcells hbW hacc hbB X0 X1 X2 X3 X4
        simp only at hp1 hp2 c0 c1
        have HAL1 : Hid (acc.length ≤ 620) := by show _ ≤ 620; have := HL.out; omega
        go_upto_region 17 with fail
        clear c0 c1
        have h8 : K % 8 < 8 := Nat.mod_lt _ (by omega)
        obtain ⟨c, hc⟩ : ∃ c, K % 8 = c := ⟨_, rfl⟩
        have hq : ((K : Int) % 8) = (c : Int) := by omega
        rw [hq]
        rw [hc] at h8
        clear hq
        match c, h8, hc with
        | 0, _, hc =>
          obtain ⟨j, hj⟩ : ∃ j, j = n % 12 := ⟨_, rfl⟩
          have hj1 : ((n : Int) % 12) = (j : Int) := by omega
          have hjl : j < 12 := by omega
          obtain ⟨xs, hxs⟩ : ∃ xs, xs = strL (wordsO.getD j []) := ⟨_, rfl⟩
          have c2 : wr.cell? ⟨T0, j, none⟩ = some (.string xs) := by rw [hxs]; exact HX0.out.cell hjl
          have HTOK : Hid (tokC (tk0 1 (wordsO.getD j [])) = [.int .u8 1, .string xs, .int .i64 0, .int .i64 0, .bool false]) := by show _ = _; rw [hxs]; rfl
          have HP : Hid ((S.take (k + 1)).flatMap pieceO = acc ++ [tk0 1 (wordsO.getD j [])]) := by show _ = _; rw [HE.out, pieceO_k (p := (K, n)) hc, hj]; rfl
          clear hxs hj hc
          obtain ⟨i1, hii1, hza1, hzb1, hzc1⟩ := info_parts Tryz.infoTok
          have htb1 : Below wr.heap.size wr (wr.alloc (.cells #[.int .u8 1, .string xs, .int .i64 0, .int .i64 0, .bool false] 44)) := (Below.refl _ _).alloc (Nat.le_refl _) _
          have HOWN1 := Lib.hid ((HR.out.own.below htb1).1)
          have HNEWS1 := Lib.hid (World.news_of_block (cs := #[.int .u8 1, .string xs, .int .i64 0, .int .i64 0, .bool false]) (t := 44) (fr := (0, 0)) (heap_alloc_new wr (.cells #[.int .u8 1, .string xs, .int .i64 0, .int .i64 0, .bool false] 44)))
          have hal1 : acc.length ≤ 620 := HAL1.out
          have HML1 : Hid (acc.length + 1 ≤ maxLen) := by show _ ≤ maxLen; unfold maxLen; omega
          have hbs1 := HR.out.size
          clear htb1
          go_wp2_with (at_builtin; refine wpList_append_own _ rfl (.tmp 72) (.tmp 81) 31 rfl B 44 i1 _ 5 48 Tryz.underlying31 hii1 hza1 hzb1 hzc1 rfl (by decide) (.slice ta acc.length tcap) acc.length (toksC acc) rfl HOWN1.out ⟨wr.heap.size, 0, none⟩ 1 1 [.int .u8 1, .string xs, .int .i64 0, .int .i64 0, .bool false] rfl rfl HNEWS1.out (by simp [Value.oneCell']) HML1.out (by omega) (by simp; omega) ?_; intro v1 x1 hown1 hgrow1 _; have HN1 := Lib.hid (HR.out.next (tok := tk0 1 (wordsO.getD j [])) (by omega) (show 1 < 256 by decide) (by rw [HTOK.out]; exact hown1) hgrow1); clear hown1 hgrow1)
          go_roundw
          case rel => exact ⟨k + 1, by omega, by omega, by go_num, by rw [HP.out]; exact HN1⟩
          case measure => simp [intOf]; omega
        | 1, _, hc =>
          obtain ⟨j, hj⟩ : ∃ j, j = n % 12 := ⟨_, rfl⟩
          have hj1 : ((n : Int) % 12) = (j : Int) := by omega
          have hjl : j < 12 := by omega
          obtain ⟨xs, hxs⟩ : ∃ xs, xs = strL (wordsO.getD j []) := ⟨_, rfl⟩
          have c2 : wr.cell? ⟨T0, j, none⟩ = some (.string xs) := by rw [hxs]; exact HX0.out.cell hjl
          have HTOK : Hid (tokC (tk0 1 (wordsO.getD j [])) = [.int .u8 1, .string xs, .int .i64 0, .int .i64 0, .bool false]) := by show _ = _; rw [hxs]; rfl
          have HP : Hid ((S.take (k + 1)).flatMap pieceO = acc ++ [tk0 1 (wordsO.getD j [])]) := by show _ = _; rw [HE.out, pieceO_k (p := (K, n)) hc, hj]; rfl
          clear hxs hj hc
          obtain ⟨i1, hii1, hza1, hzb1, hzc1⟩ := info_parts Tryz.infoTok
          have htb1 : Below wr.heap.size wr (wr.alloc (.cells #[.int .u8 1, .string xs, .int .i64 0, .int .i64 0, .bool false] 44)) := (Below.refl _ _).alloc (Nat.le_refl _) _
          have HOWN1 := Lib.hid ((HR.out.own.below htb1).1)
          have HNEWS1 := Lib.hid (World.news_of_block (cs := #[.int .u8 1, .string xs, .int .i64 0, .int .i64 0, .bool false]) (t := 44) (fr := (0, 0)) (heap_alloc_new wr (.cells #[.int .u8 1, .string xs, .int .i64 0, .int .i64 0, .bool false] 44)))
          have hal1 : acc.length ≤ 620 := HAL1.out
          have HML1 : Hid (acc.length + 1 ≤ maxLen) := by show _ ≤ maxLen; unfold maxLen; omega
          have hbs1 := HR.out.size
          clear htb1
          go_wp2_with (at_builtin; refine wpList_append_own _ rfl (.tmp 72) (.tmp 81) 31 rfl B 44 i1 _ 5 48 Tryz.underlying31 hii1 hza1 hzb1 hzc1 rfl (by decide) (.slice ta acc.length tcap) acc.length (toksC acc) rfl HOWN1.out ⟨wr.heap.size, 0, none⟩ 1 1 [.int .u8 1, .string xs, .int .i64 0, .int .i64 0, .bool false] rfl rfl HNEWS1.out (by simp [Value.oneCell']) HML1.out (by omega) (by simp; omega) ?_; intro v1 x1 hown1 hgrow1 _; have HN1 := Lib.hid (HR.out.next (tok := tk0 1 (wordsO.getD j [])) (by omega) (show 1 < 256 by decide) (by rw [HTOK.out]; exact hown1) hgrow1); clear hown1 hgrow1)
          go_roundw
          case rel => exact ⟨k + 1, by omega, by omega, by go_num, by rw [HP.out]; exact HN1⟩
          case measure => simp [intOf]; omega
        | 2, _, hc =>
          obtain ⟨j, hj⟩ : ∃ j, j = n % 8 := ⟨_, rfl⟩
          have hj1 : ((n : Int) % 8) = (j : Int) := by omega
          have hjl : j < 8 := by omega
          obtain ⟨xs, hxs⟩ : ∃ xs, xs = strL (numsO.getD j []) := ⟨_, rfl⟩
          have c2 : wr.cell? ⟨T1, j, none⟩ = some (.string xs) := by rw [hxs]; exact HX1.out.cell hjl
          have HTOK : Hid (tokC (tk0 2 (numsO.getD j [])) = [.int .u8 2, .string xs, .int .i64 0, .int .i64 0, .bool false]) := by show _ = _; rw [hxs]; rfl
          have HP : Hid ((S.take (k + 1)).flatMap pieceO = acc ++ [tk0 2 (numsO.getD j [])]) := by show _ = _; rw [HE.out, pieceO_k (p := (K, n)) hc, hj]; rfl
          clear hxs hj hc
          obtain ⟨i1, hii1, hza1, hzb1, hzc1⟩ := info_parts Tryz.infoTok
          have htb1 : Below wr.heap.size wr (wr.alloc (.cells #[.int .u8 2, .string xs, .int .i64 0, .int .i64 0, .bool false] 44)) := (Below.refl _ _).alloc (Nat.le_refl _) _
          have HOWN1 := Lib.hid ((HR.out.own.below htb1).1)
          have HNEWS1 := Lib.hid (World.news_of_block (cs := #[.int .u8 2, .string xs, .int .i64 0, .int .i64 0, .bool false]) (t := 44) (fr := (0, 0)) (heap_alloc_new wr (.cells #[.int .u8 2, .string xs, .int .i64 0, .int .i64 0, .bool false] 44)))
          have hal1 : acc.length ≤ 620 := HAL1.out
          have HML1 : Hid (acc.length + 1 ≤ maxLen) := by show _ ≤ maxLen; unfold maxLen; omega
          have hbs1 := HR.out.size
          clear htb1
          go_wp2_with (at_builtin; refine wpList_append_own _ rfl (.tmp 85) (.tmp 94) 31 rfl B 44 i1 _ 5 48 Tryz.underlying31 hii1 hza1 hzb1 hzc1 rfl (by decide) (.slice ta acc.length tcap) acc.length (toksC acc) rfl HOWN1.out ⟨wr.heap.size, 0, none⟩ 1 1 [.int .u8 2, .string xs, .int .i64 0, .int .i64 0, .bool false] rfl rfl HNEWS1.out (by simp [Value.oneCell']) HML1.out (by omega) (by simp; omega) ?_; intro v1 x1 hown1 hgrow1 _; have HN1 := Lib.hid (HR.out.next (tok := tk0 2 (numsO.getD j [])) (by omega) (show 2 < 256 by decide) (by rw [HTOK.out]; exact hown1) hgrow1); clear hown1 hgrow1)
          go_roundw
          case rel => exact ⟨k + 1, by omega, by omega, by go_num, by rw [HP.out]; exact HN1⟩
          case measure => simp [intOf]; omega
        | 3, _, hc =>
          obtain ⟨j, hj⟩ : ∃ j, j = n % 8 := ⟨_, rfl⟩
          have hj1 : ((n : Int) % 8) = (j : Int) := by omega
          have hjl : j < 8 := by omega
          obtain ⟨xs, hxs⟩ : ∃ xs, xs = strL (quosO.getD j []) := ⟨_, rfl⟩
          have c2 : wr.cell? ⟨T2, j, none⟩ = some (.string xs) := by rw [hxs]; exact HX2.out.cell hjl
          have HTOK : Hid (tokC (tk0 3 (quosO.getD j [])) = [.int .u8 3, .string xs, .int .i64 0, .int .i64 0, .bool false]) := by show _ = _; rw [hxs]; rfl
          have HP : Hid ((S.take (k + 1)).flatMap pieceO = acc ++ [tk0 3 (quosO.getD j [])]) := by show _ = _; rw [HE.out, pieceO_k (p := (K, n)) hc, hj]; rfl
          clear hxs hj hc
          obtain ⟨i1, hii1, hza1, hzb1, hzc1⟩ := info_parts Tryz.infoTok
          have htb1 : Below wr.heap.size wr (wr.alloc (.cells #[.int .u8 3, .string xs, .int .i64 0, .int .i64 0, .bool false] 44)) := (Below.refl _ _).alloc (Nat.le_refl _) _
          have HOWN1 := Lib.hid ((HR.out.own.below htb1).1)
          have HNEWS1 := Lib.hid (World.news_of_block (cs := #[.int .u8 3, .string xs, .int .i64 0, .int .i64 0, .bool false]) (t := 44) (fr := (0, 0)) (heap_alloc_new wr (.cells #[.int .u8 3, .string xs, .int .i64 0, .int .i64 0, .bool false] 44)))
          have hal1 : acc.length ≤ 620 := HAL1.out
          have HML1 : Hid (acc.length + 1 ≤ maxLen) := by show _ ≤ maxLen; unfold maxLen; omega
          have hbs1 := HR.out.size
          clear htb1
          go_wp2_with (at_builtin; refine wpList_append_own _ rfl (.tmp 98) (.tmp 107) 31 rfl B 44 i1 _ 5 48 Tryz.underlying31 hii1 hza1 hzb1 hzc1 rfl (by decide) (.slice ta acc.length tcap) acc.length (toksC acc) rfl HOWN1.out ⟨wr.heap.size, 0, none⟩ 1 1 [.int .u8 3, .string xs, .int .i64 0, .int .i64 0, .bool false] rfl rfl HNEWS1.out (by simp [Value.oneCell']) HML1.out (by omega) (by simp; omega) ?_; intro v1 x1 hown1 hgrow1 _; have HN1 := Lib.hid (HR.out.next (tok := tk0 3 (quosO.getD j [])) (by omega) (show 3 < 256 by decide) (by rw [HTOK.out]; exact hown1) hgrow1); clear hown1 hgrow1)
          go_roundw
          case rel => exact ⟨k + 1, by omega, by omega, by go_num, by rw [HP.out]; exact HN1⟩
          case measure => simp [intOf]; omega
        | 4, _, hc =>
          obtain ⟨j, hj⟩ : ∃ j, j = n % 14 := ⟨_, rfl⟩
          have hj1 : ((n : Int) % 14) = (j : Int) := by omega
          have hjl : j < 14 := by omega
          obtain ⟨xs, hxs⟩ : ∃ xs, xs = strL (sgnsO.getD j []) := ⟨_, rfl⟩
          have c2 : wr.cell? ⟨T3, j, none⟩ = some (.string xs) := by rw [hxs]; exact HX3.out.cell hjl
          have HTOK : Hid (tokC (tk0 5 (sgnsO.getD j [])) = [.int .u8 5, .string xs, .int .i64 0, .int .i64 0, .bool false]) := by show _ = _; rw [hxs]; rfl
          have HP : Hid ((S.take (k + 1)).flatMap pieceO = acc ++ [tk0 5 (sgnsO.getD j [])]) := by show _ = _; rw [HE.out, pieceO_k (p := (K, n)) hc, hj]; rfl
          clear hxs hj hc
          obtain ⟨i1, hii1, hza1, hzb1, hzc1⟩ := info_parts Tryz.infoTok
          have htb1 : Below wr.heap.size wr (wr.alloc (.cells #[.int .u8 5, .string xs, .int .i64 0, .int .i64 0, .bool false] 44)) := (Below.refl _ _).alloc (Nat.le_refl _) _
          have HOWN1 := Lib.hid ((HR.out.own.below htb1).1)
          have HNEWS1 := Lib.hid (World.news_of_block (cs := #[.int .u8 5, .string xs, .int .i64 0, .int .i64 0, .bool false]) (t := 44) (fr := (0, 0)) (heap_alloc_new wr (.cells #[.int .u8 5, .string xs, .int .i64 0, .int .i64 0, .bool false] 44)))
          have hal1 : acc.length ≤ 620 := HAL1.out
          have HML1 : Hid (acc.length + 1 ≤ maxLen) := by show _ ≤ maxLen; unfold maxLen; omega
          have hbs1 := HR.out.size
          clear htb1
          go_wp2_with (at_builtin; refine wpList_append_own _ rfl (.tmp 111) (.tmp 120) 31 rfl B 44 i1 _ 5 48 Tryz.underlying31 hii1 hza1 hzb1 hzc1 rfl (by decide) (.slice ta acc.length tcap) acc.length (toksC acc) rfl HOWN1.out ⟨wr.heap.size, 0, none⟩ 1 1 [.int .u8 5, .string xs, .int .i64 0, .int .i64 0, .bool false] rfl rfl HNEWS1.out (by simp [Value.oneCell']) HML1.out (by omega) (by simp; omega) ?_; intro v1 x1 hown1 hgrow1 _; have HN1 := Lib.hid (HR.out.next (tok := tk0 5 (sgnsO.getD j [])) (by omega) (show 5 < 256 by decide) (by rw [HTOK.out]; exact hown1) hgrow1); clear hown1 hgrow1)
          go_roundw
          case rel => exact ⟨k + 1, by omega, by omega, by go_num, by rw [HP.out]; exact HN1⟩
          case measure => simp [intOf]; omega
        | 5, _, hc =>
          have HTOK : Hid (tokC (tk0 6 [46]) = [.int .u8 6, .string ⟨#[46]⟩, .int .i64 0, .int .i64 0, .bool false]) := rfl
          have HP : Hid ((S.take (k + 1)).flatMap pieceO = acc ++ [tk0 6 [46]]) := by show _ = _; rw [HE.out, pieceO_k (p := (K, n)) hc]; rfl
          clear hc
          obtain ⟨i1, hii1, hza1, hzb1, hzc1⟩ := info_parts Tryz.infoTok
          have htb1 : Below wr.heap.size wr (wr.alloc (.cells #[.int .u8 6, .string ⟨#[46]⟩, .int .i64 0, .int .i64 0, .bool false] 44)) := (Below.refl _ _).alloc (Nat.le_refl _) _
          have HOWN1 := Lib.hid ((HR.out.own.below htb1).1)
          have HNEWS1 := Lib.hid (World.news_of_block (cs := #[.int .u8 6, .string ⟨#[46]⟩, .int .i64 0, .int .i64 0, .bool false]) (t := 44) (fr := (0, 0)) (heap_alloc_new wr (.cells #[.int .u8 6, .string ⟨#[46]⟩, .int .i64 0, .int .i64 0, .bool false] 44)))
          have hal1 : acc.length ≤ 620 := HAL1.out
          have HML1 : Hid (acc.length + 1 ≤ maxLen) := by show _ ≤ maxLen; unfold maxLen; omega
          have hbs1 := HR.out.size
          clear htb1
          go_wp2_with (at_builtin; refine wpList_append_own _ rfl _ _ 31 rfl B 44 i1 _ 5 48 Tryz.underlying31 hii1 hza1 hzb1 hzc1 rfl (by decide) (.slice ta acc.length tcap) acc.length (toksC acc) rfl HOWN1.out ⟨wr.heap.size, 0, none⟩ 1 1 [.int .u8 6, .string ⟨#[46]⟩, .int .i64 0, .int .i64 0, .bool false] rfl rfl HNEWS1.out (by simp [Value.oneCell']) HML1.out (by omega) (by simp; omega) ?_; intro v1 x1 hown1 hgrow1 _; have HN1 := Lib.hid (HR.out.next (tok := tk0 6 [46]) (by omega) (show 6 < 256 by decide) (by rw [HTOK.out]; exact hown1) hgrow1); clear hown1 hgrow1)
          go_roundw
          case rel => exact ⟨k + 1, by omega, by omega, by go_num, by rw [HP.out]; exact HN1⟩
          case measure => simp [intOf]; omega
        | 6, _, hc =>
          have HTOK : Hid (tokC (tk0 7 [61, 61]) = [.int .u8 7, .string ⟨#[61, 61]⟩, .int .i64 0, .int .i64 0, .bool false]) := rfl
          have HP : Hid ((S.take (k + 1)).flatMap pieceO = acc ++ [tk0 7 [61, 61]]) := by show _ = _; rw [HE.out, pieceO_k (p := (K, n)) hc]; rfl
          clear hc
          obtain ⟨i1, hii1, hza1, hzb1, hzc1⟩ := info_parts Tryz.infoTok
          have htb1 : Below wr.heap.size wr (wr.alloc (.cells #[.int .u8 7, .string ⟨#[61, 61]⟩, .int .i64 0, .int .i64 0, .bool false] 44)) := (Below.refl _ _).alloc (Nat.le_refl _) _
          have HOWN1 := Lib.hid ((HR.out.own.below htb1).1)
          have HNEWS1 := Lib.hid (World.news_of_block (cs := #[.int .u8 7, .string ⟨#[61, 61]⟩, .int .i64 0, .int .i64 0, .bool false]) (t := 44) (fr := (0, 0)) (heap_alloc_new wr (.cells #[.int .u8 7, .string ⟨#[61, 61]⟩, .int .i64 0, .int .i64 0, .bool false] 44)))
          have hal1 : acc.length ≤ 620 := HAL1.out
          have HML1 : Hid (acc.length + 1 ≤ maxLen) := by show _ ≤ maxLen; unfold maxLen; omega
          have hbs1 := HR.out.size
          clear htb1
          go_wp2_with (at_builtin; refine wpList_append_own _ rfl _ _ 31 rfl B 44 i1 _ 5 48 Tryz.underlying31 hii1 hza1 hzb1 hzc1 rfl (by decide) (.slice ta acc.length tcap) acc.length (toksC acc) rfl HOWN1.out ⟨wr.heap.size, 0, none⟩ 1 1 [.int .u8 7, .string ⟨#[61, 61]⟩, .int .i64 0, .int .i64 0, .bool false] rfl rfl HNEWS1.out (by simp [Value.oneCell']) HML1.out (by omega) (by simp; omega) ?_; intro v1 x1 hown1 hgrow1 _; have HN1 := Lib.hid (HR.out.next (tok := tk0 7 [61, 61]) (by omega) (show 7 < 256 by decide) (by rw [HTOK.out]; exact hown1) hgrow1); clear hown1 hgrow1)
          go_roundw
          case rel => exact ⟨k + 1, by omega, by omega, by go_num, by rw [HP.out]; exact HN1⟩
          case measure => simp [intOf]; omega
        | 7, _, hc =>
          obtain ⟨j, hj⟩ : ∃ j, j = n % 7 := ⟨_, rfl⟩
          have hj1 : ((n : Int) % 7) = (j : Int) := by omega
          have hjl : j < 7 := by omega
          obtain ⟨xs, hxs⟩ : ∃ xs, xs = strL (picsO.getD j []) := ⟨_, rfl⟩
          have HC2 : Hid (∀ W2, Below B w5 W2 → W2.cell? ⟨T4, j, none⟩ = some (.string xs)) := fun W2 h2 => by rw [hxs]; exact (HTAB.out W2 h2).2.2.2.2.cell hjl
          have HTOK : Hid (tokC (tk0 4 (picsO.getD j [])) = [.int .u8 4, .string xs, .int .i64 0, .int .i64 0, .bool false]) := by show _ = _; rw [hxs]; rfl
          have HTP : Hid (tokC (tk0 1 [80, 73, 67]) = [.int .u8 1, .string ⟨#[80, 73, 67]⟩, .int .i64 0, .int .i64 0, .bool false]) := rfl
          have HTI : Hid (tokC (tk0 1 [73, 83]) = [.int .u8 1, .string ⟨#[73, 83]⟩, .int .i64 0, .int .i64 0, .bool false]) := rfl
          have HPP : Hid ((S.take (k + 1)).flatMap pieceO = acc ++ picO j (isO n)) := by show _ = _; rw [HE.out, pieceO_k (p := (K, n)) hc, hj]; rfl
          have HJ := Lib.hid hj
          clear hxs hj hc
          obtain ⟨i1, hii1, hza1, hzb1, hzc1⟩ := info_parts Tryz.infoTok
          have htb1 : Below wr.heap.size wr (wr.alloc (.cells #[.int .u8 1, .string ⟨#[80, 73, 67]⟩, .int .i64 0, .int .i64 0, .bool false] 44)) := (Below.refl _ _).alloc (Nat.le_refl _) _
          have HOWN1 := Lib.hid ((HR.out.own.below htb1).1)
          have HNEWS1 := Lib.hid (World.news_of_block (cs := #[.int .u8 1, .string ⟨#[80, 73, 67]⟩, .int .i64 0, .int .i64 0, .bool false]) (t := 44) (fr := (0, 0)) (heap_alloc_new wr (.cells #[.int .u8 1, .string ⟨#[80, 73, 67]⟩, .int .i64 0, .int .i64 0, .bool false] 44)))
          have hal1 : acc.length ≤ 620 := HAL1.out
          have HML1 : Hid (acc.length + 1 ≤ maxLen) := by show _ ≤ maxLen; unfold maxLen; omega
          have hbs1 := HR.out.size
          clear htb1
          go_upto_region 14 with (at_builtin; refine wpList_append_own _ rfl _ _ 31 rfl B 44 i1 _ 5 48 Tryz.underlying31 hii1 hza1 hzb1 hzc1 rfl (by decide) (.slice ta acc.length tcap) acc.length (toksC acc) rfl HOWN1.out ⟨wr.heap.size, 0, none⟩ 1 1 [.int .u8 1, .string ⟨#[80, 73, 67]⟩, .int .i64 0, .int .i64 0, .bool false] rfl rfl HNEWS1.out (by simp [Value.oneCell']) HML1.out (by omega) (by simp; omega) ?_; intro v1 x1 hown1 hgrow1 _; have HN1 := Lib.hid (HR.out.next (tok := tk0 1 [80, 73, 67]) (by omega) (show 1 < 256 by decide) (by rw [HTP.out]; exact hown1) hgrow1); clear hown1 hgrow1)
          clear HOWN1 HNEWS1
          obtain ⟨a1, t1, e1⟩ := own_sl HN1.out.own.1
          have HAQ1 : Hid ((acc ++ [tk0 1 [80, 73, 67]]).length = acc.length + 1) := by show _ = _; simp
          obtain ⟨acc1, hacc1⟩ : ∃ x, x = acc ++ [tk0 1 [80, 73, 67]] := ⟨_, rfl⟩
          have HAacc1 := Lib.hid hacc1
          rw [← hacc1] at HN1 e1 HAQ1
          clear hacc1
          subst e1
          have HAL2 : Hid (acc1.length ≤ 620) := by show _ ≤ 620; have := HAQ1.out; have := HL.out; omega
          by_cases h6 : j = 6 ∨ n % 3 = 0
          · have HIS : Hid (isO n = true) := by show _ = _; unfold isO; have := HJ.out; simp; omega
            have HP : Hid ((S.take (k + 1)).flatMap pieceO = (acc1 ++ [tk0 1 [73, 83]]) ++ [tk0 4 (picsO.getD j [])]) := by show _ = _; rw [HPP.out, HIS.out, HAacc1.out]; simp [picO]
            go_cut [56] (fun bb wx => bb = .bool true ∧ x1 = wx)
            case first =>
              by_cases hj6 : j = 6
              · have q1 : ((j : Int) == 6) = true := by rw [beq_iff_eq]; omega
                clear h6 hj6
                go_wp2
                go_meet
                exact ⟨rfl, rfl⟩
              · have q1 : ((j : Int) == 6) = false := by rw [beq_eq_false_iff_ne]; omega
                have q2 : ((n : Int) % 3) = 0 := by omega
                clear h6 hj6
                go_wp2
                go_meet
                exact ⟨rfl, rfl⟩
            case rest =>
            obtain ⟨rfl, rfl⟩ := hcut
            clear h6
            obtain ⟨i2, hii2, hza2, hzb2, hzc2⟩ := info_parts Tryz.infoTok
            have htb2 : Below x1.heap.size x1 (x1.alloc (.cells #[.int .u8 1, .string ⟨#[73, 83]⟩, .int .i64 0, .int .i64 0, .bool false] 44)) := (Below.refl _ _).alloc (Nat.le_refl _) _
            have HOWN2 := Lib.hid ((HN1.out.own.below htb2).1)
            have HNEWS2 := Lib.hid (World.news_of_block (cs := #[.int .u8 1, .string ⟨#[73, 83]⟩, .int .i64 0, .int .i64 0, .bool false]) (t := 44) (fr := (0, 0)) (heap_alloc_new x1 (.cells #[.int .u8 1, .string ⟨#[73, 83]⟩, .int .i64 0, .int .i64 0, .bool false] 44)))
            have hal2 : acc1.length ≤ 620 := HAL2.out
            have HML2 : Hid (acc1.length + 1 ≤ maxLen) := by show _ ≤ maxLen; unfold maxLen; omega
            have hbs2 := HN1.out.size
            clear htb2
            go_upto_region 16 with (at_builtin; refine wpList_append_own _ rfl _ _ 31 rfl B 44 i2 _ 5 48 Tryz.underlying31 hii2 hza2 hzb2 hzc2 rfl (by decide) (.slice a1 acc1.length t1) acc1.length (toksC acc1) rfl HOWN2.out ⟨x1.heap.size, 0, none⟩ 1 1 [.int .u8 1, .string ⟨#[73, 83]⟩, .int .i64 0, .int .i64 0, .bool false] rfl rfl HNEWS2.out (by simp [Value.oneCell']) HML2.out (by omega) (by simp; omega) ?_; intro v2 x2 hown2 hgrow2 _; have HN2 := Lib.hid (HN1.out.next (tok := tk0 1 [73, 83]) (by omega) (show 1 < 256 by decide) (by rw [HTI.out]; exact hown2) hgrow2); clear hown2 hgrow2)
            clear HOWN2 HNEWS2
            obtain ⟨a2, t2, e2⟩ := own_sl HN2.out.own.1
            have HAQ2 : Hid ((acc1 ++ [tk0 1 [73, 83]]).length = acc1.length + 1) := by show _ = _; simp
            obtain ⟨acc2, hacc2⟩ : ∃ x, x = acc1 ++ [tk0 1 [73, 83]] := ⟨_, rfl⟩
            have HAacc2 := Lib.hid hacc2
            rw [← hacc2] at HN2 e2 HAQ2
            clear hacc2
            subst e2
            rw [← HAacc2.out] at HP
            have HAL9 : Hid (acc2.length ≤ 620) := by show _ ≤ 620; have := HAQ1.out; have := HAQ2.out; have := HL.out; omega
            have c2 := HC2.out x2 HN2.out.bel
            obtain ⟨i9, hii9, hza9, hzb9, hzc9⟩ := info_parts Tryz.infoTok
            have htb9 : Below x2.heap.size x2 (x2.alloc (.cells #[.int .u8 4, .string xs, .int .i64 0, .int .i64 0, .bool false] 44)) := (Below.refl _ _).alloc (Nat.le_refl _) _
            have HOWN9 := Lib.hid ((HN2.out.own.below htb9).1)
            have HNEWS9 := Lib.hid (World.news_of_block (cs := #[.int .u8 4, .string xs, .int .i64 0, .int .i64 0, .bool false]) (t := 44) (fr := (0, 0)) (heap_alloc_new x2 (.cells #[.int .u8 4, .string xs, .int .i64 0, .int .i64 0, .bool false] 44)))
            have hal9 : acc2.length ≤ 620 := HAL9.out
            have HML9 : Hid (acc2.length + 1 ≤ maxLen) := by show _ ≤ maxLen; unfold maxLen; omega
            have hbs9 := HN2.out.size
            clear htb9
            go_wp2_with (at_builtin; refine wpList_append_own _ rfl _ _ 31 rfl B 44 i9 _ 5 48 Tryz.underlying31 hii9 hza9 hzb9 hzc9 rfl (by decide) (.slice a2 acc2.length t2) acc2.length (toksC acc2) rfl HOWN9.out ⟨x2.heap.size, 0, none⟩ 1 1 [.int .u8 4, .string xs, .int .i64 0, .int .i64 0, .bool false] rfl rfl HNEWS9.out (by simp [Value.oneCell']) HML9.out (by omega) (by simp; omega) ?_; intro v9 x9 hown9 hgrow9 _; have HN9 := Lib.hid (HN2.out.next (tok := tk0 4 (picsO.getD j [])) (by omega) (show 4 < 256 by decide) (by rw [HTOK.out]; exact hown9) hgrow9); clear hown9 hgrow9)
            go_roundw
            case rel => exact ⟨k + 1, by omega, by omega, by go_num, by rw [HP.out]; exact HN9⟩
            case measure => simp [intOf]; omega
          · have HIS : Hid (isO n = false) := by show _ = _; unfold isO; have := HJ.out; simp; omega
            have HP : Hid ((S.take (k + 1)).flatMap pieceO = acc1 ++ [tk0 4 (picsO.getD j [])]) := by show _ = _; rw [HPP.out, HIS.out, HAacc1.out]; simp [picO]
            go_cut [56] (fun bb wx => bb = .bool false ∧ x1 = wx)
            case first =>
              have q1 : ((j : Int) == 6) = false := by rw [beq_eq_false_iff_ne]; omega
              have q2 : (((n : Int) % 3) == 0) = false := by rw [beq_eq_false_iff_ne]; omega
              clear h6
              go_wp2
              go_meet
              exact ⟨rfl, rfl⟩
            case rest =>
            obtain ⟨rfl, rfl⟩ := hcut
            clear h6
            have HAL9 : Hid (acc1.length ≤ 620) := HAL2.out
            have c2 := HC2.out x1 HN1.out.bel
            obtain ⟨i9, hii9, hza9, hzb9, hzc9⟩ := info_parts Tryz.infoTok
            have htb9 : Below x1.heap.size x1 (x1.alloc (.cells #[.int .u8 4, .string xs, .int .i64 0, .int .i64 0, .bool false] 44)) := (Below.refl _ _).alloc (Nat.le_refl _) _
            have HOWN9 := Lib.hid ((HN1.out.own.below htb9).1)
            have HNEWS9 := Lib.hid (World.news_of_block (cs := #[.int .u8 4, .string xs, .int .i64 0, .int .i64 0, .bool false]) (t := 44) (fr := (0, 0)) (heap_alloc_new x1 (.cells #[.int .u8 4, .string xs, .int .i64 0, .int .i64 0, .bool false] 44)))
            have hal9 : acc1.length ≤ 620 := HAL9.out
            have HML9 : Hid (acc1.length + 1 ≤ maxLen) := by show _ ≤ maxLen; unfold maxLen; omega
            have hbs9 := HN1.out.size
            clear htb9
            go_wp2_with (at_builtin; refine wpList_append_own _ rfl _ _ 31 rfl B 44 i9 _ 5 48 Tryz.underlying31 hii9 hza9 hzb9 hzc9 rfl (by decide) (.slice a1 acc1.length t1) acc1.length (toksC acc1) rfl HOWN9.out ⟨x1.heap.size, 0, none⟩ 1 1 [.int .u8 4, .string xs, .int .i64 0, .int .i64 0, .bool false] rfl rfl HNEWS9.out (by simp [Value.oneCell']) HML9.out (by omega) (by simp; omega) ?_; intro v9 x9 hown9 hgrow9 _; have HN9 := Lib.hid (HN1.out.next (tok := tk0 4 (picsO.getD j [])) (by omega) (show 4 < 256 by decide) (by rw [HTOK.out]; exact hown9) hgrow9); clear hown9 hgrow9)
            go_roundw
            case rel => exact ⟨k + 1, by omega, by omega, by go_num, by rw [HP.out]; exact HN9⟩
            case measure => simp [intOf]; omega
        | c + 8, h8, _ => omega
      · obtain rfl : k = 200 := by omega
        have HZ : Hid (OfT S = (S.take 200).flatMap pieceO) := rfl
        obtain ⟨acc, hacc⟩ : ∃ acc, acc = (S.take 200).flatMap pieceO := ⟨_, rfl⟩
        rw [← hacc] at HZ HR
        obtain ⟨ta, tcap, rfl⟩ := own_sl HR.out.own.1
        clear hacc
        go_wp2
        go_ret
        exact ⟨HWW.out.trans (HR.out.bel.mono hwB), _, rfl, by rw [HZ.out]; exact HR.out.own.at_⟩
    · obtain rfl : k = S.length := by omega
      have HZ : Hid (OfT S = (S.take S.length).flatMap pieceO) := by
        show (S.take 200).flatMap pieceO = _
        rw [List.take_of_length_le hk2, List.take_of_length_le (Nat.le_refl _)]
      obtain ⟨acc, hacc⟩ : ∃ acc, acc = (S.take S.length).flatMap pieceO := ⟨_, rfl⟩
      rw [← hacc] at HZ HR
      obtain ⟨ta, tcap, rfl⟩ := own_sl HR.out.own.1
      clear hacc
      go_wp2
      go_ret
      exact ⟨HWW.out.trans (HR.out.bel.mono hwB), _, rfl, by rw [HZ.out]; exact HR.out.own.at_⟩
end Go.Proofs.YtpalfhfbgfnacaaGreatDoor
