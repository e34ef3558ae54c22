/-
  The contract of the scanner's method read.
-/
import Derived.Test.YtpalfhfbgfnacaaGreatDoorGF
namespace Go.Proofs.YtpalfhfbgfnacaaGreatDoor
open Go.RowKit
set_option linter.unusedVariables false
set_option linter.unusedSimpArgs false

/-- The signs as the program lays them. -/
def SignsAt (w : World) : Prop := w.cell? ⟨0, 0, none⟩ = some (.string ⟨#[42, 42]⟩) ∧ w.cell? ⟨0, 1, none⟩ = some (.string ⟨#[60, 61]⟩) ∧ w.cell? ⟨0, 2, none⟩ = some (.string ⟨#[62, 61]⟩) ∧ w.cell? ⟨0, 3, none⟩ = some (.string ⟨#[60, 62]⟩) ∧ w.cell? ⟨0, 4, none⟩ = some (.string ⟨#[40]⟩) ∧ w.cell? ⟨0, 5, none⟩ = some (.string ⟨#[41]⟩) ∧ w.cell? ⟨0, 6, none⟩ = some (.string ⟨#[58]⟩) ∧ w.cell? ⟨0, 7, none⟩ = some (.string ⟨#[43]⟩) ∧ w.cell? ⟨0, 8, none⟩ = some (.string ⟨#[45]⟩) ∧ w.cell? ⟨0, 9, none⟩ = some (.string ⟨#[42]⟩) ∧ w.cell? ⟨0, 10, none⟩ = some (.string ⟨#[47]⟩) ∧ w.cell? ⟨0, 11, none⟩ = some (.string ⟨#[61]⟩) ∧ w.cell? ⟨0, 12, none⟩ = some (.string ⟨#[60]⟩) ∧ w.cell? ⟨0, 13, none⟩ = some (.string ⟨#[62]⟩)
theorem SignsAt.below {B : Nat} {w w' : World} (h : SignsAt w) (hB : 0 < B) (hb : Below B w w') : SignsAt w' := by
  obtain ⟨h0, h1, h2, h3, h4, h5, h6, h7, h8, h9, h10, h11, h12, h13⟩ := h
  exact ⟨(hb.cell hB).trans h0, (hb.cell hB).trans h1, (hb.cell hB).trans h2, (hb.cell hB).trans h3, (hb.cell hB).trans h4, (hb.cell hB).trans h5, (hb.cell hB).trans h6, (hb.cell hB).trans h7, (hb.cell hB).trans h8, (hb.cell hB).trans h9, (hb.cell hB).trans h10, (hb.cell hB).trans h11, (hb.cell hB).trans h12, (hb.cell hB).trans h13⟩
theorem SignsAt.lt {w : World} (h : SignsAt w) : 0 < w.heap.size := lt_of_cellR h.1
def rdT (k : Nat) (x : ByteArray) (n e : Nat) : Value := .tuple #[.agg #[.int .u8 k, .string x, .int .i64 0, .int .i64 0, .bool false], .int .i64 n, .int .i64 e]
theorem rdV_open (R : RdT) : ∃ (k : Nat) (x : ByteArray) (n e : Nat), rdV R = .tuple #[.agg #[.int .u8 k, .string x, .int .i64 0, .int .i64 0, .bool false], .int .i64 n, .int .i64 e] := by
  cases R with
  | bad e => exact ⟨0, ⟨#[]⟩, 0, e, rfl⟩
  | got k x n => exact ⟨k, strL x, n, 0, rfl⟩
theorem readT_open (e x sep : Bool) (r : List UInt8) (b0 : Bool) (h0 : begPic e x r = b0) (h4 : Bool) (hh4 : decide ((r.getD 0 0).toNat = 34) = h4) (d : Bool) (hd : (decide ((r.getD 0 0).toNat = 46) && endT (r.drop 1)) = d) (q : Bool) (hq : eqs r = q) (nn wl : Nat) (hn : numN r sep = nn) (hw : wrdN r = wl) :
    readT e x sep r = if b0 = true then picT r else if h4 = true then litT r else if d = true then .got 6 [46] 1 else if q = true then .got 7 [61, 61] 2 else if 0 < nn then numT r nn else if 0 < wl then wordT (r.take wl) else signT r := by
  unfold readT
  rw [hn, hw, hq]
  refine ite_congr (propext ?_) (fun _ => rfl) fun _ => ite_congr (propext ?_) (fun _ => rfl) fun _ => ite_congr (propext ?_) (fun _ => rfl) fun _ => rfl
  · rw [← h0]
    unfold begPic
    rw [hq]
    cases x <;> cases q <;> cases isIS r <;> cases e <;> simp
  · rw [← hh4]; simp
  · rw [← hd]; simp
/-- The signs as a value. -/
def signsV : Array Value := #[.string ⟨#[42, 42]⟩, .string ⟨#[60, 61]⟩, .string ⟨#[62, 61]⟩, .string ⟨#[60, 62]⟩, .string ⟨#[40]⟩, .string ⟨#[41]⟩, .string ⟨#[58]⟩, .string ⟨#[43]⟩, .string ⟨#[45]⟩, .string ⟨#[42]⟩, .string ⟨#[47]⟩, .string ⟨#[61]⟩, .string ⟨#[60]⟩, .string ⟨#[62]⟩]
theorem signs_index (k : Nat) (v : Value) (hk : signsV[k]? = some v) (W : World) : (Instr.index 143 (.agg signsV) (.int .i64 (k : Int))).run Tryz.prog W = .ok v W := by
  have hlt : k < 14 := by
    rcases Nat.lt_or_ge k signsV.size with h | h
    · exact h
    · rw [Array.getElem?_eq_none h] at hk; cases hk
  have hu := Tryz.underlying143
  have hz := Tryz.sizeOf9
  have ha := Tryz.isAgg9
  have h0 : (0 : Int) ≤ k := by omega
  have h14 : (k : Int) < 14 := by omega
  simp [Instr.index, part, hu, hz, ha, hk, h0, h14, asIntOf, run_underlying hu, go_sem]
  intro h
  omega
theorem signs_at (k : Nat) (h : k < 14) : ∃ sk : ByteArray, signsV[k]? = some (.string sk) ∧ sk.data.toList = signsL.getD k [] := by
  have hc : k = 0 ∨ k = 1 ∨ k = 2 ∨ k = 3 ∨ k = 4 ∨ k = 5 ∨ k = 6 ∨ k = 7 ∨ k = 8 ∨ k = 9 ∨ k = 10 ∨ k = 11 ∨ k = 12 ∨ k = 13 := by omega
  rcases hc with rfl | rfl | rfl | rfl | rfl | rfl | rfl | rfl | rfl | rfl | rfl | rfl | rfl | rfl <;> exact ⟨_, rfl, rfl⟩
/-- The first of the signs from k on that stands there. -/
def signF (r : List UInt8) (k : Nat) : RdT :=
  match (signsL.drop k).find? (fun x => x.isPrefixOf r) with
  | some x => .got 5 x x.length
  | none => .bad 4
theorem signT_F (r : List UInt8) : signT r = signF r 0 := rfl
theorem signF_step (r : List UInt8) (k : Nat) (hk : k < 14) (b : Bool) (hb : (signsL.getD k []).isPrefixOf r = b) :
    signF r k = if b = true then .got 5 (signsL.getD k []) (signsL.getD k []).length else signF r (k + 1) := by
  have hl : k < signsL.length := hk
  unfold signF
  rw [List.drop_eq_getElem_cons hl, List.find?_cons]
  have e : signsL.getD k [] = signsL[k] := by simp [List.getD, List.getElem?_eq_getElem hl]
  rw [← e, hb]
  cases b <;> rfl
set_option maxHeartbeats 4000000 in
set_option maxRecDepth 100000 in
theorem read_any {S : Nat} {l : Bool} {t : ByteArray} {mv : Value} {i : Nat} {tv : Value} (L : List Tok) (r : ByteArray) (w : World) (h : ScAt S l t mv i tv w) (ht : ToksAt w tv L) (hm : MaxLenAt w) (hg : SignsAt w) (h0 : 0 < r.size) (hr : r.size ≤ 134217728) (hi : i ≤ t.size) (hts : t.size ≤ 134217728) :
    Calls Tryz.prog 65 #[.pointer (some ⟨S, 0, none⟩), .string r] w fun e w' => e = .returned (rdV (readT (endPic L) (expPic L) (sepAt t.data.toList i) r.data.toList)) ∧ Below w.heap.size w w' := by
  obtain ⟨b0, hb0⟩ : ∃ b, begPic (endPic L) (expPic L) r.data.toList = b := ⟨_, rfl⟩
  obtain ⟨sp, hsp⟩ : ∃ b, sepAt t.data.toList i = b := ⟨_, rfl⟩
  obtain ⟨q, hq⟩ : ∃ b, eqs r.data.toList = b := ⟨_, rfl⟩
  obtain ⟨en, hen⟩ : ∃ b, endT (r.data.toList.drop 1) = b := ⟨_, rfl⟩
  obtain ⟨nn, hnn⟩ : ∃ n, numN r.data.toList sp = n := ⟨_, rfl⟩
  obtain ⟨wl, hwl⟩ : ∃ n, wrdN r.data.toList = n := ⟨_, rfl⟩
  have hne : r.data.toList ≠ [] := fun e => by have h5 : r.size = 0 := by rw [size_data, e]; rfl
                                               omega
  have hnl : nn ≤ r.size := by rw [← hnn, size_data]; exact numN_le hne
  have hwll : wl ≤ r.size := by rw [← hwl, size_data]; exact wrdN_le _
  obtain ⟨N, hN⟩ : ∃ N, N = w.heap.size := ⟨_, rfl⟩
  have HB : Hid (∀ W : World, ScAt S l t mv i tv W → ToksAt W tv L → Calls Tryz.prog 86 #[.pointer (some ⟨S, 0, none⟩), .string r] W fun e w' => e = .returned (.bool b0) ∧ Below W.heap.size W w') := fun W h1 h2 => by
    rw [← hb0]; exact beginsPicture_any L r W h1 h2 h0 hr
  have HSEP : Hid (∀ W : World, ScAt S l t mv i tv W → Calls Tryz.prog 90 #[.pointer (some ⟨S, 0, none⟩)] W fun e w' => e = .returned (.bool sp) ∧ Below W.heap.size W w') := fun W h1 => by
    rw [← hsp]; exact isSeparated_any W h1 hi hts
  have HNUM : Hid (∀ W : World, Calls Tryz.prog 89 #[.string r, .bool sp] W fun e w' => e = .returned (.int .i64 nn) ∧ W = w') := fun W => by
    rw [← hnn]; exact numberLength_any r sp h0 hr W
  have HW := Lib.hid hwl.symm
  have HQ : Hid ((⟨#[61, 61]⟩ : ByteArray).data.toList.isPrefixOf r.data.toList = q) := hq
  have HEN : Hid (∀ W : World, Calls Tryz.prog 85 #[.string (r.extract 1 r.size)] W fun e w' => e = .returned (.bool en) ∧ W = w') := fun W => by
    have := isEnd_any (r.extract 1 r.size) W
    rw [suffix_data, hen] at this
    exact this
  have HF0 : Hid (∀ (h4 d : Bool), decide ((r.data.toList.getD 0 0).toNat = 34) = h4 → (decide ((r.data.toList.getD 0 0).toNat = 46) && en) = d → readT (endPic L) (expPic L) (sepAt t.data.toList i) r.data.toList = if b0 = true then picT r.data.toList else if h4 = true then litT r.data.toList else if d = true then .got 6 [46] 1 else if q = true then .got 7 [61, 61] 2 else if 0 < nn then numT r.data.toList nn else if 0 < wl then wordT (r.data.toList.take wl) else signT r.data.toList) := fun h4 d e1 e2 => by
    rw [hsp]
    exact readT_open _ _ _ _ b0 hb0 h4 e1 d (by rw [hen]; exact e2) q hq nn wl hnn hwl
  have HH := Lib.hid (head_get r h0)
  have HS0 : Hid (ScAt S l t mv i tv (w.alloc (.cells #[.int .u8 0, .string ⟨#[]⟩, .int .i64 0, .int .i64 0, .bool false] 44))) := h.below ((Below.refl _ _).alloc (Nat.le_refl _) _)
  have HT0 : Hid (ToksAt (w.alloc (.cells #[.int .u8 0, .string ⟨#[]⟩, .int .i64 0, .int .i64 0, .bool false] 44)) tv L) := ht.below ((Below.refl _ _).alloc (Nat.le_refl _) _)
  have HM := Lib.hid hm
  have HGS := Lib.hid hg
  have hgl := hg.lt
  have hml : 1 < w.heap.size := by obtain ⟨m, hm⟩ := hm; exact lt_of_cellR hm
  have HSZ1 := Lib.hid (suffix_size r 1 (by omega))
  clear h ht hm hg hb0 hsp hq hen hnn hwl hN
  go_enter Tryz.func65, Tryz.ntmps65
  go_upto_if 11 with (go_at_call 86; refine (HB.out _ HS0.out HT0.out).mono ?_; rintro e w1 ⟨rfl, hb⟩)
  have HB1 : Hid (Below w.heap.size w w1) := ((Below.refl _ _).alloc (Nat.le_refl _) _).trans (hb.mono (by simp))
  have HK1 : Hid (TokBlk w1 w.heap.size) := (hb.block w.heap.size (by simp)).trans (heap_alloc_new w _)
  have hN1 : w.heap.size < w1.heap.size := lt_of_block HK1.out
  have hsz1 : w.heap.size ≤ w1.heap.size := by omega
  have HS1 := Lib.hid (HS0.out.below hb)
  clear hb HB HS0 HT0
  cases b0
  · by_cases h34 : (r[0].toNat : Int) = 34
    · have HF : Hid (readT (endPic L) (expPic L) (sepAt t.data.toList i) r.data.toList = litT r.data.toList) := (HF0.out true _ (by rw [HH.out]; simp; omega) rfl).trans (by simp)
      obtain ⟨k, x, n, e, hR⟩ := rdV_open (litT r.data.toList)
      have HP : Hid (∀ W : World, MaxLenAt W → Calls Tryz.prog 88 #[.string r] W fun ee w' => ee = .returned (.tuple #[.agg #[.int .u8 k, .string x, .int .i64 0, .int .i64 0, .bool false], .int .i64 n, .int .i64 e]) ∧ Below W.heap.size W w') := fun W hW => by
        rw [← hR]; exact literal_any r h0 hr W hW
      have HR := Lib.hid hR; clear hR
      have HM1 : Hid (MaxLenAt w1) := by obtain ⟨m, hm⟩ := HM.out; exact ⟨m, (HB1.out.cell (p := ⟨1, 0, none⟩) hml).trans hm⟩
      go_wp2_with (go_at_call 88; refine (HP.out _ HM1.out).mono ?_; rintro e w2 ⟨rfl, hb⟩; have hb3 : Below w.heap.size w w2 := HB1.out.trans (hb.mono hsz1); have HK2 : Hid (TokBlk w2 w.heap.size) := HK1.out.kept hb; have hN2 : w.heap.size < w2.heap.size := lt_of_block HK2.out; obtain ⟨c0, c1, c2, c3, c4⟩ := HK2.out.cells; obtain ⟨f0, f1, f2, f3, f4⟩ := HK2.out.free)
      obtain ⟨w5, hw5, hb5, d0, d1, d2, d3, d4⟩ := HK2.out.named hb3 (Nat.le_refl _) (.int .u8 k) (.string x) (.int .i64 0) (.int .i64 0) (.bool false)
      rw [← hw5]
      clear hw5
      refine bodyPost_ret (by simp [results, Tryz.results65, go_sem, d0, d1, d2, d3, d4]; try rfl) rfl ?_
      exact ⟨ret_eq (by rw [HF.out]; exact HR.out.symm), hb5⟩
    have e34 : ((r[0].toNat : Int) == 34) = false := by simpa using h34
    obtain ⟨d, hd⟩ : ∃ d, (decide ((r.data.toList.getD 0 0).toNat = 46) && en) = d := ⟨_, rfl⟩
    have HF1 := Lib.hid (HF0.out false d (by rw [HH.out]; simp; omega) hd)
    have HD := Lib.hid hd
    clear HF0 hd
    go_upto_region 5 with fail
    go_cut [29] (fun s29 wx => s29 = .bool d ∧ wx = w1)
    case first =>
      by_cases h46 : (r[0].toNat : Int) = 46
      · go_wp2_with (go_at_call 85; refine (HEN.out _).mono ?_; rintro e w' ⟨rfl, rfl⟩)
        go_meet
        exact ⟨by rw [← HD.out, HH.out, show decide (r[0].toNat = 46) = true from by simp; omega]; rfl, rfl⟩
      · have e46 : ((r[0].toNat : Int) == 46) = false := by simpa using h46
        go_wp2
        go_meet
        exact ⟨by rw [← HD.out, HH.out, show decide (r[0].toNat = 46) = false from by simp; omega]; rfl, rfl⟩
    case rest =>
    obtain ⟨rfl, rfl⟩ := hcut
    clear HD HEN HSZ1 h34 e34
    cases d
    · cases q
      · have HF : Hid (readT (endPic L) (expPic L) (sepAt t.data.toList i) r.data.toList = if 0 < nn then numT r.data.toList nn else if 0 < wl then wordT (r.data.toList.take wl) else signT r.data.toList) := HF1.out.trans (by simp)
        clear HF1
        go_upto_region 10 with (first
          | (go_at_call 42; refine (hp_n _ _ false ?_ _).mono ?_; (exact HQ.out); rintro e w' ⟨rfl, rfl⟩)
          | (go_at_call 90; refine (HSEP.out _ HS1.out).mono ?_; rintro e w3 ⟨rfl, hb4⟩)
          | (go_at_call 89; refine (HNUM.out _).mono ?_; rintro e w' ⟨rfl, rfl⟩))
        have HB3 : Hid (Below w.heap.size w w3) := HB1.out.trans (hb4.mono hsz1)
        have HK3 : Hid (TokBlk w3 w.heap.size) := HK1.out.kept hb4
        have hN3 : w.heap.size < w3.heap.size := lt_of_block HK3.out
        have hsz3 : w.heap.size ≤ w3.heap.size := by omega
        clear hb4 HS1 HB1 HK1 HSEP HNUM
        by_cases h1 : 0 < nn
        · obtain ⟨k, x, n, e, hR⟩ := rdV_open (numT r.data.toList nn)
          have HP : Hid (∀ W : World, Calls Tryz.prog 91 #[.string r, .int .i64 nn] W fun ee w' => ee = .returned (.tuple #[.agg #[.int .u8 k, .string x, .int .i64 0, .int .i64 0, .bool false], .int .i64 n, .int .i64 e]) ∧ Below W.heap.size W w') := fun W => by
            rw [← hR]; exact number_any r nn hnl hr W
          have HR := Lib.hid hR; clear hR
          go_wp2_with (go_at_call 91; refine (HP.out _).mono ?_; rintro e w2 ⟨rfl, hb⟩; have hb3 : Below w.heap.size w w2 := HB3.out.trans (hb.mono hsz3); have HK2 : Hid (TokBlk w2 w.heap.size) := HK3.out.kept hb; have hN2 : w.heap.size < w2.heap.size := lt_of_block HK2.out; obtain ⟨c0, c1, c2, c3, c4⟩ := HK2.out.cells; obtain ⟨f0, f1, f2, f3, f4⟩ := HK2.out.free)
          obtain ⟨w5, hw5, hb5, d0, d1, d2, d3, d4⟩ := HK2.out.named hb3 (Nat.le_refl _) (.int .u8 k) (.string x) (.int .i64 0) (.int .i64 0) (.bool false)
          rw [← hw5]
          clear hw5
          refine bodyPost_ret (by simp [results, Tryz.results65, go_sem, d0, d1, d2, d3, d4]; try rfl) rfl ?_
          exact ⟨ret_eq (by rw [HF.out, if_pos h1]; exact HR.out.symm), hb5⟩
        go_upto_region 13 with (go_at_call 92; refine (wordLength_n r h0 hr wl HW.out _).mono ?_; rintro e w' ⟨rfl, rfl⟩)
        by_cases h2 : 0 < wl
        · obtain ⟨k, x, n, e, hR⟩ := rdV_open (wordT (r.data.toList.take wl))
          have HP : Hid (∀ W : World, Calls Tryz.prog 93 #[.string (r.extract 0 wl)] W fun ee w' => ee = .returned (.tuple #[.agg #[.int .u8 k, .string x, .int .i64 0, .int .i64 0, .bool false], .int .i64 n, .int .i64 e]) ∧ Below W.heap.size W w') := fun W => by
            rw [← hR, ← prefix_data]
            exact word_any (r.extract 0 wl) (by rw [ByteArray.size_extract]; omega) (by rw [ByteArray.size_extract]; omega) W
          have HR := Lib.hid hR; clear hR
          go_wp2_with (go_at_call 93; refine (HP.out _).mono ?_; rintro e w2 ⟨rfl, hb⟩; have hb3 : Below w.heap.size w w2 := HB3.out.trans (hb.mono hsz3); have HK2 : Hid (TokBlk w2 w.heap.size) := HK3.out.kept hb; have hN2 : w.heap.size < w2.heap.size := lt_of_block HK2.out; obtain ⟨c0, c1, c2, c3, c4⟩ := HK2.out.cells; obtain ⟨f0, f1, f2, f3, f4⟩ := HK2.out.free)
          obtain ⟨w5, hw5, hb5, d0, d1, d2, d3, d4⟩ := HK2.out.named hb3 (Nat.le_refl _) (.int .u8 k) (.string x) (.int .i64 0) (.int .i64 0) (.bool false)
          rw [← hw5]
          clear hw5
          refine bodyPost_ret (by simp [results, Tryz.results65, go_sem, d0, d1, d2, d3, d4]; try rfl) rfl ?_
          exact ⟨ret_eq (by rw [HF.out, if_neg h1, if_pos h2]; exact HR.out.symm), hb5⟩
        have HF2 : Hid (readT (endPic L) (expPic L) (sepAt t.data.toList i) r.data.toList = signT r.data.toList) := by
          show _ = _
          rw [HF.out, if_neg h1, if_neg h2]
        clear HF
        obtain ⟨g0, g1, g2, g3, g4, g5, g6, g7, g8, g9, g10, g11, g12, g13⟩ := HGS.out.below hgl HB3.out
        obtain ⟨c0, c1, c2, c3, c4⟩ := HK3.out.cells
        obtain ⟨f0, f1, f2, f3, f4⟩ := HK3.out.free
        clear HM HGS HW HQ HH
        go_wp2
        obtain ⟨R, hR⟩ : ∃ R, R = signF r.data.toList 0 := ⟨_, rfl⟩
        have HF3 : Hid (readT (endPic L) (expPic L) (sepAt t.data.toList i) r.data.toList = R) := by rw [hR]; exact HF2.out
        have HR := Lib.hid hR
        clear hR HF2
        go_loop [67] (fun i => ∃ k : Nat, k ≤ 14 ∧ i = .int .i64 k ∧ Hid (R = signF r.data.toList k)) (fun i => 14 - (intOf i).toNat)
        case atStart => exact ⟨0, by decide, rfl, HR⟩
        case round =>
          clear HR
          obtain ⟨k, hk, rfl, HE⟩ := hrel
          by_cases hlt : k < 14
          · obtain ⟨sk, hsk, hsd⟩ := signs_at k hlt
            obtain ⟨b, hb⟩ : ∃ b, sk.data.toList.isPrefixOf r.data.toList = b := ⟨_, rfl⟩
            have HST := Lib.hid (signF_step r.data.toList k hlt b (by rw [← hsd]; exact hb))
            have HPB := Lib.hid hb
            have HSD := Lib.hid hsd
            have hix := signs_index k _ hsk
            unfold signsV at hix
            have hsz : sk.size ≤ 2 := by
              rw [size_data, hsd]
              have : ∀ y ∈ signsL, y.length ≤ 2 := by decide
              have hl : k < signsL.length := hlt
              rw [show signsL.getD k [] = signsL[k] from by simp [List.getD, List.getElem?_eq_getElem hl]]
              exact this _ (List.getElem_mem hl)
            clear hb hsk hsd hk
            cases b
            · go_upto_if 72 with (go_at_call 42; refine (hp_n _ _ false ?_ _).mono ?_; (exact HPB.out); rintro e w' ⟨rfl, rfl⟩)
              go_wp2
              go_round
              case rel => exact ⟨k + 1, by omega, by go_num, HE.out.trans HST.out⟩
              case measure => simp [intOf]; omega
            · go_upto_if 72 with (go_at_call 42; refine (hp_n _ _ true ?_ _).mono ?_; (exact HPB.out); rintro e w' ⟨rfl, rfl⟩)
              go_wp2
              obtain ⟨w5, hw5, hb5, d0, d1, d2, d3, d4⟩ := HK3.out.named HB3.out (Nat.le_refl _) (.int .u8 5) (.string sk) (.int .i64 0) (.int .i64 0) (.bool false)
              rw [← hw5]
              clear hw5
              refine bodyPost_ret (by simp [results, Tryz.results65, go_sem, d0, d1, d2, d3, d4]; try rfl) rfl ?_
              refine ⟨ret_eq ?_, hb5⟩
              rw [HF3.out, HE.out, HST.out, if_pos trivial, ← HSD.out, ← size_data]
              rfl
          · have hke : k = 14 := by omega
            subst hke
            go_wp2
            obtain ⟨w5, hw5, hb5, d0, d1, d2, d3, d4⟩ := HK3.out.named HB3.out (Nat.le_refl _) (.int .u8 0) (.string ⟨#[]⟩) (.int .i64 0) (.int .i64 0) (.bool false)
            rw [← hw5]
            clear hw5
            refine bodyPost_ret (by simp [results, Tryz.results65, go_sem, d0, d1, d2, d3, d4]; try rfl) rfl ?_
            exact ⟨ret_eq (by rw [HF3.out, HE.out]; rfl), hb5⟩
      · have HF : Hid (readT (endPic L) (expPic L) (sepAt t.data.toList i) r.data.toList = .got 7 [61, 61] 2) := HF1.out.trans (by simp)
        obtain ⟨c0, c1, c2, c3, c4⟩ := HK1.out.cells
        obtain ⟨f0, f1, f2, f3, f4⟩ := HK1.out.free
        go_wp2_with (go_at_call 42; refine (hp_n _ _ true ?_ _).mono ?_; (exact HQ.out); rintro e w' ⟨rfl, rfl⟩)
        obtain ⟨w5, hw5, hb5, d0, d1, d2, d3, d4⟩ := HK1.out.named HB1.out (Nat.le_refl _) (.int .u8 7) (.string ⟨#[61, 61]⟩) (.int .i64 0) (.int .i64 0) (.bool false)
        rw [← hw5]
        clear hw5
        refine bodyPost_ret (by simp [results, Tryz.results65, go_sem, d0, d1, d2, d3, d4]; try rfl) rfl ?_
        exact ⟨ret_eq (by rw [HF.out]; rfl), hb5⟩
    · have HF : Hid (readT (endPic L) (expPic L) (sepAt t.data.toList i) r.data.toList = .got 6 [46] 1) := HF1.out.trans (by simp)
      obtain ⟨c0, c1, c2, c3, c4⟩ := HK1.out.cells
      obtain ⟨f0, f1, f2, f3, f4⟩ := HK1.out.free
      go_wp2
      obtain ⟨w5, hw5, hb5, d0, d1, d2, d3, d4⟩ := HK1.out.named HB1.out (Nat.le_refl _) (.int .u8 6) (.string ⟨#[46]⟩) (.int .i64 0) (.int .i64 0) (.bool false)
      rw [← hw5]
      clear hw5
      refine bodyPost_ret (by simp [results, Tryz.results65, go_sem, d0, d1, d2, d3, d4]; try rfl) rfl ?_
      exact ⟨ret_eq (by rw [HF.out]; rfl), hb5⟩
  · have HF : Hid (readT (endPic L) (expPic L) (sepAt t.data.toList i) r.data.toList = picT r.data.toList) := (HF0.out _ _ rfl rfl).trans (if_pos rfl)
    obtain ⟨k, x, n, e, hR⟩ := rdV_open (picT r.data.toList)
    have HP : Hid (∀ W : World, Calls Tryz.prog 87 #[.string r] W fun ee w' => ee = .returned (.tuple #[.agg #[.int .u8 k, .string x, .int .i64 0, .int .i64 0, .bool false], .int .i64 n, .int .i64 e]) ∧ Below W.heap.size W w') := fun W => by
      rw [← hR]; exact picture_any r hr W
    have HR := Lib.hid hR; clear hR
    go_wp2_with (go_at_call 87; refine (HP.out _).mono ?_; rintro e w2 ⟨rfl, hb⟩; have hb3 : Below w.heap.size w w2 := HB1.out.trans (hb.mono hsz1); have HK2 : Hid (TokBlk w2 w.heap.size) := HK1.out.kept hb; have hN2 : w.heap.size < w2.heap.size := lt_of_block HK2.out; obtain ⟨c0, c1, c2, c3, c4⟩ := HK2.out.cells; obtain ⟨f0, f1, f2, f3, f4⟩ := HK2.out.free)
    obtain ⟨w5, hw5, hb5, d0, d1, d2, d3, d4⟩ := HK2.out.named hb3 (Nat.le_refl _) (.int .u8 k) (.string x) (.int .i64 0) (.int .i64 0) (.bool false)
    rw [← hw5]
    clear hw5
    refine bodyPost_ret (by simp [results, Tryz.results65, go_sem, d0, d1, d2, d3, d4]; try rfl) rfl ?_
    exact ⟨ret_eq (by rw [HF.out]; exact HR.out.symm), hb5⟩
end Go.Proofs.YtpalfhfbgfnacaaGreatDoor
