/-
  Texts of this seat, merged: Rf13 Rf14.
-/
import Derived.Test.YtpalfhfbgfnacaaGreatDoorRf12
import Derived.Test.YtpalfhfbgfnacaaGreatDoorGK
import Derived.Test.YtpalfhfbgfnacaaGreatDoorSc7
/-
  The contract of the reference's token (columnsevenref03).
-/
namespace Go.Proofs.YtpalfhfbgfnacaaGreatDoor
open Go.RowKit
set_option linter.unusedVariables false
set_option linter.unusedSimpArgs false

set_option maxHeartbeats 8000000 in
set_option maxRecDepth 1000000 in
theorem r3token (s : ByteArray) (i : Nat) (v : Value) (L : List Tok) (w : World) (hs : s.size ≤ 134217728) (hi : i < s.size) (h32 : s[i].toNat ≠ 32) (hT : ToksAt w v L) :
    Calls Tryz.prog 32 #[.string s, .int .i64 i, v] w (TkPost i w.heap.size w (tokR (endPic L) (expPic L) (sepAt s.data.toList i) (s.data.toList.drop i))) := by
  obtain ⟨N, hN⟩ : ∃ N, N = w.heap.size := ⟨_, rfl⟩
  obtain ⟨W, hW⟩ : ∃ W, W = w.alloc (.cells #[.int .u8 0, .string ⟨#[]⟩, .int .i64 0, .int .i64 0, .bool false] 44) := ⟨_, rfl⟩
  have HT1 : Hid (TW N w W) := by rw [hW, hN]; exact ⟨heap_alloc_new w _, (Below.refl _ _).alloc (Nat.le_refl _) _⟩
  have HPIC := Lib.hid (r3picture v L W (hT.below (by rw [← hN]; exact HT1.out.2)))
  obtain ⟨ep, hep⟩ : ∃ b, b = endPic L := ⟨_, rfl⟩
  obtain ⟨xp, hxp⟩ : ∃ b, b = expPic L := ⟨_, rfl⟩
  obtain ⟨R, hR⟩ : ∃ R, R = tokR ep xp (sepAt s.data.toList i) (s.data.toList.drop i) := ⟨_, rfl⟩
  rw [← hep, ← hxp] at HPIC
  rw [← hep, ← hxp, ← hR]
  have HR0 : Hid (R = if ep = true ∧ isR (s.data.toList.drop i) = true then .got 1 [73, 83] 2 else tok1 xp (sepAt s.data.toList i) (s.data.toList.drop i)) := by show _ = _; rw [hR, tokR_1]
  have HH32 := Lib.hid h32
  have HFO : Hid (∀ (y : ByteArray) (W : World), y.size ≤ s.size → Calls Tryz.prog 56 #[.string y] W fun e w' => e = .returned (.string (strL (foldB y.data.toList))) ∧ Below W.heap.size W w') := fun y W hy => r3fold y (by omega) W
  have HLN : Hid ((s.data.toList.drop i).length = s.size - i) := by show _ = _; rw [List.length_drop, ← size_data]
  have u0 := u8lt s[i]
  rw [← hN]
  clear hT hep hxp hR h32
  go_enter Tryz.func32, Tryz.ntmps32
  refine wp_seq_k fun K1 hK1 => ?_
  have HK1 := Lib.hid hK1
  clear hK1
  go_wp2_with fail
  rw [← hW, ← hN]
  have HNN := Lib.hid hN
  clear hW hN
  refine HK1.out _ _ ?_
  refine wp_seq_k fun K2 hK2 => ?_
  have HK2 := Lib.hid hK2
  clear hK2
  go_wp2_with (go_at_call 29; refine HPIC.out.mono ?_; rintro e w' ⟨rfl, rfl⟩)
  clear HPIC
  refine HK2.out _ _ ?_
  refine wp_seq_k fun K3 hK3 => ?_
  have HK3 := Lib.hid hK3
  clear hK3
  go_upto_region 2 with fail
  go_cut [44] (fun b wx => b = .bool (ep && isR (s.data.toList.drop i)) ∧ Hid (TW N w wx))
  case first =>
    cases ep
    · go_wp2
      go_meet
      exact ⟨rfl, HT1⟩
    · by_cases h2 : i + 2 ≤ s.size
      · obtain ⟨e1, e2⟩ := ext2 s i h2
        obtain ⟨F, hF⟩ : ∃ F, F = strL (foldB (s.extract i (i + 2)).data.toList) := ⟨_, rfl⟩
        have HF := Lib.hid (HFO.out (s.extract i (i + 2)) W (by omega))
        rw [← hF] at HF
        obtain ⟨b1, hb1⟩ : ∃ b1, (F.toList == [73, 83]) = b1 := ⟨_, rfl⟩
        obtain ⟨b2, hb2⟩ : ∃ b2, atB inwB s.data.toList (i + 2) = b2 := ⟨_, rfl⟩
        have HW2 : Hid (PlP inwB s.data.toList ((i : Int) + 2) b2) := plp2 (by omega) hb2
        have HI : Hid (isR (s.data.toList.drop i) = (b1 && !b2)) := by
          show _ = _
          unfold isR
          rw [atB_drop, hb2, ← hb1, eq_tl F _ (foldB ((s.data.toList.drop i).take 2)) (by rw [hF, strL_data, e1]), dec_beq]
        clear e1 e2 hF hb2
        cases b1
        · go_wp2_with (go_at_call 56; refine HF.out.mono ?_; rintro e w3 ⟨rfl, hb3⟩)
          go_meet
          exact ⟨by rw [HI.out]; rfl, HT1.out.below hb3⟩
        · go_wp2_with (first | (go_at_call 56; refine HF.out.mono ?_; rintro e w3 ⟨rfl, hb3⟩) | (go_at_call 57; refine (r3wd s hs _ _ HW2.out _).mono ?_; rintro e w' ⟨rfl, rfl⟩))
          go_meet
          exact ⟨by rw [HI.out]; simp, HT1.out.below hb3⟩
      · have HI : Hid (isR (s.data.toList.drop i) = false) := by
          show _ = _
          unfold isR
          rw [Bool.and_eq_false_iff]
          left
          rw [decide_eq_false_iff_not]
          intro e
          have := congrArg List.length e
          have h3 := HLN.out
          simp only [foldB, List.length_map, List.length_take, List.length_cons, List.length_nil] at this
          omega
        go_wp2
        go_meet
        exact ⟨by rw [HI.out]; rfl, HT1⟩
  case rest =>
    obtain ⟨rfl, HT2⟩ := hcut
    clear HT1
    by_cases hA : ep = true ∧ isR (s.data.toList.drop i) = true
    · have HR : Hid (R = .got 1 [73, 83] 2) := by show _ = _; rw [HR0.out, if_pos hA]
      have hAb : (ep && isR (s.data.toList.drop i)) = true := by rw [hA.1, hA.2]; rfl
      rw [hAb]
      clear hA hAb
      obtain ⟨c0, c1, c2, c3, c4⟩ := HT2.out.1.cells
      obtain ⟨f0, f1, f2, f3, f4⟩ := HT2.out.1.free
      go_wp2
      obtain ⟨w5, hw5, hb5, d0, d1, d2, d3, d4⟩ := HT2.out.1.named HT2.out.2 (Nat.le_refl _) (.int .u8 1) (.string ⟨#[73, 83]⟩) (.int .i64 0) (.int .i64 0) (.bool false)
      rw [← hw5]
      clear hw5 c0 c1 c2 c3 c4 f0 f1 f2 f3 f4
      refine bodyPost_ret (by simp [results, Tryz.results32, go_sem, d0, d1, d2, d3, d4]; try rfl) rfl ?_
      exact ⟨tk_got HR.out rfl (by omega), hb5⟩
    · have HR1 : Hid (R = tok1 xp (sepAt s.data.toList i) (s.data.toList.drop i)) := by show _ = _; rw [HR0.out, if_neg hA]
      have hAb : (ep && isR (s.data.toList.drop i)) = false := by
        cases ep
        · rfl
        · cases hh : isR (s.data.toList.drop i)
          · rfl
          · exact absurd ⟨rfl, hh⟩ hA
      rw [hAb]
      clear hA hAb HR0
      go_wp2_with fail
      exact HK3.out _ _ (tok_pic s i N v w _ R xp hs hi HH32.out HR1.out HT2.out _ _ _ _ _ _ _ _ _ _ _ _ _ _ _ _ _ _ _ _ _ _ _ _ _ _ _ _ _ _ _ _ _ _ _ _ _ _ _ _ _ _ _ _ _ _ _ _ _ _ _ _ _ _ _ _ _ _ _ _ _ _ _ _ _ _ _ _ _ _ _ _ _ _ _ _ _ _ _ _ _ _ _ _ _ _ _ _ _ _ _ _ _ _ _ _ _ _ _ _ _ _ _ _ _ _ _ _ _ _ _ _ _ _ _ _ _ _ _ _ _ _ _ _ _ _ _ _ _ _ _ _ _ _ _ _ _ _ _ _ _ _ _ _ _ _ _ _ _ _ _ _ _ _ _ _ _ _ _ _ _ _ _ _ _ _ _ _ _ _ _ _ _ _ _ _ _ _ _ _ _ _ _ _ _ _ _ _ _ _ _ _ _ _ _ _ _ _ _ _ _ _ _ _ _ _ _ _ _ _ _ _ _ _ _ _ _ _ _ _ _ _ _ _ _ _ _ _ _ _ _ _ _ _ _ _ _ _ _ _ _ _ _ _ _ _ _ _ _ _ _ _ _ _ _ _ _)
end Go.Proofs.YtpalfhfbgfnacaaGreatDoor

/-
  The contract of the reference's Scan (columnsevenref03).
-/
namespace Go.Proofs.YtpalfhfbgfnacaaGreatDoor
open Go.RowKit
set_option linter.unusedVariables false
set_option linter.unusedSimpArgs false
attribute [local go_sem] eqFault guardFault neqFault

def ScanRef (r : (Nat × Int × Int) ⊕ List Tok) (w : World) (e : Ending) (w' : World) : Prop :=
  Below w.heap.size w w' ∧ match r with
    | .inl f => e = .returned (.tuple #[.slice none 0 0, .agg #[.int .i64 f.1, .int .i64 f.2.1, .int .i64 f.2.2]]) ∧ f.1 ≠ 0
    | .inr acc => ∃ v, e = .returned (.tuple #[v, .agg #[.int .i64 0, .int .i64 0, .int .i64 0]]) ∧ ToksAt w' v acc ∧ acc.length ≤ 65536
/-- The same where the cards may be not valid: then nothing is said of the result. -/
def ScanRefG (gd : Bool) (r : (Nat × Int × Int) ⊕ List Tok) (w : World) (e : Ending) (w' : World) : Prop :=
  Below w.heap.size w w' ∧ ∃ (v : Value) (f1 f2 f3 : Int), e = .returned (.tuple #[v, .agg #[.int .i64 f1, .int .i64 f2, .int .i64 f3]]) ∧ (gd = true → match r with
    | .inl f => v = .slice none 0 0 ∧ f1 = f.1 ∧ f2 = f.2.1 ∧ f3 = f.2.2 ∧ f.1 ≠ 0
    | .inr acc => f1 = 0 ∧ f2 = 0 ∧ f3 = 0 ∧ ToksAt w' v acc ∧ acc.length ≤ 65536)
/-- What the reference knows between two cards. -/
structure R3Rel (gd : Bool) (R : (Nat × Int × Int) ⊕ List Tok) (L : List ICard) (w0 : World) (B : Nat) (k : Nat) (acc : List Tok) (ov : Value) (wr : World) : Prop where
  eq : gd = true → R = scanB false (L.drop k) acc
  own : TkOwn B wr ov acc
  bel : Below B w0 wr
  size : B ≤ wr.heap.size
  cnt : acc.length + totI (L.drop k) ≤ 65536
def restR (L : List ICard) (k : Nat) : (Nat × Int × Int) ⊕ List Tok → (Nat × Int × Int) ⊕ List Tok
  | .inl f => .inl f
  | .inr acc' => scanB false (L.drop (k + 1)) acc'
/-- What the reference knows at a place of a card. -/
structure R3In (gd : Bool) (R : (Nat × Int × Int) ⊕ List Tok) (L : List ICard) (c : ICard) (w0 : World) (B : Nat) (k i : Nat) (acc : List Tok) (ov : Value) (wr : World) : Prop where
  eq : gd = true → R = restR L k (contC c.text c.marks i acc)
  own : TkOwn B wr ov acc
  bel : Below B w0 wr
  size : B ≤ wr.heap.size
  cnt : acc.length + (c.text.length - i) + totI (L.drop (k + 1)) ≤ 65536
theorem r3_begin {gd : Bool} {R : (Nat × Int × Int) ⊕ List Tok} {L : List ICard} {c : ICard} {w0 : World} {B k : Nat} {acc : List Tok} {ov : Value} {wr : World} (h : R3Rel gd R L w0 B k acc ov wr) (hc : L[k]? = some c) (hok : gd = true → c.ok = true) : R3In gd R L c w0 B k 0 acc ov wr := by
  refine ⟨?_, h.own, h.bel, h.size, ?_⟩
  · intro hg
    rw [h.eq hg, drop_get hc]
    show (if c.ok = true then _ else _) = _
    rw [if_pos (hok hg), contC_start]
    rfl
  · have := h.cnt
    rw [drop_get hc] at this
    have e : totI (c :: L.drop (k + 1)) = c.text.length + totI (L.drop (k + 1)) := by simp [totI]
    omega
theorem r3_end {gd : Bool} {R : (Nat × Int × Int) ⊕ List Tok} {L : List ICard} {c : ICard} {w0 : World} {B k i : Nat} {acc : List Tok} {ov : Value} {wr : World} (h : R3In gd R L c w0 B k i acc ov wr) (hi : c.text.length ≤ i) : R3Rel gd R L w0 B (k + 1) acc ov wr :=
  ⟨fun hg => by rw [h.eq hg, contC_end hi]; rfl, h.own, h.bel, h.size, by have := h.cnt; omega⟩
theorem r3_skip {gd : Bool} {R : (Nat × Int × Int) ⊕ List Tok} {L : List ICard} {c : ICard} {w0 : World} {B k i : Nat} {acc : List Tok} {ov : Value} {wr wx : World} {b : UInt8} (h : R3In gd R L c w0 B k i acc ov wr) (hb : c.text[i]? = some b) (hs : sepB (expPic acc) b (c.text.drop (i + 1)) = true) (hw : wr = wx) : R3In gd R L c w0 B k (i + 1) acc ov wx := by
  subst hw
  exact ⟨fun hg => by rw [h.eq hg, contC_skip hb hs], h.own, h.bel, h.size, by have := h.cnt; omega⟩
theorem R3In.below {gd : Bool} {R : (Nat × Int × Int) ⊕ List Tok} {L : List ICard} {c : ICard} {w0 : World} {B k i : Nat} {acc : List Tok} {ov : Value} {wr wx : World} (h : R3In gd R L c w0 B k i acc ov wr) (hb : Below wr.heap.size wr wx) : R3In gd R L c w0 B k i acc ov wx :=
  ⟨h.eq, h.own.below hb, h.bel.trans (hb.mono h.size), Nat.le_trans h.size hb.size, h.cnt⟩
theorem r3_bad {gd : Bool} {R : (Nat × Int × Int) ⊕ List Tok} {L : List ICard} {c : ICard} {w0 : World} {B k i : Nat} {acc : List Tok} {ov : Value} {wr : World} {b : UInt8} {e : Nat} (h : R3In gd R L c w0 B k i acc ov wr) (hb : c.text[i]? = some b) (hs : sepB (expPic acc) b (c.text.drop (i + 1)) = false)
    (hr : readT (endPic acc) (expPic acc) (sepAt c.text i) (c.text.drop i) = .bad e) (hg : gd = true) : R = .inl (e, posT c.marks i) := by
  rw [h.eq hg, contC_tok hb hs, hr]; rfl
/-- A token was appended. -/
theorem r3_got {gd : Bool} {R : (Nat × Int × Int) ⊕ List Tok} {L : List ICard} {c : ICard} {w0 : World} {B k i kd n : Nat} {acc : List Tok} {ov v' : Value} {wr W w6 : World} {b : UInt8} {x : List UInt8} {tok : Tok} (hkd : tok.kind = kd) (htk : gd = true → tok = tokAt c.marks i kd x) (h : R3In gd R L c w0 B k i acc ov wr) (hb : c.text[i]? = some b) (hs : sepB (expPic acc) b (c.text.drop (i + 1)) = false)
    (hr : readT (endPic acc) (expPic acc) (sepAt c.text i) (c.text.drop i) = .got kd x n) (hW : Below wr.heap.size wr W) (ho : w6.ownsRow B 44 5 v' (acc.length + 1) (toksC acc ++ tokC tok)) (hg : W.grownBy w6 ov.ownBlock) :
    R3In gd R L c w0 B k (i + n) (acc ++ [tok]) v' w6 := by
  have hi := lt_of_get hb
  have hle := readT_le (drop_ne hi) hr
  rw [List.length_drop] at hle
  have h2 := h.below hW
  have hB6 : Below B W w6 := (Below.refl B W).grown hg h2.size fun k hk => (h2.own.1.lt k hk).1
  have hcn := h.cnt
  refine ⟨fun hgd => by rw [h.eq hgd, contC_tok hb hs, hr, htk hgd], ⟨?_, ?_, ?_⟩, h2.bel.trans hB6, Nat.le_trans h2.size hB6.size, ?_⟩
  · rw [List.length_append, toksC_snoc]; exact ho
  · rw [List.length_append]; simp; omega
  · intro t ht
    rcases List.mem_append.1 ht with ht | ht
    · exact h.own.2.2 t ht
    · rw [List.mem_singleton] at ht; rw [ht, hkd]; exact readT_kind hr
  · rw [List.length_append]; simp; omega
/-- At of any card, valid or not. -/
theorem r3at (l : Bool) (t : ByteArray) (m : Value) (c : ICard) (i : Nat) (hi : i < t.size) (hct : t.data.toList = c.text) (ht : t.size ≤ 134217728) (pl pc ev : Int) (hpl : pl = if c.ok = true then (posT c.marks i).1 else 0) (hpc : pc = if c.ok = true then (posT c.marks i).2 else 0) (hev : ev = if c.ok = true then 0 else 1) (W : World) (hm : MarksIn W m c.marks) :
    Calls Tryz.prog 17 #[.agg #[.bool l, .string t, m], .int .i64 i] W fun e w' => e = .returned (.tuple #[.agg #[.int .i64 pl, .int .i64 pc], .int .i64 ev]) ∧ Below W.heap.size W w' := by
  have hlen : c.text.length = t.size := by rw [← hct, ← size_data]
  refine (c_At l t m c.marks i (by omega) (by omega) W hm ht).mono ?_
  rintro e w' ⟨hb, h | h⟩
  · obtain ⟨hv, _, _, m0, hm0, rfl⟩ := h
    have hok : c.ok = true := (ok_valid c).2 (by rw [← hct]; exact hv)
    refine ⟨?_, hb⟩
    have hg : c.marks.getD 0 (0, 0, 0) = m0 := by simp [List.getD, hm0]
    have e1 : pickT i c.marks (c.marks.getD 0 (0, 0, 0)) = pickM i c.marks m0 := by rw [hg]; rfl
    rw [hpl, hpc, hev, if_pos hok, if_pos hok, if_pos hok]
    unfold posT
    dsimp only
    rw [e1]
  · have hok : ¬ c.ok = true := fun hok => h.1 ⟨by rw [hct]; exact (ok_valid c).1 hok, by omega, by rw [hct, hlen]; omega⟩
    rw [hpl, hpc, hev, if_neg hok, if_neg hok, if_neg hok]
    exact ⟨h.2, hb⟩
theorem up2' {w0 w w' : World} (h : Below w0.heap.size w0 w) (hb : Below w.heap.size w w') : Below w0.heap.size w0 w' := h.trans (hb.mono h.size)
theorem in_sep (c : UInt8) : inB c [44, 59] = (decide (c.toNat = 44) || decide (c.toNat = 59)) := by
  unfold inB
  have h : ∀ a : UInt8, decide (a.toNat = c.toNat) = decide (c.toNat = a.toNat) := fun a => by rw [Bool.eq_iff_iff]; simp; exact eq_comm
  simp only [List.any_cons, List.any_nil, h, Bool.or_false]
  rfl
set_option maxHeartbeats 8000000 in
set_option maxRecDepth 100000 in
theorem r3scanG (gd : Bool) (v : Value) (L : List ICard) (w : World) (h : CardsIn w.heap.size w v L) (hok : gd = true → ∀ c ∈ L, c.ok = true) (htot : totI L ≤ 65536) :
    Calls Tryz.prog 10 #[v] w (ScanRefG gd (scanB false L []) w) := by
  obtain ⟨R, hR⟩ : ∃ R, R = scanB false L [] := ⟨_, rfl⟩
  rw [← hR]
  obtain ⟨W, hW⟩ : ∃ W, W = w.alloc (.cells #[.int .i64 0, .int .i64 0, .int .i64 0] 28) := ⟨_, rfl⟩
  have hWB : Below w.heap.size w W := by rw [hW]; exact (Below.refl _ _).alloc (Nat.le_refl _) _
  have hWs : W.heap.size = w.heap.size + 1 := by rw [hW]; simp
  have hWF : FltBlk W w.heap.size := by rw [hW]; exact heap_alloc_new w _
  obtain ⟨B, hB⟩ : ∃ B, B = w.heap.size + 1 := ⟨_, rfl⟩
  have HWF := Lib.hid hWF
  have HWB := Lib.hid hWB
  have HOK := Lib.hid hok
  obtain ⟨a, cap, rfl, hLl, hcs⟩ := h
  have HS : Hid (R3Rel gd R L W B 0 [] (.slice none 0 0) W) :=
    ⟨fun _ => by rw [List.drop_zero]; exact hR, ⟨World.ownsRow_nil _ _ _ _, by simp, by simp⟩, Below.refl _ _, by omega, by rw [List.drop_zero]; simpa using htot⟩
  have HCS := Lib.hid hcs
  clear hR hWF hWB hcs hok htot
  go_enter Tryz.func10, Tryz.ntmps10
  go_upto_region 1 with fail
  rw [← hW]
  clear hW
  go_wp2
  go_loopw [4, 5] (fun ov iv wr => ∃ (k : Nat) (acc : List Tok), k ≤ L.length ∧ iv = .int .i64 k ∧ Hid (R3Rel gd R L W B k acc ov wr)) (fun _ iv _ => L.length - (intOf iv).toNat)
  case atStart => exact ⟨0, [], Nat.zero_le _, rfl, HS⟩
  case round =>
    obtain ⟨k, acc0, hk, rfl, HR⟩ := hrel
    clear HS
    by_cases hlt : k < L.length
    · obtain ⟨c, hc⟩ : ∃ c, L[k]? = some c := ⟨_, List.getElem?_eq_getElem hlt⟩
      obtain ⟨b, o, rfl, hbB, hcards⟩ := HCS.out (by omega)
      obtain ⟨htl, k0, k1, m, k2, hmk⟩ := hcards k c hc
      have hcok : gd = true → c.ok = true := fun hg => HOK.out hg c (List.mem_of_getElem? hc)
      obtain ⟨cl, hcl⟩ : ∃ x, x = c.left := ⟨_, rfl⟩
      obtain ⟨ct, hct⟩ : ∃ x, x = strL c.text := ⟨_, rfl⟩
      rw [← hcl] at k0
      rw [← hct] at k1
      have hcts : ct.size ≤ 134217728 := by rw [hct, strL_size]; exact htl
      have HCT : Hid (ct.data.toList = c.text) := by show _ = _; rw [hct]; rfl
      have HCW : Hid (∀ W2, Below B W W2 → W2.cell? ⟨b, o + k * 3, none⟩ = some (.bool cl) ∧ W2.cell? ⟨b, o + k * 3 + 1, none⟩ = some (.string ct) ∧ W2.cell? ⟨b, o + k * 3 + 2, none⟩ = some m ∧ MarksIn W2 m c.marks) := fun W2 hb2 => by
        have hbW : Below w.heap.size w W2 := HWB.out.trans (hb2.mono (by omega))
        exact ⟨(hbW.cell (p := ⟨b, o + k * 3, none⟩) hbB).trans k0, (hbW.cell (p := ⟨b, o + k * 3 + 1, none⟩) hbB).trans k1, (hbW.cell (p := ⟨b, o + k * 3 + 2, none⟩) hbB).trans k2, (hmk.below hbW).marksIn (by have := hbW.size; omega)⟩
      have HIN := Lib.hid (r3_begin HR.out hc hcok)
      have HCOK := Lib.hid hcok
      obtain ⟨c0, c1, c2, _⟩ := HCW.out wr HR.out.bel
      clear k0 k1 k2 hcl hct hcards hmk hcok hc HR htl c0 c2
      have HK3 : Hid (wr.heap.size = wr.heap.size) := rfl
      obtain ⟨wo, rfl⟩ : ∃ wo : World, wo = wr := ⟨_, rfl⟩
      go_upto_region 6 with fail
      clear c1 HK3
      go_wp2_with fail
      go_loopw [4, 7] (fun ov iv wr => ∃ (i : Nat) (acc : List Tok), i ≤ ct.size ∧ iv = .int .i64 i ∧ Hid (R3In gd R L c W B k i acc ov wr)) (fun _ iv _ => ct.size - (intOf iv).toNat)
      case atStart => exact ⟨0, acc0, Nat.zero_le _, rfl, HIN⟩
      case round =>
        obtain ⟨i, acc, hi, rfl, HI⟩ := hrel
        clear HIN
        by_cases hil : i < ct.size
        · have HB0 : Hid (c.text[i]? = some ct[i]) := by show _ = _; rw [← HCT.out]; exact get_data ct i hil
          have u0 := u8lt ct[i]
          have HPI := Lib.hid (r3picture _ acc wr HI.out.own.at_)
          obtain ⟨x, hx⟩ : ∃ x, x = expPic acc := ⟨_, rfl⟩
          obtain ⟨en, hen⟩ : ∃ en, en = endT (c.text.drop (i + 1)) := ⟨_, rfl⟩
          obtain ⟨sp, hsp⟩ : ∃ sp, sp = sepB x ct[i] (c.text.drop (i + 1)) := ⟨_, rfl⟩
          rw [← hx] at HPI
          have HBL : Hid (∃ q : Nat, ((i : Int) + 1) = q ∧ q ≤ 140737488355328 ∧ endT (ct.data.toList.drop q) = en) := ⟨i + 1, rfl, by omega, by rw [HCT.out, hen]⟩
          obtain ⟨b1, hb1⟩ : ∃ b1, b1 = (decide (ct[i].toNat = 44) || decide (ct[i].toNat = 59)) := ⟨_, rfl⟩
          have HI2 : Hid (InP ct[i].toNat ⟨#[44, 59]⟩ b1) := ⟨ct[i], rfl, by show 2 ≤ _; omega, by rw [hb1]; exact in_sep _⟩
          have HSPE : Hid (sp = (decide (ct[i].toNat = 32) || (!x && b1 && en))) := by show _ = _; rw [hsp, hb1, hen]; rfl
          have HX := Lib.hid hx
          have HSP := Lib.hid hsp
          clear hx hen hsp hb1
          obtain ⟨ta, tcap, rfl⟩ := own_sl HI.out.own.1
          go_upto_region 9 with (go_at_call 29; refine HPI.out.mono ?_; rintro e w' ⟨rfl, rfl⟩)
          go_cut [54] (fun bb wx => bb = .bool sp ∧ wr = wx)
          case first =>
            by_cases h32 : ct[i].toNat = 32
            · have q1 : ((ct[i].toNat : Int) == 32) = true := by rw [beq_iff_eq]; omega
              have hf : sp = true := by rw [HSPE.out, decide_eq_true h32]; rfl
              subst hf
              clear h32
              go_wp2
              go_meet
              exact ⟨rfl, rfl⟩
            · have q1 : ((ct[i].toNat : Int) == 32) = false := by rw [beq_eq_false_iff_ne]; omega
              have hf : sp = (!x && b1 && en) := by rw [HSPE.out, decide_eq_false h32]; rfl
              clear h32
              cases x
              · cases b1
                · subst hf
                  go_wp2_with (go_at_call 30; refine (r3inv _ _ _ HI2.out _).mono ?_; rintro e w' ⟨rfl, rfl⟩)
                  go_meet
                  exact ⟨rfl, rfl⟩
                · subst hf
                  go_wp2_with (first | (go_at_call 30; refine (r3inv _ _ _ HI2.out _).mono ?_; rintro e w' ⟨rfl, rfl⟩) | (go_at_call 31; refine (r3bl ct hcts _ _ HBL.out _).mono ?_; rintro e w' ⟨rfl, rfl⟩))
                  go_meet
                  exact ⟨rfl, rfl⟩
              · subst hf
                go_wp2
                go_meet
                exact ⟨rfl, rfl⟩
          case rest =>
          obtain ⟨rfl, rfl⟩ := hcut
          clear HI2 HBL HPI
          cases sp
          · -- a token
            have HSF : Hid (sepB (expPic acc) ct[i] (c.text.drop (i + 1)) = false) := by show _ = _; rw [← HX.out, ← HSP.out]
            have h32 : ct[i].toNat ≠ 32 := fun e => by
              have := HSPE.out
              rw [decide_eq_true e] at this; cases this
            obtain ⟨c0, c1, c2, _⟩ := HCW.out wr HI.out.bel
            obtain ⟨pl, hpl⟩ : ∃ y : Int, y = if c.ok = true then (posT c.marks i).1 else 0 := ⟨_, rfl⟩
            obtain ⟨pc, hpc⟩ : ∃ y : Int, y = if c.ok = true then (posT c.marks i).2 else 0 := ⟨_, rfl⟩
            obtain ⟨ev, hev⟩ : ∃ y : Int, y = if c.ok = true then 0 else 1 := ⟨_, rfl⟩
            have HAT : Hid (∀ W2, Below wr.heap.size wr W2 → Calls Tryz.prog 17 #[.agg #[.bool cl, .string ct, m], .int .i64 i] W2 fun e w' => e = .returned (.tuple #[.agg #[.int .i64 pl, .int .i64 pc], .int .i64 ev]) ∧ Below W2.heap.size W2 w') := fun W2 hW2 =>
              r3at cl ct m c i hil HCT.out hcts pl pc ev hpl hpc hev W2 (HCW.out W2 (HI.out.bel.trans (hW2.mono HI.out.size))).2.2.2
            have HPL : Hid (gd = true → pl = (posT c.marks i).1) := fun hg => by rw [hpl, if_pos (HCOK.out hg)]
            have HPC : Hid (gd = true → pc = (posT c.marks i).2) := fun hg => by rw [hpc, if_pos (HCOK.out hg)]
            clear hpl hpc hev HSP HSPE HX
            have hbw : b < wr.heap.size := by have := HI.out.size; omega
            go_upto_region 12 with (go_at_call 17; refine (HAT.out _ ?_).mono ?_; (go_grown); rintro e w5 ⟨rfl, hb5⟩)
            have hPB : Below w5.heap.size w5 (w5.alloc (.cells #[.int .i64 pl, .int .i64 pc] 26)) := (Below.refl _ _).alloc (Nat.le_refl _) _
            have HI6 := Lib.hid ((HI.out.below hb5).below hPB)
            have HW6 : Hid (Below wr.heap.size wr (w5.alloc (.cells #[.int .i64 pl, .int .i64 pc] 26))) := up2' hb5 hPB
            have HP6 : Hid (PosBlk (w5.alloc (.cells #[.int .i64 pl, .int .i64 pc] 26)) w5.heap.size (.int .i64 pl) (.int .i64 pc)) := heap_alloc_new w5 _
            have hBP : B ≤ w5.heap.size := by have := HI.out.size; have := hb5.size; omega
            obtain ⟨P, hP⟩ : ∃ P, P = w5.heap.size := ⟨_, rfl⟩
            rw [← hP] at HP6 hBP ⊢
            clear hP hPB hb5 HAT c0 c1 c2 hbw
            generalize w5.alloc (.cells #[.int .i64 pl, .int .i64 pc] 26) = w6 at *
            have hP6 : P < w6.heap.size := lt_of_block HP6.out
            have HTKN := Lib.hid (r3token ct i _ acc w6 hcts hil h32 HI6.out.own.at_)
            have hne0 : ct.data.toList.drop i ≠ [] := drop_ne (by rw [← size_data]; exact hil)
            have HRDR : Hid (readT (endPic acc) (expPic acc) (sepAt c.text i) (c.text.drop i) = tokR (endPic acc) (expPic acc) (sepAt ct.data.toList i) (ct.data.toList.drop i)) := by
              show _ = _
              rw [← HCT.out]
              exact readT_R hne0 (fun h => by unfold expPic; rw [h]; rfl)
            clear hne0
            cases hRD : tokR (endPic acc) (expPic acc) (sepAt ct.data.toList i) (ct.data.toList.drop i) with
            | bad c9 =>
              rw [hRD] at HTKN HRDR
              have hz0 : c9 ≠ 0 := readT_bad HRDR.out
              have HZ : Hid (gd = true → R = .inl (c9, pl, pc)) := fun hg => by
                rw [r3_bad HI.out HB0.out HSF.out HRDR.out hg, HPL.out hg, HPC.out hg]
              have HTK2 : Hid (Calls Tryz.prog 32 #[.string ct, .int .i64 i, .slice ta acc.length tcap] w6 fun ee w' => ee = .returned (.tuple #[.agg #[.int .u8 0, .string ⟨#[]⟩, .int .i64 0, .int .i64 0, .bool false], .int .i64 0, .int .i64 c9]) ∧ Below w6.heap.size w6 w') := HTKN.out
              clear hRD HTKN
              go_upto_region 13 with (go_at_call 32; refine HTK2.out.mono ?_; rintro e w7 ⟨rfl, hb7⟩)
              have hTB : Below w7.heap.size w7 (w7.alloc (.cells #[.int .u8 0, .string ⟨#[]⟩, .int .i64 0, .int .i64 0, .bool false] 44)) := (Below.refl _ _).alloc (Nat.le_refl _) _
              have HI8 := Lib.hid ((HI6.out.below hb7).below hTB)
              have HP8 : Hid (PosBlk (w7.alloc (.cells #[.int .u8 0, .string ⟨#[]⟩, .int .i64 0, .int .i64 0, .bool false] 44)) P (.int .i64 pl) (.int .i64 pc)) := by
                have h7 : PosBlk w7 P (.int .i64 pl) (.int .i64 pc) := (hb7.block P hP6).trans HP6.out
                exact (hTB.block P (lt_of_block h7)).trans h7
              clear hTB hb7 HTK2 HI6 HP6 hP6 HW6
              generalize w7.alloc (.cells #[.int .u8 0, .string ⟨#[]⟩, .int .i64 0, .int .i64 0, .bool false] 44) = w8 at *
              have HF8 : Hid (FltBlk w8 w.heap.size) := (HI8.out.bel.block _ (by omega)).trans HWF.out
              have HB8 : Hid (Below w.heap.size w w8) := HWB.out.trans (HI8.out.bel.mono (by omega))
              obtain ⟨p0, p1⟩ : w8.cell? ⟨P, 0, none⟩ = some (.int .i64 pl) ∧ w8.cell? ⟨P, 1, none⟩ = some (.int .i64 pc) := ⟨Joins.cell_of_block HP8.out 0, Joins.cell_of_block HP8.out 1⟩
              obtain ⟨⟨y0, y1, y2⟩, q0, q1, q2⟩ := HF8.out.cells
              have e0 : ((c9 : Int) == 0) = false := by rw [beq_eq_false_iff_ne]; omega
              have e1 : ((c9 : Int) != 0) = true := by rw [bne, e0]; rfl
              go_upto_region 14 with fail
              clear e0 e1
              have hPne : P ≠ w.heap.size := by omega
              have HEND := Lib.hid (flt_end HF8.out HB8.out (.int .i64 c9) (.int .i64 pl) (.int .i64 pc))
              go_cut [2] (fun s2 wx => s2 = .slice none 0 0 ∧ Hid (FltEnd w w.heap.size (.int .i64 c9) (.int .i64 pl) (.int .i64 pc) wx))
              case first =>
                go_region_law (fail)
                all_goals
                  go_wp2_with fail
                  go_meet
                  exact ⟨rfl, HEND.out⟩
              case rest =>
                obtain ⟨rfl, HE⟩ := hcut
                obtain ⟨hb9, d0, d1, d2⟩ := HE.out
                clear p0 p1 y0 y1 y2 q0 q1 q2
                go_wp2
                refine bodyPost_ret (by simp [results, Tryz.results10, go_sem, d0, d1, d2]; try rfl) rfl ?_
                refine ⟨hb9, _, _, _, _, rfl, fun hg => ?_⟩
                rw [HZ.out hg]
                exact ⟨rfl, rfl, rfl, rfl, hz0⟩
            | got kd x2 n =>
              rw [hRD] at HTKN HRDR
              have hle := readT_le (drop_ne (by rw [← HCT.out, ← size_data]; exact hil)) HRDR.out
              rw [List.length_drop, ← HCT.out, ← size_data] at hle
              obtain ⟨hn1, hn2⟩ := hle
              obtain ⟨M, hM⟩ : ∃ M, M = i + n := ⟨_, rfl⟩
              obtain ⟨xs, hxs⟩ : ∃ xs, xs = strL x2 := ⟨_, rfl⟩
              have HTK2 : Hid (Calls Tryz.prog 32 #[.string ct, .int .i64 i, .slice ta acc.length tcap] w6 fun ee w' => ee = .returned (.tuple #[.agg #[.int .u8 kd, .string xs, .int .i64 0, .int .i64 0, .bool false], .int .i64 M, .int .i64 0]) ∧ Below w6.heap.size w6 w') := by
                rw [hxs, hM]; exact HTKN.out
              have HXS := Lib.hid hxs
              have HM := Lib.hid hM
              clear hRD HTKN hxs hM
              go_upto_region 13 with (go_at_call 32; refine HTK2.out.mono ?_; rintro e w7 ⟨rfl, hb7⟩)
              have hP7 : PosBlk w7 P (.int .i64 pl) (.int .i64 pc) := (hb7.block P hP6).trans HP6.out
              have hPw7 : P < w7.heap.size := lt_of_block hP7
              obtain ⟨p0, p1⟩ : w7.cell? ⟨P, 0, none⟩ = some (.int .i64 pl) ∧ w7.cell? ⟨P, 1, none⟩ = some (.int .i64 pc) := ⟨Joins.cell_of_block hP7 0, Joins.cell_of_block hP7 1⟩
              have HW7 := Lib.hid (up2' HW6.out hb7)
              have HI7 := Lib.hid (HI6.out.below hb7)
              clear hP7 hb7 HTK2 HI6 HP6 hP6 HW6
              go_upto_region 17 with fail
              obtain ⟨lb, hlb⟩ : ∃ lb, lb = decide (pc < 12) := ⟨_, rfl⟩
              rw [← hlb]
              have HTOK : Hid (tokC (⟨kd, x2, pl, pc, lb⟩ : Tok) = [.int .u8 kd, .string xs, .int .i64 pl, .int .i64 pc, .bool lb]) := by
                show _ = _
                rw [HXS.out]; rfl
              have HTA : Hid (gd = true → (⟨kd, x2, pl, pc, lb⟩ : Tok) = tokAt c.marks i kd x2) := fun hg => by
                rw [hlb, HPL.out hg, HPC.out hg]; rfl
              have hTB : Below w7.heap.size w7 (w7.alloc (.cells #[.int .u8 kd, .string xs, .int .i64 pl, .int .i64 pc, .bool lb] 44)) := (Below.refl _ _).alloc (Nat.le_refl _) _
              have HI8 := Lib.hid (HI7.out.below hTB)
              have HT8 : Hid ((w7.alloc (.cells #[.int .u8 kd, .string xs, .int .i64 pl, .int .i64 pc, .bool lb] 44)).heap[w7.heap.size]? = some (.cells #[.int .u8 kd, .string xs, .int .i64 pl, .int .i64 pc, .bool lb] 44 (0, 0))) := heap_alloc_new w7 _
              obtain ⟨T, hT⟩ : ∃ T, T = w7.heap.size := ⟨_, rfl⟩
              rw [← hT] at HT8 ⊢
              clear hT hTB HI7 HW7 hPw7 p0 p1 hlb
              generalize w7.alloc (.cells #[.int .u8 kd, .string xs, .int .i64 pl, .int .i64 pc, .bool lb] 44) = w8 at *
              obtain ⟨t0, t1, t2, t3, t4⟩ : w8.cell? ⟨T, 0, none⟩ = some (.int .u8 kd) ∧ w8.cell? ⟨T, 1, none⟩ = some (.string xs) ∧ w8.cell? ⟨T, 2, none⟩ = some (.int .i64 pl) ∧ w8.cell? ⟨T, 3, none⟩ = some (.int .i64 pc) ∧ w8.cell? ⟨T, 4, none⟩ = some (.bool lb) :=
                ⟨Joins.cell_of_block HT8.out 0, Joins.cell_of_block HT8.out 1, Joins.cell_of_block HT8.out 2, Joins.cell_of_block HT8.out 3, Joins.cell_of_block HT8.out 4⟩
              obtain ⟨i0, hii, hz0, hz1, hz2⟩ := info_parts Tryz.infoTok
              have hTB9 : Below w8.heap.size w8 (w8.alloc (.cells #[.int .u8 kd, .string xs, .int .i64 pl, .int .i64 pc, .bool lb] 44)) := (Below.refl _ _).alloc (Nat.le_refl _) _
              have HOWN9 := Lib.hid (HI8.out.below hTB9).own.1
              have HTB9 := Lib.hid hTB9
              have HNEWS := Lib.hid (World.news_of_block (cs := #[.int .u8 kd, .string xs, .int .i64 pl, .int .i64 pc, .bool lb]) (t := 44) (fr := (0, 0)) (heap_alloc_new w8 (.cells #[.int .u8 kd, .string xs, .int .i64 pl, .int .i64 pc, .bool lb] 44)))
              have hcn := HI8.out.cnt
              rw [← HCT.out, ← size_data] at hcn
              have HML9 : Hid (acc.length + 1 ≤ maxLen) := by show _ ≤ maxLen; unfold maxLen; omega
              have hacc : acc.length ≤ 65536 := HI8.out.own.2.1
              have hB8 := HI8.out.size
              clear hTB9 hcn HT8
              go_wp2_with (at_builtin; refine wpList_append_own _ rfl (.tmp 85) (.tmp 87) 31 rfl B 44 i0 _ 5 48 Tryz.underlying31 hii hz0 hz1 hz2 rfl (by decide) (.slice ta acc.length tcap) acc.length (toksC acc) rfl HOWN9.out ⟨w8.heap.size, 0, none⟩ 1 1 [.int .u8 kd, .string xs, .int .i64 pl, .int .i64 pc, .bool lb] rfl rfl HNEWS.out (by simp [Value.oneCell']) HML9.out (by omega) (by simp; omega) ?_; intro v' w10 hown10 hgrow _; have HI10 := Lib.hid (r3_got (tok := ⟨kd, x2, pl, pc, lb⟩) rfl HTA.out HI8.out HB0.out HSF.out HRDR.out HTB9.out (by rw [HTOK.out]; exact hown10) hgrow); clear hown10 hgrow)
              rw [← HM.out] at HI10
              go_roundw
              case rel => exact ⟨M, _, by have := HM.out; omega, rfl, HI10⟩
              case measure => simp [intOf]; have := HM.out; omega
          · -- a separator
            have HST : Hid (sepB (expPic acc) ct[i] (c.text.drop (i + 1)) = true) := by show _ = _; rw [← HX.out, ← HSP.out]
            clear HX HSP HSPE
            go_wp2
            go_roundw
            case rel => exact ⟨i + 1, acc, by omega, by go_num, r3_skip HI.out HB0.out HST.out rfl⟩
            case measure => simp [intOf]; omega
        · obtain rfl : i = ct.size := by omega
          have HE : Hid (R3Rel gd R L W B (k + 1) acc _ wr) := r3_end HI.out (by rw [← HCT.out, ← size_data]; exact Nat.le_refl _)
          go_wp2
          go_roundw
          case rel => exact ⟨k + 1, acc, by omega, by go_num, HE⟩
          case measure => simp [intOf]; omega
    · obtain rfl : k = L.length := by omega
      have HZ : Hid (gd = true → R = .inr acc0) := fun hg => by
        rw [HR.out.eq hg, List.drop_length]; rfl
      have HF8 : Hid (FltBlk wr w.heap.size) := (HR.out.bel.block _ (by omega)).trans HWF.out
      have HB8 : Hid (Below w.heap.size w wr) := HWB.out.trans (HR.out.bel.mono (by omega))
      have HO := Lib.hid HR.out.own
      obtain ⟨ta, tcap, rfl⟩ := own_sl HO.out.1
      obtain ⟨⟨y0, y1, y2⟩, q0, q1, q2⟩ := HF8.out.cells
      clear HR
      go_wp2
      obtain ⟨w9, hw9, hb9, ht9, d0, d1, d2⟩ := HF8.out.named HB8.out (Nat.le_refl _) (.int .i64 0) (.int .i64 0) (.int .i64 0)
      have ho9 : TkOwn B w9 (.slice ta acc0.length tcap) acc0 := ⟨own_turns HO.out.1 ht9 (by decide), HO.out.2⟩
      rw [← hw9]
      clear hw9
      refine bodyPost_ret (by simp [results, Tryz.results10, go_sem, d0, d1, d2]; try rfl) rfl ?_
      refine ⟨hb9, _, _, _, _, rfl, fun hg => ?_⟩
      rw [HZ.out hg]
      exact ⟨rfl, rfl, rfl, ho9.at_, ho9.2.1⟩
theorem r3scan (v : Value) (L : List ICard) (w : World) (h : CardsIn w.heap.size w v L) (hok : ∀ c ∈ L, c.ok = true) (htot : totI L ≤ 65536) :
    Calls Tryz.prog 10 #[v] w (ScanRef (scanB false L []) w) := by
  refine (r3scanG true v L w h (fun _ => hok) htot).mono ?_
  rintro e w' ⟨hb, v, f1, f2, f3, rfl, h2⟩
  have h3 := h2 rfl
  refine ⟨hb, ?_⟩
  cases hr : scanB false L [] with
  | inl f =>
    rw [hr] at h3
    obtain ⟨rfl, rfl, rfl, rfl, h4⟩ := h3
    exact ⟨rfl, h4⟩
  | inr acc =>
    rw [hr] at h3
    obtain ⟨rfl, rfl, rfl, h4, h5⟩ := h3
    exact ⟨v, rfl, h4, h5⟩
end Go.Proofs.YtpalfhfbgfnacaaGreatDoor
