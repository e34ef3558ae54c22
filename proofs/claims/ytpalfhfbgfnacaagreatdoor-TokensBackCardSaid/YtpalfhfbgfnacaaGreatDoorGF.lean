/-
  Texts of this seat, merged: Sc1 Sc2.
-/
import Derived.Test.YtpalfhfbgfnacaaGreatDoorTok7
import Derived.Deep.QuietTactic
import Derived.BigQuiet
/-
  The scanner of package tokens in memory; the contracts of its methods expectsPicture, isSeparated, beginsPicture.
-/
namespace Go.Proofs.YtpalfhfbgfnacaaGreatDoor
open Go.RowKit
set_option linter.unusedVariables false
set_option linter.unusedSimpArgs false

/-- The scanner's block: the card's Left, Text and Marks, the next byte, the tokens. -/
def ScAt (S : Nat) (l : Bool) (t : ByteArray) (mv : Value) (i : Nat) (tv : Value) (w : World) : Prop :=
  w.heap[S]? = some (.cells #[.bool l, .string t, mv, .int .i64 i, tv] 85 (0, 0))
theorem ScAt.cells {S : Nat} {l : Bool} {t : ByteArray} {mv : Value} {i : Nat} {tv : Value} {w : World} (h : ScAt S l t mv i tv w) :
    w.cell? ⟨S, 1, none⟩ = some (.string t) ∧ w.cell? ⟨S, 2, none⟩ = some mv ∧ w.cell? ⟨S, 3, none⟩ = some (.int .i64 i) ∧ w.cell? ⟨S, 4, none⟩ = some tv :=
  ⟨Joins.cell_of_block h 1, Joins.cell_of_block h 2, Joins.cell_of_block h 3, Joins.cell_of_block h 4⟩
theorem ScAt.free {S : Nat} {l : Bool} {t : ByteArray} {mv : Value} {i : Nat} {tv : Value} {w : World} (h : ScAt S l t mv i tv w) (j : Nat) : w.frozen? ⟨S, j, none⟩ = false := Joins.unfrozen_of_block h j
theorem ScAt.below {S : Nat} {l : Bool} {t : ByteArray} {mv : Value} {i : Nat} {tv : Value} {w w' : World} (h : ScAt S l t mv i tv w) (hb : Below w.heap.size w w') : ScAt S l t mv i tv w' := (hb.block S (lt_of_block h)).trans h
theorem ScAt.next {S : Nat} {l : Bool} {t : ByteArray} {mv : Value} {i : Nat} {tv : Value} {w : World} (h : ScAt S l t mv i tv w) (j : Nat) : ScAt S l t mv j tv (w.setCell ⟨S, 3, none⟩ (.int .i64 j)) := Joins.block_setCell (i := 3) h _
theorem ScAt.marks {S : Nat} {l : Bool} {t : ByteArray} {mv : Value} {i : Nat} {tv : Value} {w : World} (h : ScAt S l t mv i tv w) (m : Value) : ScAt S l t m i tv (w.setCell ⟨S, 2, none⟩ m) := Joins.block_setCell (i := 2) h _
theorem ScAt.toks {S : Nat} {l : Bool} {t : ByteArray} {mv : Value} {i : Nat} {tv : Value} {w : World} (h : ScAt S l t mv i tv w) (m : Value) : ScAt S l t mv i m (w.setCell ⟨S, 4, none⟩ m) := Joins.block_setCell (i := 4) h _

theorem cutIS_any (v : Value) (L : List Tok) (w : World) (h : ToksAt w v L) :
    Calls Tryz.prog 110 #[v, .string ⟨#[73, 83]⟩] w (CutPost [73, 83] L w) := cutWord_any v L ⟨#[73, 83]⟩ w h
theorem endPic_nil : endPic [] = false := rfl
def PicIs (w : World) (v : Value) (b : Bool) : Prop := ∃ L, ToksAt w v L ∧ endPic L = b
theorem endsWithPic_n (v : Value) (b : Bool) (w : World) (h : PicIs w v b) : Calls Tryz.prog 111 #[v] w fun e w' => e = .returned (.bool b) ∧ w = w' := by
  obtain ⟨L, h1, h2⟩ := h
  rw [← h2]; exact endsWithPic_any v L w h1
set_option maxHeartbeats 1000000 in
set_option maxRecDepth 100000 in
theorem expectsPicture_any {S : Nat} {l : Bool} {t : ByteArray} {mv : Value} {i : Nat} {tv : Value} (L : List Tok) (w : World) (h : ScAt S l t mv i tv w) (ht : ToksAt w tv L) :
    Calls Tryz.prog 84 #[.pointer (some ⟨S, 0, none⟩)] w fun e w' => e = .returned (.bool (expPic L)) ∧ w = w' := by
  obtain ⟨c1, c2, c3, c4⟩ := h.cells
  obtain ⟨b1, hb1⟩ : ∃ b, b = endPic L := ⟨_, rfl⟩
  obtain ⟨b2, hb2⟩ : ∃ b, b = lastIs [73, 83] L := ⟨_, rfl⟩
  obtain ⟨b3, hb3⟩ : ∃ b, b = endPic (if b2 = true then L.dropLast else []) := ⟨_, rfl⟩
  have HX : Hid (expPic L = (b1 || (b2 && b3))) := by
    show _ = _
    rw [expPic_last, ← hb1, ← hb2, hb3]
    cases b2 <;> rfl
  have HC : Hid (Calls Tryz.prog 110 #[tv, .string ⟨#[73, 83]⟩] w fun e w' => w = w' ∧ ∃ v, e = .returned (.tuple #[v, .bool b2]) ∧ Hid (PicIs w v b3)) := by
    refine (cutIS_any tv L w ht).mono ?_
    rintro e w' ⟨h1, v, h2, h3⟩
    rw [← hb2] at h2 h3
    exact ⟨h1, v, h2, _, h3, hb3.symm⟩
  have HE : Hid (PicIs w tv b1) := ⟨L, ht, hb1.symm⟩
  clear hb1 hb2 hb3 ht h
  go_enter Tryz.func84, Tryz.ntmps84
  go_upto_region 2 with (go_at_call 110; refine HC.out.mono ?_; rintro e w' ⟨rfl, v, rfl, HV⟩)
  cases b1 <;> cases b2 <;> cases b3
  all_goals
    go_wp2_with (go_at_call 111; refine (endsWithPic_n _ ?_ _ ?ht).mono ?_; (case ht => first | exact HE.out | exact HV.out); rintro e w' ⟨rfl, rfl⟩)
    go_ret
    exact ⟨ret_bool (by rw [HX.out]; rfl), rfl⟩
set_option maxHeartbeats 1000000 in
set_option maxRecDepth 100000 in
theorem isSeparated_any {S : Nat} {l : Bool} {t : ByteArray} {mv : Value} {i : Nat} {tv : Value} (w : World) (h : ScAt S l t mv i tv w) (hi : i ≤ t.size) (ht : t.size ≤ 134217728) :
    Calls Tryz.prog 90 #[.pointer (some ⟨S, 0, none⟩)] w fun e w' => e = .returned (.bool (sepAt t.data.toList i)) ∧ Below w.heap.size w w' := by
  obtain ⟨c1, c2, c3, c4⟩ := h.cells
  clear h
  rcases i with _ | i
  · go_enter Tryz.func90, Tryz.ntmps90
    go_wp2
    go_quiet (fail)
    go_wp2
    go_ret
    exact ⟨rfl, bdrewN _ (Below.refl _ _)⟩
  · have hk : i < t.size := by omega
    have HS : Hid (sepAt t.data.toList (i + 1) = (decide ((t[i].toNat : Int) = 32) || decide ((t[i].toNat : Int) = 40))) := by
      show _ = _
      unfold sepAt
      rw [Nat.add_sub_cancel, get_getD t i hk]
      rw [Bool.eq_iff_iff]
      simp
      omega
    have e0 : ((i : Int) + 1 == 0) = false := by rw [beq_eq_false_iff_ne]; omega
    have e4 : (t[i].toNat : Int) ≤ 255 := by have := u8lt t[i]; omega
    by_cases h1 : (t[i].toNat : Int) = 32
    · go_enter Tryz.func90, Tryz.ntmps90
      go_wp2
      go_quiet (fail)
      go_wp2
      go_ret
      exact ⟨ret_bool (by rw [HS.out, h1]; rfl), bdrewN _ (Below.refl _ _)⟩
    · have h3 : ((t[i].toNat : Int) == 32) = false := by simpa using h1
      by_cases h2 : (t[i].toNat : Int) = 40
      · go_enter Tryz.func90, Tryz.ntmps90
        go_wp2
        go_quiet (fail)
        go_wp2
        go_ret
        exact ⟨ret_bool (by rw [HS.out, h2]; rfl), bdrewN _ (Below.refl _ _)⟩
      · have h4 : ((t[i].toNat : Int) == 40) = false := by simpa using h2
        go_enter Tryz.func90, Tryz.ntmps90
        go_wp2
        go_quiet (fail)
        go_wp2
        go_ret
        exact ⟨ret_bool (by rw [HS.out, Bool.eq_iff_iff]; simp [h1, h2]), bdrewN _ (Below.refl _ _)⟩
end Go.Proofs.YtpalfhfbgfnacaaGreatDoor

/-
  The contract of the scanner's method beginsPicture.
-/
namespace Go.Proofs.YtpalfhfbgfnacaaGreatDoor
open Go.RowKit
set_option linter.unusedVariables false
set_option linter.unusedSimpArgs false

theorem toList_beq (s : ByteArray) (l : List UInt8) : (s.toList == l) = decide (s.data.toList = l) := by
  rw [ByteArray.toList_eq, Bool.eq_iff_iff]; simp
theorem eqs_hp (r : ByteArray) : ((⟨#[61, 61]⟩ : ByteArray).data.toList.isPrefixOf r.data.toList) = eqs r.data.toList := rfl
def begPic (e x : Bool) (r : List UInt8) : Bool := x && !eqs r && !(isIS r && e)
set_option maxHeartbeats 1000000 in
set_option maxRecDepth 100000 in
theorem beginsPicture_any {S : Nat} {l : Bool} {t : ByteArray} {mv : Value} {i : Nat} {tv : Value} (L : List Tok) (r : ByteArray) (w : World) (h : ScAt S l t mv i tv w) (ht : ToksAt w tv L) (h0 : 0 < r.size) (hr : r.size ≤ 134217728) :
    Calls Tryz.prog 86 #[.pointer (some ⟨S, 0, none⟩), .string r] w fun e w' => e = .returned (.bool (begPic (endPic L) (expPic L) r.data.toList)) ∧ Below w.heap.size w w' := by
  have HSC := Lib.hid h
  have HTK := Lib.hid ht
  obtain ⟨x, hx⟩ : ∃ b, b = expPic L := ⟨_, rfl⟩
  obtain ⟨p, hp⟩ : ∃ b, b = endPic L := ⟨_, rfl⟩
  obtain ⟨q, hq⟩ : ∃ b, b = eqs r.data.toList := ⟨_, rfl⟩
  obtain ⟨y, hy⟩ : ∃ b, b = isIS r.data.toList := ⟨_, rfl⟩
  have HX : Hid (∀ W : World, ScAt S l t mv i tv W → ToksAt W tv L → Calls Tryz.prog 84 #[.pointer (some ⟨S, 0, none⟩)] W fun e w' => e = .returned (.bool x) ∧ W = w') := fun W h1 h2 => by
    rw [hx]; exact expectsPicture_any L W h1 h2
  have HP : Hid (∀ W : World, ToksAt W tv L → Calls Tryz.prog 111 #[tv] W fun e w' => e = .returned (.bool p) ∧ W = w') := fun W h2 => by
    rw [hp]; exact endsWithPic_any tv L W h2
  have HQ : Hid ((⟨#[61, 61]⟩ : ByteArray).data.toList.isPrefixOf r.data.toList = q) := hq.symm
  obtain ⟨n, hn⟩ : ∃ n, n = wrdN r.data.toList := ⟨_, rfl⟩
  have HN := Lib.hid hn
  have hnl : n ≤ r.size := by rw [hn, size_data]; exact wrdN_le _
  obtain ⟨f, hf⟩ : ∃ f, f = strB (foldB (r.extract 0 n).data.toList) := ⟨_, rfl⟩
  have HFOLD : Hid (∀ W : World, Calls Tryz.prog 112 #[.string (r.extract 0 n)] W fun e w' => e = .returned (.string f) ∧ Below W.heap.size W w') := fun W => by
    rw [hf]; exact fold_any _ (by rw [ByteArray.size_extract]; omega) W
  have hy2 : (f.toList == [73, 83]) = y := by
    rw [toList_beq, hf, hy]
    unfold isIS
    rw [prefix_data, ← hn]
    rfl
  have HG : Hid (begPic (endPic L) (expPic L) r.data.toList = (x && !q && !(y && p))) := by
    show _ = _
    unfold begPic
    rw [hx, hp, hq, hy]
  clear hx hp hq hy hn hf h ht
  cases x
  · go_enter Tryz.func86, Tryz.ntmps86
    go_wp2_with (go_at_call 84; refine (HX.out _ HSC.out HTK.out).mono ?_; rintro e w' ⟨rfl, rfl⟩)
    go_ret
    exact ⟨ret_bool (by rw [HG.out]; rfl), Below.refl _ _⟩
  cases q
  · go_enter Tryz.func86, Tryz.ntmps86
    go_upto_region 3 with (first
      | (go_at_call 84; refine (HX.out _ HSC.out HTK.out).mono ?_; rintro e w' ⟨rfl, rfl⟩)
      | (go_at_call 42; refine (hp_n _ _ false ?_ _).mono ?_; (exact HQ.out); rintro e w' ⟨rfl, rfl⟩))
    go_upto_region 4 with (first
      | (go_at_call 92; refine (wordLength_n r h0 hr n HN.out _).mono ?_; rintro e w' ⟨rfl, rfl⟩)
      | (go_at_call 112; refine (HFOLD.out _).mono ?_; rintro e w1 ⟨rfl, hb⟩))
    have HSC1 := Lib.hid (HSC.out.below hb)
    have HTK1 := Lib.hid (HTK.out.below hb)
    obtain ⟨c1, c2, c3, c4⟩ := HSC1.out.cells
    cases y <;> cases p
    all_goals
      go_wp2_with (go_at_call 111; refine (HP.out _ HTK1.out).mono ?_; rintro e w' ⟨rfl, rfl⟩)
      go_ret
      exact ⟨ret_bool (by rw [HG.out]; rfl), hb⟩
  · go_enter Tryz.func86, Tryz.ntmps86
    go_wp2_with (first
      | (go_at_call 84; refine (HX.out _ HSC.out HTK.out).mono ?_; rintro e w' ⟨rfl, rfl⟩)
      | (go_at_call 42; refine (hp_n _ _ true ?_ _).mono ?_; (exact HQ.out); rintro e w' ⟨rfl, rfl⟩))
    go_ret
    exact ⟨ret_bool (by rw [HG.out]; rfl), Below.refl _ _⟩
end Go.Proofs.YtpalfhfbgfnacaaGreatDoor
