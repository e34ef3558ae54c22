/-
  Tokens as cells; the contract of the scanner's method skip.
-/
import Derived.Test.YtpalfhfbgfnacaaGreatDoorSc4
import Derived.WalkMore
namespace Go.Proofs.YtpalfhfbgfnacaaGreatDoor
open Go.RowKit
set_option linter.unusedVariables false
set_option linter.unusedSimpArgs false

def tokC (t : Tok) : List Value := [.int .u8 t.kind, .string (strL t.text), .int .i64 t.line, .int .i64 t.col, .bool t.left]
def toksC (L : List Tok) : List Value := L.flatMap tokC
theorem toksC_length (L : List Tok) : (toksC L).length = L.length * 5 := by
  induction L with
  | nil => rfl
  | cons m l ih => simp only [toksC, tokC, List.flatMap_cons, List.length_append, List.length_cons, List.length_nil] at ih ⊢; rw [ih]; omega
theorem toksC_snoc (L : List Tok) (t : Tok) : toksC (L ++ [t]) = toksC L ++ tokC t := by simp [toksC]
theorem toksC_get : ∀ (L : List Tok) (k : Nat) (t : Tok), L[k]? = some t → ∀ j, j < 5 → (toksC L)[k * 5 + j]? = (tokC t)[j]?
  | [], k, t, h, _, _ => by simp at h
  | m :: l, 0, t, h, j, hj => by
    simp at h; subst h
    have e : (toksC (m :: l)) = tokC m ++ toksC l := rfl
    rw [e, Nat.zero_mul, Nat.zero_add, List.getElem?_append_left (by simp [tokC]; omega)]
  | m :: l, k + 1, t, h, j, hj => by
    have e : (toksC (m :: l)) = tokC m ++ toksC l := rfl
    have hm : (tokC m).length = 5 := rfl
    rw [e, List.getElem?_append_right (by rw [hm]; omega), hm, show (k + 1) * 5 + j - 5 = k * 5 + j from by omega]
    exact toksC_get l k t (by simpa using h) j hj
/-- The tokens that the scanner owns. -/
def TkOwn (B : Nat) (w : World) (v : Value) (L : List Tok) : Prop :=
  w.ownsRow B 44 5 v L.length (toksC L) ∧ L.length ≤ 65536 ∧ ∀ t ∈ L, t.kind < 256
theorem TkOwn.at_ {B : Nat} {w : World} {v : Value} {L : List Tok} (h : TkOwn B w v L) : ToksAt w v L := by
  obtain ⟨h1, h2, h3⟩ := h
  rcases Nat.eq_zero_or_pos L.length with h0 | h0
  · have hL : L = [] := List.eq_nil_of_length_eq_zero h0
    subst hL
    obtain ⟨a, cap, e⟩ := own_sl h1
    exact ⟨a, cap, e, Nat.zero_le _, by simp, fun h => absurd h (by simp)⟩
  · obtain ⟨g, cap, e, hc, hB, hg⟩ := own_form h1 h0
    subst e
    refine ⟨_, cap, rfl, hc, by omega, fun _ => ⟨g, 0, rfl, hg, fun k t hk => ?_⟩⟩
    have hj := toksC_get L k t hk
    have hcell : ∀ j u, j < 5 → (tokC t)[j]? = some u → w.cell? ⟨g, 0 + k * 5 + j, none⟩ = some u := fun j u hj5 hu => by
      rw [Nat.zero_add]
      exact own_at h1 _ u ((hj j hj5).trans hu)
    refine ⟨h3 t (List.mem_of_getElem? hk), ?_, hcell 1 _ (by decide) rfl, hcell 2 _ (by decide) rfl, hcell 3 _ (by decide) rfl, hcell 4 _ (by decide) rfl⟩
    exact hcell 0 _ (by decide) rfl
theorem TkOwn.sc {B S : Nat} {w w' : World} {v : Value} {L : List Tok} (h : TkOwn B w v L) (hs : Sc S w w') : TkOwn B w' v L :=
  ⟨own_turns h.1 hs.2 (by decide), h.2⟩
theorem TkOwn.below {B : Nat} {w w' : World} {v : Value} {L : List Tok} (h : TkOwn B w v L) (hs : Below w.heap.size w w') : TkOwn B w' v L :=
  ⟨own_kept h.1 hs.block, h.2⟩
def nextAt (S : Nat) (w : World) : Nat := match w.cell? ⟨S, 3, none⟩ with | some (.int _ n) => n.toNat | _ => 0
theorem nextAt_of {S : Nat} {w : World} {k : IntKind} {n : Nat} (h : w.cell? ⟨S, 3, none⟩ = some (.int k n)) : nextAt S w = n := by unfold nextAt; rw [h]; rfl
def SkipPost (S : Nat) (l : Bool) (t : ByteArray) (mv tv : Value) (j : Nat) (w : World) (e : Ending) (w' : World) : Prop :=
  e = .returned (.tuple #[]) ∧ ScAt S l t mv j tv w' ∧ Sc S w w'
set_option maxHeartbeats 4000000 in
set_option maxRecDepth 100000 in
theorem skip_any {B S : Nat} {l : Bool} {t : ByteArray} {mv : Value} {i : Nat} {tv : Value} (L : List Tok) (w : World) (h : ScAt S l t mv i tv w) (ht : TkOwn B w tv L) (hi : i ≤ t.size) (hts : t.size ≤ 134217728) :
    Calls Tryz.prog 63 #[.pointer (some ⟨S, 0, none⟩)] w (SkipPost S l t mv tv (i + skipN (expPic L) (t.data.toList.drop i)) w) := by
  have HS := Lib.hid h
  have HT := Lib.hid ht
  obtain ⟨x, hx⟩ : ∃ x, x = expPic L := ⟨_, rfl⟩
  rw [← hx]
  have HX : Hid (∀ (W : World) (j : Nat), ScAt S l t mv j tv W → ToksAt W tv L → Calls Tryz.prog 84 #[.pointer (some ⟨S, 0, none⟩)] W fun e w' => e = .returned (.bool x) ∧ w' = W) := fun W j h1 h2 => by
    rw [hx]
    exact (expectsPicture_any L W h1 h2).mono fun e w' ⟨h1, h2⟩ => ⟨h1, h2.symm⟩
  clear h ht hx
  go_enter Tryz.func63, Tryz.ntmps63
  go_wp2_with go_step3
  go_loopw [12] (fun _ wr => ∃ j : Nat, i ≤ j ∧ j ≤ t.size ∧ Hid (i + skipN x (t.data.toList.drop i) = j + skipN x (t.data.toList.drop j)) ∧ Hid (ScAt S l t mv j tv wr) ∧ Hid (Sc S w wr)) (fun _ wr => t.size - nextAt S wr)
  case atStart => exact ⟨i, Nat.le_refl _, hi, rfl, HS, Sc.refl _ _⟩
  case round =>
    obtain ⟨j, hij, hj, HE, HSJ, HSC⟩ := hrel
    obtain ⟨c1, c2, c3, c4⟩ := HSJ.out.cells
    have HTJ := Lib.hid (HT.out.sc HSC.out).at_
    have HNX := Lib.hid (nextAt_of c3)
    clear HS HT
    by_cases hlt : j < t.size
    · have e0 : decide ((j : Int) < t.size) = true := by simp; omega
      have hc := skipN_drop x t.data.toList j t[j] (get_data t j hlt)
      obtain ⟨en, hen⟩ : ∃ b, endT (t.data.toList.drop (j + 1)) = b := ⟨_, rfl⟩
      have HEN : Hid (∀ W : World, Calls Tryz.prog 85 #[.string (t.extract (j + 1) t.size)] W fun e w' => e = .returned (.bool en) ∧ w' = W) := fun W => by
        have := isEnd_any (t.extract (j + 1) t.size) W
        rw [suffix_data, hen] at this
        exact this.mono fun e w' ⟨h1, h2⟩ => ⟨h1, h2.symm⟩
      rw [hen] at hc
      have HC := Lib.hid hc
      have hss := suffix_size t (j + 1) (by omega)
      clear hc hen
      have hlt8 := u8lt t[j]
      go_wp2_with go_step3
      go_quiet (fail)
      have HSJ5 : Hid (ScAt S l t mv j tv (wr.drewN nq)) := HSJ.out
      have HTJ5 : Hid (ToksAt (wr.drewN nq) tv L) := HTJ.out
      have HSC5 := Lib.hid (HSC.out.trans (Sc.drewN wr nq))
      clear c1 c2 c3 c4 HSJ HTJ HSC
      generalize wr.drewN nq = w5 at *
      obtain ⟨c1, c2, c3, c4⟩ := HSJ5.out.cells
      go_wp2_with go_step3
      go_quiet (fail)
      have HSJ6 : Hid (ScAt S l t mv j tv (w5.drewN nq)) := HSJ5.out
      have HTJ6 : Hid (ToksAt (w5.drewN nq) tv L) := HTJ5.out
      have HSC6 := Lib.hid (HSC5.out.trans (Sc.drewN w5 nq))
      clear c1 c2 c3 c4 HSJ5 HTJ5 HSC5
      generalize w5.drewN nq = w6 at *
      obtain ⟨c1, c2, c3, c4⟩ := HSJ6.out.cells
      have f3 := HSJ6.out.free 3
      by_cases h32 : (t[j].toNat : Int) = 32
      · have HE2 : Hid (i + skipN x (t.data.toList.drop i) = (j + 1) + skipN x (t.data.toList.drop (j + 1))) := by
          show _ = _
          rw [HE.out, HC.out, if_pos (.inl (by omega))]; omega
        go_wp2_with go_step3
        rw [show (j : Int) + 1 = ((j + 1 : Nat) : Int) from by omega]
        go_roundw
        case rel => exact ⟨j + 1, by omega, by omega, HE2, HSJ6.out.next (j + 1), HSC6.out.trans (Sc.set HSJ6.out 3 _)⟩
        case measure =>
          rw [nextAt_of (HSJ6.out.next (j + 1)).cells.2.2.1, HNX.out]
          omega
      · have e32 : ((t[j].toNat : Int) == 32) = false := by simpa using h32
        by_cases hcs : (t[j].toNat : Int) = 44 ∨ (t[j].toNat : Int) = 59
        · have hcs2 : t[j].toNat = 44 ∨ t[j].toNat = 59 := by omega
          have HXQ : Hid (∀ n : Nat, Calls Tryz.prog 84 #[.pointer (some ⟨S, 0, none⟩)] (w6.drewN n) fun e w' => e = .returned (.bool x) ∧ w' = w6.drewN n) := fun n =>
            HX.out (w6.drewN n) j HSJ6.out HTJ6.out
          clear HX
          have hcs3 : (t[j].toNat : Int) = 44 ∨ ((t[j].toNat : Int) == 44) = false ∧ (t[j].toNat : Int) = 59 := by
            rcases hcs with h | h
            · exact .inl h
            · exact .inr ⟨by rw [h]; rfl, h⟩
          clear hcs
          rcases hcs3 with h44 | ⟨h44, h59⟩ <;> cases x <;> cases en
          · have HZ : Hid (i + skipN false (t.data.toList.drop i) = j) := by
              show _ = _
              rw [HE.out, HC.out, if_neg (by rintro (h | ⟨_, h1, h2⟩); · omega
                                             · first | exact absurd h2 (by decide) | exact absurd h1 (by decide))]; rfl
            go_upto_region 5 with go_step3
            go_quiet (first
              | (go_at_call 84; exact Calls.quiet_of_same (HXQ.out _))
              | (go_at_call 85; exact Calls.quiet_of_same (HEN.out _)))
            have HSJ7 : Hid (ScAt S l t mv j tv (w6.drewN nq)) := HSJ6.out
            have HSC7 := Lib.hid (HSC6.out.trans (Sc.drewN w6 nq))
            clear c1 c2 c3 c4 f3 HSJ6 HTJ6 HSC6 HXQ
            generalize w6.drewN nq = w7 at *
            obtain ⟨c1, c2, c3, c4⟩ := HSJ7.out.cells
            have f3 := HSJ7.out.free 3
            go_wp2_with go_step3
            show bodyPost Tryz.prog Tryz.f63 _ Exit.normal _ _
            refine bodyPost_end (results_none rfl _ _ _) rfl ⟨rfl, ?_, HSC7.out⟩
            rw [HZ.out]
            exact HSJ7.out
          · have HE2 : Hid (i + skipN false (t.data.toList.drop i) = (j + 1) + skipN false (t.data.toList.drop (j + 1))) := by
              show _ = _
              rw [HE.out, HC.out, if_pos (.inr ⟨by omega, rfl, rfl⟩)]; omega
            go_upto_region 5 with go_step3
            go_quiet (first
              | (go_at_call 84; exact Calls.quiet_of_same (HXQ.out _))
              | (go_at_call 85; exact Calls.quiet_of_same (HEN.out _)))
            have HSJ7 : Hid (ScAt S l t mv j tv (w6.drewN nq)) := HSJ6.out
            have HSC7 := Lib.hid (HSC6.out.trans (Sc.drewN w6 nq))
            clear c1 c2 c3 c4 f3 HSJ6 HTJ6 HSC6 HXQ
            generalize w6.drewN nq = w7 at *
            obtain ⟨c1, c2, c3, c4⟩ := HSJ7.out.cells
            have f3 := HSJ7.out.free 3
            go_wp2_with go_step3
            rw [show (j : Int) + 1 = ((j + 1 : Nat) : Int) from by omega]
            go_roundw
            case rel => exact ⟨j + 1, by omega, by omega, HE2, HSJ7.out.next (j + 1), HSC7.out.trans (Sc.set HSJ7.out 3 _)⟩
            case measure =>
              rw [nextAt_of (HSJ7.out.next (j + 1)).cells.2.2.1, HNX.out]
              omega
          · have HZ : Hid (i + skipN true (t.data.toList.drop i) = j) := by
              show _ = _
              rw [HE.out, HC.out, if_neg (by rintro (h | ⟨_, h1, h2⟩); · omega
                                             · first | exact absurd h2 (by decide) | exact absurd h1 (by decide))]; rfl
            go_upto_region 5 with go_step3
            go_quiet (first
              | (go_at_call 84; exact Calls.quiet_of_same (HXQ.out _))
              | (go_at_call 85; exact Calls.quiet_of_same (HEN.out _)))
            have HSJ7 : Hid (ScAt S l t mv j tv (w6.drewN nq)) := HSJ6.out
            have HSC7 := Lib.hid (HSC6.out.trans (Sc.drewN w6 nq))
            clear c1 c2 c3 c4 f3 HSJ6 HTJ6 HSC6 HXQ
            generalize w6.drewN nq = w7 at *
            obtain ⟨c1, c2, c3, c4⟩ := HSJ7.out.cells
            have f3 := HSJ7.out.free 3
            go_wp2_with go_step3
            show bodyPost Tryz.prog Tryz.f63 _ Exit.normal _ _
            refine bodyPost_end (results_none rfl _ _ _) rfl ⟨rfl, ?_, HSC7.out⟩
            rw [HZ.out]
            exact HSJ7.out
          · have HZ : Hid (i + skipN true (t.data.toList.drop i) = j) := by
              show _ = _
              rw [HE.out, HC.out, if_neg (by rintro (h | ⟨_, h1, h2⟩); · omega
                                             · first | exact absurd h2 (by decide) | exact absurd h1 (by decide))]; rfl
            go_upto_region 5 with go_step3
            go_quiet (first
              | (go_at_call 84; exact Calls.quiet_of_same (HXQ.out _))
              | (go_at_call 85; exact Calls.quiet_of_same (HEN.out _)))
            have HSJ7 : Hid (ScAt S l t mv j tv (w6.drewN nq)) := HSJ6.out
            have HSC7 := Lib.hid (HSC6.out.trans (Sc.drewN w6 nq))
            clear c1 c2 c3 c4 f3 HSJ6 HTJ6 HSC6 HXQ
            generalize w6.drewN nq = w7 at *
            obtain ⟨c1, c2, c3, c4⟩ := HSJ7.out.cells
            have f3 := HSJ7.out.free 3
            go_wp2_with go_step3
            show bodyPost Tryz.prog Tryz.f63 _ Exit.normal _ _
            refine bodyPost_end (results_none rfl _ _ _) rfl ⟨rfl, ?_, HSC7.out⟩
            rw [HZ.out]
            exact HSJ7.out
          · have HZ : Hid (i + skipN false (t.data.toList.drop i) = j) := by
              show _ = _
              rw [HE.out, HC.out, if_neg (by rintro (h | ⟨_, h1, h2⟩); · omega
                                             · first | exact absurd h2 (by decide) | exact absurd h1 (by decide))]; rfl
            go_upto_region 5 with go_step3
            go_quiet (first
              | (go_at_call 84; exact Calls.quiet_of_same (HXQ.out _))
              | (go_at_call 85; exact Calls.quiet_of_same (HEN.out _)))
            have HSJ7 : Hid (ScAt S l t mv j tv (w6.drewN nq)) := HSJ6.out
            have HSC7 := Lib.hid (HSC6.out.trans (Sc.drewN w6 nq))
            clear c1 c2 c3 c4 f3 HSJ6 HTJ6 HSC6 HXQ
            generalize w6.drewN nq = w7 at *
            obtain ⟨c1, c2, c3, c4⟩ := HSJ7.out.cells
            have f3 := HSJ7.out.free 3
            go_wp2_with go_step3
            show bodyPost Tryz.prog Tryz.f63 _ Exit.normal _ _
            refine bodyPost_end (results_none rfl _ _ _) rfl ⟨rfl, ?_, HSC7.out⟩
            rw [HZ.out]
            exact HSJ7.out
          · have HE2 : Hid (i + skipN false (t.data.toList.drop i) = (j + 1) + skipN false (t.data.toList.drop (j + 1))) := by
              show _ = _
              rw [HE.out, HC.out, if_pos (.inr ⟨by omega, rfl, rfl⟩)]; omega
            go_upto_region 5 with go_step3
            go_quiet (first
              | (go_at_call 84; exact Calls.quiet_of_same (HXQ.out _))
              | (go_at_call 85; exact Calls.quiet_of_same (HEN.out _)))
            have HSJ7 : Hid (ScAt S l t mv j tv (w6.drewN nq)) := HSJ6.out
            have HSC7 := Lib.hid (HSC6.out.trans (Sc.drewN w6 nq))
            clear c1 c2 c3 c4 f3 HSJ6 HTJ6 HSC6 HXQ
            generalize w6.drewN nq = w7 at *
            obtain ⟨c1, c2, c3, c4⟩ := HSJ7.out.cells
            have f3 := HSJ7.out.free 3
            go_wp2_with go_step3
            rw [show (j : Int) + 1 = ((j + 1 : Nat) : Int) from by omega]
            go_roundw
            case rel => exact ⟨j + 1, by omega, by omega, HE2, HSJ7.out.next (j + 1), HSC7.out.trans (Sc.set HSJ7.out 3 _)⟩
            case measure =>
              rw [nextAt_of (HSJ7.out.next (j + 1)).cells.2.2.1, HNX.out]
              omega
          · have HZ : Hid (i + skipN true (t.data.toList.drop i) = j) := by
              show _ = _
              rw [HE.out, HC.out, if_neg (by rintro (h | ⟨_, h1, h2⟩); · omega
                                             · first | exact absurd h2 (by decide) | exact absurd h1 (by decide))]; rfl
            go_upto_region 5 with go_step3
            go_quiet (first
              | (go_at_call 84; exact Calls.quiet_of_same (HXQ.out _))
              | (go_at_call 85; exact Calls.quiet_of_same (HEN.out _)))
            have HSJ7 : Hid (ScAt S l t mv j tv (w6.drewN nq)) := HSJ6.out
            have HSC7 := Lib.hid (HSC6.out.trans (Sc.drewN w6 nq))
            clear c1 c2 c3 c4 f3 HSJ6 HTJ6 HSC6 HXQ
            generalize w6.drewN nq = w7 at *
            obtain ⟨c1, c2, c3, c4⟩ := HSJ7.out.cells
            have f3 := HSJ7.out.free 3
            go_wp2_with go_step3
            show bodyPost Tryz.prog Tryz.f63 _ Exit.normal _ _
            refine bodyPost_end (results_none rfl _ _ _) rfl ⟨rfl, ?_, HSC7.out⟩
            rw [HZ.out]
            exact HSJ7.out
          · have HZ : Hid (i + skipN true (t.data.toList.drop i) = j) := by
              show _ = _
              rw [HE.out, HC.out, if_neg (by rintro (h | ⟨_, h1, h2⟩); · omega
                                             · first | exact absurd h2 (by decide) | exact absurd h1 (by decide))]; rfl
            go_upto_region 5 with go_step3
            go_quiet (first
              | (go_at_call 84; exact Calls.quiet_of_same (HXQ.out _))
              | (go_at_call 85; exact Calls.quiet_of_same (HEN.out _)))
            have HSJ7 : Hid (ScAt S l t mv j tv (w6.drewN nq)) := HSJ6.out
            have HSC7 := Lib.hid (HSC6.out.trans (Sc.drewN w6 nq))
            clear c1 c2 c3 c4 f3 HSJ6 HTJ6 HSC6 HXQ
            generalize w6.drewN nq = w7 at *
            obtain ⟨c1, c2, c3, c4⟩ := HSJ7.out.cells
            have f3 := HSJ7.out.free 3
            go_wp2_with go_step3
            show bodyPost Tryz.prog Tryz.f63 _ Exit.normal _ _
            refine bodyPost_end (results_none rfl _ _ _) rfl ⟨rfl, ?_, HSC7.out⟩
            rw [HZ.out]
            exact HSJ7.out
        · have e44 : ((t[j].toNat : Int) == 44) = false := by simp; omega
          have e59 : ((t[j].toNat : Int) == 59) = false := by simp; omega
          have HZ : Hid (i + skipN x (t.data.toList.drop i) = j) := by
            show _ = _
            rw [HE.out, HC.out, if_neg (by omega)]; rfl
          go_wp2_with go_step3
          show bodyPost Tryz.prog Tryz.f63 _ Exit.normal _ _
          refine bodyPost_end (results_none rfl _ _ _) rfl ⟨rfl, ?_, HSC6.out⟩
          rw [HZ.out]
          exact HSJ6.out
    · have e0 : decide ((j : Int) < t.size) = false := by simp; omega
      have HZ : Hid (i + skipN x (t.data.toList.drop i) = j) := by
        show _ = _
        rw [HE.out, List.drop_of_length_le (by rw [← size_data]; omega)]; rfl
      go_wp2_with go_step3
      go_quiet (fail)
      have HSJ5 : Hid (ScAt S l t mv j tv (wr.drewN nq)) := HSJ.out
      have HTJ5 : Hid (ToksAt (wr.drewN nq) tv L) := HTJ.out
      have HSC5 := Lib.hid (HSC.out.trans (Sc.drewN wr nq))
      clear c1 c2 c3 c4 HSJ HTJ HSC
      generalize wr.drewN nq = w5 at *
      obtain ⟨c1, c2, c3, c4⟩ := HSJ5.out.cells
      go_wp2_with go_step3
      show bodyPost Tryz.prog Tryz.f63 _ Exit.normal _ _
      refine bodyPost_end (results_none rfl _ _ _) rfl ⟨rfl, ?_, HSC5.out⟩
      rw [HZ.out]
      exact HSJ5.out
end Go.Proofs.YtpalfhfbgfnacaaGreatDoor
