/-
  What the scanner says of what the writer has laid out, on lists; no walk here.
-/
import Derived.Test.YtpalfhfbgfnacaaGreatDoorLinL
import Derived.Test.YtpalfhfbgfnacaaGreatDoorSqzL
import Derived.Test.YtpalfhfbgfnacaaGreatDoorPlcL
namespace Go.Proofs.YtpalfhfbgfnacaaGreatDoor
open Go.RowKit
set_option linter.unusedVariables false
set_option linter.unusedSimpArgs false

theorem good_ok {L : List (List UInt8)} {lo hi : Nat} {c : Kard} (h : GoodK L lo hi c) (hne : c.text ≠ []) : c.toI.ok = true := by
  rw [ok_valid]
  have hmk := h.some_ hne
  have hget : ∀ (k : Nat) (x : Int × Int × Int), c.toI.marks[k]? = some x → ∃ m, c.marks[k]? = some m ∧ x = ((m.1 : Int), (m.2.1 : Int), (m.2.2 : Int)) := fun k x hx => by
    have e : c.toI.marks = c.marks.map fun m => ((m.1 : Int), (m.2.1 : Int), (m.2.2 : Int)) := rfl
    rw [e, List.getElem?_map] at hx
    cases hm : c.marks[k]? with
    | none => rw [hm] at hx; cases hx
    | some m => rw [hm] at hx; injection hx with hx; exact ⟨m, rfl, hx.symm⟩
  refine ⟨?_, ?_, ?_⟩
  · intro e
    exact hne (List.length_eq_zero_iff.1 e)
  · cases hm : c.marks with
    | nil => exact absurd hm hmk
    | cons a l =>
      refine ⟨((a.1 : Int), (a.2.1 : Int), (a.2.2 : Int)), by show (c.marks.map _)[0]? = _; rw [hm]; rfl, ?_⟩
      have := (h.at_ 0 a (by rw [hm]; rfl)).2.2.2.2.1 rfl
      show (a.1 : Int) = 0
      omega
  · intro k x hx
    obtain ⟨m, hm, rfl⟩ := hget k x hx
    obtain ⟨h1, h2, h3, h4, h5, h6, h7⟩ := h.at_ k m hm
    obtain ⟨h8, _⟩ := h7 m.1 _ (Nat.le_refl _) (fun m' hm' => (h6 m' hm').1) (List.getElem?_eq_getElem h1)
    refine ⟨by show (1 : Int) ≤ (m.2.1 : Int); omega, by show (8 : Int) ≤ (m.2.2 : Int); omega, by show (m.2.2 : Int) ≤ 72; omega, ?_⟩
    rintro j y rfl hy
    obtain ⟨m', hm', rfl⟩ := hget j y hy
    have := ((h.at_ j m' hm').2.2.2.2.2.1 m hm).1
    exact ⟨by show (m'.1 : Int) < (m.1 : Int); omega, by show (m.1 : Int) < (c.text.length : Int); omega⟩
theorem goodL_mem {L : List (List UInt8)} : ∀ {ks : List Kard} {lo hi : Nat}, GoodL L lo ks hi → ∀ c ∈ ks, c.toI.ok = true
  | [], _, _, _, c, hc => by simp at hc
  | d :: r, lo, hi, ⟨mid, _, g2, g3, g4⟩, c, hc => by
    rcases List.mem_cons.1 hc with rfl | hc
    · exact good_ok g2 g3
    · exact goodL_mem g4 c hc
/-- The cards of a source text are valid. -/
theorem cards_ok {text : List UInt8} {debug : Bool} {ks : List Kard} (ht : text.length ≤ 1048576) (hk : readBU true text debug = .inr ks) : ∀ c ∈ ks, c.toI.ok = true := by
  rw [readBU_pieces true debug text ht, readFromU_true] at hk
  exact goodL_mem (good_from (piecesG [] text) debug (piecesG [] text).length 0 _ ks (by simp) (good_start _) hk)
/-- The cards of a text that was laid out: its parts at spaces. -/
theorem write_cards (text : List UInt8) (left : Bool) (hr : rightB text = true) (hl : (layAll [(left, text)] ([], 0)).1.length ≤ 1048576) :
    ∃ ks Ts, readBU true (layAll [(left, text)] ([], 0)).1 false = .inr ks ∧ Qs Ts text ∧ ks.map tk = tag left Ts := by
  have hR := rst_right hr left
  obtain ⟨⟨ks, Ts, h1, h2, h3⟩, h4⟩ := lay_read (text.length + 1) 0 (if left then headAL else headBL) text false [] left [] ⟨[], none, (0, 0)⟩ 0 (by omega) hR rfl (fun part hp => by
    obtain ⟨c', pos, e1, e2⟩ := read_S (r := ⟨[], none, (0, 0)⟩) (fun c hc => by cases hc) (head := if left then headAL else headBL) (by cases left <;> simp) hp 1 1
    refine ⟨c', pos, e1, ?_⟩
    rw [e2]
    cases left <;> rfl)
  have e : (layAll [(left, text)] ([], 0)).1 = (layF (text.length + 1) 0 (if left then headAL else headBL) text false).1 := by
    simp [layAll]
  have hp := pieces_flat (layLs (text.length + 1) 0 (if left then headAL else headBL) text false) (fun y hy => (h4 y hy).1)
  rw [← layF_lines, ← e] at hp
  refine ⟨ks, Ts, ?_, by simpa using h2, by simpa [tag] using h3⟩
  rw [readBU_true, readB_pieces false _ hl, hp, readFrom_snoc]
  exact h1
theorem tag_texts (left : Bool) (Ts : List (List UInt8)) : (tag left Ts).map Prod.snd = Ts := by
  cases Ts with
  | nil => rfl
  | cons t Ts =>
    show t :: (Ts.map fun x => (false, x)).map Prod.snd = t :: Ts
    rw [List.map_map]
    exact congrArg _ (List.map_id'' (fun _ => rfl) Ts)
theorem tag_left {left : Bool} {t : List UInt8} {Ts : List (List UInt8)} {x : Bool × List UInt8} (h : (tag left (t :: Ts))[0]? = some x) : x = (left, t) := by
  injection h with h; exact h.symm
/-- What was laid out is scanned as if it stood on one card. -/
theorem lines_source (text : List UInt8) (left : Bool) (hr : rightB text = true) (hl : (layAll [(left, text)] ([], 0)).1.length ≤ 1048576) (ms : IMarks) :
    SamR (sourceB (layAll [(left, text)] ([], 0)).1 false) (scanC true text ms []) := by
  obtain ⟨ks, Ts, h1, h2, h3⟩ := write_cards text left hr hl
  unfold sourceB
  rw [h1]
  refine scan_lines true h2 (ks.map Kard.toI) ms [] [] ?_ ?_ rfl
  · have : (ks.map Kard.toI).map ICard.text = (ks.map tk).map Prod.snd := by
      rw [List.map_map, List.map_map]; rfl
    rw [this, h3, tag_texts]
  · intro c hc
    obtain ⟨k, hk, rfl⟩ := List.mem_map.1 hc
    exact cards_ok hl h1 k hk
theorem lay_len (text : List UInt8) (left : Bool) : (layAll [(left, text)] ([], 0)).1.length ≤ (text.length + 1) * 80 := by
  have hb := (layF_bound (text.length + 1) 0 (if left then headAL else headBL) text false (by omega) (by cases left <;> decide) (by cases left <;> decide)).1
  have e : (layAll [(left, text)] ([], 0)).1 = (layF (text.length + 1) 0 (if left then headAL else headBL) text false).1 := by
    simp [layAll]
  rw [e]; exact hb
end Go.Proofs.YtpalfhfbgfnacaaGreatDoor
