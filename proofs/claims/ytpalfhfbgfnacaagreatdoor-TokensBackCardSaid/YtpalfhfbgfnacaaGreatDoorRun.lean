/-
  What package columns' reader does with a line, as words on lists; and the contracts of its methods begin and resume.
-/
import Derived.Test.YtpalfhfbgfnacaaGreatDoorAdd
import Derived.Test.YtpalfhfbgfnacaaGreatDoorFin
import Derived.Test.YtpalfhfbgfnacaaGreatDoorGC
namespace Go.Proofs.YtpalfhfbgfnacaaGreatDoor
open Go.RowKit
set_option linter.unusedVariables false
set_option linter.unusedSimpArgs false

/-- As putRow, readRow of the reference; u says whether the place of the last part is kept for empty parts too. -/
def putRowU (u : Bool) (a : Nat × Nat) (done : List Kard) (c : Kard) (t : List UInt8) (line : Nat) (begins : Bool) : (Nat × Nat × Nat) ⊕ ReadAt :=
  match rpart t c.text begins with
  | .inr col => .inl (4, line, col)
  | .inl (p, col) => .inr ⟨done, some (c.plus p line col), if u = true ∨ p ≠ [] then (line, col) else a⟩
def readRowU (u : Bool) (r : ReadAt) (m : UInt8) (t : List UInt8) (line : Nat) : (Nat × Nat × Nat) ⊕ ReadAt :=
  if m.toNat = 32 then
    match r.cur with
    | none => putRowU u r.at_ r.done ⟨decide (fstN t < 4), [], []⟩ t line true
    | some c => if openB c.text = true then .inl (4, r.at_) else putRowU u r.at_ (r.done ++ [c]) ⟨decide (fstN t < 4), [], []⟩ t line true
  else
    match r.cur with
    | none => .inl (6, line, 7)
    | some c => putRowU u r.at_ r.done c t line false

/-- The reader in memory, between two lines. -/
def StAt (B R O : Nat) (r : ReadAt) (w : World) : Prop :=
  (r.cur = none ∧ r.done = [] ∧ ∃ ap cv tv, RdN B R O ap cv tv [] w) ∨
  (∃ (c : Kard) (Wm : Nat) (cv tv mv : Value) (D : List (Kard × Value)), r.cur = some c ∧ D.map Prod.fst = r.done ∧ RdC B R O Wm r.at_ cv tv tv mv mv [] D c (openB c.text) (openB c.text) w)
theorem RdN.kept {B R O : Nat} {ap : Nat × Nat} {cv tv : Value} {D : List (Kard × Value)} {w w' : World} (h : RdN B R O ap cv tv D w) (hs : w.heap.size ≤ w'.heap.size) (hk : ∀ k, k < w.heap.size → w'.heap[k]? = w.heap[k]?) : RdN B R O ap cv tv D w' :=
  ⟨(hk _ (lt_of_block h.rd)).trans h.rd, (hk _ (lt_of_block h.op)).trans h.op, own_kept h.cards hk, own_kept h.text hk,
    fun x hx => ((h.fin x hx).turns (Turns.of_kept (e := 0) hs hk) (by decide)).more hs, Nat.le_trans h.bs hs, h.br, h.bo⟩
theorem StAt.kept {B R O : Nat} {r : ReadAt} {w w' : World} (h : StAt B R O r w) (hs : w.heap.size ≤ w'.heap.size) (hk : ∀ k, k < w.heap.size → w'.heap[k]? = w.heap[k]?) : StAt B R O r w' := by
  rcases h with ⟨h1, h2, ap, cv, tv, h3⟩ | ⟨c, Wm, cv, tv, mv, D, h1, h2, h5⟩
  · exact .inl ⟨h1, h2, ap, cv, tv, h3.kept hs hk⟩
  · exact .inr ⟨c, Wm, cv, tv, mv, D, h1, h2, h5.kept hs hk⟩
/-- What a step leaves. -/
def StepPost (B R O : Nat) (res : (Nat × Nat × Nat) ⊕ ReadAt) (w : World) (e : Ending) (w' : World) : Prop :=
  Below B w w' ∧ Fr w w' ∧ match res with
    | .inl f => e = .returned (faultN f.1 f.2.1 f.2.2) ∧ f.1 ≠ 0
    | .inr r => e = .returned zeroF ∧ StAt B R O r w'
/-- finish goes well, and leaves the cards ks. -/
def FinP (B R O : Nat) (cv : Value) (ks : List Kard) (w : World) (e : Ending) (w' : World) : Prop :=
  e = .returned zeroF ∧ Below B w w' ∧ Fr w w' ∧ ∃ ap tv D, D.map Prod.fst = ks ∧ RdN B R O ap cv tv D w'
def FinOk (B R O : Nat) (cv : Value) (ks : List Kard) (w : World) : Prop :=
  ∀ W : World, w.heap.size ≤ W.heap.size → (∀ k, k < w.heap.size → W.heap[k]? = w.heap[k]?) → Calls Tryz.prog 27 #[.pointer (some ⟨R, 0, none⟩)] W (FinP B R O cv ks W)
theorem finOk_none {B R O : Nat} {ap : Nat × Nat} {cv tv : Value} {w : World} (h : RdN B R O ap cv tv [] w) : FinOk B R O cv [] w := fun W hs hk =>
  (c_finish_none W (h.kept hs hk)).mono fun e w' ⟨he, hw⟩ => by
    subst hw
    have hn := h.kept hs hk
    exact ⟨he, (Below.refl _ _).alloc hn.bs _, Fr.of_below ((Below.refl _ _).alloc (Nat.le_refl _) _), _, tv, [], rfl, hn.kept (by simp) (kept_alloc _ _)⟩
theorem finOk_some {B R O Wm : Nat} {ap : Nat × Nat} {cv tv mv : Value} {D : List (Kard × Value)} {c : Kard} {w : World} (h : RdC B R O Wm ap cv tv tv mv mv [] D c false false w) (hct : c.text.length ≤ 134217728) (hcm : c.marks.length ≤ 4194304) (hcd : D.length ≤ 4194304) :
    FinOk B R O cv (D.map Prod.fst ++ [c]) w := fun W hs hk =>
  (c_finish_done W (h.kept hs hk) hct hcm hcd).mono fun e w' ⟨he, hb, hf, tv', m, hn⟩ => ⟨he, hb, hf, _, tv', D ++ [(c, m)], by simp, hn⟩

/-- The bounds that the contracts ask. -/
structure Small (r : ReadAt) : Prop where
  done : r.done.length ≤ 4194302
  text : ∀ c, r.cur = some c → c.text.length ≤ 134217728
  marks : ∀ c, r.cur = some c → c.marks.length ≤ 4194304
theorem Tryz.infoCard : (Tryz.prog.info? 55).map (fun i => (i.zero, i.size, i.bytes)) = some (some (.agg #[.bool false, .string ⟨#[]⟩, .slice none 0 0]), 3, 48) := by kernel_rfl

/-- A card that has just begun. -/
theorem RdN.begin {B R O : Nat} {ap : Nat × Nat} {cv tv : Value} {D : List (Kard × Value)} {w W w1 : World} {cv' : Value} {l : Bool} (h : RdN B R O ap cv tv D w) (hW : Below w.heap.size w W)
    (ho : w1.ownsRow B 55 3 cv' (D.length + 1) (cardsC D ++ [.bool l, .string ⟨#[]⟩, .slice none 0 0])) (hg : W.grownBy w1 cv.ownBlock) :
    RdC B R O (w1.setCell ⟨R, 0, none⟩ cv').heap.size ap cv' tv tv (.slice none 0 0) (.slice none 0 0) [] D ⟨l, [], []⟩ false false (w1.setCell ⟨R, 0, none⟩ cv') := by
  have hN := h.kept hW.size hW.block
  have hT := Turns.grown hg (own_kind hN.cards)
  have hr1 := hT.block _ _ _ _ hN.rd (by decide)
  have hT2 := Turns.setCell hr1 0 cv'
  have hT12 : Turns2 55 68 W (w1.setCell ⟨R, 0, none⟩ cv') := hT.two1.trans hT2.two2
  refine ⟨Joins.block_setCell hr1 _, hT12.block _ _ _ _ hN.op (by decide) (by decide), own_turns ho hT2 (by decide), own_turns (own_turns hN.text hT (by decide)) hT2 (by decide), World.ownsRow_nil _ _ _ _, fun x hx => ?_, ?_, Nat.le_refl _, h.br, h.bo⟩
  · exact (((hN.fin x hx).turns hT (by decide)).turns hT2 (by decide)).more (Nat.le_trans hT.size hT2.size)
  · exact Nat.le_trans hN.bs (Nat.le_trans hT.size hT2.size)
theorem RdN.beginFr {B R O : Nat} {ap : Nat × Nat} {cv tv : Value} {D : List (Kard × Value)} {w0 w W w1 : World} {cv' : Value} (h : RdN B R O ap cv tv D w) (h0 : Fr w0 w) (hW : Below w.heap.size w W) (hg : W.grownBy w1 cv.ownBlock) : Fr w0 (w1.setCell ⟨R, 0, none⟩ cv') := by
  have hN := h.kept hW.size hW.block
  have hT := Turns.grown hg (own_kind hN.cards)
  exact ((h0.trans (Fr.of_below hW)).trans (Fr.of_turns hT (by decide) (by decide) (by decide))).trans (Fr.of_turns (Turns.setCell (hT.block _ _ _ _ hN.rd (by decide)) 0 cv') (by decide) (by decide) (by decide))
theorem RdN.beginBelow {B R O : Nat} {ap : Nat × Nat} {cv tv : Value} {D : List (Kard × Value)} {w0 w W w1 : World} {cv' : Value} (h : RdN B R O ap cv tv D w) (h0 : Below B w0 w) (hW : Below w.heap.size w W) (hg : W.grownBy w1 cv.ownBlock) : Below B w0 (w1.setCell ⟨R, 0, none⟩ cv') :=
  ((h0.trans (hW.mono h.bs)).grown hg (Nat.le_trans h.bs hW.size) fun k hk => (h.cards.lt k hk).1).setCell h.br _
end Go.Proofs.YtpalfhfbgfnacaaGreatDoor
