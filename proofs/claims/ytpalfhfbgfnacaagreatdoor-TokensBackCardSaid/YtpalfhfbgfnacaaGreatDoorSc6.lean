/-
  The contract of the scanner's method scan.
-/
import Derived.Test.YtpalfhfbgfnacaaGreatDoorSc5
import Derived.Deep.AppendLies
namespace Go.Proofs.YtpalfhfbgfnacaaGreatDoor
open Go.RowKit
set_option linter.unusedVariables false
set_option linter.unusedSimpArgs false

def FltBlk (w : World) (F : Nat) : Prop := w.heap[F]? = some (.cells #[.int .i64 0, .int .i64 0, .int .i64 0] 28 (0, 0))
/-- The scanner at work: its block S, the fault's block F, the tokens' row from B on. -/
structure Scn (B S F : Nat) (l : Bool) (t : ByteArray) (ms0 : IMarks) (w0 : World) (j : Nat) (acc : List Tok) (mv tv : Value) (ms : IMarks) (w : World) : Prop where
  sc : ScAt S l t mv j tv w
  mks : MkAt B w mv ms
  left : Left ms0 ms j
  own : TkOwn B w tv acc
  flt : FltBlk w F
  bel : Below B w0 w
  hBS : B ≤ S
  hBw : B ≤ w.heap.size
  max : MaxLenAt w
  sgn : SignsAt w
  g1 : 0 < B
  g2 : 1 < B
theorem MaxLenAt.bel {B : Nat} {w w' : World} (h : MaxLenAt w) (hg : 1 < B) (hb : Below B w w') : MaxLenAt w' := by
  obtain ⟨m, hm⟩ := h
  exact ⟨m, (hb.cell hg).trans hm⟩
variable {B S F : Nat} {l : Bool} {t : ByteArray} {ms0 : IMarks} {w0 : World} {j : Nat} {acc : List Tok} {mv tv : Value} {ms : IMarks} {w : World}
theorem Scn.below {w' : World} (h : Scn B S F l t ms0 w0 j acc mv tv ms w) (hb : Below w.heap.size w w') : Scn B S F l t ms0 w0 j acc mv tv ms w' :=
  ⟨h.sc.below hb, h.mks.below (hb.mono h.hBw), h.left, h.own.below hb, (hb.block F (lt_of_block h.flt)).trans h.flt, h.bel.trans (hb.mono h.hBw), h.hBS, Nat.le_trans h.hBw hb.size, h.max.bel h.g2 (hb.mono h.hBw), h.sgn.below h.g1 (hb.mono h.hBw), h.g1, h.g2⟩
theorem Scn.drew (h : Scn B S F l t ms0 w0 j acc mv tv ms w) : Scn B S F l t ms0 w0 j acc mv tv ms w.drew := h.below (Below.refl _ _).drew
theorem Scn.drewN (h : Scn B S F l t ms0 w0 j acc mv tv ms w) (n : Nat) : Scn B S F l t ms0 w0 j acc mv tv ms (w.drewN n) := h.below (bdrewN n (Below.refl _ _))
/-- Behind skip or here. -/
theorem Scn.step {w' : World} {mv' : Value} {ms' : IMarks} {j' : Nat} (h : Scn B S F l t ms0 w0 j acc mv tv ms w) (hs : Sc S w w') (hsc : ScAt S l t mv' j' tv w') (hm : MkAt B w' mv' ms') (hl : Left ms0 ms' j') : Scn B S F l t ms0 w0 j' acc mv' tv ms' w' :=
  ⟨hsc, hm, hl, h.own.sc hs, hs.2.block F _ _ _ h.flt (by decide), h.bel.trans (hs.1.mono h.hBS), h.hBS, Nat.le_trans h.hBw hs.1.size, h.max.bel h.g2 (hs.1.mono h.hBS), h.sgn.below h.g1 (hs.1.mono h.hBS), h.g1, h.g2⟩
theorem Scn.mk' (h : Scn B S F l t ms0 w0 j acc mv tv ms w) {w' : World} (hs : Sc S w w') : MkAt B w' mv ms := h.mks.below (hs.1.mono h.hBS)
/-- The fault is stored: the world behind it, named. -/
theorem Scn.fault (h : Scn B S F l t ms0 w0 j acc mv tv ms w) (hF : B ≤ F) (a b c : Value) :
    ∃ w', w' = (((w.setCell ⟨F, 0, none⟩ a).setCell ⟨F, 1, none⟩ b).setCell ⟨F, 2, none⟩ c) ∧ Below B w0 w' ∧ ScAt S l t mv j tv w' ∧ TkOwn B w' tv acc ∧
      w'.cell? ⟨F, 0, none⟩ = some a ∧ w'.cell? ⟨F, 1, none⟩ = some b ∧ w'.cell? ⟨F, 2, none⟩ = some c := by
  have b1 := Joins.block_setCell (i := 0) h.flt a
  have b2 := Joins.block_setCell (i := 1) b1 b
  have b3 := Joins.block_setCell (i := 2) b2 c
  have hT := ((Turns.setCell h.flt 0 a).trans (Turns.setCell b1 1 b)).trans (Turns.setCell b2 2 c)
  exact ⟨_, rfl, ((h.bel.setCell (p := ⟨F, 0, none⟩) hF _).setCell (p := ⟨F, 1, none⟩) hF _).setCell (p := ⟨F, 2, none⟩) hF _, hT.block S _ _ _ h.sc (by decide), ⟨own_turns h.own.1 hT (by decide), h.own.2⟩, Joins.cell_of_block b3 0, Joins.cell_of_block b3 1, Joins.cell_of_block b3 2⟩
theorem Scn.fcells (h : Scn B S F l t ms0 w0 j acc mv tv ms w) : (w.cell? ⟨F, 0, none⟩ = some (.int .i64 0) ∧ w.cell? ⟨F, 1, none⟩ = some (.int .i64 0) ∧ w.cell? ⟨F, 2, none⟩ = some (.int .i64 0)) ∧ w.frozen? ⟨F, 0, none⟩ = false ∧ w.frozen? ⟨F, 1, none⟩ = false ∧ w.frozen? ⟨F, 2, none⟩ = false :=
  ⟨⟨Joins.cell_of_block h.flt 0, Joins.cell_of_block h.flt 1, Joins.cell_of_block h.flt 2⟩, Joins.unfrozen_of_block h.flt 0, Joins.unfrozen_of_block h.flt 1, Joins.unfrozen_of_block h.flt 2⟩
/-- Behind the region that reads a token: its block T. -/
def R5End (B S F : Nat) (l : Bool) (t : ByteArray) (ms0 : IMarks) (w0 : World) (j : Nat) (acc : List Tok) (mv tv : Value) (ms : IMarks) (P : Nat) (pl pc : Int) (k : Nat) (x : ByteArray) (T : Nat) (w : World) : Prop :=
  B ≤ T ∧ w.heap[T]? = some (.cells #[.int .u8 k, .string x, .int .i64 0, .int .i64 0, .bool false] 44 (0, 0)) ∧ Scn B S F l t ms0 w0 j acc mv tv ms w ∧ PosBlk w P (.int .i64 pl) (.int .i64 pc) ∧ (∀ g, tv.ownBlock = some g → g ≠ T)
/-- Only a token's block T has turned. -/
theorem Scn.tonly {T : Nat} {w' : World} (h5 : Scn B S F l t ms0 w0 j acc mv tv ms w) (hTk : ∀ (g : Nat) (cs : Array Value) (ty : TypeId) (fr : Nat × Nat), w.heap[g]? = some (.cells cs ty fr) → ty ≠ 44 → g ≠ T) (hBB : Below B w w') (hk : ∀ g, g ≠ T → w'.heap[g]? = w.heap[g]?) (hTT : ∀ g, tv.ownBlock = some g → g ≠ T) : Scn B S F l t ms0 w0 j acc mv tv ms w' := by
  refine ⟨(hk S (hTk S _ _ _ h5.sc (by decide))).trans h5.sc, h5.mks.below hBB, h5.left, ⟨?_, h5.own.2⟩, (hk F (hTk F _ _ _ h5.flt (by decide))).trans h5.flt, h5.bel.trans hBB, h5.hBS, Nat.le_trans h5.hBw hBB.size, h5.max.bel h5.g2 hBB, h5.sgn.below h5.g1 hBB, h5.g1, h5.g2⟩
  refine ⟨h5.own.1.1, ?_⟩
  rcases h5.own.1.2 with hn | ⟨g, cap, cur, e, hb2, hh, rest⟩
  · exact .inl hn
  · exact .inr ⟨g, cap, cur, e, hb2, (hk g (hTT g (by rw [e]; rfl))).trans hh, rest⟩
/-- Behind the region that lays the position. -/
def R10End (B S F : Nat) (l : Bool) (t : ByteArray) (ms0 : IMarks) (w0 : World) (j : Nat) (acc : List Tok) (mv tv : Value) (ms : IMarks) (k : Nat) (x : ByteArray) (pl pc : Int) (T : Nat) (w : World) : Prop :=
  w.heap[T]? = some (.cells #[.int .u8 k, .string x, .int .i64 pl, .int .i64 pc, .bool (decide (pc < 12))] 44 (0, 0)) ∧ Scn B S F l t ms0 w0 j acc mv tv ms w
theorem r10_set {T : Nat} {pl pc : Int} {k : Nat} {x : ByteArray} (ht : w.heap[T]? = some (.cells #[.int .u8 k, .string x, .int .i64 0, .int .i64 0, .bool false] 44 (0, 0))) (h : Scn B S F l t ms0 w0 j acc mv tv ms w) (hBT : B ≤ T) (hTT : ∀ g, tv.ownBlock = some g → g ≠ T) :
    R10End B S F l t ms0 w0 j acc mv tv ms k x pl pc T (((w.setCell ⟨T, 2, none⟩ (.int .i64 pl)).setCell ⟨T, 3, none⟩ (.int .i64 pc)).setCell ⟨T, 4, none⟩ (.bool (decide (pc < 12)))).drew := by
  have b1 := Joins.block_setCell (i := 2) ht (.int .i64 pl)
  have b2 := Joins.block_setCell (i := 3) b1 (.int .i64 pc)
  have b3 := Joins.block_setCell (i := 4) b2 (.bool (decide (pc < 12)))
  have hk : ∀ g, g ≠ T → (((w.setCell ⟨T, 2, none⟩ (.int .i64 pl)).setCell ⟨T, 3, none⟩ (.int .i64 pc)).setCell ⟨T, 4, none⟩ (.bool (decide (pc < 12)))).heap[g]? = w.heap[g]? := fun g hg =>
    (Below.heap_setCell _ ⟨T, 4, none⟩ _ g hg).trans ((Below.heap_setCell _ ⟨T, 3, none⟩ _ g hg).trans (Below.heap_setCell _ ⟨T, 2, none⟩ _ g hg))
  have hBB : Below B w (((w.setCell ⟨T, 2, none⟩ (.int .i64 pl)).setCell ⟨T, 3, none⟩ (.int .i64 pc)).setCell ⟨T, 4, none⟩ (.bool (decide (pc < 12)))) :=
    (((Below.refl B w).setCell (p := ⟨T, 2, none⟩) hBT _).setCell (p := ⟨T, 3, none⟩) hBT _).setCell (p := ⟨T, 4, none⟩) hBT _
  refine ⟨b3, Scn.drew (h.tonly ?_ hBB hk hTT)⟩
  intro g cs ty fr h1 h2 e
  subst e
  rw [ht] at h1; injection h1 with h1; injection h1 with _ h3; exact h2 h3.symm
theorem r5_new {P : Nat} {pl pc : Int} {k : Nat} {x : ByteArray} {X w5 : World} (h : Scn B S F l t ms0 w0 j acc mv tv ms X) (hp : PosBlk X P (.int .i64 pl) (.int .i64 pc)) (hb : Below X.heap.size X w5) :
    R5End B S F l t ms0 w0 j acc mv tv ms P pl pc k x w5.heap.size (w5.alloc (.cells #[.int .u8 k, .string x, .int .i64 0, .int .i64 0, .bool false] 44)) := by
  have h5 := h.below hb
  have hp5 : PosBlk w5 P (.int .i64 pl) (.int .i64 pc) := (hb.block P (lt_of_block hp)).trans hp
  have ha : Below w5.heap.size w5 (w5.alloc (.cells #[.int .u8 k, .string x, .int .i64 0, .int .i64 0, .bool false] 44)) := (Below.refl _ _).alloc (Nat.le_refl _) _
  refine ⟨h5.hBw, heap_alloc_new w5 _, h5.below ha, (ha.block P (lt_of_block hp5)).trans hp5, fun g hg => ?_⟩
  obtain ⟨c, fz, hh⟩ := own_kind h5.own.1 g hg
  have := lt_of_block hh
  omega
theorem r5_set {P T : Nat} {pl pc : Int} {k : Nat} {x : ByteArray} {X w5 : World} (h : Scn B S F l t ms0 w0 j acc mv tv ms X) (hp : PosBlk X P (.int .i64 pl) (.int .i64 pc)) (ht : TokBlk X T) (hBT : B ≤ T) (hPT : P ≠ T) (hTT : ∀ g, tv.ownBlock = some g → g ≠ T) (hb : Below X.heap.size X w5) :
    R5End B S F l t ms0 w0 j acc mv tv ms P pl pc k x T (((((w5.setCell ⟨T, 0, none⟩ (.int .u8 k)).setCell ⟨T, 1, none⟩ (.string x)).setCell ⟨T, 2, none⟩ (.int .i64 0)).setCell ⟨T, 3, none⟩ (.int .i64 0)).setCell ⟨T, 4, none⟩ (.bool false)) := by
  have h5 := h.below hb
  have hp5 : PosBlk w5 P (.int .i64 pl) (.int .i64 pc) := (hb.block P (lt_of_block hp)).trans hp
  have ht5 := ht.kept hb
  have hk : ∀ g, g ≠ T → (((((w5.setCell ⟨T, 0, none⟩ (.int .u8 k)).setCell ⟨T, 1, none⟩ (.string x)).setCell ⟨T, 2, none⟩ (.int .i64 0)).setCell ⟨T, 3, none⟩ (.int .i64 0)).setCell ⟨T, 4, none⟩ (.bool false)).heap[g]? = w5.heap[g]? := fun g hg =>
    (Below.heap_setCell _ ⟨T, 4, none⟩ _ g hg).trans ((Below.heap_setCell _ ⟨T, 3, none⟩ _ g hg).trans ((Below.heap_setCell _ ⟨T, 2, none⟩ _ g hg).trans ((Below.heap_setCell _ ⟨T, 1, none⟩ _ g hg).trans (Below.heap_setCell _ ⟨T, 0, none⟩ _ g hg))))
  have hBB : Below B w5 (((((w5.setCell ⟨T, 0, none⟩ (.int .u8 k)).setCell ⟨T, 1, none⟩ (.string x)).setCell ⟨T, 2, none⟩ (.int .i64 0)).setCell ⟨T, 3, none⟩ (.int .i64 0)).setCell ⟨T, 4, none⟩ (.bool false)) := fiveSets (Below.refl _ _) hBT
  have hTk : ∀ g cs ty fr, w5.heap[g]? = some (.cells cs ty fr) → ty ≠ 44 → g ≠ T := fun g cs ty fr h1 h2 e => by
    subst e
    rw [ht5] at h1; injection h1 with h1; injection h1 with _ h3; exact h2 h3.symm
  refine ⟨hBT, ht5.sets _ _ _ _ _, ⟨(hk S (hTk S _ _ _ h5.sc (by decide))).trans h5.sc, h5.mks.below hBB, h5.left, ⟨?_, h5.own.2⟩, (hk F (hTk F _ _ _ h5.flt (by decide))).trans h5.flt, h5.bel.trans hBB, h5.hBS, Nat.le_trans h5.hBw hBB.size, h5.max.bel h5.g2 hBB, h5.sgn.below h5.g1 hBB, h5.g1, h5.g2⟩, (hk P hPT).trans hp5, hTT⟩
  refine ⟨h5.own.1.1, ?_⟩
  rcases h5.own.1.2 with hn | ⟨g, cap, cur, e, hb2, hh, rest⟩
  · exact .inl hn
  · exact .inr ⟨g, cap, cur, e, hb2, (hk g (hTT g (by rw [e]; rfl))).trans hh, rest⟩
theorem Tryz.infoTok : (Tryz.prog.info? 44).map (fun i => (i.zero, i.size, i.bytes)) = some (some (.agg #[.int .u8 0, .string ⟨#[]⟩, .int .i64 0, .int .i64 0, .bool false]), 5, 48) := by kernel_rfl
/-- A token is appended, and the scanner holds the row. -/
theorem Scn.addTok {W w6 : World} {tv' : Value} {tok : Tok} (h : Scn B S F l t ms0 w0 j acc mv tv ms w) (hb : Below w.heap.size w W) (ho : w6.ownsRow B 44 5 tv' (acc.length + 1) (toksC acc ++ tokC tok)) (hg : W.grownBy w6 tv.ownBlock) (hlen : acc.length + 1 ≤ 65536) (hk : tok.kind < 256) :
    Scn B S F l t ms0 w0 j (acc ++ [tok]) mv tv' ms (w6.setCell ⟨S, 4, none⟩ tv') := by
  have hW := h.below hb
  have hT : Turns 44 W w6 := Turns.grown hg (own_kind hW.own.1)
  have hB6 : Below B W w6 := (Below.refl B W).grown hg hW.hBw fun k hk => (hW.own.1.lt k hk).1
  have hs6 : ScAt S l t mv j tv w6 := hT.block S _ _ _ hW.sc (by decide)
  have hf6 : FltBlk w6 F := hT.block F _ _ _ hW.flt (by decide)
  have hSc : Sc S w6 (w6.setCell ⟨S, 4, none⟩ tv') := Sc.set hs6 4 tv'
  have hB7 : Below B W (w6.setCell ⟨S, 4, none⟩ tv') := hB6.trans (hSc.1.mono h.hBS)
  refine ⟨hs6.toks tv', hW.mks.below hB7, h.left, ⟨?_, ?_, ?_⟩, hSc.2.block F _ _ _ hf6 (by decide), hW.bel.trans hB7, h.hBS, Nat.le_trans hW.hBw hB7.size, hW.max.bel h.g2 hB7, hW.sgn.below h.g1 hB7, h.g1, h.g2⟩
  · rw [List.length_append, toksC_snoc]
    exact own_turns ho hSc.2 (by decide)
  · rw [List.length_append]; exact hlen
  · intro x hx
    rcases List.mem_append.1 hx with hx | hx
    · exact h.own.2.2 x hx
    · rw [List.mem_singleton] at hx; rw [hx]; exact hk
theorem Scn.neRow (h : Scn B S F l t ms0 w0 j acc mv tv ms w) : some S ≠ tv.ownBlock := fun e => by
  obtain ⟨c, fz, hh⟩ := own_kind h.own.1 S e.symm
  have := h.sc
  unfold ScAt at this
  rw [this] at hh; injection hh with hh; injection hh with h1 h2; exact absurd h2 (by decide)
def ScanPost (B S : Nat) (l : Bool) (t : ByteArray) (ms0 : IMarks) (r : (Nat × Int × Int) ⊕ List Tok) (w0 : World) (e : Ending) (w' : World) : Prop :=
  Below B w0 w' ∧ match r with
    | .inl f => e = .returned (.agg #[.int .i64 f.1, .int .i64 f.2.1, .int .i64 f.2.2]) ∧ f.1 ≠ 0
    | .inr acc' => e = .returned (.agg #[.int .i64 0, .int .i64 0, .int .i64 0]) ∧ ∃ mv' j' tv', ScAt S l t mv' j' tv' w' ∧ TkOwn B w' tv' acc'
/-- One token. -/
def stepJ (tl : List UInt8) (ms : IMarks) (g j : Nat) (acc : List Tok) : RdT → (Nat × Int × Int) ⊕ List Tok
  | .bad c => .inl (c, posT ms j)
  | .got k x n => if acc.length = 65536 then .inl (3, posT ms j) else scanJ true tl ms g (j + n + skipN (expPic (acc ++ [tokAt ms j k x])) (tl.drop (j + n))) (acc ++ [tokAt ms j k x])
theorem scanJ_succ (tl : List UInt8) (ms : IMarks) (g j : Nat) (acc : List Tok) (h : j < tl.length) : scanJ true tl ms (g + 1) j acc = stepJ tl ms g j acc (readT (endPic acc) (expPic acc) (sepAt tl j) (tl.drop j)) := by
  rw [scanJ, if_neg (by omega)]
  cases readT (endPic acc) (expPic acc) (sepAt tl j) (tl.drop j) with
  | bad c => rfl
  | got k x n => simp [stepJ]
theorem scanJ_end (u : Bool) (tl : List UInt8) (ms : IMarks) (f j : Nat) (acc : List Tok) (h : tl.length ≤ j) : scanJ u tl ms f j acc = .inr acc := by
  cases f with
  | zero => rfl
  | succ f => unfold scanJ; rw [if_pos h]
theorem readT_bad {e x sep : Bool} {r : List UInt8} {c : Nat} (h : readT e x sep r = .bad c) : c ≠ 0 := by
  intro h0
  subst h0
  unfold readT picT litT numT wordT signT at h
  repeat (first | (split at h) | (cases h))
theorem readT_kind {e x sep : Bool} {r : List UInt8} {k n : Nat} {y : List UInt8} (h : readT e x sep r = .got k y n) : k < 256 := by
  unfold readT at h
  split at h
  · unfold picT at h; split at h <;> cases h <;> decide
  split at h
  · unfold litT at h
    split at h
    · cases h
    · split at h <;> cases h <;> decide
  split at h
  · cases h; decide
  split at h
  · cases h; decide
  split at h
  · unfold numT at h
    split at h
    · cases h
    · split at h <;> cases h <;> decide
  split at h
  · unfold wordT at h
    split at h
    · cases h; decide
    · split at h <;> cases h
  · obtain ⟨rfl, _⟩ := signT_got h; decide
set_option maxHeartbeats 4000000 in
set_option maxRecDepth 100000 in
theorem scan_any (ms : IMarks) (w : World) (h : ScAt S l t mv 0 tv w) (hm : MkAt B w mv ms) (hl : Left ms ms 0) (ho : TkOwn B w tv acc) (hBS : B ≤ S) (hx : MaxLenAt w) (hg : SignsAt w) (hg1 : 0 < B) (hg2 : 1 < B) (hts : t.size ≤ 134217728) :
    Calls Tryz.prog 33 #[.pointer (some ⟨S, 0, none⟩)] w (ScanPost B S l t ms (scanC true t.data.toList ms acc) w) := by
  have hSw : S < w.heap.size := lt_of_block h
  obtain ⟨W, hW⟩ : ∃ W, W = w.alloc (.cells #[.int .i64 0, .int .i64 0, .int .i64 0] 28) := ⟨_, rfl⟩
  obtain ⟨F, hF⟩ : ∃ F, F = w.heap.size := ⟨_, rfl⟩
  have hWB : Below w.heap.size w W := by rw [hW]; exact (Below.refl _ _).alloc (Nat.le_refl _) _
  have HN : Hid (Scn B S F l t ms w 0 acc mv tv ms W) := by
    have hBw : B ≤ w.heap.size := by omega
    refine ⟨h.below hWB, hm.below (hWB.mono hBw), hl, ho.below hWB, ?_, hWB.mono hBw, hBS, Nat.le_trans hBw hWB.size, hx.bel hg2 (hWB.mono hBw), hg.below hg1 (hWB.mono hBw), hg1, hg2⟩
    rw [hF, hW]; exact heap_alloc_new w _
  clear h hm hl ho hx hg hWB
  obtain ⟨R, hR⟩ : ∃ R, R = scanC true t.data.toList ms acc := ⟨_, rfl⟩
  rw [← hR]
  have HR := Lib.hid hR
  clear hR
  go_enter Tryz.func33, Tryz.ntmps33
  go_upto_region 1 with fail
  have hBF : B ≤ F := by omega
  rw [← hW, ← hF]
  clear hW hF
  go_wp2_with (go_at_call 63; refine (skip_any acc _ HN.out.sc HN.out.own (Nat.zero_le _) hts).mono ?_; rintro e w1 ⟨rfl, hc1, hs1⟩)
  have hk1 : skipN (expPic acc) (t.data.toList.drop 0) ≤ t.size := by
    rw [List.drop_zero, size_data]; exact skipN_le _ _
  have HN1 := Lib.hid (HN.out.step hs1 hc1 (HN.out.mk' hs1) (HN.out.left.more (Nat.zero_le _)))
  have HR1 : Hid (R = scanJ true t.data.toList ms (t.data.toList.length + 1) (0 + skipN (expPic acc) (t.data.toList.drop 0)) acc) := by
    show _ = _
    rw [HR.out, scanC, List.drop_zero, Nat.zero_add]
  clear HN HR hs1 hc1
  go_loopw [19] (fun _ wr => ∃ (f j : Nat) (acc' : List Tok) (mv' tv' : Value) (ms' : IMarks), j ≤ t.size ∧ t.size < j + f ∧ Hid (R = scanJ true t.data.toList ms f j acc') ∧ Hid (Scn B S F l t ms w j acc' mv' tv' ms' wr)) (fun _ wr => t.size - nextAt S wr)
  case atStart => exact ⟨_, _, acc, mv, tv, ms, by omega, by rw [← size_data]; omega, HR1, HN1⟩
  case round =>
    obtain ⟨f, j, acc', mv', tv', ms', hj, hfj, HE, HS⟩ := hrel
    clear HN1 HR1 hk1
    obtain ⟨c1, c2, c3, c4⟩ := HS.out.sc.cells
    have HNX := Lib.hid (nextAt_of c3)
    by_cases hlt : j < t.size
    · have e0 : decide ((j : Int) < t.size) = true := by simp; omega
      go_wp2
      go_quiet (fail)
      have HS1 := Lib.hid (HS.out.drewN nq)
      clear c1 c2 c3 c4 HS e0
      generalize wr.drewN nq = w2 at *
      go_upto_region 5 with (go_at_call 64; refine (here_any _ HS1.out.sc HS1.out.mks HS1.out.hBS HS1.out.left (by omega)).mono ?_; rintro e w3 ⟨rfl, hs3, mv3, ms3, hc3, hm3, hl3⟩)
      have HS3 := Lib.hid (HS1.out.step hs3 hc3 hm3 hl3)
      clear hs3 hc3 hm3 hl3 HS1
      obtain ⟨pl, hpl⟩ : ∃ x, x = (posT ms j).1 := ⟨_, rfl⟩
      obtain ⟨pc, hpc⟩ : ∃ x, x = (posT ms j).2 := ⟨_, rfl⟩
      rw [← hpl, ← hpc]
      have HPL := Lib.hid hpl
      have HPC := Lib.hid hpc
      clear hpl hpc
      have hPB : Below w3.heap.size w3 (w3.alloc (.cells #[.int .i64 pl, .int .i64 pc] 26)) := (Below.refl _ _).alloc (Nat.le_refl _) _
      have HS4 := Lib.hid (HS3.out.below hPB)
      obtain ⟨P, hP⟩ : ∃ P, P = w3.heap.size := ⟨_, rfl⟩
      have HPB : Hid (PosBlk (w3.alloc (.cells #[.int .i64 pl, .int .i64 pc] 26)) P (.int .i64 pl) (.int .i64 pc)) := by show PosBlk _ _ _ _; rw [hP]; exact heap_alloc_new w3 _
      have hBP : B ≤ P := by rw [hP]; exact HS3.out.hBw
      rw [← hP]
      clear hPB HS3 hP
      generalize w3.alloc (.cells #[.int .i64 pl, .int .i64 pc] 26) = w4 at *
      obtain ⟨c1, c2, c3, c4⟩ := HS4.out.sc.cells
      obtain ⟨RD, hRD⟩ : ∃ RD, RD = readT (endPic acc') (expPic acc') (sepAt t.data.toList j) (t.data.toList.drop j) := ⟨_, rfl⟩
      obtain ⟨k, x, n, e, hR⟩ := rdV_open RD
      have HRD : Hid (∀ W : World, Scn B S F l t ms w j acc' mv3 tv' ms3 W → Calls Tryz.prog 65 #[.pointer (some ⟨S, 0, none⟩), .string (t.extract j t.size)] W fun ee w' => ee = .returned (.tuple #[.agg #[.int .u8 k, .string x, .int .i64 0, .int .i64 0, .bool false], .int .i64 n, .int .i64 e]) ∧ Below W.heap.size W w') := fun W hW => by
        have := read_any acc' (t.extract j t.size) W hW.sc hW.own.at_ hW.max hW.sgn (by rw [suffix_size t j hj]; omega) (by rw [suffix_size t j hj]; omega) hj hts
        rw [suffix_data, ← hRD, hR] at this
        exact this
      have HRD2 := Lib.hid hRD
      have HRV := Lib.hid hR
      have hss := suffix_size t j hj
      have HS4d := Lib.hid HS4.out.drew
      have HPd : Hid (PosBlk w4.drew P (.int .i64 pl) (.int .i64 pc)) := HPB.out
      have hTB : Below w4.heap.size w4 (w4.alloc (.cells #[.int .u8 0, .string ⟨#[]⟩, .int .i64 0, .int .i64 0, .bool false] 44)).drew := ((Below.refl _ _).alloc (Nat.le_refl _) _).drew
      have HS4e := Lib.hid (HS4.out.below hTB)
      have HTBe : Hid (TokBlk (w4.alloc (.cells #[.int .u8 0, .string ⟨#[]⟩, .int .i64 0, .int .i64 0, .bool false] 44)).drew w4.heap.size) := heap_alloc_new w4 _
      have HPe : Hid (PosBlk (w4.alloc (.cells #[.int .u8 0, .string ⟨#[]⟩, .int .i64 0, .int .i64 0, .bool false] 44)).drew P (.int .i64 pl) (.int .i64 pc)) := (hTB.block P (lt_of_block HPB.out)).trans HPB.out
      have hPw : P < w4.heap.size := lt_of_block HPB.out
      have hSw4 : S < w4.heap.size := lt_of_block HS4.out.sc
      clear hTB
      clear hRD hR
      have hTT : ∀ g, tv'.ownBlock = some g → g ≠ w4.heap.size := fun g hg => by
        obtain ⟨c, fz, hh⟩ := own_kind HS4.out.own.1 g hg
        have := lt_of_block hh
        omega
      have HTT := Lib.hid hTT
      clear hTT
      have hBw4 := HS4.out.hBw
      go_cut [4, 5, 6] (fun s4 s5 s6 wx => ∃ T, s4 = .pointer (some ⟨T, 0, none⟩) ∧ s5 = .int .i64 n ∧ s6 = .int .i64 e ∧ Hid (R5End B S F l t ms w j acc' mv3 tv' ms3 P pl pc k x T wx))
      case first =>
        --S<
        go_region_law (first
          | (go_simp; go_at_call 65; refine (HRD.out _ ?_).mono ?_; (exact HS4d.out); rintro e w5 ⟨rfl, hb⟩; have HEND := Lib.hid (r5_new (k := k) (x := x) HS4d.out HPd.out hb))
          | (go_simp; go_at_call 65; refine (HRD.out _ ?_).mono ?_; (exact HS4e.out); rintro e w5 ⟨rfl, hb⟩; have HEND := Lib.hid (r5_set (k := k) (x := x) HS4e.out HPe.out HTBe.out hBw4 (Nat.ne_of_lt hPw) HTT.out hb); have HKT := Lib.hid (HTBe.out.kept hb); obtain ⟨t0, t1, t2, t3, t4⟩ := HKT.out.cells; obtain ⟨z0, z1, z2, z3, z4⟩ := HKT.out.free; have hQT : w4.heap.size < w5.heap.size := lt_of_block HKT.out))
        all_goals
          go_wp2_with fail
          go_meet
          exact ⟨_, rfl, rfl, rfl, HEND⟩
        --S>
      case rest =>
      obtain ⟨T, rfl, rfl, rfl, HE5⟩ := hcut
      obtain ⟨hBT, hTb, hS5, hP5, hTT5⟩ := HE5.out
      have HS5 := Lib.hid hS5
      have HTK := Lib.hid hTb
      have HP5 := Lib.hid hP5
      have HTT5 := Lib.hid hTT5
      clear c1 c2 c3 c4 HE5 hTb hS5 hP5 hTT5 HS4 HPB HRD HS4d HPd HS4e HTBe HPe HTT hPw hSw4 hBw4 hss
      obtain ⟨g, rfl⟩ : ∃ g, f = g + 1 := ⟨f - 1, by omega⟩
      have HSTEP : Hid (R = stepJ t.data.toList ms g j acc' RD) := by
        show _ = _
        rw [HE.out, scanJ_succ _ _ _ _ _ (by rw [← size_data]; omega), ← HRD2.out]
      clear HE
      obtain ⟨p0, p1⟩ : wc.cell? ⟨P, 0, none⟩ = some (.int .i64 pl) ∧ wc.cell? ⟨P, 1, none⟩ = some (.int .i64 pc) := ⟨Joins.cell_of_block HP5.out 0, Joins.cell_of_block HP5.out 1⟩
      obtain ⟨c1, c2, c3, c4⟩ := HS5.out.sc.cells
      obtain ⟨⟨y0, y1, y2⟩, q0, q1, q2⟩ := HS5.out.fcells
      obtain ⟨ta, tcap, rfl⟩ := own_sl HS5.out.own.1
      have hacc := HS5.out.own.2.1
      have hrange := HS5.out.left
      cases hcase : RD with
      | bad c =>
        rw [hcase] at HSTEP HRV
        have hc0 : c ≠ 0 := readT_bad (HRD2.out.symm.trans hcase)
        have hce : c = e := by
          have hv := HRV.out
          simp only [rdV, tokV, Value.tuple.injEq, Array.mk.injEq, List.cons.injEq, Value.int.injEq, and_true, true_and] at hv
          omega
        subst hce
        have HZ : Hid (R = .inl (c, pl, pc)) := by
          show _ = _
          rw [HSTEP.out, HPL.out, HPC.out]; rfl
        have e0 : ((c : Int) == 0) = false := by rw [beq_eq_false_iff_ne]; omega
        have e1 : ((c : Int) != 0) = true := by rw [bne, e0]; rfl
        clear HSTEP HRV HRD2 hcase hrange
        go_wp2
        obtain ⟨w5, hw5, hb5, hs5, ho5, d0, d1, d2⟩ := HS5.out.fault hBF (.int .i64 c) (.int .i64 pl) (.int .i64 pc)
        rw [← hw5]
        clear hw5
        refine bodyPost_ret (by simp [results, Tryz.results33, go_sem, d0, d1, d2]; try rfl) rfl ?_
        rw [HZ.out]
        exact ⟨hb5, rfl, hc0⟩
      | got k2 x2 n2 =>
        rw [hcase] at HSTEP HRV
        have hn12 : 1 ≤ n2 ∧ n2 ≤ t.size - j := by
          have hne : t.data.toList.drop j ≠ [] := by
            intro e2
            have h5 : (t.data.toList.drop j).length = 0 := by rw [e2]; rfl
            rw [List.length_drop, ← size_data] at h5
            omega
          have := readT_le hne (HRD2.out.symm.trans hcase)
          rw [List.length_drop, ← size_data] at this
          exact this
        have HK256 : Hid (k2 < 256) := readT_kind (HRD2.out.symm.trans hcase)
        have hv := HRV.out
        simp only [rdV, tokV, Value.tuple.injEq, Value.agg.injEq, Array.mk.injEq, List.cons.injEq, Value.int.injEq, Value.string.injEq, and_true, true_and] at hv
        obtain ⟨⟨hk2, hx2⟩, hn2, he2⟩ := hv
        obtain rfl : k2 = k := by omega
        obtain rfl : n2 = n := by omega
        obtain rfl : e = 0 := by omega
        subst hx2
        clear HRV HRD2 hcase hrange hk2 hn2 he2
        by_cases h65 : acc'.length = 65536
        · have HZ : Hid (R = .inl (3, pl, pc)) := by
            show _ = _
            rw [HSTEP.out, HPL.out, HPC.out, stepJ, if_pos h65]
          have e5 : ((acc'.length : Int) == 65536) = true := by rw [h65]; rfl
          clear HSTEP h65 hacc
          go_wp2
          obtain ⟨w5, hw5, hb5, hs5, ho5, d0, d1, d2⟩ := HS5.out.fault hBF (.int .i64 3) (.int .i64 pl) (.int .i64 pc)
          rw [← hw5]
          clear hw5
          refine bodyPost_ret (by simp [results, Tryz.results33, go_sem, d0, d1, d2]; try rfl) rfl ?_
          rw [HZ.out]
          exact ⟨hb5, rfl, show (3 : Nat) ≠ 0 by decide⟩
        · have HZ : Hid (R = scanJ true t.data.toList ms g (j + n2 + skipN (expPic (acc' ++ [tokAt ms j k2 x2])) (t.data.toList.drop (j + n2))) (acc' ++ [tokAt ms j k2 x2])) := by
            show _ = _
            rw [HSTEP.out, stepJ, if_neg h65]
          have e5 : ((acc'.length : Int) == 65536) = false := by rw [beq_eq_false_iff_ne]; omega
          have HLT : Hid (acc'.length + 1 ≤ 65536) := by show _ ≤ _; omega
          have hacc2 : acc'.length ≤ 134217728 := by omega
          clear HSTEP h65 hacc
          obtain ⟨xs, hxs⟩ : ∃ xs, xs = strL x2 := ⟨_, rfl⟩
          rw [← hxs] at HTK
          have HXS := Lib.hid hxs
          clear hxs
          obtain ⟨t0, t1, t2, t3, t4⟩ : wc.cell? ⟨T, 0, none⟩ = some (.int .u8 k2) ∧ wc.cell? ⟨T, 1, none⟩ = some (.string xs) ∧ wc.cell? ⟨T, 2, none⟩ = some (.int .i64 0) ∧ wc.cell? ⟨T, 3, none⟩ = some (.int .i64 0) ∧ wc.cell? ⟨T, 4, none⟩ = some (.bool false) :=
            ⟨Joins.cell_of_block HTK.out 0, Joins.cell_of_block HTK.out 1, Joins.cell_of_block HTK.out 2, Joins.cell_of_block HTK.out 3, Joins.cell_of_block HTK.out 4⟩
          obtain ⟨z2, z3, z4⟩ : wc.frozen? ⟨T, 2, none⟩ = false ∧ wc.frozen? ⟨T, 3, none⟩ = false ∧ wc.frozen? ⟨T, 4, none⟩ = false :=
            ⟨Joins.unfrozen_of_block HTK.out 2, Joins.unfrozen_of_block HTK.out 3, Joins.unfrozen_of_block HTK.out 4⟩
          have hPT : P ≠ T := fun e6 => by
            have h1 := HTK.out
            rw [← e6, HP5.out] at h1
            injection h1 with h1; injection h1 with h1 h2; exact absurd h2 (by decide)
          clear y0 y1 y2 q0 q1 q2
          go_upto_region 10 with fail
          clear c1 c2 c3 c4 e5
          go_cut [55] (fun _ wx => Hid (R10End B S F l t ms w j acc' mv3 (.slice ta acc'.length tcap) ms3 k2 xs pl pc T wx))
          case first =>
            --R<
            have HEND := Lib.hid (r10_set (pl := pl) (pc := pc) HTK.out HS5.out hBT HTT5.out)
            go_region_law (fail)
            all_goals
              go_wp2_with fail
              go_meet
              exact HEND
            --R>
          case rest =>
          clear p0 p1 t0 t1 t2 t3 t4 z2 z3 z4 HTK HS5 HP5 HTT5
          obtain ⟨hTk, hS6⟩ := hcut.out
          have HS6 := Lib.hid hS6
          have HTK6 := Lib.hid hTk
          clear hcut hTk hS6
          obtain ⟨lb, hlb⟩ : ∃ lb, lb = decide (pc < 12) := ⟨_, rfl⟩
          rw [← hlb] at HTK6
          have HLB := Lib.hid hlb
          have HTOK : Hid (tokC (tokAt ms j k2 x2) = [.int .u8 k2, .string xs, .int .i64 pl, .int .i64 pc, .bool lb]) := by
            show _ = _
            rw [HXS.out, HLB.out, HPL.out, HPC.out]; rfl
          clear hlb
          obtain ⟨c1, c2, c3, c4⟩ := HS6.out.sc.cells
          have f4 := HS6.out.sc.free 4
          obtain ⟨t0, t1, t2, t3, t4⟩ : wc.cell? ⟨T, 0, none⟩ = some (.int .u8 k2) ∧ wc.cell? ⟨T, 1, none⟩ = some (.string xs) ∧ wc.cell? ⟨T, 2, none⟩ = some (.int .i64 pl) ∧ wc.cell? ⟨T, 3, none⟩ = some (.int .i64 pc) ∧ wc.cell? ⟨T, 4, none⟩ = some (.bool lb) :=
            ⟨Joins.cell_of_block HTK6.out 0, Joins.cell_of_block HTK6.out 1, Joins.cell_of_block HTK6.out 2, Joins.cell_of_block HTK6.out 3, Joins.cell_of_block HTK6.out 4⟩
          obtain ⟨i0, hi, hz0, hz1, hz2⟩ := info_parts Tryz.infoTok
          have hml : Hid (acc'.length + 1 ≤ maxLen) := by show _ ≤ maxLen; unfold maxLen; omega
          have hSw6 : S < wc.heap.size := lt_of_block HS6.out.sc
          have hSw7 : S < wc.heap.size + 1 := by omega
          have hBw6 := HS6.out.hBw
          have hSne := HS6.out.neRow
          go_upto_region 11 with fail
          go_cut [68] (fun s68 wx => Hid (Scn B S F l t ms w j (acc' ++ [tokAt ms j k2 x2]) mv3 s68 ms3 wx))
          case first =>
            --A<
            go_region_law (first
              | (refine step_append_lies _ (by rfl) (.tmp 65) (.tmp 67) 31 (by rfl) B 44 i0 _ 5 48 Tryz.underlying31 hi hz0 hz1 hz2 rfl (by omega) (.slice ta acc'.length tcap) acc'.length (toksC acc') (by rfl) (own_kept HS6.out.own.1 (Below.block (B := wc.heap.size) (w := wc) (by go_grown)))
                  ⟨wc.heap.size, 0, none⟩ 1 1 [.int .u8 k2, .string xs, .int .i64 pl, .int .i64 pc, .bool lb] (by rfl) (by rfl) (World.news_of_block (cs := #[.int .u8 k2, .string xs, .int .i64 pl, .int .i64 pc, .bool lb]) (t := 44) (fr := (0, 0)) (alloc_new_at _ _ _ (by simp))) (by simp [Value.oneCell'])
                  (by omega) hml.out (by omega) (Nat.le_trans hBw6 (Below.size (B := wc.heap.size) (w := wc) (by go_grown))) (wc.heap.size + 1) (by simp) ?_; intro gg cap' w6 hown6 hgrow hat hlt6; obtain ⟨hk6, hkf6⟩ := farCell (w := wc) (by go_grown) hgrow hSne hSw6 c4 f4))
            all_goals
              go_wp2_with fail
              go_meet
              exact HS6.out.addTok (by go_grown) (by rw [HTOK.out]; exact hown6) hgrow HLT.out HK256.out
            --A>
          case rest =>
          clear c1 c2 c3 c4 f4 t0 t1 t2 t3 t4 HS6 HTK6 hSne hSw6 hSw7 hBw6 hi hz0 hz1 hz2
          have HS7 := hcut
          obtain ⟨c1, c2, c3, c4⟩ := HS7.out.sc.cells
          have f3 := HS7.out.sc.free 3
          obtain ⟨hn1, hn2⟩ := hn12
          go_upto_region 3 with fail
          have hjn : (j : Int) + n2 = ((j + n2 : Nat) : Int) := by omega
          rw [hjn]
          have hsc8 := HS7.out.sc.next (j + n2)
          have hSc8 := Sc.set HS7.out.sc 3 (.int .i64 ((j + n2 : Nat) : Int))
          have HS8 := Lib.hid (HS7.out.step hSc8 hsc8 (HS7.out.mk' hSc8) (HS7.out.left.more (Nat.le_add_right j n2)))
          clear hsc8 hSc8 c1 c2 c3 c4 f3 HS7 hjn hcut
          go_wp2_with (go_at_call 63; refine (skip_any _ _ HS8.out.sc HS8.out.own (by omega) hts).mono ?_; rintro e w9 ⟨rfl, hc9, hs9⟩)
          have HS9 := Lib.hid (HS8.out.step hs9 hc9 (HS8.out.mk' hs9) (HS8.out.left.more (Nat.le_add_right _ _)))
          have hk9 := skipN_le (expPic (acc' ++ [tokAt ms j k2 x2])) (t.data.toList.drop (j + n2))
          rw [List.length_drop, ← size_data] at hk9
          clear hs9 hc9
          go_roundw
          case rel => exact ⟨g, _, _, _, _, _, by omega, by omega, HZ, HS9⟩
          case measure =>
            rw [nextAt_of HS9.out.sc.cells.2.2.1, HNX.out]
            omega
    · have e0 : decide ((j : Int) < t.size) = false := by simp; omega
      have HZ : Hid (R = .inr acc') := by
        show _ = _
        rw [HE.out]
        exact scanJ_end _ _ _ _ _ _ (by rw [← size_data]; omega)
      go_wp2
      go_quiet (fail)
      have HS1 := Lib.hid (HS.out.drewN nq)
      clear c1 c2 c3 c4 HS e0
      generalize wr.drewN nq = w2 at *
      obtain ⟨⟨k0, k1, k2⟩, q0, q1, q2⟩ := HS1.out.fcells
      go_wp2
      obtain ⟨w5, hw5, hb5, hs5, ho5, d0, d1, d2⟩ := HS1.out.fault hBF (.int .i64 0) (.int .i64 0) (.int .i64 0)
      rw [← hw5]
      clear hw5
      refine bodyPost_ret (by simp [results, Tryz.results33, go_sem, d0, d1, d2]; try rfl) rfl ?_
      rw [HZ.out]
      exact ⟨hb5, rfl, _, _, _, hs5, ho5⟩
end Go.Proofs.YtpalfhfbgfnacaaGreatDoor
