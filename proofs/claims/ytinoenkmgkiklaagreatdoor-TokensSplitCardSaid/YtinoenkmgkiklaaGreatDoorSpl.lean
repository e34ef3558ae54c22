/-
  The contract of package tokens' Split, and of its closure.
-/
import Derived.Test.YtinoenkmgkiklaaGreatDoorSme
import Derived.Test.YtinoenkmgkiklaaGreatDoorSc7
import Derived.Test.YtinoenkmgkiklaaGreatDoorGA
import Derived.Laws.CopyOwn
namespace Go.Proofs.YtinoenkmgkiklaaGreatDoor
open Go.RowKit
set_option linter.unusedVariables false
set_option linter.unusedSimpArgs false

/-- The parts of a list of tokens; cur: what stands behind the last period. -/
def splitF (cur : List Tok) : List Tok → List (List Tok)
  | [] => if cur = [] then [] else [cur]
  | t :: l => if t.kind = 6 then cur :: splitF [] l else splitF (cur ++ [t]) l
/-- A part in memory: a slice of a block of its own, with no room behind it. -/
def PartV (B : Nat) (x : Value) (L : List Tok) (w : World) : Prop :=
  ∃ g, x = .slice (some ⟨g, 0, none⟩) L.length L.length ∧ B ≤ g ∧ w.heap[g]? = some (.cells (toksC L).toArray 44 (0, 0))
structure Spl (N : Nat) (w0 : World) (lv : Value) (bg : Nat) (v : Value) (xs : List Value) (P : List (List Tok)) (w : World) : Prop where
  bel : Below N w0 w
  lb : w.heap[N]? = some (.cells #[lv] 31 (0, 0))
  ob : w.heap[N + 1]? = some (.cells #[v] 59 (0, 0))
  bb : w.heap[N + 2]? = some (.cells #[.int .i64 bg] 3 (0, 0))
  own : w.ownsRow (N + 3) 31 1 v P.length xs
  parts : xs.length = P.length ∧ ∀ (k : Nat) (x : Value) (p : List Tok), xs[k]? = some x → P[k]? = some p → PartV (N + 3) x p w
  size : N + 3 ≤ w.heap.size
/-- New blocks only. -/
theorem Spl.below {N : Nat} {w0 w w' : World} {lv : Value} {bg : Nat} {v : Value} {xs : List Value} {P : List (List Tok)} (h : Spl N w0 lv bg v xs P w) (hb : Below w.heap.size w w') : Spl N w0 lv bg v xs P w' := by
  have hs := h.size
  refine ⟨h.bel.trans (hb.mono (by omega)), (hb.block _ (by omega)).trans h.lb, (hb.block _ (by omega)).trans h.ob, (hb.block _ (by omega)).trans h.bb, own_kept h.own hb.block, ⟨h.parts.1, fun k x p hx hp => ?_⟩, Nat.le_trans hs hb.size⟩
  obtain ⟨g, e, hg, hc⟩ := h.parts.2 k x p hx hp
  exact ⟨g, e, hg, (hb.block _ (lt_of_block hc)).trans hc⟩
theorem Spl.setB {N : Nat} {w0 w : World} {lv : Value} {bg : Nat} {v : Value} {xs : List Value} {P : List (List Tok)} (h : Spl N w0 lv bg v xs P w) (k : Nat) : Spl N w0 lv k v xs P (w.setCell ⟨N + 2, 0, none⟩ (.int .i64 k)) := by
  have hset : ∀ j, j ≠ N + 2 → (w.setCell ⟨N + 2, 0, none⟩ (.int .i64 k)).heap[j]? = w.heap[j]? := fun j hj => Below.heap_setCell _ ⟨N + 2, 0, none⟩ _ j hj
  refine ⟨h.bel.setCell (p := ⟨N + 2, 0, none⟩) (by show N ≤ N + 2; omega) _, (hset _ (by omega)).trans h.lb, (hset _ (by omega)).trans h.ob, Joins.block_setCell h.bb _, own_turns (e' := 3) h.own (Turns.setCell h.bb 0 _) (by decide), ⟨h.parts.1, fun j x p hx hp => ?_⟩, by simpa using h.size⟩
  obtain ⟨g, e, hg, hc⟩ := h.parts.2 j x p hx hp
  exact ⟨g, e, hg, (hset _ (by omega)).trans hc⟩
theorem Tryz.infoToks : (Tryz.prog.info? 31).map (fun i => (i.zero, i.size, i.bytes)) = some (some (.slice none 0 0), 1, 24) := by kernel_rfl
set_option maxRecDepth 100000 in
/-- append of one part. -/
theorem append_part (base : Nat) (v : Value) (xs : List Value) (n : Nat) (x : Value) (hx : x.oneCell' = true) (W : World) (hown : W.ownsRow base 31 1 v n xs) (hn : n ≤ 134217728) (hbase : base ≤ W.heap.size) :
    ∃ v' w', (Builtin.append_ #[59, 59] 59 #[v, .slice (some ⟨W.heap.size, 0, none⟩) 1 1]).run Tryz.prog (W.alloc (.cells #[x] 31)) = .ok v' w' ∧
      w'.ownsRow base 31 1 v' (n + 1) (xs ++ [x]) ∧ (W.alloc (.cells #[x] 31)).grownBy w' v.ownBlock := by
  obtain ⟨i0, hi, hz0, hz1, hz2⟩ := info_parts Tryz.infoToks
  obtain ⟨v', w', hrun, hown', hgrow, _, _⟩ := run_append_own_at (P := Tryz.prog) (W.alloc (.cells #[x] 31)) base 59 59 31 i0 (.slice none 0 0) 1 24 Tryz.underlying59 hi hz0 hz1 hz2 rfl (by decide) v n xs (hown.alloc _) ⟨W.heap.size, 0, none⟩ 1 1 [x] rfl
    (fun j u hj => by
      match j, hj with
      | 0, hj =>
        simp at hj; subst hj
        simp [Addr.add])
    (fun u hu => by simp at hu; subst hu; exact hx) (by unfold maxLen; omega) (by omega) (by simp; omega)
  exact ⟨v', w', hrun, hown', hgrow⟩
theorem made_tok (n : Nat) : (madeCells (Value.agg #[.int .u8 0, .string ⟨#[]⟩, .int .i64 0, .int .i64 0, .bool false]).cells (n * 5)).size = n * 5 := by simp [madeCells]
/-- A row of new tokens. -/
def madeT (n : Nat) : Array Value := madeCells (Value.agg #[.int .u8 0, .string ⟨#[]⟩, .int .i64 0, .int .i64 0, .bool false]).cells (n * 5)
set_option maxRecDepth 100000 in
theorem make_tok (d : Int) (n : Nat) (hd : d = n) (hn : n ≤ 134217728) (w : World) :
    (Instr.makeSlice 31 (.int .i64 d) (.int .i64 d)).run Tryz.prog w = .ok (.slice (some ⟨w.heap.size, 0, none⟩) n n) (w.alloc (.cells (madeT n) 44)) := by
  subst hd
  obtain ⟨i0, hi, hz0, hz1, hz2⟩ := info_parts Tryz.infoTok
  have hr := run_make (P := Tryz.prog) w 31 44 i0 _ Tryz.underlying31 hi hz0 .i64 .i64 n n (by omega) (by omega) (by rw [hz2]; omega) (by omega)
  rw [hz1] at hr
  simp only [Int.toNat_natCast] at hr
  exact hr
theorem tokC_one (L : List Tok) : ∀ v ∈ toksC L, v.oneCell' = true := by
  intro v hv
  unfold toksC at hv
  obtain ⟨t, _, hv⟩ := List.mem_flatMap.1 hv
  simp only [tokC, List.mem_cons, List.not_mem_nil, or_false] at hv
  rcases hv with rfl | rfl | rfl | rfl | rfl <;> rfl
theorem addr_add (b o j : Nat) : (⟨b, o, none⟩ : Addr).add j = ⟨b, o + j, none⟩ := by unfold Addr.add; split <;> simp_all
set_option maxRecDepth 100000 in
/-- The tokens from bg to e, copied into a new row. -/
theorem copy_tok {w : World} {b o cap : Nat} {L : List Tok} {w1 : World} (h : ToksAt w (.slice (some ⟨b, o, none⟩) L.length cap) L) (hb : Below w.heap.size w w1) (bg m g sCap : Nat) (hm : bg + m ≤ L.length) (hg : w1.heap[g]? = some (.cells (madeT m) 44 (0, 0))) :
    (Builtin.copy_ #[31, 31] 3 #[.slice (some ⟨g, 0, none⟩) m m, .slice (some ⟨b, o + bg * 5, none⟩) m sCap]).run Tryz.prog w1 = .ok (goInt m) (w1.setRow g (toksC ((L.drop bg).take m)).toArray) := by
  obtain ⟨i0, hi, hz0, hz1, hz2⟩ := info_parts Tryz.infoTok
  have hlen : (toksC ((L.drop bg).take m)).length = m * 5 := by rw [toksC_length, List.length_take, List.length_drop]; congr 1; omega
  have hr := run_copy_many (P := Tryz.prog) w1 31 31 3 44 5 g m m ⟨b, o + bg * 5, none⟩ m sCap (madeT m) 44 (toksC ((L.drop bg).take m)) Tryz.underlying31 (by rw [hi]; simp [hz1]) hg (by rw [hlen]; simp [Nat.min_def]) (fun j v hj => by
    have hjl := lt_of_get hj
    rw [hlen] at hjl
    have hk : ((L.drop bg).take m)[j / 5]? = L[bg + j / 5]? := by
      rw [List.getElem?_take_of_lt (by omega), List.getElem?_drop]
    have hL : L[bg + j / 5]? = some L[bg + j / 5] := List.getElem?_eq_getElem (by omega)
    have hd : j = (j / 5) * 5 + j % 5 := by omega
    have hv := toksC_get _ _ _ (hk.trans hL) (j % 5) (by omega)
    rw [← hd, hj] at hv
    obtain ⟨h1, h2, c0, c1, c2, c3, c4⟩ := toks_cell h _ _ hL
    have hadd : (⟨b, o + bg * 5, none⟩ : Addr).add j = ⟨b, o + (bg + j / 5) * 5 + j % 5, none⟩ := by
      rw [addr_add, show o + bg * 5 + j = o + (bg + j / 5) * 5 + j % 5 from by omega]
    rw [hadd, hb.cell h1]
    have h5 : j % 5 = 0 ∨ j % 5 = 1 ∨ j % 5 = 2 ∨ j % 5 = 3 ∨ j % 5 = 4 := by omega
    rcases h5 with e | e | e | e | e <;> rw [e] at hv ⊢ <;> simp [tokC] at hv <;> subst hv
    · simpa using c0
    · exact c1
    · exact c2
    · exact c3
    · exact c4) (by rw [hlen]; simp [madeT, madeCells]) (tokC_one _)
  have hmin : Nat.min m m = m := Nat.min_self m
  rw [hmin] at hr
  exact hr
theorem heap_setRow_other (w : World) (g k : Nat) (cs : Array Value) (h : k ≠ g) : (w.setRow g cs).heap[k]? = w.heap[k]? := by
  unfold World.setRow
  simp only [Array.getElem?_modify]
  rw [if_neg (Ne.symm h)]
/-- What stays where it is behind the closure. -/
theorem Spl.keep6 {N : Nat} {w0 w W w6 : World} {lv : Value} {bg m : Nat} {v : Value} {xs : List Value} {P : List (List Tok)} {p : List Tok} (h : Spl N w0 lv bg v xs P w) (hp : p.length = m)
    (hW : W = (w.alloc (.cells (madeT m) 44)).setRow w.heap.size (toksC p).toArray)
    (hg : (W.alloc (.cells #[.slice (some ⟨w.heap.size, 0, none⟩) m m] 31)).grownBy w6 v.ownBlock) :
    ∀ k cs ty fr, w.heap[k]? = some (.cells cs ty fr) → (k < N + 3 ∨ ty ≠ 31) → w6.heap[k]? = some (.cells cs ty fr) := by
  have hs := h.size
  subst hp
  have hWs : W.heap.size = w.heap.size + 1 := by rw [hW]; simp [World.setRow]
  have hWk : ∀ k, k < w.heap.size → W.heap[k]? = w.heap[k]? := fun k hk => by
    rw [hW, heap_setRow_other _ _ _ _ (by omega)]
    exact Below.heap_alloc w _ k hk
  have hWn : W.heap[w.heap.size]? = some (.cells (toksC p).toArray 44 (0, 0)) := by
    rw [hW]
    exact setRow_heap _ _ _ _ _ _ (heap_alloc_new w _)
  have hAk : ∀ k, k < W.heap.size → (W.alloc (.cells #[Value.slice (some ⟨w.heap.size, 0, none⟩) p.length p.length] 31)).heap[k]? = W.heap[k]? := fun k hk => Below.heap_alloc W _ k hk
  -- what the row's block is not
  have hrow : ∀ k cs ty fr, w.heap[k]? = some (.cells cs ty fr) → (k < N + 3 ∨ ty ≠ 31) → some k ≠ v.ownBlock := fun k cs ty fr hk hc e => by
    obtain ⟨c, fz, hh⟩ := own_kind h.own k e.symm
    rcases hc with hc | hc
    · have := (h.own.lt k e.symm).1; omega
    · rw [hk] at hh; injection hh with hh; injection hh with h1 h2 h3; exact hc h2
  have hkeep : ∀ k cs ty fr, w.heap[k]? = some (.cells cs ty fr) → (k < N + 3 ∨ ty ≠ 31) → w6.heap[k]? = some (.cells cs ty fr) := fun k cs ty fr hk hc => by
    have hlt := lt_of_block hk
    rw [hg.block k (by simp; omega) (hrow k cs ty fr hk hc), hAk k (by omega), hWk k hlt]
    exact hk
  exact hkeep
/-- Behind the closure. -/
theorem Spl.put {N : Nat} {w0 w W w6 : World} {lv : Value} {bg m : Nat} {v v' : Value} {xs : List Value} {P : List (List Tok)} {p : List Tok} (h : Spl N w0 lv bg v xs P w) (hp : p.length = m)
    (hW : W = (w.alloc (.cells (madeT m) 44)).setRow w.heap.size (toksC p).toArray)
    (ho : w6.ownsRow (N + 3) 31 1 v' (P.length + 1) (xs ++ [.slice (some ⟨w.heap.size, 0, none⟩) m m]))
    (hg : (W.alloc (.cells #[.slice (some ⟨w.heap.size, 0, none⟩) m m] 31)).grownBy w6 v.ownBlock) :
    Spl N w0 lv bg v' (xs ++ [.slice (some ⟨w.heap.size, 0, none⟩) m m]) (P ++ [p]) (w6.setCell ⟨N + 1, 0, none⟩ v') := by
  have hs := h.size
  subst hp
  have hWs : W.heap.size = w.heap.size + 1 := by rw [hW]; simp [World.setRow]
  have hWk : ∀ k, k < w.heap.size → W.heap[k]? = w.heap[k]? := fun k hk => by
    rw [hW, heap_setRow_other _ _ _ _ (by omega)]
    exact Below.heap_alloc w _ k hk
  have hWn : W.heap[w.heap.size]? = some (.cells (toksC p).toArray 44 (0, 0)) := by
    rw [hW]
    exact setRow_heap _ _ _ _ _ _ (heap_alloc_new w _)
  have hAk : ∀ k, k < W.heap.size → (W.alloc (.cells #[Value.slice (some ⟨w.heap.size, 0, none⟩) p.length p.length] 31)).heap[k]? = W.heap[k]? := fun k hk => Below.heap_alloc W _ k hk
  -- what the row's block is not
  have hrow : ∀ k cs ty fr, w.heap[k]? = some (.cells cs ty fr) → (k < N + 3 ∨ ty ≠ 31) → some k ≠ v.ownBlock := fun k cs ty fr hk hc e => by
    obtain ⟨c, fz, hh⟩ := own_kind h.own k e.symm
    rcases hc with hc | hc
    · have := (h.own.lt k e.symm).1; omega
    · rw [hk] at hh; injection hh with hh; injection hh with h1 h2 h3; exact hc h2
  have hkeep : ∀ k cs ty fr, w.heap[k]? = some (.cells cs ty fr) → (k < N + 3 ∨ ty ≠ 31) → w6.heap[k]? = some (.cells cs ty fr) := fun k cs ty fr hk hc => by
    have hlt := lt_of_block hk
    rw [hg.block k (by simp; omega) (hrow k cs ty fr hk hc), hAk k (by omega), hWk k hlt]
    exact hk
  have hob6 := hkeep _ _ _ _ h.ob (.inl (by omega))
  have hset : ∀ k, k ≠ N + 1 → (w6.setCell ⟨N + 1, 0, none⟩ v').heap[k]? = w6.heap[k]? := fun k hk => Below.heap_setCell _ ⟨N + 1, 0, none⟩ _ k hk
  have hsz := hg.size
  simp at hsz
  refine ⟨?_, (hset _ (by omega)).trans (hkeep _ _ _ _ h.lb (.inl (by omega))), ?_, (hset _ (by omega)).trans (hkeep _ _ _ _ h.bb (.inl (by omega))), ?_, ⟨?_, ?_⟩, ?_⟩
  · have hb1 : Below N w W := by
      rw [hW]
      exact below_setRow ((Below.refl N w).alloc (by omega) _) (by omega) _
    have hb2 : Below N W w6 := ((Below.refl N W).alloc (by omega) _).grown hg (by simp; omega) (fun k hk => by have := (h.own.lt k hk).1; omega)
    exact ((h.bel.trans hb1).trans hb2).setCell (p := ⟨N + 1, 0, none⟩) (by show N ≤ N + 1; omega) _
  · exact Joins.block_setCell hob6 v'
  · rw [List.length_append]
    refine own_turns (e' := 59) ho (Turns.setCell hob6 0 v') (by decide)
  · rw [List.length_append, List.length_append, h.parts.1]; rfl
  · intro k x q hx hq
    rcases Nat.lt_or_ge k P.length with hk | hk
    · rw [List.getElem?_append_left (by rw [h.parts.1]; exact hk)] at hx
      rw [List.getElem?_append_left hk] at hq
      obtain ⟨g, e, hg2, hc⟩ := h.parts.2 k x q hx hq
      exact ⟨g, e, hg2, (hset _ (by omega)).trans (hkeep _ _ _ _ hc (.inr (by decide)))⟩
    · have hk2 : k = P.length := by
        have := lt_of_get hq
        rw [List.length_append] at this
        simp at this; omega
      subst hk2
      rw [List.getElem?_append_right (by rw [h.parts.1]; exact Nat.le_refl _), h.parts.1] at hx
      rw [List.getElem?_append_right (Nat.le_refl _)] at hq
      simp at hx hq
      subst hx; subst hq
      refine ⟨w.heap.size, rfl, hs, ?_⟩
      rw [hset _ (by omega), hg.block _ (by simp; omega) ?_, hAk _ (by omega)]
      · exact hWn
      · intro e
        have := h.own.lt _ e.symm
        omega
  · simp; omega
theorem split1_enter (args : Array Value) (w : World) : (callFunc 45 args).run Tryz.prog w = .ok (.enter 45 args) w := by kernel_rfl
set_option maxHeartbeats 2000000 in
set_option maxRecDepth 100000 in
theorem split1_any {N : Nat} {w0 w : World} {b o cap : Nat} {L : List Tok} {bg : Nat} {v : Value} {xs : List Value} {P : List (List Tok)} (e : Nat) (h : Spl N w0 (.slice (some ⟨b, o, none⟩) L.length cap) bg v xs P w) (hl : ToksAt w (.slice (some ⟨b, o, none⟩) L.length cap) L) (h1 : bg ≤ e) (h2 : e ≤ L.length) (h3 : bg < L.length) (hP : P.length ≤ 134217728) :
    Calls Tryz.prog 45 #[.int .i64 e, .pointer (some ⟨N + 2, 0, none⟩), .pointer (some ⟨N, 0, none⟩), .pointer (some ⟨N + 1, 0, none⟩)] w fun en w' => en = .returned (.tuple #[]) ∧ ∃ v' x, Spl N w0 (.slice (some ⟨b, o, none⟩) L.length cap) bg v' (xs ++ [x]) (P ++ [(L.take e).drop bg]) w' := by
  obtain ⟨m, rfl⟩ : ∃ m, e = bg + m := ⟨e - bg, by omega⟩
  have hcap : L.length ≤ cap ∧ L.length ≤ 134217728 := by
    obtain ⟨a', cap', e1, h4, h5, _⟩ := hl
    injection e1 with _ _ e3
    omega
  obtain ⟨W, hW⟩ : ∃ W, W = (w.alloc (.cells (madeT m) 44)).setRow w.heap.size (toksC ((L.drop bg).take m)).toArray := ⟨_, rfl⟩
  have hpl : ((L.drop bg).take m).length = m := by rw [List.length_take, List.length_drop]; omega
  have hpe : (L.take (bg + m)).drop bg = (L.drop bg).take m := by rw [List.drop_take]; congr 1; omega
  have hcopy := copy_tok hl ((Below.refl w.heap.size w).alloc (Nat.le_refl _) (.cells (madeT m) 44)) bg m w.heap.size (cap - bg) h2 (heap_alloc_new w _)
  rw [← hW] at hcopy
  have hWs : W.heap.size = w.heap.size + 1 := by rw [hW]; simp [World.setRow]
  have hbW : Below w.heap.size w W := by
    rw [hW]
    exact below_setRow ((Below.refl w.heap.size w).alloc (Nat.le_refl _) _) (Nat.le_refl _) _
  have hsz := h.size
  obtain ⟨ua, ucap, rfl⟩ := own_sl h.own
  obtain ⟨v', w6, hrun, ho, hg⟩ := append_part (N + 3) (.slice ua P.length ucap) xs P.length (.slice (some ⟨w.heap.size, 0, none⟩) m m) rfl W (own_kept h.own hbW.block) hP (by omega)
  obtain ⟨va, vcap, rfl⟩ := own_sl ho
  have HPUT := Lib.hid (h.put hpl hW ho hg)
  have hob6 := h.keep6 hpl hW hg _ _ _ _ h.ob (.inl (by omega))
  have z0 := Joins.cell_of_block hob6 0
  have z1 := Joins.unfrozen_of_block hob6 0
  simp only [List.getElem?_toArray, List.getElem?_cons_zero] at z0
  clear hob6
  have HPE := Lib.hid hpe
  have hmk := make_tok ((bg : Int) + (m : Int) - (bg : Int)) m (by omega) (by omega) w
  have c0 := Joins.cell_of_block h.lb 0
  have c1 := Joins.cell_of_block h.bb 0
  have cA0 := ((Below.refl w.heap.size w).alloc (Nat.le_refl _) (.cells (madeT m) 44)).cell (p := ⟨N, 0, none⟩) (by show N < _; omega)
  have cA1 := ((Below.refl w.heap.size w).alloc (Nat.le_refl _) (.cells (madeT m) 44)).cell (p := ⟨N + 2, 0, none⟩) (by show N + 2 < _; omega)
  have cW1 := (hbW.cell (p := ⟨N + 1, 0, none⟩) (by show N + 1 < _; omega)).trans (Joins.cell_of_block h.ob 0)
  rw [c0] at cA0
  rw [c1] at cA1
  simp only [List.getElem?_toArray, List.getElem?_cons_zero] at c0 c1 cA0 cA1 cW1
  rw [hWs] at hrun
  have HR := Lib.hid hrun
  clear h hl hW hpl hpe hbW ho hg hrun
  go_enter Tryz.func45, Tryz.ntmps45
  go_upto_region 1 with fail
  clear hmk c0 c1
  go_upto_region 2 with fail
  clear hcopy cA0 cA1
  go_wp2_with (at_builtin; refine wp_append_run rfl (.tmp 16) (.tmp 18) _ rfl _ _ _ _ rfl rfl HR.out ?_)
  have hput := HPUT.out
  rw [← HPE.out] at hput
  exact bodyPost_end (results_none rfl _ _ _) rfl ⟨rfl, _, _, hput⟩
/-- The parts that Split returns. -/
def PartsAt (w : World) (v : Value) (P : List (List Tok)) : Prop := ∃ a, v = .slice a P.length P.length ∧ (0 < P.length → ∃ g, a = some ⟨g, 0, none⟩ ∧ g < w.heap.size ∧
  ∀ k p, P[k]? = some p → ∃ h, w.cell? ⟨g, k, none⟩ = some (.slice (some ⟨h, 0, none⟩) p.length p.length) ∧ h < w.heap.size ∧ w.heap[h]? = some (.cells (toksC p).toArray 44 (0, 0)))
theorem Spl.outP {N : Nat} {w0 w : World} {lv : Value} {bg : Nat} {a : Option Addr} {cap : Nat} {xs : List Value} {P : List (List Tok)} (h : Spl N w0 lv bg (.slice a P.length cap) xs P w) : PartsAt w (.slice a P.length P.length) P := by
  refine ⟨a, rfl, fun hl => ?_⟩
  obtain ⟨g, c, e, hc, hB, hg⟩ := own_form h.own hl
  injection e with e1 e2 e3
  subst e1; subst e3
  refine ⟨g, rfl, hg, fun k p hp => ?_⟩
  have hk := lt_of_get hp
  have hkx : k < xs.length := by rw [h.parts.1]; exact hk
  obtain ⟨x, hx⟩ : ∃ x, xs[k]? = some x := ⟨_, List.getElem?_eq_getElem hkx⟩
  obtain ⟨j, ej, hj, hcell⟩ := h.parts.2 k _ p hx hp
  refine ⟨j, ?_, lt_of_block hcell, hcell⟩
  rw [← ej]
  exact own_at h.own k _ hx
theorem c_clipParts (a : Option Addr) (n cap : Nat) (hn : n ≤ cap) (w : World) :
    Calls Tryz.prog 46 #[.slice a n cap] w fun e w' => e = .returned (.slice a n n) ∧ w = w' := by
  go_enter Tryz.func46, Tryz.ntmps46
  go_wp2
  go_ret
  exact ⟨rfl, rfl⟩
set_option maxHeartbeats 4000000 in
set_option maxRecDepth 100000 in
theorem c_Split (v : Value) (L : List Tok) (w : World) (h : ToksAt w v L) : Calls Tryz.prog 21 #[v] w fun e w' => ∃ r, e = .returned r ∧ PartsAt w' r (splitF [] L) ∧ Below w.heap.size w w' := by
  obtain ⟨a, cap, rfl, hcap, hlen, hcells⟩ := h
  go_enter Tryz.func21, Tryz.ntmps21
  go_upto_region 4 with fail
  obtain ⟨W, hW⟩ : ∃ W, W = (((w.alloc (.cells #[.slice a L.length cap] 31)).alloc (.cells #[.slice none 0 0] 59)).alloc (.cells #[.int .i64 0] 3)) := ⟨_, rfl⟩
  rw [← hW]
  obtain ⟨N, hN⟩ : ∃ N, N = w.heap.size := ⟨_, rfl⟩
  have HS : Hid (Spl N w (.slice a L.length cap) 0 (.slice none 0 0) [] [] W) := by
    have hb1 : Below w.heap.size w (w.alloc (.cells #[.slice a L.length cap] 31)) := (Below.refl _ _).alloc (Nat.le_refl _) _
    have hb2 : Below (w.heap.size + 1) (w.alloc (.cells #[.slice a L.length cap] 31)) ((w.alloc (.cells #[.slice a L.length cap] 31)).alloc (.cells #[.slice none 0 0] 59)) := (Below.refl _ _).alloc (by simp) _
    have hb3 : Below (w.heap.size + 1 + 1) ((w.alloc (.cells #[.slice a L.length cap] 31)).alloc (.cells #[.slice none 0 0] 59)) W := by rw [hW]; exact (Below.refl _ _).alloc (by simp) _
    have s1 : (w.alloc (.cells #[.slice a L.length cap] 31)).heap.size = w.heap.size + 1 := by simp
    have s2 : ((w.alloc (.cells #[.slice a L.length cap] 31)).alloc (.cells #[.slice none 0 0] 59)).heap.size = w.heap.size + 1 + 1 := by simp
    have h1 := heap_alloc_new w (.cells #[.slice a L.length cap] 31)
    have h2 := heap_alloc_new (w.alloc (.cells #[.slice a L.length cap] 31)) (.cells #[.slice none 0 0] 59)
    have h3 := heap_alloc_new ((w.alloc (.cells #[.slice a L.length cap] 31)).alloc (.cells #[.slice none 0 0] 59)) (.cells #[.int .i64 0] 3)
    rw [s1] at h2
    rw [s2, ← hW] at h3
    rw [hN]
    refine ⟨(hb1.trans (hb2.mono (by omega))).trans (hb3.mono (by omega)), ?_, ?_, h3, World.ownsRow_nil _ _ _ _, ⟨rfl, fun k x p hx => by simp at hx⟩, ?_⟩
    · exact (hb3.block _ (by omega)).trans ((hb2.block _ (by omega)).trans h1)
    · exact (hb3.block _ (by omega)).trans h2
    · rw [hW]; simp
  have HC := Lib.hid hcells
  have HNN := Lib.hid hN
  rw [← hN]
  have hN1 : N + 1 + 1 = N + 2 := rfl
  rw [hN1]
  have lb0 := Joins.cell_of_block HS.out.lb 0
  simp only [List.getElem?_toArray, List.getElem?_cons_zero] at lb0
  clear hW hcells hN hN1
  have hen := split1_enter
  go_wp2_with fail
  clear lb0
  go_loopw [11] (fun i wr => ∃ (k bg : Nat) (v : Value) (xs : List Value) (P : List (List Tok)), k ≤ L.length ∧ bg ≤ k ∧ P.length ≤ k ∧ i = .int .i64 k ∧ Hid (splitF [] L = P ++ splitF ((L.take k).drop bg) (L.drop k)) ∧ Hid (Spl N w (.slice a L.length cap) bg v xs P wr)) (fun i _ => L.length - (intOf i).toNat)
  case atStart => exact ⟨0, 0, _, [], [], Nat.zero_le _, Nat.le_refl _, Nat.le_refl _, rfl, by simp [Hid], HS⟩
  case round =>
    obtain ⟨k, bg, v, xs, P, hk, hbk, hPk, rfl, HSP, HS⟩ := hrel
    have hsz := HS.out.size
    by_cases hlt : k < L.length
    · obtain ⟨b, o, rfl, hbw, hc⟩ := HC.out (by omega)
      obtain ⟨x, hget⟩ : ∃ x, L[k]? = some x := ⟨_, List.getElem?_eq_getElem hlt⟩
      obtain ⟨e0, e1, e2, e3, e4, e5⟩ := hc k _ hget
      have HSTEP : Hid (splitF ((L.take k).drop bg) (L.drop k) = if x.kind = 6 then (L.take k).drop bg :: splitF [] (L.drop (k + 1)) else splitF ((L.take (k + 1)).drop bg) (L.drop (k + 1))) := by
        show _ = _
        rw [drop_get hget]
        show (if x.kind = 6 then _ else _) = _
        congr 2
        rw [List.take_add_one, hget, List.drop_append_of_le_length (by rw [List.length_take]; omega)]
        rfl
      have HTK : Hid (ToksAt w (.slice (some ⟨b, o, none⟩) L.length cap) L) := ⟨_, _, rfl, hcap, hlen, fun _ => ⟨b, o, rfl, hbw, hc⟩⟩
      have hbN : b < N := by rw [HNN.out]; exact hbw
      obtain ⟨xk, xt, xl, xc, xf⟩ := x
      simp only at e0 e1 e2 e3 e4 e5 HSTEP
      have d0 := (HS.out.bel.cell (p := ⟨b, o + k * 5, none⟩) hbN).trans e1
      have d1 := (HS.out.bel.cell (p := ⟨b, o + k * 5 + 1, none⟩) hbN).trans e2
      have d2 := (HS.out.bel.cell (p := ⟨b, o + k * 5 + 2, none⟩) hbN).trans e3
      have d3 := (HS.out.bel.cell (p := ⟨b, o + k * 5 + 3, none⟩) hbN).trans e4
      have d4 := (HS.out.bel.cell (p := ⟨b, o + k * 5 + 4, none⟩) hbN).trans e5
      clear e1 e2 e3 e4 e5 hc hget
      go_upto_region 7 with fail
      obtain ⟨w2, hw2⟩ : ∃ w2, w2 = wr.alloc (.cells #[.int .u8 xk, .string (strL xt), .int .i64 xl, .int .i64 xc, .bool xf] 44) := ⟨_, rfl⟩
      have HN2 : Hid (w2.heap[wr.heap.size]? = some (.cells #[.int .u8 xk, .string (strL xt), .int .i64 xl, .int .i64 xc, .bool xf] 44 (0, 0))) := by
        show _ = _
        rw [hw2]
        exact heap_alloc_new _ _
      have HS2 : Hid (Spl N w (.slice (some ⟨b, o, none⟩) L.length cap) bg v xs P w2) := by
        rw [hw2]
        exact HS.out.below ((Below.refl _ _).alloc (Nat.le_refl _) _)
      obtain ⟨T, hT⟩ : ∃ T, T = wr.heap.size := ⟨_, rfl⟩
      rw [← hT] at HN2
      rw [← hw2, ← hT]
      clear hw2 hT d0 d1 d2 d3 d4 HS hsz
      have y0 := Joins.cell_of_block HN2.out 0
      simp only [List.getElem?_toArray, List.getElem?_cons_zero] at y0
      have HTK2 := Lib.hid (HTK.out.below (by rw [← HNN.out]; exact HS2.out.bel))
      by_cases h6 : xk = 6
      · subst h6
        have HCL := Lib.hid (split1_any k HS2.out HTK2.out hbk hk (by omega) (by omega))
        have HST2 : Hid (splitF [] L = (P ++ [(L.take k).drop bg]) ++ splitF ((L.take (k + 1)).drop (k + 1)) (L.drop (k + 1))) := by
          show _ = _
          have e : (L.take (k + 1)).drop (k + 1) = [] := List.drop_of_length_le (by rw [List.length_take]; omega)
          rw [HSP.out, HSTEP.out, if_pos rfl, e]
          simp
        clear HSTEP HSP
        go_upto_region 8 with fail
        clear y0
        go_upto_region 9 with (refine HCL.out.mono ?_; rintro e w3 ⟨rfl, v3, x3, hs3⟩)
        have HS3 := Lib.hid hs3
        have q0 := Joins.cell_of_block HS3.out.bb 0
        have q1 := Joins.unfrozen_of_block HS3.out.bb 0
        simp only [List.getElem?_toArray, List.getElem?_cons_zero] at q0
        clear hs3
        go_wp2_with fail
        go_roundw
        case rel => exact ⟨k + 1, k + 1, v3, xs ++ [x3], P ++ [(L.take k).drop bg], by omega, Nat.le_refl _, by simp; omega, by go_num, HST2, HS3.out.setB (k + 1)⟩
        case measure => simp [intOf]; omega
      · have HST2 : Hid (splitF [] L = P ++ splitF ((L.take (k + 1)).drop bg) (L.drop (k + 1))) := by
          show _ = _
          rw [HSP.out, HSTEP.out, if_neg h6]
        clear HSTEP HSP
        go_wp2_with fail
        go_roundw
        case rel => exact ⟨k + 1, bg, v, xs, P, by omega, by omega, by omega, by go_num, HST2, HS2⟩
        case measure => simp [intOf]; omega
    · obtain rfl : k = L.length := by omega
      have HSP2 : Hid (splitF [] L = P ++ if L.drop bg = [] then [] else [L.drop bg]) := by
        show _ = _
        rw [HSP.out, List.take_length, List.drop_length]
        rfl
      have lb0 := Joins.cell_of_block HS.out.lb 0
      have bb0 := Joins.cell_of_block HS.out.bb 0
      simp only [List.getElem?_toArray, List.getElem?_cons_zero] at lb0 bb0
      clear HSP
      by_cases hbl : bg < L.length
      · obtain ⟨b, o, rfl, hbw, hc⟩ := HC.out (by omega)
        have hTK : ToksAt w (.slice (some ⟨b, o, none⟩) L.length cap) L := ⟨_, _, rfl, hcap, hlen, fun _ => ⟨b, o, rfl, hbw, hc⟩⟩
        have HTK2 := Lib.hid (hTK.below (by rw [← HNN.out]; exact HS.out.bel))
        have HCL := Lib.hid (split1_any L.length HS.out HTK2.out (by omega) (Nat.le_refl _) hbl (by omega))
        have HF : Hid (splitF [] L = P ++ [(L.take L.length).drop bg]) := by
          show _ = _
          rw [HSP2.out, if_neg, List.take_length]
          intro e
          have := congrArg List.length e
          rw [List.length_drop] at this
          simp at this
          omega
        clear hc hTK HSP2
        go_upto_region 12 with fail
        clear bb0
        go_upto_region 13 with (refine HCL.out.mono ?_; rintro e w3 ⟨rfl, v3, x3, hs3⟩)
        have HS3 := Lib.hid hs3
        obtain ⟨ra, rcap, rfl⟩ := own_sl HS3.out.own
        have hcp := own_le HS3.out.own
        have q0 := Joins.cell_of_block HS3.out.ob 0
        simp only [List.getElem?_toArray, List.getElem?_cons_zero] at q0
        have ho := HS3.out.outP
        obtain ⟨pn, hpn⟩ : ∃ pn, (P ++ [(L.take L.length).drop bg]).length = pn := ⟨_, rfl⟩
        rw [hpn] at q0 hcp ho
        have HO := Lib.hid ho
        clear hs3 lb0 hpn ho
        go_wp2_with (go_at_call 46; refine (c_clipParts ra _ rcap hcp _).mono ?_; rintro e w' ⟨rfl, rfl⟩)
        go_returns
        refine ⟨_, rfl, ?_, by have := HS3.out.bel; rw [HNN.out] at this; exact this⟩
        rw [HF.out]
        exact HO.out
      · obtain rfl : bg = L.length := by omega
        have HF : Hid (splitF [] L = P) := by
          show _ = _
          rw [HSP2.out, if_pos (List.drop_of_length_le (by omega)), List.append_nil]
        obtain ⟨ra, rcap, rfl⟩ := own_sl HS.out.own
        have hcp := own_le HS.out.own
        have q0 := Joins.cell_of_block HS.out.ob 0
        simp only [List.getElem?_toArray, List.getElem?_cons_zero] at q0
        clear HSP2
        go_wp2_with (go_at_call 46; refine (c_clipParts ra _ rcap hcp _).mono ?_; rintro e w' ⟨rfl, rfl⟩)
        go_returns
        refine ⟨_, rfl, ?_, by have := HS.out.bel; rw [HNN.out] at this; exact this⟩
        rw [HF.out]
        exact HS.out.outP
end Go.Proofs.YtinoenkmgkiklaaGreatDoor
