/-
  The contract of package tokens' literal.
-/
import Derived.Test.YtpalfhfbgfnacaaGreatDoorGE
import Derived.Test.YtpalfhfbgfnacaaGreatDoorGA
import Derived.Test.YtpalfhfbgfnacaaGreatDoorRead
namespace Go.Proofs.YtpalfhfbgfnacaaGreatDoor
open Go.RowKit
set_option linter.unusedVariables false
set_option linter.unusedSimpArgs false

theorem ib_n (s : ByteArray) (ix : Int) (h : Lib.indexByte s.data.toList 34 = ix) (w : World) : Calls Tryz.prog 51 #[.string s, .int .u8 34] w fun e w' => e = .returned (.int .i64 ix) ∧ w' = w := by
  rw [← h]; exact Tryz.strings_IndexByte s 34 w
theorem hp_n (s p : ByteArray) (b : Bool) (h : p.data.toList.isPrefixOf s.data.toList = b) (w : World) : Calls Tryz.prog 42 #[.string s, .string p] w fun e w' => e = .returned (.bool b) ∧ w' = w := by
  rw [← h]; exact Tryz.strings_HasPrefix s p w
theorem quote_prefix (l : List UInt8) (k : Nat) : (([34] : List UInt8).isPrefixOf (l.drop k)) = decide (l[k]? = some 34) := by
  cases h : l[k]? with
  | none =>
    have : l.length ≤ k := List.getElem?_eq_none_iff.1 h
    rw [List.drop_of_length_le this]
    simp [List.isPrefixOf]
  | some c =>
    rw [drop_get h]
    have e1 : ([34] : List UInt8).isPrefixOf (c :: l.drop (k + 1)) = (34 == c) := by simp [List.isPrefixOf]
    rw [e1, Bool.eq_iff_iff, beq_iff_eq, decide_eq_true_iff]
    exact ⟨fun h => by rw [h], fun h => by injection h with h; exact h.symm⟩
theorem count_le2 (s old : ByteArray) : Lib.countB s old ≤ s.size + 1 := by
  have := Lib.count_le s.data.toList old.data.toList
  rw [← size_data] at this
  exact this
set_option maxHeartbeats 2000000 in
set_option maxRecDepth 100000 in
theorem literal_any (s : ByteArray) (h0 : 0 < s.size) (hs : s.size ≤ 134217728) (w : World) (hm : MaxLenAt w) : Calls Tryz.prog 88 #[.string s] w fun e w' => e = .returned (rdV (litT s.data.toList)) ∧ Below w.heap.size w w' := by
  obtain ⟨mm, hm⟩ := hm
  have hg : 1 < w.heap.size := lt_of_cellR hm
  have HML : Hid ((w.alloc (.cells #[.int .u8 0, .string ⟨#[]⟩, .int .i64 0, .int .i64 0, .bool false] 44)).cell? ⟨1, 0, none⟩ = some (.int .i64 mm)) :=
    (((Below.refl w.heap.size w).alloc (Nat.le_refl _) _).cell (p := ⟨1, 0, none⟩) hg).trans hm
  clear hm
  go_enter Tryz.func88, Tryz.ntmps88
  go_wp2
  go_loop [5] (fun nn => ∃ n : Nat, 1 ≤ n ∧ n ≤ s.size ∧ nn = .int .i64 n ∧ Hid (litN (s.data.toList.drop 1) = (litN (s.data.toList.drop n)).map (· + (n - 1)))) (fun nn => s.size - (intOf nn).toNat)
  case atStart => exact ⟨1, Nat.le_refl _, h0, rfl, by show _ = _; cases litN (s.data.toList.drop 1) <;> simp⟩
  case round =>
    obtain ⟨n, h1, hn, rfl, HI⟩ := hrel
    have hss := suffix_size s n hn
    obtain ⟨ix, hix⟩ : ∃ ix, ix = Lib.indexByte (s.data.toList.drop n) 34 := ⟨_, rfl⟩
    have HIX := Lib.hid (show Lib.indexByte (s.extract n s.size).data.toList 34 = ix from by rw [hix, suffix_data])
    have hlo := Lib.indexByte_ge (s.data.toList.drop n) 34
    rw [← hix] at hlo
    by_cases hneg : ix = -1
    · have HF : Hid (litT s.data.toList = .bad 4) := lit_bad (by rw [HI.out, litN_none (by rw [← hix]; exact hneg)]; rfl)
      clear hix
      subst hneg
      go_wp2_with (go_at_call 51; refine (ib_n _ (-1) ?hq _).mono ?_; (case hq => exact HIX.out); rintro e w' ⟨rfl, rfl⟩)
      go_returns
      refine ⟨ret_eq (by rw [HF.out]; rfl), ?_⟩
      go_grown
    · obtain ⟨i, rfl⟩ : ∃ i : Nat, ix = i := ⟨ix.toNat, by omega⟩
      have hls := litN_some hix.symm
      have hil : i < s.size - n := by
        have := lt_of_get (Lib.indexByte_some hix.symm).1
        rw [List.length_drop, ← size_data] at this
        exact this
      rw [List.getElem?_drop, List.drop_drop, show n + (i + 1) = n + i + 1 from by omega, show n + (i + 2) = n + i + 2 from by omega] at hls
      obtain ⟨b, hb⟩ : ∃ b, b = decide (s.data.toList[n + i + 1]? = some 34) := ⟨_, rfl⟩
      have HB : Hid ((⟨#[34]⟩ : ByteArray).data.toList.isPrefixOf (s.extract (n + i + 1) s.size).data.toList = b) := by
        show ([34] : List UInt8).isPrefixOf _ = b
        rw [suffix_data, quote_prefix, hb]
      have hss2 := suffix_size s (n + i + 1) (by omega)
      clear hix hneg
      cases b
      · have hb2 : ¬ s.data.toList[n + i + 1]? = some 34 := by simpa using hb.symm
        rw [if_neg hb2] at hls
        have HF := Lib.hid (lit_got (l := s.data.toList) (N := n + i + 1) (by omega) (by rw [HI.out, hls]; simp; omega))
        obtain ⟨x, hx⟩ : ∃ x, x = strL (rep2 ((s.data.toList.take (n + i + 1 - 1)).drop 1)) := ⟨_, rfl⟩
        have HX := Lib.hid hx
        have HRA : Hid (∀ W : World, W.cell? ⟨1, 0, none⟩ = some (.int .i64 mm) → Calls Tryz.prog 94 #[.string (s.extract 1 (n + i)), .string ⟨#[34, 34]⟩, .string ⟨#[34]⟩] W fun e w' => e = .returned (.string x) ∧ Below W.heap.size W w') := fun W hW => by
          have hsz : (s.extract 1 (n + i)).size ≤ s.size := by rw [ByteArray.size_extract]; omega
          have hc := count_le2 (s.extract 1 (n + i)) ⟨#[34, 34]⟩
          have := Tryz.strings_ReplaceAll (s.extract 1 (n + i)) ⟨#[34, 34]⟩ ⟨#[34]⟩ mm W (by omega) hW (by decide) (by show _ + _ * 1 ≤ _; omega)
          rw [hx, show n + i + 1 - 1 = n + i from by omega, ← extract_data]
          exact this
        clear hx hls hb hb2
        have hi0 : IntKind.i64.wrap (((n + i + 1 : Nat) : Int) - 1) = ((n + i : Nat) : Int) := by
          rw [IntWalk.i64_in _ (by omega)]; omega
        go_upto_if 13 with (go_at_call 51; refine (ib_n _ i ?hq _).mono ?_; (case hq => exact HIX.out); rintro e w' ⟨rfl, rfl⟩)
        go_upto_if 23 with (go_at_call 42; refine (hp_n _ _ false ?hq _).mono ?_; (case hq => exact HB.out); rintro e w' ⟨rfl, rfl⟩)
        go_upto_region 9 with (go_at_call 94; refine (HRA.out _ HML.out).mono ?_; rintro e w2 ⟨rfl, hb⟩)
        have hb3 : Below w.heap.size w w2 := ((Below.refl _ _).alloc (Nat.le_refl _) _).trans (hb.mono (by simp))
        have HK : Hid (TokBlk w2 w.heap.size) := (hb.block w.heap.size (by simp)).trans (heap_alloc_new w _)
        have hN : w.heap.size < w2.heap.size := by have := hb.size; simp at this; omega
        clear hb HRA HML HI HIX HB
        obtain ⟨c0, c1, c2, c3, c4⟩ := HK.out.cells
        obtain ⟨f0, f1, f2, f3, f4⟩ := HK.out.free
        by_cases hx : x.toList = []
        · have hx1 : x.toList.isEmpty = true := by rw [hx]; rfl
          have HE : Hid (rep2 ((s.data.toList.take (n + i + 1 - 1)).drop 1) = []) := by
            show _ = _
            have := congrArg (fun b => b.data.toList) HX.out
            rw [ByteArray.toList_eq] at hx
            rw [strL_data] at this
            exact this.symm.trans hx
          clear hx
          go_wp2
          obtain ⟨w5, hw5, hb5, d0, d1, d2, d3, d4⟩ := HK.out.named hb3 (Nat.le_refl _) (.int .u8 0) (.string ⟨#[]⟩) (.int .i64 0) (.int .i64 0) (.bool false)
          rw [← hw5]
          clear hw5 c0 c1 c2 c3 c4 f0 f1 f2 f3 f4
          refine bodyPost_ret (by simp [results, Tryz.results88, go_sem, d0, d1, d2, d3, d4]; try rfl) rfl ?_
          exact ⟨ret_eq (by rw [HF.out, if_pos HE.out]; rfl), hb5⟩
        · have hx1 : x.toList.isEmpty = false := by
            cases hh : x.toList with
            | nil => exact absurd hh hx
            | cons c l => rfl
          have HE : Hid (¬ rep2 ((s.data.toList.take (n + i + 1 - 1)).drop 1) = []) := by
            show ¬ _ = _
            intro h2
            have := congrArg (fun b => b.data.toList) HX.out
            rw [ByteArray.toList_eq] at hx
            rw [strL_data] at this
            exact hx (this.trans h2)
          clear hx
          go_wp2
          obtain ⟨w5, hw5, hb5, d0, d1, d2, d3, d4⟩ := HK.out.named hb3 (Nat.le_refl _) (.int .u8 3) (.string x) (.int .i64 0) (.int .i64 0) (.bool false)
          rw [← hw5]
          clear hw5 c0 c1 c2 c3 c4 f0 f1 f2 f3 f4
          refine bodyPost_ret (by simp [results, Tryz.results88, go_sem, d0, d1, d2, d3, d4]; try rfl) rfl ?_
          refine ⟨ret_eq ?_, hb5⟩
          rw [HF.out, if_neg HE.out, rdV, ← HX.out]
          have e : (n : Int) + (i + 1) = ((n + i + 1 : Nat) : Int) := by omega
          rw [e]
          rfl
      · have hb2 : s.data.toList[n + i + 1]? = some 34 := by simpa using hb.symm
        rw [if_pos hb2] at hls
        have hlen : n + i + 2 ≤ s.size := by
          have := lt_of_get hb2
          rw [← size_data] at this
          omega
        have HI2 : Hid (litN (s.data.toList.drop 1) = (litN (s.data.toList.drop (n + i + 2))).map (· + (n + i + 2 - 1))) := by
          show _ = _
          rw [HI.out, hls]
          cases litN (s.data.toList.drop (n + i + 2)) with
          | none => rfl
          | some y => simp; omega
        clear hls hb hb2
        go_upto_if 13 with (go_at_call 51; refine (ib_n _ i ?hq _).mono ?_; (case hq => exact HIX.out); rintro e w' ⟨rfl, rfl⟩)
        go_upto_if 23 with (go_at_call 42; refine (hp_n _ _ true ?hq _).mono ?_; (case hq => exact HB.out); rintro e w' ⟨rfl, rfl⟩)
        go_wp2
        go_round
        case rel => exact ⟨n + i + 2, by omega, hlen, by have e : (n : Int) + (i + 1) + 1 = ((n + i + 2 : Nat) : Int) := by omega
                                                         rw [e], HI2⟩
        case measure => simp [intOf]; omega
end Go.Proofs.YtpalfhfbgfnacaaGreatDoor
