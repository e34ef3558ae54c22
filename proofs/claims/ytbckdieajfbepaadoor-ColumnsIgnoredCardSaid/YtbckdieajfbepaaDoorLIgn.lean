/-
  The law ColumnsIgnored (columnsevenlaw02), walked.
-/
import Derived.Test.YtbckdieajfbepaaDoorLives2
import Derived.Test.YtbckdieajfbepaaDoorIgnL
import Derived.Test.YtbckdieajfbepaaDoorLWrite
import Derived.Deep.CutBlock
import Derived.Deep.RegionHeld3
import Derived.Deep.RegionLaw
namespace Go.Proofs.YtbckdieajfbepaaDoor
open Go.RowKit
set_option linter.unusedVariables false
set_option linter.unusedSimpArgs false
attribute [local go_sem] eqFault guardFault neqFault eqlFault

/-- The lines behind i of them. -/
def outAt (edge more : List UInt8) (k : Nat) (L : List (List UInt8)) (i : Nat) : List (List UInt8) :=
  if i ≤ k then (L.take i).map (lineX edge) else (L.take k).map (lineX edge) ++ more :: ((L.take i).drop k).map (lineX edge)
theorem outAt_zero (edge more : List UInt8) (k : Nat) (L : List (List UInt8)) : outAt edge more k L 0 = [] := by simp [outAt]
theorem outAt_at (edge more : List UInt8) (k : Nat) (L : List (List UInt8)) (s : List UInt8) (h : L[k]? = some s) : outAt edge more k L k ++ [more] ++ [lineX edge s] = outAt edge more k L (k + 1) := by
  have hk : k < L.length := by
    rcases Nat.lt_or_ge k L.length with hk | hk
    · exact hk
    · rw [List.getElem?_eq_none hk] at h; cases h
  unfold outAt
  rw [if_pos (Nat.le_refl _), if_neg (by omega), List.take_succ_eq_append_getElem hk]
  rw [List.getElem?_eq_getElem hk] at h
  injection h with h
  rw [List.drop_append, List.drop_eq_nil_of_le (by simp; omega), List.length_take, Nat.min_eq_left (by omega), Nat.sub_self, h]
  simp
theorem outAt_ne (edge more : List UInt8) (k : Nat) (L : List (List UInt8)) (i : Nat) (s : List UInt8) (h : L[i]? = some s) (hne : i ≠ k) : outAt edge more k L i ++ [lineX edge s] = outAt edge more k L (i + 1) := by
  have hi : i < L.length := by
    rcases Nat.lt_or_ge i L.length with hk | hk
    · exact hk
    · rw [List.getElem?_eq_none hk] at h; cases h
  have ht : L.take (i + 1) = L.take i ++ [s] := by
    rw [List.take_succ_eq_append_getElem hi]
    rw [List.getElem?_eq_getElem hi] at h
    injection h with h
    rw [h]
  unfold outAt
  rcases Nat.lt_or_ge i k with hk | hk
  · rw [if_pos (by omega), if_pos (by omega), ht]; simp
  · rw [if_neg (by omega), if_neg (by omega), ht, List.drop_append_of_le_length (by simp; omega)]; simp
theorem outAt_done (edge more : List UInt8) (k : Nat) (L : List (List UInt8)) (hk : k < L.length) : outAt edge more k L L.length = withX edge more k L := by
  unfold outAt withX
  rw [if_neg (by omega), List.take_length]
theorem outAt_len (edge more : List UInt8) (k : Nat) (L : List (List UInt8)) (i : Nat) : (outAt edge more k L i).length ≤ L.length + 1 := by
  unfold outAt
  split
  · simp; omega
  · simp; omega
/-- Joining an owned row of strings. -/
theorem join_own {W : World} {B : Nat} {a : Option Addr} {oc : Nat} {L : List (List UInt8)} (hO : W.ownsRow B 9 1 (.slice a L.length oc) L.length (valsS L)) (h0 : 0 < L.length) (hn : L.length ≤ 1048576) (hj : (Lib.join L [10]).length ≤ 1048576) :
    Calls Tryd.prog 25 #[.slice a L.length oc, .string ⟨#[10]⟩] W fun e w' => e = .returned (.string (strL (Lib.join L [10]))) ∧ Below W.heap.size W w' := by
  have hcap := own_le hO
  obtain ⟨g, cp, e, _, _, hg⟩ := own_form hO h0
  injection e with e1 e2 e3
  subst e1
  have e4 : (L.map strL).map (·.data.toList) = L := by
    rw [List.map_map]
    have : ((fun x : ByteArray => x.data.toList) ∘ strL) = id := by funext l; exact strL_data l
    rw [this, List.map_id]
  have := Tryd.strings_Join g 0 oc (L.map strL) ⟨#[10]⟩ W (fun j y hy => by
    rw [Nat.zero_add]
    refine own_at hO j _ ?_
    unfold valsS
    rw [List.getElem?_map] at hy ⊢
    cases hd : L[j]? with
    | none => rw [hd] at hy; cases hy
    | some c => rw [hd] at hy; injection hy with hy; rw [← hy]; rfl) hg (by rw [List.length_map]; omega) (by rw [List.length_map]; omega) (by rw [e4]; show (Lib.join L [10]).length ≤ _; omega)
  rw [List.length_map, e4] at this
  exact this
theorem new_alloc {wr w5 : World} (h : Below wr.heap.size wr.drew w5) (o : Obj) : Below wr.heap.size wr (w5.alloc o) := ((Below.refl wr.heap.size wr).drew.trans h).alloc h.size o
/-- What the law compares. -/
theorem same_read {a b : List UInt8} (h : SameO (readB a false) (readB b false)) : (lread a).1 = (lread b).1 ∧ (lread a).2.1 = (lread b).2.1 ∧ ((lread a).2.1 = 0 → (lread a).2 = (0, 0, 0) ∧ (lread b).2 = (0, 0, 0)) := by
  unfold lread
  rw [readBU_true, readBU_true]
  cases h1 : readB a false with
  | inl f =>
    cases h2 : readB b false with
    | inl g =>
      rw [h1, h2] at h
      exact ⟨rfl, h, fun h0 => absurd h0 (readB_ne h1)⟩
    | inr ks => rw [h1, h2] at h; exact h.elim
  | inr ks =>
    cases h2 : readB b false with
    | inl g => rw [h1, h2] at h; exact h.elim
    | inr ks2 =>
      rw [h1, h2] at h
      refine ⟨?_, rfl, fun _ => ⟨rfl, rfl⟩⟩
      have ht : ∀ x : Kard, textK x = if (tk x).1 = true then (tk x).2 ++ [60] else (tk x).2 := fun x => rfl
      have : ks.map textK = ks2.map textK := by
        have e : ∀ l : List Kard, l.map textK = (l.map tk).map fun y => if y.1 = true then y.2 ++ [60] else y.2 := fun l => by simp [Function.comp_def, ht]
        rw [e, e, h]
      show joinK ks = joinK ks2
      unfold joinK
      rw [this]
theorem ign_join_le (text edge more : List UInt8) (k : Nat) (ht : text.length ≤ 2000) (he : edge.length ≤ 6) (hml : more.length ≤ 80) : (Lib.join (withX edge more k (piecesG [] text)) [10]).length ≤ 300000 := by
  obtain ⟨x, r, hx⟩ := withX_cons edge more k (piecesG [] text)
  have hs := withX_sum edge more he k (piecesG [] text)
  have h1 := sumN_pieces text []
  have h2 := pieces_count text []
  have hj := join_sum x r
  rw [← hx] at hj
  simp at h1
  omega
theorem edge_data (e6 sp ed s : ByteArray) (h6 : e6.data.toList = ed.data.toList ++ List.replicate 6 32) (hs : sp.data.toList = List.replicate (72 - s.data.toList.length) 32) (h2 : s.data.toList.length ≤ 72) (h7 : 7 ≤ s.data.toList.length) :
    (((e6.extract 0 6 ++ s.extract 6 s.size) ++ sp) ++ ed).data.toList = edgeL ed.data.toList s.data.toList := by
  have e1 : (e6.extract 0 6).data.toList = (ed.data.toList ++ List.replicate 6 32).take 6 := by rw [extract_data, h6, List.drop_zero]
  have e2 : (s.extract 6 s.size).data.toList = s.data.toList.drop 6 := by rw [extract_data, size_data, List.take_length]
  rw [append_data, append_data, append_data, e1, e2, hs]
  rfl
set_option maxHeartbeats 8000000 in
set_option maxRecDepth 100000 in
theorem l2ign (text edge : ByteArray) (x0 x1 : Nat) (hx0 : x0 < 256) (hx1 : x1 < 256) (ht : text.size ≤ 9223372036854775807) (hte : edge.size ≤ 9223372036854775807) (w : World) (hml : MaxLenAt w) (htab : Lib.TabBelow Tryd.prog w.heap.size w "internal/strconv.uint64pow10" .u64 Lib.pow10Tab) :
    Calls Tryd.prog 7 #[.string text, .agg #[.int .u8 x0, .int .u8 x1], .string edge] w fun e w' => e = .returned (.bool true) ∧ Below w.heap.size w w' := by
  have HLIVE : Hid (∀ w1, Below w.heap.size w w1 → Calls Tryd.prog 9 #[] w1 fun e w' => e = .returned (.bool true) ∧ Below w.heap.size w w') := fun w1 hb =>
    (l2lives w1 (hml.below hb) (tabUpW htab hb)).mono fun e w' h => ⟨h.1, hb.trans (h.2.mono hb.size)⟩
  have HMAX := Lib.hid hml
  clear htab hml
  by_cases hbig : (2000 : Int) < text.size
  · go_enter Tryd.func7, Tryd.ntmps7
    go_wp2_with fail
    refine (HLIVE.out _ (by go_grown)).mono ?_; rintro e w1 ⟨rfl, hb⟩
    go_wp2
    go_ret
    exact ⟨rfl, hb⟩
  by_cases hbig2 : (6 : Int) < edge.size
  · go_enter Tryd.func7, Tryd.ntmps7
    go_wp2_with fail
    refine (HLIVE.out _ (by go_grown)).mono ?_; rintro e w1 ⟨rfl, hb⟩
    go_wp2
    go_ret
    exact ⟨rfl, hb⟩
  have hT : text.size ≤ 2000 := by omega
  have hE : edge.size ≤ 6 := by omega
  have HTS := Lib.hid (size_data text)
  have HES := Lib.hid (size_data edge)
  clear hbig hbig2 ht hte
  obtain ⟨L, hL⟩ : ∃ L, L = piecesG [] text.data.toList := ⟨_, rfl⟩
  have HL : Hid (L = (piecesA text).map (·.data.toList)) := by show _ = _; rw [hL, piecesA_data]
  have HLG := Lib.hid hL
  obtain ⟨PL, hPL⟩ : ∃ n, n = (piecesA text).length := ⟨_, rfl⟩
  have hPLn : PL ≤ 2001 := by
    have := Lib.countB_le ⟨#[10]⟩ (by decide) text.size text (Nat.le_refl _)
    rw [hPL, piecesA_len]; omega
  have hPL0 : 0 < PL := by rw [hPL, piecesA_len]; omega
  have HPL := Lib.hid hPL
  have HLL : Hid (L.length = PL) := by show _ = _; rw [HL.out, List.length_map, hPL]
  clear hL hPL
  have hw0 : 0 < w.heap.size := by
    obtain ⟨m, hm⟩ := HMAX.out
    exact lt_of_cell hm
  obtain ⟨m0, hm0⟩ : MaxLenAt (w.alloc (.cells #[.int .u8 x0, .int .u8 x1] 52)) := HMAX.out.below (by go_grown)
  have HM0 := Lib.hid hm0
  clear hm0
  go_enter Tryd.func7, Tryd.ntmps7
  go_wp2_with fail
  refine (c_split text m0 _ HM0.out (by omega) (w.heap.size + 1) PL (by simp) HPL.out).mono ?_
  rintro e w3 ⟨rfl, hw3⟩
  have HB3 : Hid (Below w.heap.size w w3) := by show Below _ _ _; rw [hw3]; exact ((Below.refl _ _).alloc (Nat.le_refl _) _).alloc (by simp) _
  have HK3 : Hid (w3.heap[w.heap.size + 1]? = some (.cells ((piecesA text).map Value.string).toArray 9)) := by
    show _ = _
    rw [hw3]; exact alloc_at5 _ _ _ (by simp)
  have hk0 : w3.heap[w.heap.size]? = some (.cells #[.int .u8 x0, .int .u8 x1] 52 (0, 0)) := by
    rw [hw3]; exact (Below.heap_alloc _ _ _ (by simp)).trans (heap_alloc_new w _)
  have d0 : w3.cell? ⟨w.heap.size, 0, none⟩ = some (.int .u8 x0) := Joins.cell_of_block hk0 0
  have d1 : w3.cell? ⟨w.heap.size, 1, none⟩ = some (.int .u8 x1) := Joins.cell_of_block hk0 1
  have hw13 : w.heap.size + 1 < w3.heap.size := lt_of_block HK3.out
  clear hw3 hk0
  have hx0i : (0 : Int) ≤ (x0 : Int) ∧ (x0 : Int) < 256 := by omega
  have hPLi : (0 : Int) < (PL : Int) := by omega
  obtain ⟨K, hK⟩ : ∃ K, K = x0 % PL := ⟨_, rfl⟩
  have hKl : K < PL := by rw [hK]; exact Nat.mod_lt _ hPL0
  have hkk : (x0 : Int) % (PL : Int) = (K : Int) := by rw [hK]; simp
  clear hK
  obtain ⟨J, hJ⟩ : ∃ J, J = x1 % 8 := ⟨_, rfl⟩
  have hJ8 : J < 8 := by omega
  have hj1 : (x1 : Int) % 8 = (J : Int) := by omega
  have hj2 : (x1 : Int).tmod 8 = (J : Int) := by rw [Int.tmod_eq_emod_of_nonneg (by omega)]; omega
  clear hJ
  obtain ⟨t80, ht80⟩ : ∃ t, t = strL (List.replicate 80 32) := ⟨_, rfl⟩
  have HT80 := Lib.hid ht80
  clear ht80
  have hw3d : w.heap.size < w3.heap.size := by omega
  go_upto_region 5 with fail
  go_cut [8, 9] (fun s8 s9 wx => ∃ mo : ByteArray, s8 = .int .i64 K ∧ s9 = .string mo ∧ Hid (mo.data.toList = moreL J) ∧ Hid (Below w3.heap.size w3 wx))
  case first =>
    rcases (show J = 0 ∨ J = 1 ∨ J = 2 ∨ J = 3 ∨ J = 4 ∨ J = 5 ∨ J = 6 ∨ J = 7 by omega) with rfl | rfl | rfl | rfl | rfl | rfl | rfl | rfl
    all_goals
      go_region_law (go_simp; go_at_call 17; refine (l2sp 80 t80 HT80.out (by omega) _).mono ?_; rintro e w5 ⟨rfl, hb5⟩; have d5 : w5.cell? ⟨w.heap.size, 1, none⟩ = some (.int .u8 x1) := (hb5.cell (p := ⟨w.heap.size, 1, none⟩) hw3d).trans d1; have hw5 : w.heap.size < w5.heap.size := Nat.lt_of_lt_of_le hw3d hb5.size)
      all_goals
        go_wp2_with fail
        go_meet
        refine ⟨_, rfl, rfl, ?_, new_alloc hb5 _⟩
        first
          | rfl
          | (show _ = _; rw [HT80.out]; rfl)
  case rest =>
    obtain ⟨mo, rfl, rfl, HMO, HB5⟩ := hcut
    generalize wc = w5 at *
    have HBW : Hid (Below w.heap.size w w5) := HB3.out.trans (HB5.out.mono (by omega))
    have HMK := Lib.hid (moreL_ok J hJ8)
    have hw15 : w.heap.size + 1 < w5.heap.size := Nat.lt_of_lt_of_le hw13 HB5.out.size
    have hpc : ∀ W, Below w5.heap.size w5 W → ∀ k, k < PL → ∃ p : ByteArray, L[k]? = some p.data.toList ∧ W.cell? ⟨w.heap.size + 1, k, none⟩ = some (.string p) ∧ p.size ≤ 2000 := fun W hW k hk => by
      have hl : k < (piecesA text).length := by rw [← HPL.out]; exact hk
      refine ⟨(piecesA text)[k], by rw [HL.out, List.getElem?_map, List.getElem?_eq_getElem hl]; rfl, ?_, ?_⟩
      · rw [hW.cell (p := ⟨w.heap.size + 1, k, none⟩) hw15, HB5.out.cell (p := ⟨w.heap.size + 1, k, none⟩) hw13, Joins.cell_of_block HK3.out k]
        simp [List.getElem?_eq_getElem hl]
      · have hm : (piecesA text)[k].data.toList ∈ piecesG [] text.data.toList := by
          rw [← piecesA_data]; exact List.mem_map_of_mem (List.getElem_mem hl)
        have := pieces_le text.data.toList [] _ hm
        rw [← size_data, ← size_data] at this
        simp at this; omega
    have HPC := Lib.hid hpc
    obtain ⟨t6, ht6⟩ : ∃ t, t = strL (List.replicate 6 32) := ⟨_, rfl⟩
    have HT6 := Lib.hid ht6
    have ht6s : t6.size = 6 := by rw [ht6]; rfl
    have HT6S := Lib.hid ht6s
    have h66 : (6 : Int) ≤ ((edge ++ t6).size : Int) := by rw [ByteArray.size_append]; omega
    clear hpc hj1 hj2 hkk d0 d1 hx0i ht6 ht6s
    go_wp2_with fail
    go_loopw [10, 11] (fun o i wr => ∃ k : Nat, k ≤ PL ∧ i = .int .i64 k ∧ Hid (wr.ownsRow w5.heap.size 9 1 o (outAt edge.data.toList (moreL J) K L k).length (valsS (outAt edge.data.toList (moreL J) K L k))) ∧ Hid (Below w5.heap.size w5 wr)) (fun _ i _ => PL - (intOf i).toNat)
    case atStart =>
      refine ⟨0, Nat.zero_le _, rfl, ?_, Below.refl _ _⟩
      show World.ownsRow _ _ _ _ _ _ _
      rw [outAt_zero]; exact World.ownsRow_nil _ _ _ _
    case round =>
      obtain ⟨k, hk, rfl, HO, HB⟩ := hrel
      by_cases hlt : k < PL
      · obtain ⟨p, hp, hpcell, hps⟩ := HPC.out wr HB.out k hlt
        have hol := outAt_len edge.data.toList (moreL J) K L k
        rw [HLL.out] at hol
        have HP := Lib.hid hp
        clear hp
        go_upto_if 49 with fail
        go_cut [10] (fun o wx => ∃ R : List (List UInt8), Hid (wx.ownsRow w5.heap.size 9 1 o R.length (valsS R)) ∧ Hid (R ++ [lineX edge.data.toList p.data.toList] = outAt edge.data.toList (moreL J) K L (k + 1)) ∧ Hid (Below w5.heap.size w5 wx) ∧ R.length ≤ 2003)
        case first =>
          by_cases hkK : k = K
          · subst hkK
            obtain ⟨v', w', hr, ho', hb', hbs'⟩ := append_str w5.heap.size _ (outAt edge.data.toList (moreL J) k L k) mo (moreL J) HMO.out wr HO.out (by omega) HB.out.size
            have HR := Lib.hid hr; have HO' := Lib.hid ho'; have HB' := Lib.hid (HB.out.trans hb')
            clear hr ho' hb'
            go_wp2_with (at_builtin; refine wp_append_run rfl (.tmp 50) (.tmp 52) _ rfl _ _ _ _ rfl rfl HR.out ?_)
            go_meet
            exact ⟨_, HO', outAt_at _ _ _ _ _ HP.out, HB', by rw [List.length_append]; simp; omega⟩
          · have hq : ((k : Int) == (K : Int)) = false := by simp; omega
            have HKN : Hid (k ≠ K) := hkK
            clear hkK
            go_wp2
            go_meet
            exact ⟨_, HO, outAt_ne _ _ _ _ _ _ HP.out HKN.out, HB, by omega⟩
        case rest =>
          obtain ⟨R, HO2, HR2, HB2, hRl⟩ := hcut
          clear HO HB hpcell
          generalize wc = w6 at *
          obtain ⟨p2, hp2, hpcell, _⟩ := HPC.out w6 HB2.out k hlt
          have hpp : p2 = p := by
            rw [HP.out] at hp2
            injection hp2 with hp2
            exact str_ext hp2.symm
          subst hpp
          obtain ⟨cx, hcx⟩ : ∃ cx, cx = canX edge.data.toList p2.data.toList := ⟨_, rfl⟩
          have HCX := Lib.hid hcx
          have HPS := Lib.hid (size_data p2)
          clear hp2 hcx
          obtain ⟨oa, oc, rfl⟩ := own_sl HO2.out
          go_upto_region 13 with fail
          go_cut [12, 74] (fun s12 s74 wx => s12 = .string p2 ∧ s74 = .bool cx ∧ wx = w6)
          case first =>
            by_cases c7 : (7 : Int) ≤ (p2.size : Int)
            · by_cases c72 : (p2.size : Int) ≤ 72
              · have c6 : (6 : Int) ≤ (p2.size : Int) := by omega
                have HPL1 : Hid (∀ W : World, Calls Tryd.prog 23 #[.string (p2.extract 0 6)] W fun e w' => e = .returned (.bool (printB (p2.data.toList.take 6))) ∧ W = w') := fun W => by
                  have := l2plain (p2.extract 0 6) (by rw [ByteArray.size_extract]; omega) W
                  rw [extract_data, List.drop_zero] at this
                  exact this
                cases hb1 : printB (p2.data.toList.take 6)
                · have HF : Hid (cx = false) := by show _ = _; rw [HCX.out]; unfold canX; rw [show plainB (p2.data.toList.take 6) = false from hb1]; simp
                  rw [hb1] at HPL1
                  clear hb1
                  go_wp2_with fail
                  refine (HPL1.out _).mono ?_; rintro e w' ⟨rfl, rfl⟩
                  go_wp2_with fail
                  go_meet
                  exact ⟨rfl, by rw [HF.out], rfl⟩
                · rw [hb1] at HPL1
                  have HF : Hid (cx = printB edge.data.toList) := by
                    show _ = _; rw [HCX.out]; unfold canX; rw [show plainB (p2.data.toList.take 6) = true from hb1, decide_eq_true (by rw [← HPS.out]; omega), decide_eq_true (by rw [← HPS.out]; omega)]; rfl
                  clear hb1
                  go_wp2_with fail
                  refine (HPL1.out _).mono ?_; rintro e w' ⟨rfl, rfl⟩
                  go_wp2_with fail
                  refine (l2plain edge (by omega) _).mono ?_; rintro e w' ⟨rfl, rfl⟩
                  rw [← HF.out]
                  go_wp2_with fail
                  go_meet
                  exact ⟨rfl, rfl, rfl⟩
              · have HF : Hid (cx = false) := by show _ = _; rw [HCX.out]; unfold canX; rw [decide_eq_false (p := p2.data.toList.length ≤ 72) (by rw [← HPS.out]; omega)]; simp
                go_wp2_with fail
                go_meet
                exact ⟨rfl, by rw [HF.out], rfl⟩
            · have HF : Hid (cx = false) := by show _ = _; rw [HCX.out]; unfold canX; rw [decide_eq_false (p := 7 ≤ p2.data.toList.length) (by rw [← HPS.out]; omega)]; simp
              go_wp2_with fail
              go_meet
              exact ⟨rfl, by rw [HF.out], rfl⟩
          case rest =>
            obtain ⟨rfl, rfl, rfl⟩ := hcut
            generalize wc = w6 at *
            go_upto_if 74 with fail
            go_cut [12] (fun s12 wx => ∃ u : ByteArray, s12 = .string u ∧ Hid (u.data.toList = lineX edge.data.toList p2.data.toList) ∧ Hid (Below w6.heap.size w6 wx))
            case first =>
              cases cx
              · have HF : Hid (p2.data.toList = lineX edge.data.toList p2.data.toList) := by
                  show _ = _; unfold lineX; rw [← HCX.out, if_neg (by decide)]
                go_wp2_with fail
                go_meet
                exact ⟨_, rfl, HF, Below.refl _ _⟩
              · have hcc : 7 ≤ p2.size ∧ p2.size ≤ 72 := by
                  have := HCX.out
                  unfold canX at this
                  have h2 := this.symm
                  simp only [Bool.and_eq_true, decide_eq_true_eq] at h2
                  rw [HPS.out]; exact h2.1.1
                obtain ⟨tq, htq⟩ : ∃ t, t = strL (List.replicate (72 - p2.size) 32) := ⟨_, rfl⟩
                have HTQ := Lib.hid htq
                have HF : Hid (((((edge ++ t6).extract 0 6 ++ p2.extract 6 p2.size) ++ tq) ++ edge).data.toList = lineX edge.data.toList p2.data.toList) := by
                  show _ = _
                  unfold lineX
                  rw [← HCX.out, if_pos rfl]
                  refine edge_data _ _ _ _ (by rw [append_data, HT6.out]; rfl) ?_ (by rw [← HPS.out]; omega) (by rw [← HPS.out]; omega)
                  rw [HTQ.out, ← HPS.out]; rfl
                clear htq
                have hwq : IntKind.i64.wrap (72 - (p2.size : Int)) = ((72 - p2.size : Nat) : Int) := by rw [IntWalk.i64_in _ (by omega)]; omega
                have hq72 : 72 - p2.size ≤ 1048576 := by omega
                have hp6 : (6 : Int) ≤ (p2.size : Int) := by omega
                have HSP6 : Hid (∀ W : World, Calls Tryd.prog 17 #[.int .i64 6] W fun e w' => e = .returned (.string t6) ∧ Below W.heap.size W w') := fun W => l2sp 6 t6 HT6.out (by omega) W
                have HSPQ : Hid (∀ W : World, Calls Tryd.prog 17 #[.int .i64 ((72 - p2.size : Nat) : Int)] W fun e w' => e = .returned (.string tq) ∧ Below W.heap.size W w') := fun W => l2sp (72 - p2.size) tq HTQ.out (by omega) W
                have ht6s := HT6S.out
                have htqs : tq.size = 72 - p2.size := by rw [HTQ.out]; simp [strL_size]
                have hcat1 : ¬ 9223372036854775807 < edge.size + 6 := by omega
                have hcat2 : (6 : Int) ≤ (edge.size : Int) + 6 := by omega
                have hcat3 : ¬ 9223372036854775807 < 6 + (p2.size - 6) := by omega
                have hcat4 : ¬ 9223372036854775807 < 6 + (p2.size - 6) + (72 - p2.size) := by omega
                have hcat5 : ¬ 9223372036854775807 < 6 + (p2.size - 6) + (72 - p2.size) + edge.size := by omega
                go_wp2_with fail
                go_region_law (first
                  | (go_simp; go_at_call 17; ((with_reducible refine (HSP6.out _).mono ?_); rintro e w8 ⟨rfl, hb8⟩; have H8 := Lib.hid hb8; clear hb8))
                  | (go_simp; go_at_call 17; ((with_reducible refine (HSPQ.out _).mono ?_); rintro e w9 ⟨rfl, hb9⟩; have H9 := Lib.hid hb9; clear hb9)))
                all_goals
                  go_wp2_with fail
                  go_meet
                  exact ⟨_, rfl, HF, ((Below.refl w6.heap.size w6).drew.trans H8.out).trans (H9.out.mono H8.out.size)⟩
            case rest =>
              obtain ⟨u, rfl, HU, HB6⟩ := hcut
              generalize wc = w7 at *
              have HO7 := Lib.hid (own_kept HO2.out HB6.out.block)
              obtain ⟨v', w', hr, ho', hb', hbs'⟩ := append_str w5.heap.size _ R u _ HU.out w7 HO7.out (by omega) (Nat.le_trans HB2.out.size HB6.out.size)
              rw [HR2.out] at ho'
              have HR := Lib.hid hr; have HO' := Lib.hid ho'; have HB' := Lib.hid ((HB2.out.trans (HB6.out.mono HB2.out.size)).trans hb')
              clear hr ho' hb'
              go_wp2_with (at_builtin; refine wp_append_run rfl (.tmp 89) (.tmp 91) _ rfl _ _ _ _ rfl rfl HR.out ?_)
              go_roundw
              case rel => exact ⟨k + 1, by omega, by go_num, HO', HB'⟩
              case measure => simp [intOf]; omega
      · obtain rfl : k = PL := by omega
        have hO2 := HO.out
        rw [← HLL.out, outAt_done _ _ _ _ (by rw [HLL.out]; exact hKl)] at hO2
        have HO2 := Lib.hid hO2
        clear hO2
        obtain ⟨oa, oc, rfl⟩ := own_sl HO2.out
        have hmk := HMK.out
        have hsame := ign_same text.data.toList edge.data.toList (moreL J) K (by rw [← HTS.out]; exact hT) (by rw [← HES.out]; exact hE) hmk.1 hmk.2.1 hmk.2.2
        have hjl := ign_join_le text.data.toList edge.data.toList (moreL J) K (by rw [← HTS.out]; exact hT) (by rw [← HES.out]; exact hE) hmk.2.2
        rw [← HLG.out] at hsame hjl
        have hwl : 0 < (withX edge.data.toList (moreL J) K L).length ∧ (withX edge.data.toList (moreL J) K L).length ≤ 2003 := by
          have h1 := outAt_len edge.data.toList (moreL J) K L L.length
          rw [outAt_done _ _ _ _ (by rw [HLL.out]; exact hKl), HLL.out] at h1
          refine ⟨?_, by omega⟩
          unfold withX
          rw [List.length_append, List.length_cons]; omega
        obtain ⟨S, hS⟩ : ∃ S, S = strL (Lib.join (withX edge.data.toList (moreL J) K L) [10]) := ⟨_, rfl⟩
        have HJN : Hid (∀ W, Below wr.heap.size wr W → Calls Tryd.prog 25 #[.slice oa (withX edge.data.toList (moreL J) K L).length oc, .string ⟨#[10]⟩] W fun e w' => e = .returned (.string S) ∧ Below W.heap.size W w') := fun W hW => by
          rw [hS]
          exact join_own (own_kept HO2.out hW.block) hwl.1 (by omega) (by omega)
        have hSs : S.size ≤ 300000 := by rw [hS, strL_size]; exact hjl
        have HSD : Hid (S.data.toList = Lib.join (withX edge.data.toList (moreL J) K L) [10]) := by show _ = _; rw [hS]; rfl
        obtain ⟨n, hn⟩ : ∃ n, n = (withX edge.data.toList (moreL J) K L).length := ⟨_, rfl⟩
        rw [← hn] at HJN
        rw [← hn]
        obtain ⟨e1, e2, e3⟩ := same_read hsame
        obtain ⟨A, hA⟩ : ∃ A, A = strL (lread text.data.toList).1 := ⟨_, rfl⟩
        rcases hr1 : (lread text.data.toList).2 with ⟨f0, f1, f2⟩
        rcases hr2 : (lread (Lib.join (withX edge.data.toList (moreL J) K L) [10])).2 with ⟨g0, g1, g2⟩
        rw [hr1, hr2] at e2 e3
        simp only [] at e2 e3
        subst e2
        have HR1 : Hid (∀ W, Below w5.heap.size w5 W → Calls Tryd.prog 24 #[.string text] W fun e w' => e = .returned (.tuple #[.string A, .agg #[.int .i64 f0, .int .i64 f1, .int .i64 f2]]) ∧ Below W.heap.size W w') := fun W hW => by
          refine (l2read text (by omega) W (HMAX.out.below (HBW.out.trans (hW.mono HBW.out.size)))).mono ?_
          rintro e w' ⟨hb, he⟩
          rw [hr1, ← hA] at he
          exact ⟨he, hb⟩
        have HR2 : Hid (∀ W, Below w5.heap.size w5 W → Calls Tryd.prog 24 #[.string S] W fun e w' => e = .returned (.tuple #[.string A, .agg #[.int .i64 f0, .int .i64 g1, .int .i64 g2]]) ∧ Below W.heap.size W w') := fun W hW => by
          refine (l2read S hSs W (HMAX.out.below (HBW.out.trans (hW.mono HBW.out.size)))).mono ?_
          rintro e w' ⟨hb, he⟩
          rw [HSD.out, hr2, ← e1, ← hA] at he
          exact ⟨he, hb⟩
        have HE3 := Lib.hid e3
        clear hsame hjl hwl hS hSs e1 e3 hA hr1 hr2 HO hmk hn
        go_wp2_with fail
        refine (HR1.out _ HB.out).mono ?_; rintro e w6 ⟨rfl, hb6⟩
        have HB6 : Hid (Below w5.heap.size w5 w6) := HB.out.trans (hb6.mono HB.out.size)
        have HBR6 : Hid (Below wr.heap.size wr w6) := hb6
        clear hb6
        go_wp2_with fail
        refine (HJN.out _ (HBR6.out.alloc HBR6.out.size _)).mono ?_; rintro e w7 ⟨rfl, hb7⟩
        have k7 : w7.heap[w6.heap.size]? = some (.cells #[.int .i64 f0, .int .i64 f1, .int .i64 f2] 28 (0, 0)) := (hb7.block w6.heap.size (by simp)).trans (heap_alloc_new w6 _)
        have HB7 : Hid (Below w5.heap.size w5 w7) := (HB6.out.alloc HB6.out.size _).trans (hb7.mono (by have := HB6.out.size; simp; omega))
        have HK7 := Lib.hid k7
        clear hb7 k7
        go_wp2_with fail
        refine (HR2.out _ HB7.out).mono ?_; rintro e w8 ⟨rfl, hb8⟩
        have k8 : w8.heap[w6.heap.size]? = some (.cells #[.int .i64 f0, .int .i64 f1, .int .i64 f2] 28 (0, 0)) := (hb8.block _ (lt_of_block HK7.out)).trans HK7.out
        have HB8 : Hid (Below w.heap.size w w8) := HBW.out.trans ((HB7.out.trans (hb8.mono HB7.out.size)).mono HBW.out.size)
        obtain ⟨y0, y1, y2⟩ := fcells k8
        have hl8 := lt_of_block k8
        clear hb8 k8
        by_cases h0 : f0 = 0
        · obtain ⟨h1, h2⟩ := HE3.out h0
          injection h1 with _ h1; injection h1 with h11 h12
          injection h2 with _ h2; injection h2 with h21 h22
          subst h0; subst h11; subst h12; subst h21; subst h22
          go_wp2_with fail
          refine (HLIVE.out _ (HB8.out.alloc HB8.out.size _)).mono ?_; rintro e w9 ⟨rfl, hb⟩
          go_wp2
          go_ret
          exact ⟨rfl, hb⟩
        · have hq : ((f0 : Int) != 0) = true := by simp; omega
          clear h0
          go_wp2_with fail
          refine (HLIVE.out _ (HB8.out.alloc HB8.out.size _)).mono ?_; rintro e w9 ⟨rfl, hb⟩
          go_wp2
          go_ret
          exact ⟨rfl, hb⟩
end Go.Proofs.YtbckdieajfbepaaDoor
