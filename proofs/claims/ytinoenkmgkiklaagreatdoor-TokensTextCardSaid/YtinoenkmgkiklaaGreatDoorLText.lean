/-
  The law TokensText (columnsevenlaw03), walked.
-/
import Derived.Test.YtinoenkmgkiklaaGreatDoorLives3
import Derived.Test.YtinoenkmgkiklaaGreatDoorTxt
namespace Go.Proofs.YtinoenkmgkiklaaGreatDoor
open Go.RowKit
set_option linter.unusedVariables false
set_option linter.unusedSimpArgs false

theorem joinT_snoc : ∀ (L : List (List UInt8)) (x : List UInt8), joinT (L ++ [x]) = if L = [] then x else joinT L ++ 32 :: x
  | [], x => by simp [joinT]
  | [y], x => by simp [joinT]
  | y :: z :: L, x => by
    have := joinT_snoc (z :: L) x
    rw [if_neg (by simp)] at this
    rw [if_neg (by simp)]
    show y ++ 32 :: joinT (z :: L ++ [x]) = _
    rw [this, joinT]
    simp
theorem textT_step (L : List Tok) (k : Nat) (t : Tok) (h : L[k]? = some t) : textT (L.take (k + 1)) = (if 0 < k then textT (L.take k) ++ [32] else textT (L.take k)) ++ fmtT t.kind t.text := by
  have hk := lt_of_get h
  unfold textT
  rw [List.take_add_one, h]
  show joinT (List.map _ (L.take k ++ [t])) = _
  rw [List.map_append]
  show joinT (_ ++ [fmtT t.kind t.text]) = _
  rw [joinT_snoc]
  rcases Nat.eq_zero_or_pos k with h0 | h0
  · subst h0
    simp [joinT]
  · rw [if_pos h0, if_neg]
    · simp
    · intro e
      have := congrArg List.length e
      rw [List.length_map, List.length_take] at this
      have e0 : ([] : List (List UInt8)).length = 0 := rfl
      omega
theorem dblQ_snoc : ∀ (l : List UInt8) (c : UInt8), dblQ (l ++ [c]) = dblQ l ++ (if c.toNat = 34 then [34, 34] else [c])
  | [], c => by simp [dblQ]
  | d :: l, c => by
    rw [List.cons_append, dblQ, dblQ, dblQ_snoc l c]
    split <;> split <;> simp
theorem dblQ_take (l : List UInt8) (k : Nat) (c : UInt8) (h : l[k]? = some c) : dblQ (l.take (k + 1)) = dblQ (l.take k) ++ (if c.toNat = 34 then [34, 34] else [c]) := by
  rw [List.take_add_one, h]
  exact dblQ_snoc _ _
/-- What holds at the head of the law's loop. -/
def WantAt (L : List Tok) (k : Nat) (S : ByteArray) : Prop := S = strL (textT (L.take k)) ∧ (∀ t ∈ L.take k, t.text.length ≤ 100)
theorem WantAt.size {L : List Tok} {k : Nat} {S : ByteArray} (h : WantAt L k S) : S.size ≤ k * 203 := by
  rw [h.1, strL_size]
  have h1 := textT_len (L.take k) 100 h.2
  have h2 : (L.take k).length * (2 * 100 + 3) ≤ k * 203 := Nat.mul_le_mul (by rw [List.length_take]; omega) (Nat.le_refl _)
  omega
set_option maxHeartbeats 4000000 in
set_option maxRecDepth 100000 in
theorem l3text (v : Value) (L : List Tok) (w : World) (h : ToksAt w v L) (hn : L.length ≤ 60) (ht : ∀ t ∈ L, t.text.length ≤ 9223372036854775807) (hx : MaxLenAt w) (hg : SignsAt w) :
    Calls Tryz.prog 8 #[v] w fun e w' => e = .returned (.bool true) ∧ Below w.heap.size w w' := by
  have HML : Hid (1 < w.heap.size) := by obtain ⟨m, hm⟩ := hx; exact lt_of_cellR hm
  have HLIVE : Hid (∀ w1, Below w.heap.size w w1 → Calls Tryz.prog 10 #[] w1 fun e w' => e = .returned (.bool true) ∧ Below w.heap.size w w') := fun w1 hb =>
    (l3lives w1 (hx.bel HML.out hb) (hg.below hg.lt hb)).mono fun e w' h => ⟨h.1, hb.trans (h.2.mono hb.size)⟩
  have HTX : Hid ((∀ t ∈ L, t.text.length ≤ 100) → Calls Tryz.prog 22 #[v] w fun e w' => e = .returned (.string (strL (textT L))) ∧ Below w.heap.size w w') := fun h100 =>
    c_text v L w h (by omega) (fun t ht => by have := h100 t ht; omega) hx
  obtain ⟨a, cap, rfl, hcap, hlen, hcells⟩ := h
  have HC := Lib.hid hcells
  have HT := Lib.hid ht
  clear hx hg hcells ht
  go_enter Tryz.func8, Tryz.ntmps8
  go_wp2_with fail
  go_loopw [3, 4] (fun s i wr => ∃ (k : Nat) (S : ByteArray), k ≤ L.length ∧ i = .int .i64 k ∧ s = .string S ∧ S.size ≤ k * 203 ∧ Hid (WantAt L k S) ∧ w = wr) (fun _ i _ => L.length - (intOf i).toNat)
  case atStart => exact ⟨0, ⟨#[]⟩, Nat.zero_le _, rfl, rfl, Nat.le_refl _, ⟨by simp [textT, joinT]; rfl, by simp⟩, rfl⟩
  case round =>
    obtain ⟨k, S, hk, rfl, rfl, hSs, HW, rfl⟩ := hrel
    by_cases hlt : k < L.length
    · obtain ⟨b, o, rfl, hbw, hc⟩ := HC.out (by omega)
      obtain ⟨x, hget⟩ : ∃ x, L[k]? = some x := ⟨_, List.getElem?_eq_getElem hlt⟩
      obtain ⟨e0, d0, d1, d2, d3, d4⟩ := hc k _ hget
      have hxt := HT.out x (List.mem_of_getElem? hget)
      have HST := Lib.hid (textT_step L k x hget)
      have HTK : Hid (∀ t ∈ L.take (k + 1), t ∈ L.take k ∨ t = x) := fun t ht => by
        rw [List.take_add_one, hget] at ht
        simpa using ht
      obtain ⟨xk, xt, xl, xc, xf⟩ := x
      simp only at e0 d0 d1 hxt HST
      obtain ⟨t, htt, hts, HTS⟩ := strVar xt
      rw [← htt] at d1
      have hts2 : t.size ≤ 9223372036854775807 := by omega
      have hTD : Hid (t.data.toList = xt) := by show _ = _; rw [htt, strL_data]
      clear d2 d3 d4 hc hget htt hts hxt
      by_cases h100 : 100 < t.size
      · go_wp2_with (go_at_call 10; refine (HLIVE.out _ (Below.refl _ _)).mono ?_; rintro e w1 ⟨rfl, hb⟩)
        go_returns
        exact ⟨rfl, hb⟩
      · have hst := HTS.out
        have hsd : t.data.toList.length = t.size := (size_data t).symm
        obtain ⟨S1, hS1⟩ : ∃ S1, S1 = if 0 < k then S ++ ⟨#[32]⟩ else S := ⟨_, rfl⟩
        have hS1s : S1.size ≤ k * 203 + 1 := by
          rw [hS1]
          split
          · rw [ByteArray.size_append]; show _ + 1 ≤ _; omega
          · omega
        have hS1D : S1.data.toList = if 0 < k then textT (L.take k) ++ [32] else textT (L.take k) := by
          rw [hS1]
          split
          · rw [append_data, HW.out.1, strL_data]
          · rw [HW.out.1, strL_data]
        have HNEXT : Hid (∀ R : ByteArray, R.data.toList = S1.data.toList ++ fmtT xk t.data.toList → R.size ≤ (k + 1) * 203 ∧ WantAt L (k + 1) R) := fun R hR => by
          have hw : WantAt L (k + 1) R := by
            refine ⟨?_, fun y hy => ?_⟩
            · rw [HST.out, ← hS1D, ← hTD.out, ← hR, strL_of]
            · rcases HTK.out y hy with h1 | h1
              · exact HW.out.2 y h1
              · rw [h1]; show xt.length ≤ 100; omega
          exact ⟨hw.size, hw⟩
        go_upto_if 25 with fail
        go_cut [3] (fun s3 wx => s3 = .string S1 ∧ w = wx)
        case first =>
          clear HNEXT hS1D
          by_cases hk0 : 0 < k
          · rw [if_pos hk0] at hS1
            go_wp2
            go_meet
            exact ⟨by rw [hS1], rfl⟩
          · rw [if_neg hk0] at hS1
            go_wp2
            go_meet
            exact ⟨by rw [hS1], rfl⟩
        case rest =>
          obtain ⟨rfl, rfl⟩ := hcut
          clear hS1 hS1D HST HTK HW hTD HTS hst
          by_cases h3 : xk = 3
          · subst h3
            go_wp2_with fail
            have HSL : Hid (∀ m (hm : m < t.size), (t.extract m (m + 1)).data.toList = [t[m]] ∧ dblQ (t.data.toList.take (m + 1)) = dblQ (t.data.toList.take m) ++ (if t[m].toNat = 34 then [34, 34] else [t[m]])) := fun m hm => by
              have hc := byte_at t m hm
              refine ⟨?_, dblQ_take _ _ _ hc⟩
              rw [extract_data, List.drop_take, drop_get hc]
              simp
            go_loopw [3, 5] (fun s3 j wr => ∃ (m : Nat) (U : ByteArray), m ≤ t.size ∧ j = .int .i64 m ∧ s3 = .string U ∧ U.size ≤ k * 203 + 2 + 2 * m ∧ Hid (U.data.toList = S1.data.toList ++ 34 :: dblQ (t.data.toList.take m)) ∧ w = wr) (fun _ j _ => t.size - (intOf j).toNat)
            case atStart => exact ⟨0, _, Nat.zero_le _, rfl, rfl, by rw [ByteArray.size_append]; show _ + 1 ≤ _; omega, by show _ = _; rw [append_data]; rfl, rfl⟩
            case round =>
              obtain ⟨m, U, hm, rfl, rfl, hUs, HU, rfl⟩ := hrel
              by_cases hmt : m < t.size
              · obtain ⟨hsl, hdq⟩ := HSL.out m hmt
                have HSLm := Lib.hid hsl
                have HDQ := Lib.hid hdq
                have hss : (t.extract m (m + 1)).size = 1 := by rw [size_data, hsl]; rfl
                clear hsl hdq
                by_cases hq : t[m].toNat = 34
                · have HUE : Hid ((U ++ t.extract m (m + 1) ++ ⟨#[34]⟩).data.toList = S1.data.toList ++ 34 :: dblQ (t.data.toList.take (m + 1))) := by
                    show _ = _
                    rw [append_data, append_data, HU.out, HSLm.out, HDQ.out, if_pos hq, show t[m] = 34 from UInt8.toNat_inj.1 (by rw [hq]; rfl)]
                    simp
                  go_wp2
                  go_roundw
                  case rel => exact ⟨m + 1, _, by omega, by go_num, rfl, by rw [ByteArray.size_append, ByteArray.size_append, hss]; show _ + 1 + 1 ≤ _; omega, HUE, by first | rfl | trivial⟩
                  case measure => simp [intOf]; omega
                · have HUE : Hid ((U ++ t.extract m (m + 1)).data.toList = S1.data.toList ++ 34 :: dblQ (t.data.toList.take (m + 1))) := by
                    show _ = _
                    rw [append_data, HU.out, HSLm.out, HDQ.out, if_neg hq]
                    simp
                  go_wp2
                  go_roundw
                  case rel => exact ⟨m + 1, _, by omega, by go_num, rfl, by rw [ByteArray.size_append, hss]; omega, HUE, by first | rfl | trivial⟩
                  case measure => simp [intOf]; omega
              · have HUE : Hid ((U ++ ⟨#[34]⟩).data.toList = S1.data.toList ++ fmtT 3 t.data.toList) := by
                  show _ = _
                  obtain rfl : m = t.size := by omega
                  rw [append_data, HU.out, List.take_of_length_le (by omega)]
                  simp [fmtT]
                go_wp2
                go_roundw
                case rel => exact ⟨k + 1, _, by omega, by go_num, rfl, (HNEXT.out _ HUE.out).1, (HNEXT.out _ HUE.out).2, by first | rfl | trivial⟩
                case measure => simp [intOf]; omega
          · by_cases h6 : xk = 6
            · subst h6
              go_wp2
              go_roundw
              case rel => exact ⟨k + 1, _, by omega, by go_num, rfl, (HNEXT.out _ (by rw [append_data]; rfl)).1, (HNEXT.out _ (by rw [append_data]; rfl)).2, by first | rfl | trivial⟩
              case measure => simp [intOf]; omega
            · by_cases h7 : xk = 7
              · subst h7
                go_wp2
                go_roundw
                case rel => exact ⟨k + 1, _, by omega, by go_num, rfl, (HNEXT.out _ (by rw [append_data]; rfl)).1, (HNEXT.out _ (by rw [append_data]; rfl)).2, by first | rfl | trivial⟩
                case measure => simp [intOf]; omega
              · have HE : Hid (fmtT xk t.data.toList = t.data.toList) := by
                  show _ = _
                  unfold fmtT
                  rw [if_neg h3, if_neg h6, if_neg h7]
                rw [HE.out] at HNEXT
                go_wp2
                go_roundw
                case rel => exact ⟨k + 1, _, by omega, by go_num, rfl, (HNEXT.out _ (append_data _ _)).1, (HNEXT.out _ (append_data _ _)).2, by first | rfl | trivial⟩
                case measure => simp [intOf]; omega
    · have HKE : Hid (WantAt L L.length S) := by
        obtain rfl : k = L.length := by omega
        exact HW
      have HCT := Lib.hid (HTX.out (fun t ht => HKE.out.2 t (by rw [List.take_length]; exact ht)))
      have HSE : Hid (S = strL (textT L)) := by
        show _ = _
        have := HKE.out.1
        rw [List.take_length] at this
        exact this
      obtain ⟨T, hTT⟩ : ∃ T, T = strL (textT L) := ⟨_, rfl⟩
      rw [← hTT] at HCT HSE
      clear HTX HW HKE hTT
      obtain rfl := HSE.out
      go_wp2_with (first | (go_at_call 22; refine HCT.out.mono ?_; rintro e w1 ⟨rfl, hb⟩) | (go_at_call 10; refine (HLIVE.out _ hb).mono ?_; rintro e w2 ⟨rfl, hb2⟩))
      go_returns
      exact ⟨rfl, hb2⟩
set_option maxRecDepth 100000 in
theorem l3text_big (a : Option Addr) (n cap : Nat) (w : World) (hn : 60 < n) (hx : MaxLenAt w) (hg : SignsAt w) :
    Calls Tryz.prog 8 #[.slice a n cap] w fun e w' => e = .returned (.bool true) ∧ Below w.heap.size w w' := by
  have HLIVE := Lib.hid (l3lives w hx hg)
  clear hx hg
  go_enter Tryz.func8, Tryz.ntmps8
  go_wp2_with (go_at_call 10; refine HLIVE.out.mono ?_; rintro e w1 ⟨rfl, hb⟩)
  go_returns
  exact ⟨rfl, hb⟩
end Go.Proofs.YtinoenkmgkiklaaGreatDoor
