/-
  The contract of package tokens' format.
-/
import Derived.Test.YtpalfhfbgfnacaaGreatDoorTok7
namespace Go.Proofs.YtpalfhfbgfnacaaGreatDoor
open Go.RowKit
set_option linter.unusedVariables false
set_option linter.unusedSimpArgs false

def rep1 (l : List UInt8) : List UInt8 := Lib.replaceAll l [34] [34, 34]
theorem rep1_dbl : ∀ l : List UInt8, rep1 l = dblQ l
  | [] => rep_miss (by decide) (by decide)
  | c :: l => by
    rw [dblQ]
    by_cases hc : c.toNat = 34
    · have e : c = 34 := UInt8.toNat_inj.1 (by rw [hc]; rfl)
      subst e
      have h : Lib.index (34 :: l) [34] = (0 : Nat) := by
        unfold Lib.index
        rw [if_pos (by simp [List.isPrefixOf])]
        rfl
      rw [if_pos (by rfl), rep1, rep_hit (by decide) (by decide) h]
      show 34 :: 34 :: rep1 l = _
      rw [rep1_dbl l]
    · rw [if_neg hc, ← rep1_dbl l]
      have hne : c ≠ 34 := fun e => hc (by rw [e]; rfl)
      have hi : Lib.index (c :: l) [34] = if Lib.index l [34] == -1 then -1 else Lib.index l [34] + 1 := by
        rw [Lib.index, if_neg]
        simp only [List.isPrefixOf, Bool.and_eq_true, beq_iff_eq]
        rintro ⟨h, _⟩
        exact hne h.symm
      have hge := Lib.index_ge l [34]
      by_cases hm : Lib.index l [34] = -1
      · rw [hm] at hi
        rw [rep1, rep_miss (by decide) hi, rep1, rep_miss (by decide) hm]
      · obtain ⟨i, hi2⟩ : ∃ i : Nat, Lib.index l [34] = i := ⟨(Lib.index l [34]).toNat, by omega⟩
        rw [hi2, if_neg (by simp)] at hi
        have hi3 : Lib.index (c :: l) [34] = ((i + 1 : Nat) : Int) := by rw [hi]; omega
        rw [rep1, rep_hit (by decide) (by decide) hi3, rep1, rep_hit (by decide) (by decide) hi2]
        rw [List.take_succ_cons]
        simp [Nat.add_right_comm]
theorem dblQ_len : ∀ l : List UInt8, (dblQ l).length ≤ 2 * l.length
  | [] => by simp [dblQ]
  | c :: l => by
    have := dblQ_len l
    rw [dblQ]
    split <;> simp <;> omega
theorem fmtT_len (k : Nat) (l : List UInt8) : (fmtT k l).length ≤ 2 * l.length + 2 := by
  have := dblQ_len l
  unfold fmtT
  split
  · simp; omega
  · split
    · simp
    · split
      · simp
      · omega
set_option maxHeartbeats 2000000 in
set_option maxRecDepth 100000 in
theorem format_any (k : Nat) (l c : Int) (lf : Bool) (t : ByteArray) (hk : k < 256) (ht : t.size ≤ 134217729) (w : World) (hm : MaxLenAt w) :
    Calls Tryz.prog 66 #[.agg #[.int .u8 k, .string t, .int .i64 l, .int .i64 c, .bool lf]] w fun e w' => e = .returned (.string (strL (fmtT k t.data.toList))) ∧ Below w.heap.size w w' := by
  obtain ⟨mm, hm⟩ := hm
  have hg : 1 < w.heap.size := lt_of_cellR hm
  have HML : Hid ((w.alloc (.cells #[.int .u8 k, .string t, .int .i64 l, .int .i64 c, .bool lf] 44)).cell? ⟨1, 0, none⟩ = some (.int .i64 mm)) :=
    (((Below.refl w.heap.size w).alloc (Nat.le_refl _) _).cell (p := ⟨1, 0, none⟩) hg).trans hm
  have HB1 : Hid (Below w.heap.size w (w.alloc (.cells #[.int .u8 k, .string t, .int .i64 l, .int .i64 c, .bool lf] 44))) := (Below.refl _ _).alloc (Nat.le_refl _) _
  clear hm
  have hrs : Hid (∀ W : World, W.cell? ⟨1, 0, none⟩ = some (.int .i64 mm) → Calls Tryz.prog 94 #[.string t, .string ⟨#[34]⟩, .string ⟨#[34, 34]⟩] W fun e w' => e = .returned (.string (strL (dblQ t.data.toList))) ∧ Below W.heap.size W w') := fun W hW => by
    have hc := count_le2 t ⟨#[34]⟩
    have := Tryz.strings_ReplaceAll t ⟨#[34]⟩ ⟨#[34, 34]⟩ mm W (by omega) hW (by decide) (by show _ + _ * 2 ≤ _; omega)
    rw [← rep1_dbl]
    exact this
  have hdl : (strL (dblQ t.data.toList)).size ≤ 268435458 := by
    rw [strL_size]
    have := dblQ_len t.data.toList
    rw [← size_data] at this
    omega
  by_cases h3 : k = 3
  · subst h3
    have HE : Hid ((⟨#[34]⟩ : ByteArray) ++ strL (dblQ t.data.toList) ++ ⟨#[34]⟩ = strL (fmtT 3 t.data.toList)) := by
      show _ = _
      refine (strL_of _).symm.trans (congrArg strL ?_)
      rw [append_data, append_data, strL_data]
      rfl
    go_enter Tryz.func66, Tryz.ntmps66
    go_wp2_with (go_at_call 94; refine (hrs.out _ HML.out).mono ?_; rintro e w2 ⟨rfl, hb⟩)
    go_returns
    exact ⟨ret_eq (by rw [← HE.out]; rfl), HB1.out.trans (hb.mono HB1.out.size)⟩
  · by_cases h6 : k = 6
    · subst h6
      go_enter Tryz.func66, Tryz.ntmps66
      go_wp2
      go_returns
      exact ⟨rfl, HB1.out⟩
    · by_cases h7 : k = 7
      · subst h7
        go_enter Tryz.func66, Tryz.ntmps66
        go_wp2
        go_returns
        exact ⟨rfl, HB1.out⟩
      · have HE : Hid (t = strL (fmtT k t.data.toList)) := by
          show _ = _
          unfold fmtT
          rw [if_neg h3, if_neg h6, if_neg h7]
          rfl
        go_enter Tryz.func66, Tryz.ntmps66
        go_wp2
        go_returns
        exact ⟨ret_eq (by rw [← HE.out]; rfl), HB1.out⟩
end Go.Proofs.YtpalfhfbgfnacaaGreatDoor
