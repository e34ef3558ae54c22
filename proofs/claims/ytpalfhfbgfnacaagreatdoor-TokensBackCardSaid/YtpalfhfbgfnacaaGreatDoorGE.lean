/-
  Texts of this seat, merged: Tok5 Tok6.
-/
import Derived.Test.YtpalfhfbgfnacaaGreatDoorGB
import Derived.Test.YtpalfhfbgfnacaaGreatDoorShelf
import Derived.Shelf.Strings.SlTrimAscii
import Derived.Handy
/-
  The contract of package tokens' word.
-/
namespace Go.Proofs.YtpalfhfbgfnacaaGreatDoor
open Go.RowKit
set_option linter.unusedVariables false
set_option linter.unusedSimpArgs false

def digits11 : ByteArray := ⟨#[48, 49, 50, 51, 52, 53, 54, 55, 56, 57, 45]⟩
theorem digits_contains (c : UInt8) : (digits11.data.toList.contains c) = !(notDH c) := by
  have hlt := c.toNat_lt
  unfold notDH
  rw [Bool.not_not]
  by_cases h : 48 ≤ c.toNat ∧ c.toNat ≤ 57 ∨ c.toNat = 45
  · have h2 : c = 48 ∨ c = 49 ∨ c = 50 ∨ c = 51 ∨ c = 52 ∨ c = 53 ∨ c = 54 ∨ c = 55 ∨ c = 56 ∨ c = 57 ∨ c = 45 := by
      have : c.toNat = 48 ∨ c.toNat = 49 ∨ c.toNat = 50 ∨ c.toNat = 51 ∨ c.toNat = 52 ∨ c.toNat = 53 ∨ c.toNat = 54 ∨ c.toNat = 55 ∨ c.toNat = 56 ∨ c.toNat = 57 ∨ c.toNat = 45 := by omega
      rcases this with h | h | h | h | h | h | h | h | h | h | h
      · exact .inl (u8_eq h)
      · exact .inr (.inl (u8_eq h))
      · exact .inr (.inr (.inl (u8_eq h)))
      · exact .inr (.inr (.inr (.inl (u8_eq h))))
      · exact .inr (.inr (.inr (.inr (.inl (u8_eq h)))))
      · exact .inr (.inr (.inr (.inr (.inr (.inl (u8_eq h))))))
      · exact .inr (.inr (.inr (.inr (.inr (.inr (.inl (u8_eq h)))))))
      · exact .inr (.inr (.inr (.inr (.inr (.inr (.inr (.inl (u8_eq h))))))))
      · exact .inr (.inr (.inr (.inr (.inr (.inr (.inr (.inr (.inl (u8_eq h)))))))))
      · exact .inr (.inr (.inr (.inr (.inr (.inr (.inr (.inr (.inr (.inl (u8_eq h))))))))))
      · exact .inr (.inr (.inr (.inr (.inr (.inr (.inr (.inr (.inr (.inr (u8_eq h))))))))))
    rcases h2 with rfl | rfl | rfl | rfl | rfl | rfl | rfl | rfl | rfl | rfl | rfl <;> decide
  · have e1 : digB c = false := by
      unfold digB
      rw [Bool.and_eq_false_iff]
      simp
      omega
    have e2 : decide (c.toNat = 45) = false := by simp; omega
    rw [e1, e2]
    rw [Bool.or_self, ← Bool.not_eq_true]
    intro hc
    rw [List.contains_iff_mem] at hc
    have hc : c ∈ [48, 49, 50, 51, 52, 53, 54, 55, 56, 57, 45] := hc
    simp only [List.mem_cons, List.not_mem_nil, or_false] at hc
    rcases hc with rfl | rfl | rfl | rfl | rfl | rfl | rfl | rfl | rfl | rfl | rfl <;> exact h (by decide)
theorem dropWhile_nil_iff {α : Type} (p : α → Bool) : ∀ l : List α, l.dropWhile p = [] ↔ l.all p = true
  | [] => by simp
  | c :: l => by
    have := dropWhile_nil_iff p l
    rw [List.dropWhile_cons, List.all_cons]
    cases hp : p c
    · simp
    · simpa using this
/-- What is left of a text without digits and hyphens at its ends. -/
theorem trim_has (l : List UInt8) : (Lib.trimS l digits11.data.toList = []) ↔ l.any notDH = false := by
  have hf : (digits11.data.toList.contains ·) = fun c => !(notDH c) := funext digits_contains
  unfold Lib.trimS Lib.trimLeftS Lib.trimRightS
  rw [dropWhile_nil_iff, hf, List.all_reverse]
  constructor
  · intro h
    rw [← Bool.not_eq_true]
    intro ha
    rw [List.any_eq_true] at ha
    obtain ⟨c, hc, hp⟩ := ha
    have hs : (l.reverse.dropWhile (fun c => !notDH c)).all (fun c => !notDH c) = true := by rw [List.all_eq_true] at h ⊢; exact h
    have hn : l.reverse.dropWhile (fun c => !notDH c) = [] := by
      cases hd : l.reverse.dropWhile (fun c => !notDH c) with
      | nil => rfl
      | cons d r =>
        exfalso
        have hne : l.reverse.dropWhile (fun c => !notDH c) ≠ [] := by rw [hd]; simp
        have h1 := List.head_dropWhile_not (fun c => !notDH c) hne
        have h2 : (!notDH ((l.reverse.dropWhile (fun c => !notDH c)).head hne)) = true := List.all_eq_true.1 hs _ (List.head_mem hne)
        rw [h2] at h1; cases h1
    rw [dropWhile_nil_iff, List.all_reverse, List.all_eq_true] at hn
    have := hn c hc
    rw [hp] at this; cases this
  · intro h
    have hn : l.reverse.dropWhile (fun c => !notDH c) = [] := by
      rw [dropWhile_nil_iff, List.all_reverse, List.all_eq_true]
      intro c hc
      cases hp : notDH c
      · rfl
      · have : l.any notDH = true := List.any_eq_true.2 ⟨c, hc, hp⟩
        rw [h] at this; cases this
    rw [hn]; rfl
theorem trim_any (s : ByteArray) (hs : s.size ≤ 134217728) (w : World) :
    Calls Tryz.prog 118 #[.string s, .string ⟨#[48, 49, 50, 51, 52, 53, 54, 55, 56, 57, 45]⟩] w fun e w' => (∃ t : ByteArray, e = .returned (.string t) ∧ (t.toList = [] ↔ s.data.toList.any notDH = false)) ∧ Below w.heap.size w w' := by
  refine (Any.strings_Trim_laid Tryz.lays160 (by kernel_rfl) s digits11 w (by omega) (by decide) (ascii_of_all (by decide))).mono ?_
  rintro e w' ⟨h1, h2⟩
  refine ⟨⟨_, h1, ?_⟩, h2⟩
  rw [ByteArray.toList_eq]
  exact trim_has s.data.toList
theorem hasSuffix_one (l : List UInt8) (h : l ≠ []) : Lib.hasSuffix l [45] = decide ((l.getD (l.length - 1) 0).toNat = 45) := by
  obtain ⟨c, hc⟩ : ∃ c, l.getLast? = some c := ⟨l.getLast h, List.getLast?_eq_some_getLast h⟩
  have h1 : Lib.hasSuffix l [45] = (45 == c) := by
    unfold Lib.hasSuffix List.isSuffixOf
    have : l.reverse.head? = some c := by rw [List.head?_reverse]; exact hc
    cases hr : l.reverse with
    | nil => rw [hr] at this; cases this
    | cons d r =>
      rw [hr] at this
      injection this with this
      subst this
      simp [List.isPrefixOf]
  have h2 : l.getD (l.length - 1) 0 = c := by
    rw [List.getLast?_eq_getElem?] at hc
    simp [List.getD, hc]
  rw [h1, h2, Bool.eq_iff_iff, beq_iff_eq, decide_eq_true_iff]
  exact ⟨fun e => by rw [← e]; rfl, fun e => (u8_eq e).symm⟩
/-- A block that holds a token without anything. -/
def TokBlk (w : World) (N : Nat) : Prop := w.heap[N]? = some (.cells #[.int .u8 0, .string ⟨#[]⟩, .int .i64 0, .int .i64 0, .bool false] 44 (0, 0))
theorem TokBlk.cells {w : World} {N : Nat} (h : TokBlk w N) : w.cell? ⟨N, 0, none⟩ = some (.int .u8 0) ∧ w.cell? ⟨N, 1, none⟩ = some (.string ⟨#[]⟩) ∧ w.cell? ⟨N, 2, none⟩ = some (.int .i64 0) ∧ w.cell? ⟨N, 3, none⟩ = some (.int .i64 0) ∧ w.cell? ⟨N, 4, none⟩ = some (.bool false) :=
  ⟨Joins.cell_of_block h 0, Joins.cell_of_block h 1, Joins.cell_of_block h 2, Joins.cell_of_block h 3, Joins.cell_of_block h 4⟩
theorem TokBlk.free {w : World} {N : Nat} (h : TokBlk w N) : w.frozen? ⟨N, 0, none⟩ = false ∧ w.frozen? ⟨N, 1, none⟩ = false ∧ w.frozen? ⟨N, 2, none⟩ = false ∧ w.frozen? ⟨N, 3, none⟩ = false ∧ w.frozen? ⟨N, 4, none⟩ = false :=
  ⟨Joins.unfrozen_of_block h 0, Joins.unfrozen_of_block h 1, Joins.unfrozen_of_block h 2, Joins.unfrozen_of_block h 3, Joins.unfrozen_of_block h 4⟩
theorem TokBlk.kept {w w' : World} {N : Nat} (h : TokBlk w N) (hb : Below w.heap.size w w') : TokBlk w' N := (hb.block N (lt_of_block h)).trans h
theorem fiveSets {B N : Nat} {w w1 : World} {a b c d e : Value} (hb : Below B w w1) (hN : B ≤ N) : Below B w (((((w1.setCell ⟨N, 0, none⟩ a).setCell ⟨N, 1, none⟩ b).setCell ⟨N, 2, none⟩ c).setCell ⟨N, 3, none⟩ d).setCell ⟨N, 4, none⟩ e) :=
  ((((hb.setCell hN _).setCell hN _).setCell hN _).setCell hN _).setCell hN _
theorem TokBlk.sets {w : World} {N : Nat} (h : TokBlk w N) (a b c d e : Value) : (((((w.setCell ⟨N, 0, none⟩ a).setCell ⟨N, 1, none⟩ b).setCell ⟨N, 2, none⟩ c).setCell ⟨N, 3, none⟩ d).setCell ⟨N, 4, none⟩ e).heap[N]? = some (.cells #[a, b, c, d, e] 44 (0, 0)) := by
  have h1 := Joins.block_setCell (i := 0) h a
  have h2 := Joins.block_setCell (i := 1) h1 b
  have h3 := Joins.block_setCell (i := 2) h2 c
  have h4 := Joins.block_setCell (i := 3) h3 d
  have h5 := Joins.block_setCell (i := 4) h4 e
  exact h5
/-- A token is stored into its block: the world behind it, named. -/
theorem TokBlk.named {B : Nat} {w0 w : World} {N : Nat} (h : TokBlk w N) (hb : Below B w0 w) (hN : B ≤ N) (a b c d e : Value) :
    ∃ w', w' = (((((w.setCell ⟨N, 0, none⟩ a).setCell ⟨N, 1, none⟩ b).setCell ⟨N, 2, none⟩ c).setCell ⟨N, 3, none⟩ d).setCell ⟨N, 4, none⟩ e) ∧ Below B w0 w' ∧
      w'.cell? ⟨N, 0, none⟩ = some a ∧ w'.cell? ⟨N, 1, none⟩ = some b ∧ w'.cell? ⟨N, 2, none⟩ = some c ∧ w'.cell? ⟨N, 3, none⟩ = some d ∧ w'.cell? ⟨N, 4, none⟩ = some e := by
  have h5 := h.sets a b c d e
  exact ⟨_, rfl, fiveSets hb hN, Joins.cell_of_block h5 0, Joins.cell_of_block h5 1, Joins.cell_of_block h5 2, Joins.cell_of_block h5 3, Joins.cell_of_block h5 4⟩
theorem foldB_length (l : List UInt8) : (foldB l).length = l.length := by simp [foldB]
set_option maxHeartbeats 1000000 in
set_option maxRecDepth 100000 in
theorem word_any (s : ByteArray) (h0 : 0 < s.size) (hs : s.size ≤ 134217728) (w : World) : Calls Tryz.prog 93 #[.string s] w fun e w' => e = .returned (rdV (wordT s.data.toList)) ∧ Below w.heap.size w w' := by
  obtain ⟨f, hf⟩ : ∃ f, f = strB (foldB s.data.toList) := ⟨_, rfl⟩
  have hfd : f.data.toList = foldB s.data.toList := by rw [hf]; rfl
  have HFD := Lib.hid hfd
  have hfs : f.size = s.size := by rw [size_data, hfd, foldB_length, ← size_data]
  have HNAME : Hid (∀ W : World, Calls Tryz.prog 117 #[.string f] W fun e w' => e = .returned (.bool (isNameB (foldB s.data.toList))) ∧ W = w') := fun W => by
    have := isName_any f (by omega) W
    rw [hfd] at this
    exact this
  have HFOLD : Hid (∀ W : World, Calls Tryz.prog 112 #[.string s] W fun e w' => e = .returned (.string f) ∧ Below W.heap.size W w') := fun W => by
    rw [hf]; exact fold_any s (by omega) W
  clear hf hfd
  obtain ⟨W, hW⟩ : ∃ W, W = w.alloc (.cells #[.int .u8 0, .string ⟨#[]⟩, .int .i64 0, .int .i64 0, .bool false] 44) := ⟨_, rfl⟩
  go_enter Tryz.func93, Tryz.ntmps93
  go_upto_region 2 with (go_at_call 112; refine (HFOLD.out _).mono ?_; rintro e w1 ⟨rfl, hb1⟩)
  have hb2 : Below w.heap.size w w1 := ((Below.refl _ _).alloc (Nat.le_refl _) _).trans (hb1.mono (by simp))
  have HK : Hid (TokBlk w1 w.heap.size) := (hb1.block w.heap.size (by simp)).trans (heap_alloc_new w _)
  have hN : w.heap.size < w1.heap.size := by have := hb1.size; simp at this; omega
  clear hb1 hW
  cases hn : isNameB (foldB s.data.toList)
  · rw [hn] at HNAME
    obtain ⟨t, ht⟩ : ∃ t : Bool, t = (foldB s.data.toList).any notDH := ⟨_, rfl⟩
    have HTR : Hid (∀ W : World, Calls Tryz.prog 118 #[.string f, .string ⟨#[48, 49, 50, 51, 52, 53, 54, 55, 56, 57, 45]⟩] W fun e w' => (∃ x : ByteArray, e = .returned (.string x) ∧ x.toList.isEmpty = !t) ∧ Below W.heap.size W w') := fun W => by
      refine (trim_any f (by omega) W).mono ?_
      rintro e w' ⟨⟨x, h1, h2⟩, h3⟩
      rw [HFD.out, ← ht] at h2
      refine ⟨⟨x, h1, ?_⟩, h3⟩
      cases t
      · rw [h2.2 rfl]; rfl
      · cases hx : x.toList with
        | nil => have := h2.1 hx; cases this
        | cons c l => rfl
    obtain ⟨y, hy⟩ : ∃ y : Bool, y = decide (((foldB s.data.toList).getD (s.data.toList.length - 1) 0).toNat = 45) := ⟨_, rfl⟩
    have HSF : Hid (∀ W : World, Calls Tryz.prog 119 #[.string f, .string ⟨#[45]⟩] W fun e w' => e = .returned (.bool y) ∧ w' = W) := fun W => by
      have := Tryz.strings_HasSuffix f ⟨#[45]⟩ W (by omega)
      rw [show Lib.hasSuffix f.data.toList (⟨#[45]⟩ : ByteArray).data.toList = y from by
        rw [hy, HFD.out]
        have h := hasSuffix_one (foldB s.data.toList) (by intro e; have h5 : s.size = 0 := by rw [size_data, ← foldB_length, e]; rfl
                                                          omega)
        rw [foldB_length] at h
        exact h] at this
      exact this
    have HF : Hid (wordT s.data.toList = if 30 < s.size ∧ t = true ∧ y = false then .bad 5 else .bad 4) := by
      show _ = _
      unfold wordT
      rw [hn, ← ht, hy, ← size_data]
      simp
    clear ht hy hn
    go_upto_region 5 with (first
          | (go_at_call 117; refine (HNAME.out _).mono ?_; rintro e w' ⟨rfl, rfl⟩)
          | (go_at_call 118; refine (HTR.out _).mono ?_; rintro e w2 ⟨⟨x, rfl, hx⟩, hb⟩))
    by_cases h30 : 30 < s.size
    · cases t
      · have hx2 : (!x.toList.isEmpty) = false := by rw [hx]; rfl
        have hb3 : Below w.heap.size w w2 := hb2.trans (hb.mono (by omega))
        have HK2 : Hid (TokBlk w2 w.heap.size) := HK.out.kept hb
        have hN2 : w.heap.size < w2.heap.size := by have := hb.size; omega
        obtain ⟨c0, c1, c2, c3, c4⟩ := HK2.out.cells
        obtain ⟨f0, f1, f2, f3, f4⟩ := HK2.out.free
        clear hb
        go_wp2_with (go_at_call 119; refine (HSF.out _).mono ?_; rintro e w' ⟨rfl, rfl⟩)
        obtain ⟨w5, hw5, hb5, d0, d1, d2, d3, d4⟩ := HK2.out.named hb3 (Nat.le_refl _) (.int .u8 0) (.string ⟨#[]⟩) (.int .i64 0) (.int .i64 0) (.bool false)
        rw [← hw5]
        clear hw5 c0 c1 c2 c3 c4 f0 f1 f2 f3 f4
        refine bodyPost_ret (by simp [results, Tryz.results93, go_sem, d0, d1, d2, d3, d4]; try rfl) rfl ?_
        exact ⟨ret_eq (by rw [HF.out, if_neg (by simp)]; rfl), hb5⟩
      · have hx2 : (!x.toList.isEmpty) = true := by rw [hx]; rfl
        cases y
        · have hb3 : Below w.heap.size w w2 := hb2.trans (hb.mono (by omega))
          have HK2 : Hid (TokBlk w2 w.heap.size) := HK.out.kept hb
          have hN2 : w.heap.size < w2.heap.size := by have := hb.size; omega
          obtain ⟨c0, c1, c2, c3, c4⟩ := HK2.out.cells
          obtain ⟨f0, f1, f2, f3, f4⟩ := HK2.out.free
          clear hb
          go_wp2_with (go_at_call 119; refine (HSF.out _).mono ?_; rintro e w' ⟨rfl, rfl⟩)
          obtain ⟨w5, hw5, hb5, d0, d1, d2, d3, d4⟩ := HK2.out.named hb3 (Nat.le_refl _) (.int .u8 0) (.string ⟨#[]⟩) (.int .i64 0) (.int .i64 0) (.bool false)
          rw [← hw5]
          clear hw5 c0 c1 c2 c3 c4 f0 f1 f2 f3 f4
          refine bodyPost_ret (by simp [results, Tryz.results93, go_sem, d0, d1, d2, d3, d4]; try rfl) rfl ?_
          exact ⟨ret_eq (by rw [HF.out, if_pos ⟨h30, trivial, trivial⟩]; rfl), hb5⟩
        · have hb3 : Below w.heap.size w w2 := hb2.trans (hb.mono (by omega))
          have HK2 : Hid (TokBlk w2 w.heap.size) := HK.out.kept hb
          have hN2 : w.heap.size < w2.heap.size := by have := hb.size; omega
          obtain ⟨c0, c1, c2, c3, c4⟩ := HK2.out.cells
          obtain ⟨f0, f1, f2, f3, f4⟩ := HK2.out.free
          clear hb
          go_wp2_with (go_at_call 119; refine (HSF.out _).mono ?_; rintro e w' ⟨rfl, rfl⟩)
          obtain ⟨w5, hw5, hb5, d0, d1, d2, d3, d4⟩ := HK2.out.named hb3 (Nat.le_refl _) (.int .u8 0) (.string ⟨#[]⟩) (.int .i64 0) (.int .i64 0) (.bool false)
          rw [← hw5]
          clear hw5 c0 c1 c2 c3 c4 f0 f1 f2 f3 f4
          refine bodyPost_ret (by simp [results, Tryz.results93, go_sem, d0, d1, d2, d3, d4]; try rfl) rfl ?_
          exact ⟨ret_eq (by rw [HF.out, if_neg (by simp)]; rfl), hb5⟩
    · have hb3 : Below w.heap.size w w2 := hb2.trans (hb.mono (by omega))
      have HK2 : Hid (TokBlk w2 w.heap.size) := HK.out.kept hb
      have hN2 : w.heap.size < w2.heap.size := by have := hb.size; omega
      obtain ⟨c0, c1, c2, c3, c4⟩ := HK2.out.cells
      obtain ⟨f0, f1, f2, f3, f4⟩ := HK2.out.free
      clear hb
      go_wp2_with (go_at_call 119; refine (HSF.out _).mono ?_; rintro e w' ⟨rfl, rfl⟩)
      obtain ⟨w5, hw5, hb5, d0, d1, d2, d3, d4⟩ := HK2.out.named hb3 (Nat.le_refl _) (.int .u8 0) (.string ⟨#[]⟩) (.int .i64 0) (.int .i64 0) (.bool false)
      rw [← hw5]
      clear hw5 c0 c1 c2 c3 c4 f0 f1 f2 f3 f4
      refine bodyPost_ret (by simp [results, Tryz.results93, go_sem, d0, d1, d2, d3, d4]; try rfl) rfl ?_
      exact ⟨ret_eq (by rw [HF.out, if_neg (fun h => h30 h.1)]; rfl), hb5⟩
  · rw [hn] at HNAME
    have HN := Lib.hid hn; clear hn
    obtain ⟨c0, c1, c2, c3, c4⟩ := HK.out.cells
    obtain ⟨f0, f1, f2, f3, f4⟩ := HK.out.free
    go_wp2_with (go_at_call 117; refine (HNAME.out _).mono ?_; rintro e w' ⟨rfl, rfl⟩)
    obtain ⟨w5, hw5, hb5, d0, d1, d2, d3, d4⟩ := HK.out.named hb2 (Nat.le_refl _) (.int .u8 1) (.string f) (.int .i64 0) (.int .i64 0) (.bool false)
    rw [← hw5]
    clear hw5 c0 c1 c2 c3 c4 f0 f1 f2 f3 f4
    refine bodyPost_ret (by simp [results, Tryz.results93, go_sem, d0, d1, d2, d3, d4]; try rfl) rfl ?_
    refine ⟨ret_eq ?_, hb5⟩
    unfold wordT
    rw [if_pos HN.out, ← HFD.out, ← size_data]
    rfl
end Go.Proofs.YtpalfhfbgfnacaaGreatDoor

/-
  The contract of package tokens' picture.
-/
namespace Go.Proofs.YtpalfhfbgfnacaaGreatDoor
open Go.RowKit
set_option linter.unusedVariables false
set_option linter.unusedSimpArgs false

theorem tNotSpace_any : Tests 114 (fun c => !spcB c) := by
  refine ⟨fun args w => by kernel_rfl, ?_⟩
  intro c w
  have hlt := u8lt c
  go_enter Tryz.func114, Tryz.ntmps114
  go_wp2
  go_ret
  exact ⟨ret_bool (ne_nat _ 32), rfl⟩
theorem pt_contains (c : UInt8) : (([46, 44, 59] : List UInt8).contains c) = ptB c := by
  unfold ptB
  rw [Bool.eq_iff_iff, List.contains_iff_mem]
  simp only [List.mem_cons, List.not_mem_nil, or_false, Bool.or_eq_true, decide_eq_true_iff]
  constructor
  · rintro (rfl | rfl | rfl) <;> decide
  · rintro ((h | h) | h)
    · exact .inl (u8_eq h)
    · exact .inr (.inl (u8_eq h))
    · exact .inr (.inr (u8_eq h))
theorem trimPt_any (s : ByteArray) (hs : s.size ≤ 134217728) (w : World) :
    Calls Tryz.prog 83 #[.string s, .string ⟨#[46, 44, 59]⟩] w fun e w' => e = .returned (.string (strL (trimP s.data.toList))) ∧ Below w.heap.size w w' := by
  refine (Any.strings_TrimRight_laid Tryz.lays162 (by kernel_rfl) s ⟨#[46, 44, 59]⟩ w (by omega) (by decide) (ascii_of_all (by decide))).mono ?_
  rintro e w' ⟨h1, h2⟩
  refine ⟨h1.trans ?_, h2⟩
  have hf : (([46, 44, 59] : List UInt8).contains ·) = ptB := funext pt_contains
  have : Lib.trimRightS s.data.toList (⟨#[46, 44, 59]⟩ : ByteArray).data.toList = trimP s.data.toList := by
    show (s.data.toList.reverse.dropWhile (([46, 44, 59] : List UInt8).contains ·)).reverse = _
    rw [hf]; rfl
  rw [this]; rfl
theorem ib_any (l : List UInt8) : (0 ≤ Lib.indexByte l 34) ↔ l.any (fun c => decide (c.toNat = 34)) = true := by
  have hlo := Lib.indexByte_ge l 34
  constructor
  · intro h
    obtain ⟨o, ho⟩ : ∃ o : Nat, Lib.indexByte l 34 = o := ⟨(Lib.indexByte l 34).toNat, by omega⟩
    have := (Lib.indexByte_some ho).1
    rw [List.any_eq_true]
    exact ⟨34, List.mem_of_getElem? this, by decide⟩
  · intro h
    rw [List.any_eq_true] at h
    obtain ⟨c, hc, h2⟩ := h
    by_cases hn : 0 ≤ Lib.indexByte l 34
    · exact hn
    · exfalso
      obtain ⟨k, hk⟩ := List.getElem?_of_mem hc
      have hm := Lib.indexByte_none (show Lib.indexByte l 34 = -1 by omega) k
      rw [hk, show c = 34 from u8_eq (by simpa using h2)] at hm
      exact hm rfl
set_option maxHeartbeats 1000000 in
set_option maxRecDepth 100000 in
theorem picture_any (s : ByteArray) (hs : s.size ≤ 134217728) (w : World) : Calls Tryz.prog 87 #[.string s] w fun e w' => e = .returned (rdV (picT s.data.toList)) ∧ Below w.heap.size w w' := by
  obtain ⟨m, hm⟩ : ∃ m, m = spn (fun c => !spcB c) s.data.toList := ⟨_, rfl⟩
  have HM := Lib.hid hm.symm
  have hml : m ≤ s.size := by rw [hm, size_data]; exact spn_le _ _
  obtain ⟨a, ha⟩ : ∃ a, a = s.extract 0 m := ⟨_, rfl⟩
  have HA : Hid (s.extract 0 m = a) := ha.symm
  have had : a.data.toList = allT s.data.toList := by rw [ha, prefix_data, hm]; rfl
  have has : a.size = m := by rw [ha, ByteArray.size_extract]; omega
  obtain ⟨t, ht⟩ : ∃ t, t = strL (trimP a.data.toList) := ⟨_, rfl⟩
  have htd : t.data.toList = trimP (allT s.data.toList) := by rw [ht, had]; rfl
  have hts : t.size ≤ a.size := by rw [size_data, htd, ← had, size_data]; exact trimP_le _
  have HT : Hid (∀ W : World, Calls Tryz.prog 83 #[.string a, .string ⟨#[46, 44, 59]⟩] W fun e w' => e = .returned (.string t) ∧ Below W.heap.size W w') := fun W => by
    rw [ht]; exact trimPt_any a (by omega) W
  have HTD := Lib.hid htd
  obtain ⟨ix, hix⟩ : ∃ ix, ix = Lib.indexByte t.data.toList 34 := ⟨_, rfl⟩
  have HIX : Hid (∀ W : World, Calls Tryz.prog 51 #[.string t, .int .u8 34] W fun e w' => e = .returned (.int .i64 ix) ∧ w' = W) := fun W => by
    rw [hix]; exact Tryz.strings_IndexByte t 34 W
  have HIA : Hid (0 ≤ ix ↔ t.data.toList.any (fun c => decide (c.toNat = 34)) = true) := by rw [hix]; exact ib_any _
  have HF : Hid (picT s.data.toList = if t.size = 0 ∨ 1 < a.size - t.size ∨ 0 ≤ ix then .bad 4 else .got 4 (foldB t.data.toList) t.size) := by
    show _ = _
    unfold picT
    rw [← had, size_data t, htd, ← had, size_data a]
    have e1 : (trimP a.data.toList = []) = ((trimP a.data.toList).length = 0) := by rw [List.length_eq_zero_iff]
    have e2 : (0 ≤ ix) = ((trimP a.data.toList).any (fun c => decide (c.toNat = 34)) = true) := by
      rw [had, ← htd]; exact propext HIA.out
    exact ite_congr (by rw [e1, e2]) (fun _ => rfl) (fun _ => rfl)
  obtain ⟨f, hf⟩ : ∃ f, f = strB (foldB t.data.toList) := ⟨_, rfl⟩
  have HFD : Hid (strL (foldB t.data.toList) = f) := hf.symm
  have HFOLD : Hid (∀ W : World, Calls Tryz.prog 112 #[.string t] W fun e w' => e = .returned (.string f) ∧ Below W.heap.size W w') := fun W => by
    rw [hf]; exact fold_any t (by omega) W
  have hlo : -1 ≤ ix := by rw [hix]; exact Lib.indexByte_ge _ _
  clear hm ha had ht htd hix hf HIA
  go_enter Tryz.func87, Tryz.ntmps87
  go_upto_region 2 with (go_at_call 113; refine (span_n _ _ _ tNotSpace_any ?hz m ?hq _).mono ?_; (case hz => omega); (case hq => exact HM.out); rintro e w' ⟨rfl, rfl⟩)
  rw [HA.out]
  go_upto_region 3 with (go_at_call 83; refine (HT.out _).mono ?_; rintro e w1 ⟨rfl, hb1⟩)
  have hb2 : Below w.heap.size w w1 := ((Below.refl _ _).alloc (Nat.le_refl _) _).trans (hb1.mono (by simp))
  have HK : Hid (TokBlk w1 w.heap.size) := (hb1.block w.heap.size (by simp)).trans (heap_alloc_new w _)
  have hN : w.heap.size < w1.heap.size := by have := hb1.size; simp at this; omega
  clear hb1
  obtain ⟨c0, c1, c2, c3, c4⟩ := HK.out.cells
  obtain ⟨f0, f1, f2, f3, f4⟩ := HK.out.free
  by_cases h1 : t.size = 0
  · have h2 : t.toList.isEmpty = true := by
      rw [ByteArray.toList_eq, List.isEmpty_iff]
      exact List.eq_nil_of_length_eq_zero (by rw [← size_data]; exact h1)
    go_wp2_with (go_at_call 51; refine (HIX.out _).mono ?_; rintro e w' ⟨rfl, rfl⟩)
    obtain ⟨w5, hw5, hb5, d0, d1, d2, d3, d4⟩ := HK.out.named hb2 (Nat.le_refl _) (.int .u8 0) (.string ⟨#[]⟩) (.int .i64 0) (.int .i64 0) (.bool false)
    rw [← hw5]
    clear hw5 c0 c1 c2 c3 c4 f0 f1 f2 f3 f4
    refine bodyPost_ret (by simp [results, Tryz.results87, go_sem, d0, d1, d2, d3, d4]; try rfl) rfl ?_
    exact ⟨ret_eq (by rw [HF.out, if_pos (by omega)]; rfl), hb5⟩
  have h2 : t.toList.isEmpty = false := by
    rw [ByteArray.toList_eq]
    cases hh : t.data.toList with
    | nil => exact absurd (by rw [size_data, hh]; rfl) h1
    | cons c l => rfl
  by_cases h3 : 1 < a.size - t.size
  · go_wp2_with (go_at_call 51; refine (HIX.out _).mono ?_; rintro e w' ⟨rfl, rfl⟩)
    obtain ⟨w5, hw5, hb5, d0, d1, d2, d3, d4⟩ := HK.out.named hb2 (Nat.le_refl _) (.int .u8 0) (.string ⟨#[]⟩) (.int .i64 0) (.int .i64 0) (.bool false)
    rw [← hw5]
    clear hw5 c0 c1 c2 c3 c4 f0 f1 f2 f3 f4
    refine bodyPost_ret (by simp [results, Tryz.results87, go_sem, d0, d1, d2, d3, d4]; try rfl) rfl ?_
    exact ⟨ret_eq (by rw [HF.out, if_pos (by omega)]; rfl), hb5⟩
  by_cases h4 : 0 ≤ ix
  · go_wp2_with (go_at_call 51; refine (HIX.out _).mono ?_; rintro e w' ⟨rfl, rfl⟩)
    obtain ⟨w5, hw5, hb5, d0, d1, d2, d3, d4⟩ := HK.out.named hb2 (Nat.le_refl _) (.int .u8 0) (.string ⟨#[]⟩) (.int .i64 0) (.int .i64 0) (.bool false)
    rw [← hw5]
    clear hw5 c0 c1 c2 c3 c4 f0 f1 f2 f3 f4
    refine bodyPost_ret (by simp [results, Tryz.results87, go_sem, d0, d1, d2, d3, d4]; try rfl) rfl ?_
    exact ⟨ret_eq (by rw [HF.out, if_pos (by omega)]; rfl), hb5⟩
  go_wp2_with (first
    | (go_at_call 51; refine (HIX.out _).mono ?_; rintro e w' ⟨rfl, rfl⟩)
    | (go_at_call 112; refine (HFOLD.out _).mono ?_; rintro e w2 ⟨rfl, hb⟩; have hb3 : Below w.heap.size w w2 := hb2.trans (hb.mono (by omega)); have HK2 : Hid (TokBlk w2 w.heap.size) := HK.out.kept hb; have hN2 : w.heap.size < w2.heap.size := (by have := hb.size; omega); obtain ⟨c0, c1, c2, c3, c4⟩ := HK2.out.cells; obtain ⟨f0, f1, f2, f3, f4⟩ := HK2.out.free; clear hb))
  obtain ⟨w5, hw5, hb5, d0, d1, d2, d3, d4⟩ := HK2.out.named hb3 (Nat.le_refl _) (.int .u8 4) (.string f) (.int .i64 0) (.int .i64 0) (.bool false)
  rw [← hw5]
  clear hw5
  refine bodyPost_ret (by simp [results, Tryz.results87, go_sem, d0, d1, d2, d3, d4]; try rfl) rfl ?_
  refine ⟨ret_eq ?_, hb5⟩
  rw [HF.out, if_neg (by omega), ← HFD.out]
  rfl
end Go.Proofs.YtpalfhfbgfnacaaGreatDoor
