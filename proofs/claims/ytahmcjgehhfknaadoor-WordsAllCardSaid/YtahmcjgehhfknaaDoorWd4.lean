/-
  The parts of a number's text (words.numeral): digits, picture, bytes; divide.
-/
import Derived.Test.YtahmcjgehhfknaaDoorWd1
import Derived.Test.YtahmcjgehhfknaaDoorShelf
import Derived.Test.YtahmcjgehhfknaaDoorFold
import Derived.Lib.ConvBytes
import Derived.Lib.SmallJoins
import Derived.Lib.Strings
import Derived.Lib.IndexMore
namespace Go.Proofs.YtahmcjgehhfknaaDoor
open Go.RowKit
set_option linter.unusedVariables false
set_option linter.unusedSimpArgs false

theorem repeat_one (c : UInt8) : ∀ n, Lib.repeatL [c] n = List.replicate n c
  | 0 => rfl
  | n + 1 => by simp [Lib.repeatL, repeat_one c n, List.replicate_succ]
theorem strB_app (a b : List UInt8) : strB a ++ strB b = strB (a ++ b) := by
  unfold strB
  apply ByteArray.ext
  simp
theorem strB_eta (s : ByteArray) : s = strB s.data.toList := rfl
def MaxLenAt (w : World) : Prop := ∃ m, w.cell? ⟨2, 0, none⟩ = some (.int .i64 m)
theorem MaxLenAt.below {w W : World} (h : MaxLenAt w) (hb : Below w.heap.size w W) : MaxLenAt W := by
  obtain ⟨m, hm⟩ := h; exact ⟨m, (hb.cell (World.block_lt_of_cell? _ _ hm)).trans hm⟩

def picB (sg wh fr : List UInt8) : List UInt8 :=
  (if sg = [] then [] else [83]) ++ List.replicate wh.length 57 ++ (if fr = [] then [] else 86 :: List.replicate fr.length 57)

theorem c_rep (ch : UInt8) (n : Nat) (hn : n ≤ 1000000) (w : World) : Calls Tryd.prog 16 #[.string ⟨#[ch]⟩, .int .i64 n] w fun e w' => e = .returned (.string (strB (List.replicate n ch))) ∧ Below w.heap.size w w' := by
  refine (Tryd.strings_Repeat ⟨#[ch]⟩ n w (by omega) (by show 1 * n ≤ _; omega)).mono ?_
  rintro e w' ⟨rfl, hb⟩
  exact ⟨by show Ending.returned (.string (⟨(Lib.repeatL [ch] n).toArray⟩ : ByteArray)) = _; rw [repeat_one]; rfl, hb⟩
set_option maxRecDepth 100000 in
theorem c_digits (a b c : ByteArray) (hb : b.size ≤ 1000000) (hc : c.size ≤ 1000000) (w : World) : Calls Tryd.prog 50 #[.agg #[.string a, .string b, .string c]] w fun e w' =>
    e = .returned (.string (b ++ c)) ∧ Below w.heap.size w w' := by
  have h1 : ¬ 9223372036854775807 < b.size + c.size := by omega
  go_enter Tryd.func50, Tryd.ntmps50
  go_wp2
  go_ret
  exact ⟨rfl, (Below.refl _ w).alloc (Nat.le_refl _) _⟩

theorem box3 {w W : World} {a b c : Value} {t : TypeId} (h : Below (w.alloc (.cells #[a, b, c] t)).heap.size (w.alloc (.cells #[a, b, c] t)) W) :
    W.cell? ⟨w.heap.size, 0, none⟩ = some a ∧ W.cell? ⟨w.heap.size, 1, none⟩ = some b ∧ W.cell? ⟨w.heap.size, 2, none⟩ = some c := by
  have hb : W.heap[w.heap.size]? = some (.cells #[a, b, c] t (0, 0)) := (h.block w.heap.size (by simp)).trans ((MapKept.heap_alloc w _).1)
  exact ⟨Joins.cell_of_block hb 0, Joins.cell_of_block hb 1, Joins.cell_of_block hb 2⟩
theorem emp_cases (a : ByteArray) : (a.data.toList = [] ∧ a.toList = []) ∨ (a.data.toList ≠ [] ∧ a.toList.isEmpty = false) := by
  rw [ByteArray.toList_eq a]
  cases h : a.data.toList with
  | nil => exact .inl ⟨rfl, rfl⟩
  | cons x l => exact .inr ⟨by simp, rfl⟩
theorem retS' {a b : ByteArray} (h : a = b) : Ending.returned (.string a) = .returned (.string b) := by rw [h]
set_option maxRecDepth 100000 in
set_option maxHeartbeats 2000000 in
theorem c_picture (a b c : ByteArray) (hb : b.size ≤ 1000000) (hc : c.size ≤ 1000000) (w : World) : Calls Tryd.prog 52 #[.agg #[.string a, .string b, .string c]] w fun e w' =>
    e = .returned (.string (strB (picB a.data.toList b.data.toList c.data.toList))) ∧ Below w.heap.size w w' := by
  have hA : a.toList = a.data.toList := ByteArray.toList_eq a
  have hC : c.toList = c.data.toList := ByteArray.toList_eq c
  have hB : b.data.toList.length = b.size := (Lib.size_eq b).symm
  have hCl : c.data.toList.length = c.size := (Lib.size_eq c).symm
  rcases emp_cases a with h1 | h1 <;> rcases emp_cases c with h2 | h2
  all_goals
    have H1 := Lib.hid h1.1
    have H2 := Lib.hid h2.1
    have h1 := h1.2
    have h2 := h2.2
    have HBL := Lib.hid hB
    have HCL := Lib.hid hCl
    clear hA hC hB hCl
    obtain ⟨R, hR⟩ : ∃ R, R = strB (picB a.data.toList b.data.toList c.data.toList) := ⟨_, rfl⟩
    rw [← hR]
    have HR := Lib.hid hR
    clear hR
    go_enter Tryd.func52, Tryd.ntmps52
    go_wp2_with fail
    refine (c_rep 57 _ (by omega) _).mono ?_
    rintro e w1 ⟨rfl, hb1⟩
    obtain ⟨d0, d1, d2⟩ := box3 hb1
    have HB := Lib.hid (((Below.refl _ w).alloc (Nat.le_refl _) _).trans (hb1.mono (by simp)))
    clear hb1
    obtain ⟨r1, hr1⟩ : ∃ r, r = strB (List.replicate b.size 57) := ⟨_, rfl⟩
    rw [← hr1]
    have hs1 : r1.size ≤ 1000000 := by rw [hr1, strB_size, List.length_replicate]; omega
    have HR1 := Lib.hid hr1
    clear hr1
    go_wp2_with (go_at_call 16; refine (c_rep 57 _ (by omega) _).mono ?_; rintro e w2 ⟨rfl, hb2⟩; obtain ⟨r2, hr2⟩ : ∃ r, r = strB (List.replicate c.size 57) := ⟨_, rfl⟩; rw [← hr2]; have hs2 : r2.size ≤ 1000000 := (by rw [hr2, strB_size, List.length_replicate]; omega); have HR2 := Lib.hid hr2; clear hr2)
  · go_ret
    exact ⟨retS' (by rw [HR.out, HR1.out]; unfold picB; rw [if_pos H1.out, if_pos H2.out, HBL.out, List.nil_append, List.append_nil]), HB.out⟩
  · go_ret
    exact ⟨retS' (by rw [HR.out, HR1.out, HR2.out, show (⟨#[86]⟩ : ByteArray) = strB [86] from rfl, strB_app, strB_app]; unfold picB; rw [if_pos H1.out, if_neg H2.out, HBL.out, HCL.out, List.nil_append]; rfl), HB.out.trans (hb2.mono HB.out.size)⟩
  · go_ret
    exact ⟨retS' (by rw [HR.out, HR1.out, show (⟨#[83]⟩ : ByteArray) = strB [83] from rfl, strB_app]; unfold picB; rw [if_neg H1.out, if_pos H2.out, HBL.out, List.append_nil]), HB.out⟩
  · go_ret
    exact ⟨retS' (by rw [HR.out, HR1.out, HR2.out, show (⟨#[83]⟩ : ByteArray) = strB [83] from rfl, show (⟨#[86]⟩ : ByteArray) = strB [86] from rfl, strB_app, strB_app, strB_app]; unfold picB; rw [if_neg H1.out, if_neg H2.out, HBL.out, HCL.out]; rfl), HB.out.trans (hb2.mono HB.out.size)⟩

def plusT : List UInt8 := [123, 65, 66, 67, 68, 69, 70, 71, 72, 73]
def minusT : List UInt8 := [125, 74, 75, 76, 77, 78, 79, 80, 81, 82]
def overB (tab ds : List UInt8) : List UInt8 := ds.set (ds.length - 1) (tab.getD ((ds.getD (ds.length - 1) 0).toNat - 48) 0)
def bytesB (sg ds : List UInt8) : List UInt8 := if sg = [43] then overB plusT ds else if sg = [45] then overB minusT ds else ds
theorem bytesB_length (sg ds : List UInt8) : (bytesB sg ds).length = ds.length := by
  unfold bytesB overB; split <;> (try split) <;> simp

/-- A new row of bytes that begins with l. -/
structure Row2 (w W : World) (g : Nat) (l : List UInt8) : Prop where
  lt : g < W.heap.size
  cell : ∀ j c, l[j]? = some c → W.cell? ⟨g, j, none⟩ = some (.int .u8 c.toNat)
  lo : w.heap.size ≤ g
  bel : Below w.heap.size w W
theorem Row2.of {w w1 W : World} {g : Nat} {l : List UInt8} (h : RowAt w1 W g l) (hb : Below w.heap.size w w1) (hg : w.heap.size ≤ g) : Row2 w W g l :=
  ⟨h.lt, h.cell, hg, hb.trans (h.below.mono hg)⟩
theorem dig_cases {d : UInt8} (h : digB d = true) : d = 48 ∨ d = 49 ∨ d = 50 ∨ d = 51 ∨ d = 52 ∨ d = 53 ∨ d = 54 ∨ d = 55 ∨ d = 56 ∨ d = 57 := by
  unfold digB at h
  simp only [Bool.and_eq_true, decide_eq_true_eq] at h
  obtain ⟨h1, h2⟩ := h
  have : d.toNat = 48 ∨ d.toNat = 49 ∨ d.toNat = 50 ∨ d.toNat = 51 ∨ d.toNat = 52 ∨ d.toNat = 53 ∨ d.toNat = 54 ∨ d.toNat = 55 ∨ d.toNat = 56 ∨ d.toNat = 57 := by omega
  rcases this with h | h | h | h | h | h | h | h | h | h
  · exact .inl (u8_eq h)
  · exact .inr (.inl (u8_eq h))
  · exact .inr (.inr (.inl (u8_eq h)))
  · exact .inr (.inr (.inr (.inl (u8_eq h))))
  · exact .inr (.inr (.inr (.inr (.inl (u8_eq h)))))
  · exact .inr (.inr (.inr (.inr (.inr (.inl (u8_eq h))))))
  · exact .inr (.inr (.inr (.inr (.inr (.inr (.inl (u8_eq h)))))))
  · exact .inr (.inr (.inr (.inr (.inr (.inr (.inr (.inl (u8_eq h))))))))
  · exact .inr (.inr (.inr (.inr (.inr (.inr (.inr (.inr (.inl (u8_eq h)))))))))
  · exact .inr (.inr (.inr (.inr (.inr (.inr (.inr (.inr (.inr (u8_eq h)))))))))
theorem overB_at {tab ds : List UInt8} {N : Nat} {d : UInt8} (hl : ds.length = N + 1) (hd : ds[N]? = some d) : overB tab ds = ds.set N (tab.getD (d.toNat - 48) 0) := by
  unfold overB
  rw [hl, show N + 1 - 1 = N from rfl]
  simp [List.getD, hd]
set_option maxRecDepth 100000 in
set_option maxHeartbeats 2000000 in
theorem c_bytes (a b c : ByteArray) (hb : b.size ≤ 1000000) (hc : c.size ≤ 1000000) (ds : List UInt8) (hds : ds = b.data.toList ++ c.data.toList) (hd : isDigitsB ds = true) (w : World) :
    Calls Tryd.prog 53 #[.agg #[.string a, .string b, .string c]] w fun e w' =>
      ∃ g cp : Nat, e = .returned (.slice (some ⟨g, 0, none⟩) ds.length cp) ∧ ds.length ≤ cp ∧ Row2 w w' g (bytesB a.data.toList ds) := by
  obtain ⟨s, hs⟩ : ∃ s : ByteArray, s = b ++ c := ⟨_, rfl⟩
  have hcv := fun W : World => Lib.run_convert_string_bytes (P := Tryd.prog) W 9 41 5 s Tryd.underlying9 Tryd.underlying41 Tryd.underlying5
  have HS := Lib.hid hs
  have HDS := Lib.hid hds
  have HD := Lib.hid hd
  clear hds hd
  go_enter Tryd.func53, Tryd.ntmps53
  have hsz2 : s.size ≤ 2000000 := by rw [hs, ByteArray.size_append]; omega
  have hlen : ds.length = s.size := by rw [HDS.out, hs, ByteArray.size_append, List.length_append]; rfl
  have hsl : s.data.toList = ds := by rw [HDS.out, hs]; simp
  have hpos : 0 < s.size := by
    rw [← hlen]
    cases h : ds with
    | nil => have := HD.out; rw [h] at this; cases this
    | cons x l => simp
  obtain ⟨N, hN⟩ : ∃ N, s.size = N + 1 := ⟨s.size - 1, by omega⟩
  have hw : wrap64 ((s.size : Int) - 1) = (N : Int) := by rw [hN]; unfold wrap64; omega
  obtain ⟨d, hd⟩ : ∃ d, ds[N]? = some d := ⟨_, List.getElem?_eq_getElem (by omega)⟩
  have hdig : digB d = true := by
    have h := HD.out
    unfold isDigitsB at h
    simp only [Bool.and_eq_true] at h
    exact List.all_eq_true.1 h.2 d (List.mem_of_getElem? hd)
  have HW := Lib.hid hw
  have HN := Lib.hid hN
  have HLEN := Lib.hid hlen
  have HSL := Lib.hid hsl
  have HDD := Lib.hid hd
  have HDIG := Lib.hid hdig
  clear hs hlen hsl hpos hsz2 hw hN hd hdig
  go_upto_region 3 with (go_at_call 50; refine (c_digits a b c hb hc _).mono ?_; rintro e w1 ⟨rfl, hb1⟩; rw [← HS.out])
  have HM : RowAt w1 (Lib.bytesWorld w1 5 s) w1.heap.size ds := by have h := RowAt.made w1 5 s; rw [HSL.out] at h; exact h
  have hbw : Below w.heap.size w w1 := ((Below.refl _ w).alloc (Nat.le_refl _) _).trans (hb1.mono (by simp))
  have hd0 := (box3 hb1).1
  have hlt : w.heap.size < w1.heap.size := by have := hb1.size; simp at this; omega
  have hd1 : (Lib.bytesWorld w1 5 s).cell? ⟨w.heap.size, 0, none⟩ = some (.string a) := by rw [Lib.bytesWorld_old _ _ _ _ hlt]; exact hd0
  rw [HW.out]
  have hcp : s.size ≤ grownCap w1 s.size 0 5 := grownCap_ge _ _ _ _
  generalize Lib.bytesWorld w1 5 s = w2 at HM hd1 ⊢
  generalize grownCap w1 s.size 0 5 = cp at hcp ⊢
  have hg : w.heap.size ≤ w1.heap.size := Nat.le_of_lt hlt
  clear hb1 hd0 hcv
  have HBW := Lib.hid hbw
  have HG := Lib.hid hg
  have HCP := Lib.hid hcp
  generalize w1.heap.size = g at *
  have hcell := HM.cell N d HDD.out
  have hfree := HM.free N (by rw [HLEN.out, HN.out]; omega)
  have hlen2 : ds.length = N + 1 := HLEN.out.trans HN.out
  have HLEN2 := Lib.hid hlen2
  have HMM := Lib.hid HM
  clear hlen2 HM hbw hg hlt hcp
  have hNs : (N : Int) < (s.size : Int) := by have := HN.out; omega
  have hNs2 : N < s.size := by have := HN.out; omega
  have hat : a.toList = a.data.toList := ByteArray.toList_eq a
  by_cases hp : a.data.toList = [43]
  · have hap : a.toList = [43] := by rw [hat]; exact hp
    have HBY : Hid (bytesB a.data.toList ds = ds.set N (plusT.getD (d.toNat - 48) 0)) := by
      refine Lib.hid ?_; unfold bytesB; rw [if_pos hp, overB_at HLEN2.out HDD.out]
    clear hat hp
    rcases dig_cases HDIG.out with rfl | rfl | rfl | rfl | rfl | rfl | rfl | rfl | rfl | rfl
    all_goals
      go_wp2
      go_ret
      refine ⟨g, cp, by rw [HLEN.out]; rfl, by rw [HLEN.out]; exact HCP.out, ?_⟩
      rw [HBY.out]
      exact Row2.of (HMM.out.store N _ (by rw [HLEN2.out]; omega)) HBW.out HG.out
  · by_cases hm : a.data.toList = [45]
    · have hap : a.toList = [45] := by rw [hat]; exact hm
      have HBY : Hid (bytesB a.data.toList ds = ds.set N (minusT.getD (d.toNat - 48) 0)) := by
        refine Lib.hid ?_; unfold bytesB; rw [if_neg hp, if_pos hm, overB_at HLEN2.out HDD.out]
      clear hat hp hm
      rcases dig_cases HDIG.out with rfl | rfl | rfl | rfl | rfl | rfl | rfl | rfl | rfl | rfl
      all_goals
        go_wp2
        go_ret
        refine ⟨g, cp, by rw [HLEN.out]; rfl, by rw [HLEN.out]; exact HCP.out, ?_⟩
        rw [HBY.out]
        exact Row2.of (HMM.out.store N _ (by rw [HLEN2.out]; omega)) HBW.out HG.out
    · have hap1 : (a.toList == [43]) = false := by rw [hat]; simpa using hp
      have hap2 : (a.toList == [45]) = false := by rw [hat]; simpa using hm
      have HBY : Hid (bytesB a.data.toList ds = ds) := by refine Lib.hid ?_; unfold bytesB; rw [if_neg hp, if_neg hm]
      clear hat hp hm
      go_wp2
      go_ret
      refine ⟨g, cp, by rw [HLEN.out]; rfl, by rw [HLEN.out]; exact HCP.out, ?_⟩
      rw [HBY.out]
      exact Row2.of HMM.out HBW.out HG.out
end Go.Proofs.YtahmcjgehhfknaaDoor
