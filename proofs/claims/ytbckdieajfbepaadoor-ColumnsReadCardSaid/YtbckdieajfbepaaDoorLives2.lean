/-
  The contract of the law's lives (columnsevenlaw02): the examples of the chapter.
-/
import Derived.Test.YtbckdieajfbepaaDoorLRd
import Derived.Test.YtbckdieajfbepaaDoorWrite
namespace Go.Proofs.YtbckdieajfbepaaDoor
open Go.RowKit
set_option linter.unusedVariables false
set_option linter.unusedSimpArgs false
attribute [local go_sem] eqFault guardFault neqFault

theorem MaxLenAt.below {w w' : World} (h : MaxLenAt w) (hb : Below w.heap.size w w') : MaxLenAt w' := by
  obtain ⟨m, hm⟩ := h
  exact ⟨m, (hb.cell (lt_of_cell hm)).trans hm⟩
/-- A string of spaces, behind a name. -/
theorem l2sp (n : Nat) (t : ByteArray) (ht : t = strL (List.replicate n 32)) (hn : n ≤ 1048576) (w : World) :
    Calls Tryd.prog 17 #[.int .i64 n] w fun e w' => e = .returned (.string t) ∧ Below w.heap.size w w' := by
  subst ht; exact l2spaces n hn w
theorem live_read (s : ByteArray) (c : ByteArray) (e0 l0 c0 : Nat) (h : lread s.data.toList = (c.data.toList, e0, l0, c0)) (hs : s.size ≤ 300000) (w : World) (hm : MaxLenAt w) :
    Calls Tryd.prog 24 #[.string s] w fun e w' => e = .returned (.tuple #[.string c, .agg #[.int .i64 e0, .int .i64 l0, .int .i64 c0]]) ∧ Below w.heap.size w w' := by
  refine (l2read s hs w hm).mono ?_
  rintro e w' ⟨hb, he⟩
  rw [h] at he
  exact ⟨he, hb⟩
theorem live1 : lread (List.replicate 13 32 ++ [65,68,68,32,49]) = ([65,68,68,32,49], 0, 0, 0) := by decide +kernel
theorem live2 : lread (List.replicate 7 32 ++ [77,65,73,78,10] ++ List.replicate 6 32 ++ [42,78,79,84,69]) = ([77,65,73,78,60], 0, 0, 0) := by decide +kernel
theorem live3 : lread (List.replicate 11 32 ++ [65,32,34,66,10] ++ List.replicate 6 32 ++ [45,32,32,32,32,34,67,34,10]) = ([65,32,34,66] ++ List.replicate 57 32 ++ [67,34], 0, 0, 0) := by decide +kernel
theorem live4 : lread (List.replicate 11 32 ++ [80,69,82,70,10] ++ List.replicate 6 32 ++ [45,32,32,32,32,79,82,77,32,80]) = ([80,69,82,70,79,82,77,32,80], 0, 0, 0) := by decide +kernel
theorem live5 : lread (List.replicate 6 32 ++ [45,32,32,32,32,88]) = ([], 6, 1, 7) := by decide +kernel
theorem live6 : lread (List.replicate 11 32 ++ [65,32,34,66]) = ([], 4, 1, 12) := by decide +kernel
theorem live7 : writeV [(false, [83,84,79,80,32,82,85,78,46])] = .tuple #[.string ⟨#[48,48,48,48,48,49,32,32,32,32,32,83,84,79,80,32,82,85,78,46,10]⟩, .int .i64 0] := by
  have h1 : (layAll [(false, [83,84,79,80,32,82,85,78,46])] ([], 0)).1 = [48,48,48,48,48,49,32,32,32,32,32,83,84,79,80,32,82,85,78,46,10] := by decide +kernel
  unfold writeV
  rw [if_pos (by decide +kernel), h1]
  rfl
theorem live8 : writeV [(true, [83,84,79,80,32,82,85,78,46])] = .tuple #[.string ⟨#[48,48,48,48,48,49,32,83,84,79,80,32,82,85,78,46,10]⟩, .int .i64 0] := by
  have h1 : (layAll [(true, [83,84,79,80,32,82,85,78,46])] ([], 0)).1 = [48,48,48,48,48,49,32,83,84,79,80,32,82,85,78,46,10] := by decide +kernel
  unfold writeV
  rw [if_pos (by decide +kernel), h1]
  rfl
theorem fcells {w : World} {N : Nat} {a b c : Value} {t : TypeId} (h : w.heap[N]? = some (.cells #[a, b, c] t (0, 0))) : w.cell? ⟨N, 0, none⟩ = some a ∧ w.cell? ⟨N, 1, none⟩ = some b ∧ w.cell? ⟨N, 2, none⟩ = some c :=
  ⟨Joins.cell_of_block h 0, Joins.cell_of_block h 1, Joins.cell_of_block h 2⟩
set_option maxHeartbeats 4000000 in
set_option maxRecDepth 100000 in
theorem l2lives (w : World) (hm : MaxLenAt w) (htab : Lib.TabBelow Tryd.prog w.heap.size w "internal/strconv.uint64pow10" .u64 Lib.pow10Tab) :
    Calls Tryd.prog 9 #[] w fun e w' => e = .returned (.bool true) ∧ Below w.heap.size w w' := by
  have HM := Lib.hid hm
  have HTAB := Lib.hid htab
  clear hm htab
  obtain ⟨t6, ht6⟩ : ∃ t, t = strL (List.replicate 6 32) := ⟨_, rfl⟩
  have HT6 := Lib.hid ht6
  have hs6 : t6.size ≤ 6 := by rw [ht6, strL_size, List.length_replicate]; exact Nat.le_refl _
  obtain ⟨t7, ht7⟩ : ∃ t, t = strL (List.replicate 7 32) := ⟨_, rfl⟩
  have HT7 := Lib.hid ht7
  have hs7 : t7.size ≤ 7 := by rw [ht7, strL_size, List.length_replicate]; exact Nat.le_refl _
  obtain ⟨t11, ht11⟩ : ∃ t, t = strL (List.replicate 11 32) := ⟨_, rfl⟩
  have HT11 := Lib.hid ht11
  have hs11 : t11.size ≤ 11 := by rw [ht11, strL_size, List.length_replicate]; exact Nat.le_refl _
  obtain ⟨t13, ht13⟩ : ∃ t, t = strL (List.replicate 13 32) := ⟨_, rfl⟩
  have HT13 := Lib.hid ht13
  have hs13 : t13.size ≤ 13 := by rw [ht13, strL_size, List.length_replicate]; exact Nat.le_refl _
  obtain ⟨t57, ht57⟩ : ∃ t, t = strL (List.replicate 57 32) := ⟨_, rfl⟩
  have HT57 := Lib.hid ht57
  have hs57 : t57.size ≤ 57 := by rw [ht57, strL_size, List.length_replicate]; exact Nat.le_refl _
  have HE1 : Hid (lread (t13 ++ (⟨#[65, 68, 68, 32, 49]⟩ : ByteArray)).data.toList = (((⟨#[65, 68, 68, 32, 49]⟩ : ByteArray)).data.toList, 0, 0, 0)) := by
    show _ = _
    rw [append_data, ht13]
    exact live1
  have HS1 : Hid ((t13 ++ (⟨#[65, 68, 68, 32, 49]⟩ : ByteArray)).size ≤ 300000) := by
    show _ ≤ _
    have z0 : ((⟨#[65, 68, 68, 32, 49]⟩ : ByteArray)).size = 5 := rfl
    simp only [ByteArray.size_append]
    omega
  have HE2 : Hid (lread (((t7 ++ (⟨#[77, 65, 73, 78, 10]⟩ : ByteArray)) ++ t6) ++ (⟨#[42, 78, 79, 84, 69]⟩ : ByteArray)).data.toList = (((⟨#[77, 65, 73, 78, 60]⟩ : ByteArray)).data.toList, 0, 0, 0)) := by
    show _ = _
    rw [append_data, append_data, append_data, ht7, ht6]
    exact live2
  have HS2 : Hid ((((t7 ++ (⟨#[77, 65, 73, 78, 10]⟩ : ByteArray)) ++ t6) ++ (⟨#[42, 78, 79, 84, 69]⟩ : ByteArray)).size ≤ 300000) := by
    show _ ≤ _
    have z0 : ((⟨#[77, 65, 73, 78, 10]⟩ : ByteArray)).size = 5 := rfl
    have z1 : ((⟨#[42, 78, 79, 84, 69]⟩ : ByteArray)).size = 5 := rfl
    simp only [ByteArray.size_append]
    omega
  have HE3 : Hid (lread (((t11 ++ (⟨#[65, 32, 34, 66, 10]⟩ : ByteArray)) ++ t6) ++ (⟨#[45, 32, 32, 32, 32, 34, 67, 34, 10]⟩ : ByteArray)).data.toList = (((⟨#[65, 32, 34, 66]⟩ : ByteArray) ++ t57 ++ (⟨#[67, 34]⟩ : ByteArray)).data.toList, 0, 0, 0)) := by
    show _ = _
    rw [append_data, append_data, append_data, ht11, ht6, append_data, append_data, ht57]
    exact live3
  have HS3 : Hid ((((t11 ++ (⟨#[65, 32, 34, 66, 10]⟩ : ByteArray)) ++ t6) ++ (⟨#[45, 32, 32, 32, 32, 34, 67, 34, 10]⟩ : ByteArray)).size ≤ 300000) := by
    show _ ≤ _
    have z0 : ((⟨#[65, 32, 34, 66, 10]⟩ : ByteArray)).size = 5 := rfl
    have z1 : ((⟨#[45, 32, 32, 32, 32, 34, 67, 34, 10]⟩ : ByteArray)).size = 9 := rfl
    simp only [ByteArray.size_append]
    omega
  have HE4 : Hid (lread (((t11 ++ (⟨#[80, 69, 82, 70, 10]⟩ : ByteArray)) ++ t6) ++ (⟨#[45, 32, 32, 32, 32, 79, 82, 77, 32, 80]⟩ : ByteArray)).data.toList = (((⟨#[80, 69, 82, 70, 79, 82, 77, 32, 80]⟩ : ByteArray)).data.toList, 0, 0, 0)) := by
    show _ = _
    rw [append_data, append_data, append_data, ht11, ht6]
    exact live4
  have HS4 : Hid ((((t11 ++ (⟨#[80, 69, 82, 70, 10]⟩ : ByteArray)) ++ t6) ++ (⟨#[45, 32, 32, 32, 32, 79, 82, 77, 32, 80]⟩ : ByteArray)).size ≤ 300000) := by
    show _ ≤ _
    have z0 : ((⟨#[80, 69, 82, 70, 10]⟩ : ByteArray)).size = 5 := rfl
    have z1 : ((⟨#[45, 32, 32, 32, 32, 79, 82, 77, 32, 80]⟩ : ByteArray)).size = 10 := rfl
    simp only [ByteArray.size_append]
    omega
  have HE5 : Hid (lread (t6 ++ (⟨#[45, 32, 32, 32, 32, 88]⟩ : ByteArray)).data.toList = (((⟨#[]⟩ : ByteArray)).data.toList, 6, 1, 7)) := by
    show _ = _
    rw [append_data, ht6]
    exact live5
  have HS5 : Hid ((t6 ++ (⟨#[45, 32, 32, 32, 32, 88]⟩ : ByteArray)).size ≤ 300000) := by
    show _ ≤ _
    have z0 : ((⟨#[45, 32, 32, 32, 32, 88]⟩ : ByteArray)).size = 6 := rfl
    simp only [ByteArray.size_append]
    omega
  have HE6 : Hid (lread (t11 ++ (⟨#[65, 32, 34, 66]⟩ : ByteArray)).data.toList = (((⟨#[]⟩ : ByteArray)).data.toList, 4, 1, 12)) := by
    show _ = _
    rw [append_data, ht11]
    exact live6
  have HS6 : Hid ((t11 ++ (⟨#[65, 32, 34, 66]⟩ : ByteArray)).size ≤ 300000) := by
    show _ ≤ _
    have z0 : ((⟨#[65, 32, 34, 66]⟩ : ByteArray)).size = 4 := rfl
    simp only [ByteArray.size_append]
    omega
  clear ht6 ht7 ht11 ht13 ht57
  go_enter Tryd.func9, Tryd.ntmps9
  have HB0 : Hid (Below w.heap.size w w) := Below.refl _ _
  go_wp2_with fail
  refine (l2sp 13 t13 HT13.out (by omega) _).mono ?_
  rintro e v11 ⟨rfl, hb⟩
  have hz := HB0.out.size
  have hz2 := hb.size
  have HBv11 : Hid (Below w.heap.size w v11) := HB0.out.trans (hb.mono hz)
  clear hb hz hz2
  go_wp2_with fail
  refine (live_read (t13 ++ (⟨#[65, 68, 68, 32, 49]⟩ : ByteArray)) ((⟨#[65, 68, 68, 32, 49]⟩ : ByteArray)) 0 0 0 HE1.out HS1.out _ (HM.out.below HBv11.out)).mono ?_
  rintro e u1 ⟨rfl, hb⟩
  have hz := HBv11.out.size
  have hz2 := hb.size
  have HBu1 : Hid (Below w.heap.size w u1) := HBv11.out.trans (hb.mono hz)
  clear hb hz hz2
  go_wp2_with fail
  refine (l2sp 7 t7 HT7.out (by omega) _).mono ?_
  rintro e v21 ⟨rfl, hb⟩
  have hz := HBu1.out.size
  have hz2 := hb.size
  simp at hz2
  have HBv21 : Hid (Below w.heap.size w v21) := (HBu1.out.alloc hz _).trans (hb.mono (by simp; omega))
  obtain ⟨F1, hF1⟩ : ∃ n, n = u1.heap.size := ⟨_, rfl⟩
  rw [← hF1]
  have KF1v21 : Hid (v21.heap[F1]? = some (.cells #[.int .i64 0, .int .i64 0, .int .i64 0] 28 (0, 0))) := by
    show _ = _
    rw [hF1]
    exact (hb.block _ (by simp)).trans (heap_alloc_new _ _)
  clear hF1
  clear hb hz hz2
  go_wp2_with fail
  refine (l2sp 6 t6 HT6.out (by omega) _).mono ?_
  rintro e v22 ⟨rfl, hb⟩
  have hz := HBv21.out.size
  have hz2 := hb.size
  have HBv22 : Hid (Below w.heap.size w v22) := HBv21.out.trans (hb.mono hz)
  have KF1v22 := Lib.hid ((hb.block F1 (by have := lt_of_block KF1v21.out; simp; omega)).trans (KF1v21.out))
  clear hb hz hz2
  go_wp2_with fail
  refine (live_read (((t7 ++ (⟨#[77, 65, 73, 78, 10]⟩ : ByteArray)) ++ t6) ++ (⟨#[42, 78, 79, 84, 69]⟩ : ByteArray)) ((⟨#[77, 65, 73, 78, 60]⟩ : ByteArray)) 0 0 0 HE2.out HS2.out _ (HM.out.below HBv22.out)).mono ?_
  rintro e u2 ⟨rfl, hb⟩
  have hz := HBv22.out.size
  have hz2 := hb.size
  have HBu2 : Hid (Below w.heap.size w u2) := HBv22.out.trans (hb.mono hz)
  have KF1u2 := Lib.hid ((hb.block F1 (by have := lt_of_block KF1v22.out; simp; omega)).trans (KF1v22.out))
  clear hb hz hz2
  go_wp2_with fail
  refine (l2sp 11 t11 HT11.out (by omega) _).mono ?_
  rintro e v31 ⟨rfl, hb⟩
  have hz := HBu2.out.size
  have hz2 := hb.size
  simp at hz2
  have HBv31 : Hid (Below w.heap.size w v31) := (HBu2.out.alloc hz _).trans (hb.mono (by simp; omega))
  have KF1v31 := Lib.hid ((hb.block F1 (by have := lt_of_block KF1u2.out; simp; omega)).trans ((Below.heap_alloc _ _ _ (lt_of_block KF1u2.out)).trans KF1u2.out))
  obtain ⟨F2, hF2⟩ : ∃ n, n = u2.heap.size := ⟨_, rfl⟩
  rw [← hF2]
  have KF2v31 : Hid (v31.heap[F2]? = some (.cells #[.int .i64 0, .int .i64 0, .int .i64 0] 28 (0, 0))) := by
    show _ = _
    rw [hF2]
    exact (hb.block _ (by simp)).trans (heap_alloc_new _ _)
  clear hF2
  clear hb hz hz2
  go_wp2_with fail
  refine (l2sp 6 t6 HT6.out (by omega) _).mono ?_
  rintro e v32 ⟨rfl, hb⟩
  have hz := HBv31.out.size
  have hz2 := hb.size
  have HBv32 : Hid (Below w.heap.size w v32) := HBv31.out.trans (hb.mono hz)
  have KF1v32 := Lib.hid ((hb.block F1 (by have := lt_of_block KF1v31.out; simp; omega)).trans (KF1v31.out))
  have KF2v32 := Lib.hid ((hb.block F2 (by have := lt_of_block KF2v31.out; simp; omega)).trans (KF2v31.out))
  clear hb hz hz2
  go_wp2_with fail
  refine (live_read (((t11 ++ (⟨#[65, 32, 34, 66, 10]⟩ : ByteArray)) ++ t6) ++ (⟨#[45, 32, 32, 32, 32, 34, 67, 34, 10]⟩ : ByteArray)) ((⟨#[65, 32, 34, 66]⟩ : ByteArray) ++ t57 ++ (⟨#[67, 34]⟩ : ByteArray)) 0 0 0 HE3.out HS3.out _ (HM.out.below HBv32.out)).mono ?_
  rintro e u3 ⟨rfl, hb⟩
  have hz := HBv32.out.size
  have hz2 := hb.size
  have HBu3 : Hid (Below w.heap.size w u3) := HBv32.out.trans (hb.mono hz)
  have KF1u3 := Lib.hid ((hb.block F1 (by have := lt_of_block KF1v32.out; simp; omega)).trans (KF1v32.out))
  have KF2u3 := Lib.hid ((hb.block F2 (by have := lt_of_block KF2v32.out; simp; omega)).trans (KF2v32.out))
  clear hb hz hz2
  go_wp2_with fail
  refine (l2sp 11 t11 HT11.out (by omega) _).mono ?_
  rintro e v41 ⟨rfl, hb⟩
  have hz := HBu3.out.size
  have hz2 := hb.size
  simp at hz2
  have HBv41 : Hid (Below w.heap.size w v41) := (HBu3.out.alloc hz _).trans (hb.mono (by simp; omega))
  have KF1v41 := Lib.hid ((hb.block F1 (by have := lt_of_block KF1u3.out; simp; omega)).trans ((Below.heap_alloc _ _ _ (lt_of_block KF1u3.out)).trans KF1u3.out))
  have KF2v41 := Lib.hid ((hb.block F2 (by have := lt_of_block KF2u3.out; simp; omega)).trans ((Below.heap_alloc _ _ _ (lt_of_block KF2u3.out)).trans KF2u3.out))
  obtain ⟨F3, hF3⟩ : ∃ n, n = u3.heap.size := ⟨_, rfl⟩
  rw [← hF3]
  have KF3v41 : Hid (v41.heap[F3]? = some (.cells #[.int .i64 0, .int .i64 0, .int .i64 0] 28 (0, 0))) := by
    show _ = _
    rw [hF3]
    exact (hb.block _ (by simp)).trans (heap_alloc_new _ _)
  clear hF3
  clear hb hz hz2
  go_wp2_with fail
  refine (l2sp 6 t6 HT6.out (by omega) _).mono ?_
  rintro e v42 ⟨rfl, hb⟩
  have hz := HBv41.out.size
  have hz2 := hb.size
  have HBv42 : Hid (Below w.heap.size w v42) := HBv41.out.trans (hb.mono hz)
  have KF1v42 := Lib.hid ((hb.block F1 (by have := lt_of_block KF1v41.out; simp; omega)).trans (KF1v41.out))
  have KF2v42 := Lib.hid ((hb.block F2 (by have := lt_of_block KF2v41.out; simp; omega)).trans (KF2v41.out))
  have KF3v42 := Lib.hid ((hb.block F3 (by have := lt_of_block KF3v41.out; simp; omega)).trans (KF3v41.out))
  clear hb hz hz2
  go_wp2_with fail
  refine (live_read (((t11 ++ (⟨#[80, 69, 82, 70, 10]⟩ : ByteArray)) ++ t6) ++ (⟨#[45, 32, 32, 32, 32, 79, 82, 77, 32, 80]⟩ : ByteArray)) ((⟨#[80, 69, 82, 70, 79, 82, 77, 32, 80]⟩ : ByteArray)) 0 0 0 HE4.out HS4.out _ (HM.out.below HBv42.out)).mono ?_
  rintro e u4 ⟨rfl, hb⟩
  have hz := HBv42.out.size
  have hz2 := hb.size
  have HBu4 : Hid (Below w.heap.size w u4) := HBv42.out.trans (hb.mono hz)
  have KF1u4 := Lib.hid ((hb.block F1 (by have := lt_of_block KF1v42.out; simp; omega)).trans (KF1v42.out))
  have KF2u4 := Lib.hid ((hb.block F2 (by have := lt_of_block KF2v42.out; simp; omega)).trans (KF2v42.out))
  have KF3u4 := Lib.hid ((hb.block F3 (by have := lt_of_block KF3v42.out; simp; omega)).trans (KF3v42.out))
  clear hb hz hz2
  go_wp2_with fail
  refine (l2sp 6 t6 HT6.out (by omega) _).mono ?_
  rintro e v51 ⟨rfl, hb⟩
  have hz := HBu4.out.size
  have hz2 := hb.size
  simp at hz2
  have HBv51 : Hid (Below w.heap.size w v51) := (HBu4.out.alloc hz _).trans (hb.mono (by simp; omega))
  have KF1v51 := Lib.hid ((hb.block F1 (by have := lt_of_block KF1u4.out; simp; omega)).trans ((Below.heap_alloc _ _ _ (lt_of_block KF1u4.out)).trans KF1u4.out))
  have KF2v51 := Lib.hid ((hb.block F2 (by have := lt_of_block KF2u4.out; simp; omega)).trans ((Below.heap_alloc _ _ _ (lt_of_block KF2u4.out)).trans KF2u4.out))
  have KF3v51 := Lib.hid ((hb.block F3 (by have := lt_of_block KF3u4.out; simp; omega)).trans ((Below.heap_alloc _ _ _ (lt_of_block KF3u4.out)).trans KF3u4.out))
  obtain ⟨F4, hF4⟩ : ∃ n, n = u4.heap.size := ⟨_, rfl⟩
  rw [← hF4]
  have KF4v51 : Hid (v51.heap[F4]? = some (.cells #[.int .i64 0, .int .i64 0, .int .i64 0] 28 (0, 0))) := by
    show _ = _
    rw [hF4]
    exact (hb.block _ (by simp)).trans (heap_alloc_new _ _)
  clear hF4
  clear hb hz hz2
  go_wp2_with fail
  refine (live_read (t6 ++ (⟨#[45, 32, 32, 32, 32, 88]⟩ : ByteArray)) ((⟨#[]⟩ : ByteArray)) 6 1 7 HE5.out HS5.out _ (HM.out.below HBv51.out)).mono ?_
  rintro e u5 ⟨rfl, hb⟩
  have hz := HBv51.out.size
  have hz2 := hb.size
  have HBu5 : Hid (Below w.heap.size w u5) := HBv51.out.trans (hb.mono hz)
  have KF1u5 := Lib.hid ((hb.block F1 (by have := lt_of_block KF1v51.out; simp; omega)).trans (KF1v51.out))
  have KF2u5 := Lib.hid ((hb.block F2 (by have := lt_of_block KF2v51.out; simp; omega)).trans (KF2v51.out))
  have KF3u5 := Lib.hid ((hb.block F3 (by have := lt_of_block KF3v51.out; simp; omega)).trans (KF3v51.out))
  have KF4u5 := Lib.hid ((hb.block F4 (by have := lt_of_block KF4v51.out; simp; omega)).trans (KF4v51.out))
  clear hb hz hz2
  go_wp2_with fail
  refine (l2sp 11 t11 HT11.out (by omega) _).mono ?_
  rintro e v61 ⟨rfl, hb⟩
  have hz := HBu5.out.size
  have hz2 := hb.size
  simp at hz2
  have HBv61 : Hid (Below w.heap.size w v61) := (HBu5.out.alloc hz _).trans (hb.mono (by simp; omega))
  have KF1v61 := Lib.hid ((hb.block F1 (by have := lt_of_block KF1u5.out; simp; omega)).trans ((Below.heap_alloc _ _ _ (lt_of_block KF1u5.out)).trans KF1u5.out))
  have KF2v61 := Lib.hid ((hb.block F2 (by have := lt_of_block KF2u5.out; simp; omega)).trans ((Below.heap_alloc _ _ _ (lt_of_block KF2u5.out)).trans KF2u5.out))
  have KF3v61 := Lib.hid ((hb.block F3 (by have := lt_of_block KF3u5.out; simp; omega)).trans ((Below.heap_alloc _ _ _ (lt_of_block KF3u5.out)).trans KF3u5.out))
  have KF4v61 := Lib.hid ((hb.block F4 (by have := lt_of_block KF4u5.out; simp; omega)).trans ((Below.heap_alloc _ _ _ (lt_of_block KF4u5.out)).trans KF4u5.out))
  obtain ⟨F5, hF5⟩ : ∃ n, n = u5.heap.size := ⟨_, rfl⟩
  rw [← hF5]
  have KF5v61 : Hid (v61.heap[F5]? = some (.cells #[.int .i64 6, .int .i64 1, .int .i64 7] 28 (0, 0))) := by
    show _ = _
    rw [hF5]
    exact (hb.block _ (by simp)).trans (heap_alloc_new _ _)
  clear hF5
  clear hb hz hz2
  go_wp2_with fail
  refine (live_read (t11 ++ (⟨#[65, 32, 34, 66]⟩ : ByteArray)) ((⟨#[]⟩ : ByteArray)) 4 1 12 HE6.out HS6.out _ (HM.out.below HBv61.out)).mono ?_
  rintro e u6 ⟨rfl, hb⟩
  have hz := HBv61.out.size
  have hz2 := hb.size
  have HBu6 : Hid (Below w.heap.size w u6) := HBv61.out.trans (hb.mono hz)
  have KF1u6 := Lib.hid ((hb.block F1 (by have := lt_of_block KF1v61.out; simp; omega)).trans (KF1v61.out))
  have KF2u6 := Lib.hid ((hb.block F2 (by have := lt_of_block KF2v61.out; simp; omega)).trans (KF2v61.out))
  have KF3u6 := Lib.hid ((hb.block F3 (by have := lt_of_block KF3v61.out; simp; omega)).trans (KF3v61.out))
  have KF4u6 := Lib.hid ((hb.block F4 (by have := lt_of_block KF4v61.out; simp; omega)).trans (KF4v61.out))
  have KF5u6 := Lib.hid ((hb.block F5 (by have := lt_of_block KF5v61.out; simp; omega)).trans (KF5v61.out))
  clear hb hz hz2
  obtain ⟨xF10, xF11, xF12⟩ := fcells KF1u6.out
  have lF1 := lt_of_block KF1u6.out
  obtain ⟨xF20, xF21, xF22⟩ := fcells KF2u6.out
  have lF2 := lt_of_block KF2u6.out
  obtain ⟨xF30, xF31, xF32⟩ := fcells KF3u6.out
  have lF3 := lt_of_block KF3u6.out
  obtain ⟨xF40, xF41, xF42⟩ := fcells KF4u6.out
  have lF4 := lt_of_block KF4u6.out
  obtain ⟨xF50, xF51, xF52⟩ := fcells KF5u6.out
  have lF5 := lt_of_block KF5u6.out
  go_wp2_with fail
  refine (l2sp 57 t57 HT57.out (by omega) _).mono ?_
  rintro e v8 ⟨rfl, hb⟩
  have hz := HBu6.out.size
  have hz2 := hb.size
  simp at hz2
  have HBv8 : Hid (Below w.heap.size w v8) := ((HBu6.out.alloc hz _).alloc (by simp; omega) _).trans (hb.mono (by simp; omega))
  have KF5v8 := Lib.hid ((hb.block F5 (by have := lt_of_block KF5u6.out; simp; omega)).trans ((Below.heap_alloc _ _ _ (by have := lt_of_block KF5u6.out; simp; omega)).trans ((Below.heap_alloc _ _ _ (lt_of_block KF5u6.out)).trans KF5u6.out)))
  have KF6v8 : Hid (v8.heap[u6.heap.size]? = some (.cells #[.int .i64 4, .int .i64 1, .int .i64 12] 28 (0, 0))) := (hb.block _ (by simp; omega)).trans ((Below.heap_alloc _ _ _ (by simp)).trans (heap_alloc_new _ _))
  obtain ⟨F6, hF6⟩ : ∃ n, n = u6.heap.size := ⟨_, rfl⟩
  rw [← hF6] at KF6v8 ⊢
  clear hF6 hb hz hz2 xF10 xF11 xF12 xF20 xF21 xF22 xF30 xF31 xF32 xF40 xF41 xF42 xF50 xF51 xF52
  obtain ⟨xF50, xF51, xF52⟩ := fcells KF5v8.out
  obtain ⟨xF60, xF61, xF62⟩ := fcells KF6v8.out
  go_wp2_with fail
  have hz := HBv8.out.size
  have HBX : Hid (Below w.heap.size w (v8.alloc (.cells #[.bool false, .string ⟨#[83, 84, 79, 80, 32, 82, 85, 78, 46]⟩] 39))) := HBv8.out.alloc hz _
  refine (c_write v8.heap.size 1 [(false, [83, 84, 79, 80, 32, 82, 85, 78, 46])] _ ⟨by simp, fun k x hx => ?_⟩ (HTAB.out.on HBX.out).here (fun x hx => by simp at hx; subst hx; decide) (by decide)).mono ?_
  · match k, hx with
    | 0, hx =>
      injection hx with hx; subst hx
      exact ⟨Joins.cell_of_block (heap_alloc_new v8 _) 0, Joins.cell_of_block (heap_alloc_new v8 _) 1⟩
  rintro e v9 ⟨rfl, hb⟩
  have hz2 := hb.size
  simp at hz2
  have HBv9 : Hid (Below w.heap.size w v9) := HBX.out.trans (hb.mono (by simp; omega))
  rw [live7]
  clear hb hz2 HBX hz
  go_wp2_with fail
  have hz := HBv9.out.size
  have HBX : Hid (Below w.heap.size w (v9.alloc (.cells #[.bool true, .string ⟨#[83, 84, 79, 80, 32, 82, 85, 78, 46]⟩] 39))) := HBv9.out.alloc hz _
  refine (c_write v9.heap.size 1 [(true, [83, 84, 79, 80, 32, 82, 85, 78, 46])] _ ⟨by simp, fun k x hx => ?_⟩ (HTAB.out.on HBX.out).here (fun x hx => by simp at hx; subst hx; decide) (by decide)).mono ?_
  · match k, hx with
    | 0, hx =>
      injection hx with hx; subst hx
      exact ⟨Joins.cell_of_block (heap_alloc_new v9 _) 0, Joins.cell_of_block (heap_alloc_new v9 _) 1⟩
  rintro e v10 ⟨rfl, hb⟩
  have hz2 := hb.size
  simp at hz2
  have HBv10 : Hid (Below w.heap.size w v10) := HBX.out.trans (hb.mono (by simp; omega))
  rw [live8]
  clear hb hz2 HBX hz
  go_wp2
  go_ret
  exact ⟨rfl, HBv10.out⟩
end Go.Proofs.YtbckdieajfbepaaDoor
