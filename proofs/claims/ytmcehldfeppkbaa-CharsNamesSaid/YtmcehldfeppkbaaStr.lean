/-
  string(b) of a slice that reads as a list; the law's own function Bytes; the functions on strings.
-/
import Derived.Test.YtmcehldfeppkbaaChars
import Derived.Test.YtmcehldfeppkbaaPlain
import Derived.Lib.ConvBytes
import Derived.Sort.Walk0
namespace Go.Proofs.Ytmcehldfeppkbaa
open Go.RowKit
set_option linter.unusedVariables false
set_option linter.unusedSimpArgs false

/-- The string of a list of bytes. -/
def strB (l : List UInt8) : ByteArray := ⟨l.toArray⟩
theorem strB_data (l : List UInt8) : (strB l).data.toList = l := rfl
theorem strB_toList (l : List UInt8) : (strB l).toList = l := ByteArray.toList_eq _
theorem strB_of (s : ByteArray) : strB s.data.toList = s := rfl
theorem strB_size (l : List UInt8) : (strB l).size = l.length := by simp [strB, ByteArray.size]

theorem run_str (A : Option Addr) (xs : List UInt8) (cap : Nat) (w : World) (h : Txt w A xs) :
    (convert 25 9 (.slice A xs.length cap)).run Try.prog w = .ok (.string (strB xs)) w := by
  rcases Nat.eq_zero_or_pos xs.length with h0 | h0
  · obtain rfl : xs = [] := List.eq_nil_of_length_eq_zero h0
    rw [run_convert_bytes_string w 25 9 5 A _ cap Try.underlying25 Try.underlying5 Try.underlying9]
    rcases A with _ | a
    · simp [Conv.bytesToString]; rfl
    · refine (run_bytesToString w a _ cap [] ?_).trans rfl
      exact run_loadCells_list (P := Try.prog) w a [] (fun j v hj => by simp at hj)
  · obtain ⟨b, off, rfl, hb, hc⟩ := h h0
    have := run_convert_bytes_arg (P := Try.prog) w 25 5 Try.underlying25 Try.underlying5 b off xs.length cap (xs.map fun c => (c.toNat : Int)) (by simp) (fun i hi => by
      rw [hc i _ (List.getElem?_eq_getElem hi)]
      simp [List.getD, hi]) 9 Try.underlying9
    rw [this]
    congr 2
    simp [strOfNums, strB, Function.comp_def]

theorem bytes_any (A : Option Addr) (xs : List UInt8) (cap : Nat) (s : ByteArray) (w : World) (h : Txt w A xs) (hl : xs.length ≤ 140737488355328) (hc : cap ≤ 140737488355328) :
    Calls Try.prog 19 #[.slice A xs.length cap, .string s] w fun e w' => e = .returned (.int .i64 (if xs = s.data.toList ∧ cap ≤ xs.length then 0 else 1)) ∧ w = w' := by
  have hcv := run_str A xs cap w h
  obtain ⟨t, ht⟩ : ∃ t, t = strB xs := ⟨_, rfl⟩
  rw [← ht] at hcv
  have ht2 : t.toList = xs := by rw [ht]; exact strB_toList xs
  by_cases he : xs = s.data.toList
  · have heq : t = s := by rw [ht, he]; rfl
    subst heq
    clear ht ht2
    by_cases hcc : cap ≤ xs.length
    · rw [if_pos ⟨he, hcc⟩]; clear he
      have hcd : decide ((xs.length : Int) < (cap : Int)) = false := by simp; omega
      go_enter Try.func19, Try.ntmps19
      go_wp2
      go_ret
      exact ⟨rfl, rfl⟩
    · rw [if_neg (fun h => hcc h.2)]; clear he
      have hcd : decide ((xs.length : Int) < (cap : Int)) = true := by simp; omega
      go_enter Try.func19, Try.ntmps19
      go_wp2
      go_ret
      exact ⟨rfl, rfl⟩
  · rw [if_neg (fun h => he h.1)]
    have hne : (t.toList == s.toList) = false := by rw [ht2, ByteArray.toList_eq s]; simp [he]
    have hne' : (t.toList != s.toList) = true := by rw [ht2, ByteArray.toList_eq s]; simp [he]
    clear ht ht2 he
    go_enter Try.func19, Try.ntmps19
    go_wp2
    go_ret
    exact ⟨rfl, rfl⟩

theorem isDigits_any (s : ByteArray) (hs : s.size ≤ 140737488355328) (w : World) : Calls Try.prog 10 #[.string s] w fun e w' => e = .returned (.bool (isDigitsB s.data.toList)) ∧ w = w' := by
  have hd : s.toList = s.data.toList := ByteArray.toList_eq s
  by_cases h0 : s.toList = []
  · have h1 : s.toList.isEmpty = true := by simp [h0]
    have h2 : isDigitsB s.data.toList = false := by rw [← hd]; simp [isDigitsB, h0]
    rw [h2]; clear h2 hd
    go_enter Try.func10, Try.ntmps10
    go_wp2
    go_ret
    exact ⟨rfl, rfl⟩
  · have h1 : s.toList.isEmpty = false := by simp [h0]
    have h2 : isDigitsB s.data.toList = decide (firstI (fun c => !digB c) 0 s.data.toList < 0) := by
      unfold isDigitsB
      rw [← hd, h1]
      cases hall : s.toList.all digB
      · have := firstI_some (fun c => !digB c) s.toList 0 (by simpa using hall)
        simp; omega
      · have := firstI_none (fun c => !digB c) s.toList 0 (by simpa using hall)
        simp [this]
    rw [h2]; clear h2 hd
    go_enter Try.func10, Try.ntmps10
    go_wp2_with (go_at_call 20; refine (first_any s _ _ notDigit_any hs _).mono ?_; rintro e w' ⟨rfl, rfl⟩)
    go_ret
    exact ⟨rfl, rfl⟩
theorem printable_any (s : ByteArray) (hs : s.size ≤ 140737488355328) (w : World) : Calls Try.prog 12 #[.string s] w fun e w' => e = .returned (.bool (printB s.data.toList)) ∧ w = w' := by
  have h2 : printB s.data.toList = decide (firstI (fun c => !prtB c) 0 s.data.toList < 0) := by
    unfold printB
    cases hall : s.data.toList.all prtB
    · have := firstI_some (fun c => !prtB c) s.data.toList 0 (by simpa using hall)
      simp; omega
    · have := firstI_none (fun c => !prtB c) s.data.toList 0 (by simpa using hall)
      simp [this]
  rw [h2]; clear h2
  go_enter Try.func12, Try.ntmps12
  go_wp2_with (go_at_call 20; refine (first_any s _ _ notPrint_any hs _).mono ?_; rintro e w' ⟨rfl, rfl⟩)
  go_ret
  exact ⟨rfl, rfl⟩
end Go.Proofs.Ytmcehldfeppkbaa
