/-
  string(b) of a slice that reads as a list; the law's own function Bytes; the functions on strings.
-/
import Derived.Test.YtahmcjgehhfknaaDoorChars
import Derived.Test.YtahmcjgehhfknaaDoorPlain
import Derived.Lib.ConvBytes
import Derived.Sort.Walk0
namespace Go.Proofs.YtahmcjgehhfknaaDoor
open Go.RowKit
set_option linter.unusedVariables false
set_option linter.unusedSimpArgs false

/-- The string of a list of bytes. -/
def strB (l : List UInt8) : ByteArray := ⟨l.toArray⟩
theorem strB_data (l : List UInt8) : (strB l).data.toList = l := rfl
theorem strB_toList (l : List UInt8) : (strB l).toList = l := ByteArray.toList_eq _
theorem strB_of (s : ByteArray) : strB s.data.toList = s := rfl
theorem strB_size (l : List UInt8) : (strB l).size = l.length := by simp [strB, ByteArray.size]

set_option maxRecDepth 100000 in
theorem run_str (A : Option Addr) (xs : List UInt8) (cap : Nat) (w : World) (h : Txt w A xs) :
    (convert 41 9 (.slice A xs.length cap)).run Tryd.prog w = .ok (.string (strB xs)) w := by
  rcases Nat.eq_zero_or_pos xs.length with h0 | h0
  · obtain rfl : xs = [] := List.eq_nil_of_length_eq_zero h0
    rw [run_convert_bytes_string w 41 9 5 A _ cap Tryd.underlying41 Tryd.underlying5 Tryd.underlying9]
    rcases A with _ | a
    · simp [Conv.bytesToString]; rfl
    · refine (run_bytesToString w a _ cap [] ?_).trans rfl
      exact run_loadCells_list (P := Tryd.prog) w a [] (fun j v hj => by simp at hj)
  · obtain ⟨b, off, rfl, hb, hc⟩ := h h0
    have := run_convert_bytes_arg (P := Tryd.prog) w 41 5 Tryd.underlying41 Tryd.underlying5 b off xs.length cap (xs.map fun c => (c.toNat : Int)) (by simp) (fun i hi => by
      rw [hc i _ (List.getElem?_eq_getElem hi)]
      simp [List.getD, hi]) 9 Tryd.underlying9
    refine this.trans ?_
    congr 2
    show strOfNums (xs.map fun c => (c.toNat : Int)) = strB xs
    unfold strOfNums strB
    congr 1
    simp [Function.comp_def]

set_option maxRecDepth 100000 in
theorem isDigits_any (s : ByteArray) (hs : s.size ≤ 140737488355328) (w : World) : Calls Tryd.prog 69 #[.string s] w fun e w' => e = .returned (.bool (isDigitsB s.data.toList)) ∧ w = w' := by
  have hd : s.toList = s.data.toList := ByteArray.toList_eq s
  by_cases h0 : s.toList = []
  · have h1 : s.toList.isEmpty = true := by simp [h0]
    have h2 : isDigitsB s.data.toList = false := by rw [← hd]; simp [isDigitsB, h0]
    rw [h2]; clear h2 hd
    go_enter Tryd.func69, Tryd.ntmps69
    go_wp2
    go_ret
    exact ⟨rfl, rfl⟩
  · have h1 : s.toList.isEmpty = false := by simp [h0]
    have h2 : isDigitsB s.data.toList = decide (firstI (fun c => !digB c) 0 s.data.toList < 0) := by
      unfold isDigitsB
      rw [← hd, h1]
      cases hall : s.toList.all digB
      · have := firstI_some (fun c => !digB c) s.toList 0 (by simpa using hall)
        simp; omega
      · have := firstI_none (fun c => !digB c) s.toList 0 (by simpa using hall)
        simp [this]
    rw [h2]; clear h2 hd
    go_enter Tryd.func69, Tryd.ntmps69
    go_wp2_with (go_at_call 86; refine (first_any s _ _ notDigit_any hs _).mono ?_; rintro e w' ⟨rfl, rfl⟩)
    go_ret
    exact ⟨rfl, rfl⟩
end Go.Proofs.YtahmcjgehhfknaaDoor
