/-
  The facts that the contracts ask, for the rows of layer 3 that list the writer's tables, too.
-/
import Derived.Test.YtpalfhfbgfnacaaGreatDoorWrap3
import Derived.Test.YtpalfhfbgfnacaaGreatDoorGA
namespace Go.Proofs.YtpalfhfbgfnacaaGreatDoor
open Go.RowKit
set_option linter.unusedVariables false

abbrev tabs3b : List (String × DataW Unit) := Rows.tokensLinesRow.laid
theorem signs_ofB {W : World} (h : laidMetH Tryz.prog tabs3b W) : SignsAt W := by
  have h1 := h.filter fun x => x.1 == "unicode/utf8.acceptRanges" || x.1 == "columnseven/tokens.signs" || x.1 == "unicode/utf8.first"
  have e : (tabs3b.filter fun x => x.1 == "unicode/utf8.acceptRanges" || x.1 == "columnseven/tokens.signs" || x.1 == "unicode/utf8.first") = tabs3 := by rfl
  rw [e] at h1
  exact signs_of h1
theorem pow10GB : Tryz.prog.globalNamed "internal/strconv.uint64pow10" = some 4 := by kernel_rfl
theorem tab_ofB {W : World} (h : laidMetH Tryz.prog tabs3b W) : Lib.TabIs Tryz.prog W "internal/strconv.uint64pow10" .u64 Lib.pow10Tab := by
  have h1 := h.filter fun x => x.1 == "internal/strconv.uint64pow10"
  have e : (tabs3b.filter fun x => x.1 == "internal/strconv.uint64pow10") = [("internal/strconv.uint64pow10", Lib.tabData .u64 Lib.pow10Tab)] := by rfl
  rw [e] at h1
  rw [MakeChecks.laidMetH_plain _ _ _ (by kernel_rfl)] at h1
  exact Lib.tabIs_of_head (t := 177) (e := 132) (n := 20) pow10GB (by kernel_rfl) Tryz.underlying177 Tryz.underlying132 (by kernel_rfl) (by kernel_rfl) h1
end Go.Proofs.YtpalfhfbgfnacaaGreatDoor
