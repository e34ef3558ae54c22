/-
  DERIVED. GIVEN WITH THE SEED: THE CARDS: each row of YtahmcjgehhfknaaDoorRows.lean that lists a variable, with what it lists TIED to the program's text (the seventh form; the later family's looks); each row that meets fmt, with fmt's text TOLD by the authors' own Lean function (tested against real Go, not proved from fmt's source: count such statements apart). THE CARD IS WHAT COUNTS. Prove the row's statement (the work); the ties are given (YtahmcjgehhfknaaDoorTie.lean); close each card by the builder's one call (the guide's Derived/Test/ToyasCard.lean, 'card_holds'). Laid BY PROGRAM, IN A SANDBOX (cutbox-door.mjs). By AI agents, Wed Nov 11 2026. No macro, syntax, notation, axiom, sorry.
-/
import Derived.Test.YtahmcjgehhfknaaDoorRows
import GoSem.ClaimSeven
namespace Go.Proofs.YtahmcjgehhfknaaDoor
namespace Rows

/-- THE TIED CARD OF 'columnsevenlaw05.WordsOf'. -/
def wordsOfCard : Claim7 := { stood := { row := wordsOfRow, standIns := [], harness := (true, "e9e981d6f1e8e3bfd4101fdc9b2d4069168f733283e4dd7c4450dd504679a533"), looks := false }, kinds := [], alts := [], laidByText := true, laidKinds := [.data, .listed, .data, .pinned], laidTests := true, laidLooks := .later }
def WordsOfCardSaid : Prop := Claim7.holds Tryd.pinned (.plain (OpenSpec.ofChange wordsOfSpec)) wordsOfCard

/-- THE TIED CARD OF 'columnsevenlaw05.WordsAll'. -/
def wordsAllCard : Claim7 := { stood := { row := wordsAllRow, standIns := [], harness := (true, "e9e981d6f1e8e3bfd4101fdc9b2d4069168f733283e4dd7c4450dd504679a533"), looks := false }, kinds := [], alts := [], laidByText := true, laidKinds := [.data, .listed, .data, .pinned], laidTests := true, laidLooks := .later }
def WordsAllCardSaid : Prop := Claim7.holds Tryd.pinned (.plain (OpenSpec.ofChange wordsAllSpec)) wordsAllCard

/-- THE TIED CARD OF 'columnsevenlaw05.WordsLiteral'. -/
def wordsLiteralCard : Claim7 := { stood := { row := wordsLiteralRow, standIns := [], harness := (true, "e9e981d6f1e8e3bfd4101fdc9b2d4069168f733283e4dd7c4450dd504679a533"), looks := false }, kinds := [], alts := [], laidByText := true, laidKinds := [.data, .listed, .data, .pinned], laidTests := true, laidLooks := .later }
def WordsLiteralCardSaid : Prop := Claim7.holds Tryd.pinned (.plain (OpenSpec.ofChange wordsLiteralSpec)) wordsLiteralCard

/-- THE TIED CARD OF 'columnsevenlaw05.WordsNumber'. -/
def wordsNumberCard : Claim7 := { stood := { row := wordsNumberRow, standIns := [], harness := (true, "e9e981d6f1e8e3bfd4101fdc9b2d4069168f733283e4dd7c4450dd504679a533"), looks := false }, kinds := [], alts := [], laidByText := true, laidKinds := [.data, .listed, .data, .pinned], laidTests := true, laidLooks := .later }
def WordsNumberCardSaid : Prop := Claim7.holds Tryd.pinned (.plain (OpenSpec.ofChange wordsNumberSpec)) wordsNumberCard

/-- THE TIED CARD OF 'columnsevenlaw05.WordsTokens'. -/
def wordsTokensCard : Claim7 := { stood := { row := wordsTokensRow, standIns := [], harness := (true, "e9e981d6f1e8e3bfd4101fdc9b2d4069168f733283e4dd7c4450dd504679a533"), looks := false }, kinds := [], alts := [], laidByText := true, laidKinds := [.data, .listed, .data, .pinned], laidTests := true, laidLooks := .later }
def WordsTokensCardSaid : Prop := Claim7.holds Tryd.pinned (.plain (OpenSpec.ofChange wordsTokensSpec)) wordsTokensCard

/-- THE TIED CARD OF 'columnsevenlaw05.WordsValue'. -/
def wordsValueCard : Claim7 := { stood := { row := wordsValueRow, standIns := [], harness := (true, "e9e981d6f1e8e3bfd4101fdc9b2d4069168f733283e4dd7c4450dd504679a533"), looks := false }, kinds := [], alts := [], laidByText := true, laidKinds := [.data, .listed, .data, .pinned], laidTests := true, laidLooks := .later }
def WordsValueCardSaid : Prop := Claim7.holds Tryd.pinned (.plain (OpenSpec.ofChange wordsValueSpec)) wordsValueCard

/-- THE SECOND FORM's CARD OF 'columnsevenlaw05.WordsOf'. -/
def wordsOfUptoCard : Claim7 := { stood := { row := wordsOfUptoRow, standIns := [], harness := (true, "e9e981d6f1e8e3bfd4101fdc9b2d4069168f733283e4dd7c4450dd504679a533"), looks := false }, kinds := [], alts := [], laidByText := true, laidKinds := [.data, .listed, .data, .pinned], laidTests := true, laidLooks := .later }
def WordsOfUptoCardSaid : Prop := Claim7.holds Tryd.pinned (.plain (OpenSpec.upto wordsOfSpec)) wordsOfUptoCard

/-- THE SECOND FORM's CARD OF 'columnsevenlaw05.WordsAll'. -/
def wordsAllUptoCard : Claim7 := { stood := { row := wordsAllUptoRow, standIns := [], harness := (true, "e9e981d6f1e8e3bfd4101fdc9b2d4069168f733283e4dd7c4450dd504679a533"), looks := false }, kinds := [], alts := [], laidByText := true, laidKinds := [.data, .listed, .data, .pinned], laidTests := true, laidLooks := .later }
def WordsAllUptoCardSaid : Prop := Claim7.holds Tryd.pinned (.plain (OpenSpec.upto wordsAllSpec)) wordsAllUptoCard

/-- THE SECOND FORM's CARD OF 'columnsevenlaw05.WordsLiteral'. -/
def wordsLiteralUptoCard : Claim7 := { stood := { row := wordsLiteralUptoRow, standIns := [], harness := (true, "e9e981d6f1e8e3bfd4101fdc9b2d4069168f733283e4dd7c4450dd504679a533"), looks := false }, kinds := [], alts := [], laidByText := true, laidKinds := [.data, .listed, .data, .pinned], laidTests := true, laidLooks := .later }
def WordsLiteralUptoCardSaid : Prop := Claim7.holds Tryd.pinned (.plain (OpenSpec.upto wordsLiteralSpec)) wordsLiteralUptoCard

/-- THE SECOND FORM's CARD OF 'columnsevenlaw05.WordsNumber'. -/
def wordsNumberUptoCard : Claim7 := { stood := { row := wordsNumberUptoRow, standIns := [], harness := (true, "e9e981d6f1e8e3bfd4101fdc9b2d4069168f733283e4dd7c4450dd504679a533"), looks := false }, kinds := [], alts := [], laidByText := true, laidKinds := [.data, .listed, .data, .pinned], laidTests := true, laidLooks := .later }
def WordsNumberUptoCardSaid : Prop := Claim7.holds Tryd.pinned (.plain (OpenSpec.upto wordsNumberSpec)) wordsNumberUptoCard

/-- THE SECOND FORM's CARD OF 'columnsevenlaw05.WordsTokens'. -/
def wordsTokensUptoCard : Claim7 := { stood := { row := wordsTokensUptoRow, standIns := [], harness := (true, "e9e981d6f1e8e3bfd4101fdc9b2d4069168f733283e4dd7c4450dd504679a533"), looks := false }, kinds := [], alts := [], laidByText := true, laidKinds := [.data, .listed, .data, .pinned], laidTests := true, laidLooks := .later }
def WordsTokensUptoCardSaid : Prop := Claim7.holds Tryd.pinned (.plain (OpenSpec.upto wordsTokensSpec)) wordsTokensUptoCard

/-- THE SECOND FORM's CARD OF 'columnsevenlaw05.WordsValue'. -/
def wordsValueUptoCard : Claim7 := { stood := { row := wordsValueUptoRow, standIns := [], harness := (true, "e9e981d6f1e8e3bfd4101fdc9b2d4069168f733283e4dd7c4450dd504679a533"), looks := false }, kinds := [], alts := [], laidByText := true, laidKinds := [.data, .listed, .data, .pinned], laidTests := true, laidLooks := .later }
def WordsValueUptoCardSaid : Prop := Claim7.holds Tryd.pinned (.plain (OpenSpec.upto wordsValueSpec)) wordsValueUptoCard
end Rows
end Go.Proofs.YtahmcjgehhfknaaDoor
