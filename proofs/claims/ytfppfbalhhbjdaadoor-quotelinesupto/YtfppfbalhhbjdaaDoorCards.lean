/-
  DERIVED. GIVEN WITH THE SEED: THE CARDS: each row of YtfppfbalhhbjdaaDoorRows.lean that lists a variable, with what it lists TIED to the program's text (the seventh form; the later family's looks); each row that meets fmt, with fmt's text TOLD by the authors' own Lean function (tested against real Go, not proved from fmt's source: count such statements apart). THE CARD IS WHAT COUNTS. Prove the row's statement (the work); the ties are given (YtfppfbalhhbjdaaDoorTie.lean); close each card by the builder's one call (the guide's Derived/Test/ToyasCard.lean, 'card_holds'). Laid BY PROGRAM, IN A SANDBOX (cutbox-door.mjs). By AI agents, Wed Nov 11 2026. No macro, syntax, notation, axiom, sorry.
-/
import Derived.Test.YtfppfbalhhbjdaaDoorRows
import GoSem.ClaimSeven
namespace Go.Proofs.YtfppfbalhhbjdaaDoor
namespace Rows

/-- THE TIED CARD OF 'espalierlaw05.QuoteTexts'. -/
def quoteTextsCard : Claim7 := { stood := { row := quoteTextsRow, standIns := [], harness := (true, "a2b983058d0b65de1c8ae24dfd406bb32b3dbbc6cfdacc9b4e38bd35a722e56d"), looks := false }, kinds := [], alts := [], laidByText := true, laidKinds := [.data, .pinned], laidTests := true, laidLooks := .later }
def QuoteTextsCardSaid : Prop := Claim7.holds Tryd.pinned (.plain (OpenSpec.ofChange quoteTextsSpec)) quoteTextsCard

/-- THE TIED CARD OF 'espalierlaw05.QuoteWords'. -/
def quoteWordsCard : Claim7 := { stood := { row := quoteWordsRow, standIns := [], harness := (true, "a2b983058d0b65de1c8ae24dfd406bb32b3dbbc6cfdacc9b4e38bd35a722e56d"), looks := false }, kinds := [], alts := [], laidByText := true, laidKinds := [.data, .pinned], laidTests := true, laidLooks := .later }
def QuoteWordsCardSaid : Prop := Claim7.holds Tryd.pinned (.plain (OpenSpec.ofChange quoteWordsSpec)) quoteWordsCard

/-- THE TIED CARD OF 'espalierlaw05.QuoteLines'. -/
def quoteLinesCard : Claim7 := { stood := { row := quoteLinesRow, standIns := [], harness := (true, "a2b983058d0b65de1c8ae24dfd406bb32b3dbbc6cfdacc9b4e38bd35a722e56d"), looks := false }, kinds := [], alts := [], laidByText := true, laidKinds := [.data, .pinned], laidTests := true, laidLooks := .later }
def QuoteLinesCardSaid : Prop := Claim7.holds Tryd.pinned (.plain (OpenSpec.ofChange quoteLinesSpec)) quoteLinesCard

/-- THE TIED CARD OF 'espalierlaw05.QuoteNumbers'. -/
def quoteNumbersCard : Claim7 := { stood := { row := quoteNumbersRow, standIns := [], harness := (true, "a2b983058d0b65de1c8ae24dfd406bb32b3dbbc6cfdacc9b4e38bd35a722e56d"), looks := false }, kinds := [], alts := [], laidByText := true, laidKinds := [.data, .pinned], laidTests := true, laidLooks := .later }
def QuoteNumbersCardSaid : Prop := Claim7.holds Tryd.pinned (.plain (OpenSpec.ofChange quoteNumbersSpec)) quoteNumbersCard

/-- THE TIED CARD OF 'espalierlaw05.QuoteBack'. -/
def quoteBackCard : Claim7 := { stood := { row := quoteBackRow, standIns := [], harness := (true, "a2b983058d0b65de1c8ae24dfd406bb32b3dbbc6cfdacc9b4e38bd35a722e56d"), looks := false }, kinds := [], alts := [], laidByText := true, laidKinds := [.data, .pinned], laidTests := true, laidLooks := .later }
def QuoteBackCardSaid : Prop := Claim7.holds Tryd.pinned (.plain (OpenSpec.ofChange quoteBackSpec)) quoteBackCard

/-- THE TIED CARD OF 'espalierlaw05.QuoteRight'. -/
def quoteRightCard : Claim7 := { stood := { row := quoteRightRow, standIns := [], harness := (true, "a2b983058d0b65de1c8ae24dfd406bb32b3dbbc6cfdacc9b4e38bd35a722e56d"), looks := false }, kinds := [], alts := [], laidByText := true, laidKinds := [.data, .pinned], laidTests := true, laidLooks := .later }
def QuoteRightCardSaid : Prop := Claim7.holds Tryd.pinned (.plain (OpenSpec.ofChange quoteRightSpec)) quoteRightCard

/-- THE SECOND FORM's CARD OF 'espalierlaw05.QuoteTexts'. -/
def quoteTextsUptoCard : Claim7 := { stood := { row := quoteTextsUptoRow, standIns := [], harness := (true, "a2b983058d0b65de1c8ae24dfd406bb32b3dbbc6cfdacc9b4e38bd35a722e56d"), looks := false }, kinds := [], alts := [], laidByText := true, laidKinds := [.data, .pinned], laidTests := true, laidLooks := .later }
def QuoteTextsUptoCardSaid : Prop := Claim7.holds Tryd.pinned (.plain (OpenSpec.upto quoteTextsSpec)) quoteTextsUptoCard

/-- THE SECOND FORM's CARD OF 'espalierlaw05.QuoteWords'. -/
def quoteWordsUptoCard : Claim7 := { stood := { row := quoteWordsUptoRow, standIns := [], harness := (true, "a2b983058d0b65de1c8ae24dfd406bb32b3dbbc6cfdacc9b4e38bd35a722e56d"), looks := false }, kinds := [], alts := [], laidByText := true, laidKinds := [.data, .pinned], laidTests := true, laidLooks := .later }
def QuoteWordsUptoCardSaid : Prop := Claim7.holds Tryd.pinned (.plain (OpenSpec.upto quoteWordsSpec)) quoteWordsUptoCard

/-- THE SECOND FORM's CARD OF 'espalierlaw05.QuoteLines'. -/
def quoteLinesUptoCard : Claim7 := { stood := { row := quoteLinesUptoRow, standIns := [], harness := (true, "a2b983058d0b65de1c8ae24dfd406bb32b3dbbc6cfdacc9b4e38bd35a722e56d"), looks := false }, kinds := [], alts := [], laidByText := true, laidKinds := [.data, .pinned], laidTests := true, laidLooks := .later }
def QuoteLinesUptoCardSaid : Prop := Claim7.holds Tryd.pinned (.plain (OpenSpec.upto quoteLinesSpec)) quoteLinesUptoCard

/-- THE SECOND FORM's CARD OF 'espalierlaw05.QuoteNumbers'. -/
def quoteNumbersUptoCard : Claim7 := { stood := { row := quoteNumbersUptoRow, standIns := [], harness := (true, "a2b983058d0b65de1c8ae24dfd406bb32b3dbbc6cfdacc9b4e38bd35a722e56d"), looks := false }, kinds := [], alts := [], laidByText := true, laidKinds := [.data, .pinned], laidTests := true, laidLooks := .later }
def QuoteNumbersUptoCardSaid : Prop := Claim7.holds Tryd.pinned (.plain (OpenSpec.upto quoteNumbersSpec)) quoteNumbersUptoCard

/-- THE SECOND FORM's CARD OF 'espalierlaw05.QuoteBack'. -/
def quoteBackUptoCard : Claim7 := { stood := { row := quoteBackUptoRow, standIns := [], harness := (true, "a2b983058d0b65de1c8ae24dfd406bb32b3dbbc6cfdacc9b4e38bd35a722e56d"), looks := false }, kinds := [], alts := [], laidByText := true, laidKinds := [.data, .pinned], laidTests := true, laidLooks := .later }
def QuoteBackUptoCardSaid : Prop := Claim7.holds Tryd.pinned (.plain (OpenSpec.upto quoteBackSpec)) quoteBackUptoCard

/-- THE SECOND FORM's CARD OF 'espalierlaw05.QuoteRight'. -/
def quoteRightUptoCard : Claim7 := { stood := { row := quoteRightUptoRow, standIns := [], harness := (true, "a2b983058d0b65de1c8ae24dfd406bb32b3dbbc6cfdacc9b4e38bd35a722e56d"), looks := false }, kinds := [], alts := [], laidByText := true, laidKinds := [.data, .pinned], laidTests := true, laidLooks := .later }
def QuoteRightUptoCardSaid : Prop := Claim7.holds Tryd.pinned (.plain (OpenSpec.upto quoteRightSpec)) quoteRightUptoCard
end Rows
end Go.Proofs.YtfppfbalhhbjdaaDoor
