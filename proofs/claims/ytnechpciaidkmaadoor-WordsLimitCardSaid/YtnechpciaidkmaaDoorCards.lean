/-
  DERIVED. GIVEN WITH THE SEED: THE CARDS: each row of YtnechpciaidkmaaDoorRows.lean that lists a variable, with what it lists TIED to the program's text (the seventh form; the later family's looks); each row that meets fmt, with fmt's text TOLD by the authors' own Lean function (tested against real Go, not proved from fmt's source: count such statements apart). THE CARD IS WHAT COUNTS. Prove the row's statement (the work); the ties are given (YtnechpciaidkmaaDoorTie.lean); close each card by the builder's one call (the guide's Derived/Test/ToyasCard.lean, 'card_holds'). Laid BY PROGRAM, IN A SANDBOX (cutbox-door.mjs). By AI agents, Wed Nov 11 2026. No macro, syntax, notation, axiom, sorry.
-/
import Derived.Test.YtnechpciaidkmaaDoorRows
import GoSem.ClaimSeven
namespace Go.Proofs.YtnechpciaidkmaaDoor
namespace Rows

/-- THE TIED CARD OF 'signallinglaw05.WordsLines'. -/
def wordsLinesCard : Claim7 := { stood := { row := wordsLinesRow, standIns := [], harness := (true, "51c859ddad675148d441ecfc7626b45112e6231030f9fdf80a71aa67985728c3"), looks := true }, kinds := [], alts := [], laidByText := true, laidKinds := [.data, .data, .data, .data, .sentinel, .sentinel, .pinned], laidTests := true, laidLooks := .later }
def WordsLinesCardSaid : Prop := Claim7.holds Tryd.pinned (.plain (OpenSpec.ofChange wordsLinesSpec)) wordsLinesCard

/-- THE TIED CARD OF 'signallinglaw05.WordsJoins'. -/
def wordsJoinsCard : Claim7 := { stood := { row := wordsJoinsRow, standIns := [], harness := (true, "51c859ddad675148d441ecfc7626b45112e6231030f9fdf80a71aa67985728c3"), looks := true }, kinds := [], alts := [], laidByText := true, laidKinds := [.data, .data, .data, .data, .sentinel, .sentinel, .pinned], laidTests := true, laidLooks := .later }
def WordsJoinsCardSaid : Prop := Claim7.holds Tryd.pinned (.plain (OpenSpec.ofChange wordsJoinsSpec)) wordsJoinsCard

/-- THE TIED CARD OF 'signallinglaw05.WordsLimit'. -/
def wordsLimitCard : Claim7 := { stood := { row := wordsLimitRow, standIns := [], harness := (true, "51c859ddad675148d441ecfc7626b45112e6231030f9fdf80a71aa67985728c3"), looks := true }, kinds := [], alts := [], laidByText := true, laidKinds := [.data, .data, .data, .data, .sentinel, .sentinel, .pinned], laidTests := true, laidLooks := .later }
def WordsLimitCardSaid : Prop := Claim7.holds Tryd.pinned (.plain (OpenSpec.ofChange wordsLimitSpec)) wordsLimitCard

/-- THE TIED CARD OF 'signallinglaw05.WordsRoundTrip'. -/
def wordsRoundTripCard : Claim7 := { stood := { row := wordsRoundTripRow, standIns := [], harness := (true, "51c859ddad675148d441ecfc7626b45112e6231030f9fdf80a71aa67985728c3"), looks := true }, kinds := [], alts := [], laidByText := true, laidKinds := [.data, .data, .data, .data, .sentinel, .sentinel, .pinned], laidTests := true, laidLooks := .later }
def WordsRoundTripCardSaid : Prop := Claim7.holds Tryd.pinned (.plain (OpenSpec.ofChange wordsRoundTripSpec)) wordsRoundTripCard

/-- THE TIED CARD OF 'signallinglaw05.WordsInts'. -/
def wordsIntsCard : Claim7 := { stood := { row := wordsIntsRow, standIns := [], harness := (true, "51c859ddad675148d441ecfc7626b45112e6231030f9fdf80a71aa67985728c3"), looks := true }, kinds := [], alts := [], laidByText := true, laidKinds := [.data, .data, .data, .data, .sentinel, .sentinel, .pinned], laidTests := true, laidLooks := .later }
def WordsIntsCardSaid : Prop := Claim7.holds Tryd.pinned (.plain (OpenSpec.ofChange wordsIntsSpec)) wordsIntsCard

/-- THE TIED CARD OF 'signallinglaw05.WordsFormats'. -/
def wordsFormatsCard : Claim7 := { stood := { row := wordsFormatsRow, standIns := [], harness := (true, "51c859ddad675148d441ecfc7626b45112e6231030f9fdf80a71aa67985728c3"), looks := true }, kinds := [], alts := [], laidByText := true, laidKinds := [.data, .data, .data, .data, .sentinel, .sentinel, .pinned], laidTests := true, laidLooks := .later }
def WordsFormatsCardSaid : Prop := Claim7.holds Tryd.pinned (.plain (OpenSpec.ofChange wordsFormatsSpec)) wordsFormatsCard

/-- THE TIED CARD OF 'signallinglaw05.WordsNames'. -/
def wordsNamesCard : Claim7 := { stood := { row := wordsNamesRow, standIns := [], harness := (true, "51c859ddad675148d441ecfc7626b45112e6231030f9fdf80a71aa67985728c3"), looks := true }, kinds := [], alts := [], laidByText := true, laidKinds := [.data, .data, .data, .data, .sentinel, .sentinel, .pinned], laidTests := true, laidLooks := .later }
def WordsNamesCardSaid : Prop := Claim7.holds Tryd.pinned (.plain (OpenSpec.ofChange wordsNamesSpec)) wordsNamesCard

/-- THE TIED CARD OF 'signallinglaw05.WordsLists'. -/
def wordsListsCard : Claim7 := { stood := { row := wordsListsRow, standIns := [], harness := (true, "51c859ddad675148d441ecfc7626b45112e6231030f9fdf80a71aa67985728c3"), looks := true }, kinds := [], alts := [], laidByText := true, laidKinds := [.data, .data, .data, .data, .sentinel, .sentinel, .pinned], laidTests := true, laidLooks := .later }
def WordsListsCardSaid : Prop := Claim7.holds Tryd.pinned (.plain (OpenSpec.ofChange wordsListsSpec)) wordsListsCard

/-- THE SECOND FORM's CARD OF 'signallinglaw05.WordsLines'. -/
def wordsLinesUptoCard : Claim7 := { stood := { row := wordsLinesUptoRow, standIns := [], harness := (true, "51c859ddad675148d441ecfc7626b45112e6231030f9fdf80a71aa67985728c3"), looks := true }, kinds := [], alts := [], laidByText := true, laidKinds := [.data, .data, .data, .data, .sentinel, .sentinel, .pinned], laidTests := true, laidLooks := .later }
def WordsLinesUptoCardSaid : Prop := Claim7.holds Tryd.pinned (.plain (OpenSpec.upto wordsLinesSpec)) wordsLinesUptoCard

/-- THE SECOND FORM's CARD OF 'signallinglaw05.WordsJoins'. -/
def wordsJoinsUptoCard : Claim7 := { stood := { row := wordsJoinsUptoRow, standIns := [], harness := (true, "51c859ddad675148d441ecfc7626b45112e6231030f9fdf80a71aa67985728c3"), looks := true }, kinds := [], alts := [], laidByText := true, laidKinds := [.data, .data, .data, .data, .sentinel, .sentinel, .pinned], laidTests := true, laidLooks := .later }
def WordsJoinsUptoCardSaid : Prop := Claim7.holds Tryd.pinned (.plain (OpenSpec.upto wordsJoinsSpec)) wordsJoinsUptoCard

/-- THE SECOND FORM's CARD OF 'signallinglaw05.WordsLimit'. -/
def wordsLimitUptoCard : Claim7 := { stood := { row := wordsLimitUptoRow, standIns := [], harness := (true, "51c859ddad675148d441ecfc7626b45112e6231030f9fdf80a71aa67985728c3"), looks := true }, kinds := [], alts := [], laidByText := true, laidKinds := [.data, .data, .data, .data, .sentinel, .sentinel, .pinned], laidTests := true, laidLooks := .later }
def WordsLimitUptoCardSaid : Prop := Claim7.holds Tryd.pinned (.plain (OpenSpec.upto wordsLimitSpec)) wordsLimitUptoCard

/-- THE SECOND FORM's CARD OF 'signallinglaw05.WordsRoundTrip'. -/
def wordsRoundTripUptoCard : Claim7 := { stood := { row := wordsRoundTripUptoRow, standIns := [], harness := (true, "51c859ddad675148d441ecfc7626b45112e6231030f9fdf80a71aa67985728c3"), looks := true }, kinds := [], alts := [], laidByText := true, laidKinds := [.data, .data, .data, .data, .sentinel, .sentinel, .pinned], laidTests := true, laidLooks := .later }
def WordsRoundTripUptoCardSaid : Prop := Claim7.holds Tryd.pinned (.plain (OpenSpec.upto wordsRoundTripSpec)) wordsRoundTripUptoCard

/-- THE SECOND FORM's CARD OF 'signallinglaw05.WordsInts'. -/
def wordsIntsUptoCard : Claim7 := { stood := { row := wordsIntsUptoRow, standIns := [], harness := (true, "51c859ddad675148d441ecfc7626b45112e6231030f9fdf80a71aa67985728c3"), looks := true }, kinds := [], alts := [], laidByText := true, laidKinds := [.data, .data, .data, .data, .sentinel, .sentinel, .pinned], laidTests := true, laidLooks := .later }
def WordsIntsUptoCardSaid : Prop := Claim7.holds Tryd.pinned (.plain (OpenSpec.upto wordsIntsSpec)) wordsIntsUptoCard

/-- THE SECOND FORM's CARD OF 'signallinglaw05.WordsFormats'. -/
def wordsFormatsUptoCard : Claim7 := { stood := { row := wordsFormatsUptoRow, standIns := [], harness := (true, "51c859ddad675148d441ecfc7626b45112e6231030f9fdf80a71aa67985728c3"), looks := true }, kinds := [], alts := [], laidByText := true, laidKinds := [.data, .data, .data, .data, .sentinel, .sentinel, .pinned], laidTests := true, laidLooks := .later }
def WordsFormatsUptoCardSaid : Prop := Claim7.holds Tryd.pinned (.plain (OpenSpec.upto wordsFormatsSpec)) wordsFormatsUptoCard

/-- THE SECOND FORM's CARD OF 'signallinglaw05.WordsNames'. -/
def wordsNamesUptoCard : Claim7 := { stood := { row := wordsNamesUptoRow, standIns := [], harness := (true, "51c859ddad675148d441ecfc7626b45112e6231030f9fdf80a71aa67985728c3"), looks := true }, kinds := [], alts := [], laidByText := true, laidKinds := [.data, .data, .data, .data, .sentinel, .sentinel, .pinned], laidTests := true, laidLooks := .later }
def WordsNamesUptoCardSaid : Prop := Claim7.holds Tryd.pinned (.plain (OpenSpec.upto wordsNamesSpec)) wordsNamesUptoCard

/-- THE SECOND FORM's CARD OF 'signallinglaw05.WordsLists'. -/
def wordsListsUptoCard : Claim7 := { stood := { row := wordsListsUptoRow, standIns := [], harness := (true, "51c859ddad675148d441ecfc7626b45112e6231030f9fdf80a71aa67985728c3"), looks := true }, kinds := [], alts := [], laidByText := true, laidKinds := [.data, .data, .data, .data, .sentinel, .sentinel, .pinned], laidTests := true, laidLooks := .later }
def WordsListsUptoCardSaid : Prop := Claim7.holds Tryd.pinned (.plain (OpenSpec.upto wordsListsSpec)) wordsListsUptoCard
end Rows
end Go.Proofs.YtnechpciaidkmaaDoor
