/-
  DERIVED. GIVEN WITH THE SEED: THE CARDS: each row of YtjhimekojiegjaaDoorRows.lean that lists a variable, with what it lists TIED to the program's text (the seventh form; the later family's looks); each row that meets fmt, with fmt's text TOLD by the authors' own Lean function (tested against real Go, not proved from fmt's source: count such statements apart). THE CARD IS WHAT COUNTS. Prove the row's statement (the work); the ties are given (YtjhimekojiegjaaDoorTie.lean); close each card by the builder's one call (the guide's Derived/Test/ToyasCard.lean, 'card_holds'). Laid BY PROGRAM, IN A SANDBOX (cutbox-door.mjs). By AI agents, Wed Nov 11 2026. No macro, syntax, notation, axiom, sorry.
-/
import Derived.Test.YtjhimekojiegjaaDoorRows
import GoSem.ClaimSeven
namespace Go.Proofs.YtjhimekojiegjaaDoor
namespace Rows

/-- THE TIED CARD OF 'signallinglaw09.WalkSteps'. -/
def walkStepsCard : Claim7 := { stood := { row := walkStepsRow, standIns := [], harness := (true, "a2105613b5e7fc410f299669ccb762ff7233732d631807a24a1a954c7d90bb37"), looks := false }, kinds := [], alts := [], laidByText := true, laidKinds := [.data], laidTests := true, laidLooks := .later }
def WalkStepsCardSaid : Prop := Claim7.holds Tryd.pinned (.plain (OpenSpec.ofChange walkStepsSpec)) walkStepsCard

/-- THE TIED CARD OF 'signallinglaw09.WalkMeasures'. -/
def walkMeasuresCard : Claim7 := { stood := { row := walkMeasuresRow, standIns := [], harness := (true, "a2105613b5e7fc410f299669ccb762ff7233732d631807a24a1a954c7d90bb37"), looks := false }, kinds := [], alts := [], laidByText := true, laidKinds := [.data], laidTests := true, laidLooks := .later }
def WalkMeasuresCardSaid : Prop := Claim7.holds Tryd.pinned (.plain (OpenSpec.ofChange walkMeasuresSpec)) walkMeasuresCard

/-- THE TIED CARD OF 'signallinglaw09.WalkReverses'. -/
def walkReversesCard : Claim7 := { stood := { row := walkReversesRow, standIns := [], harness := (true, "a2105613b5e7fc410f299669ccb762ff7233732d631807a24a1a954c7d90bb37"), looks := false }, kinds := [], alts := [], laidByText := true, laidKinds := [.data], laidTests := true, laidLooks := .later }
def WalkReversesCardSaid : Prop := Claim7.holds Tryd.pinned (.plain (OpenSpec.ofChange walkReversesSpec)) walkReversesCard

/-- THE TIED CARD OF 'signallinglaw09.WalkParts'. -/
def walkPartsCard : Claim7 := { stood := { row := walkPartsRow, standIns := [], harness := (true, "a2105613b5e7fc410f299669ccb762ff7233732d631807a24a1a954c7d90bb37"), looks := false }, kinds := [], alts := [], laidByText := true, laidKinds := [.data], laidTests := true, laidLooks := .later }
def WalkPartsCardSaid : Prop := Claim7.holds Tryd.pinned (.plain (OpenSpec.ofChange walkPartsSpec)) walkPartsCard

/-- THE TIED CARD OF 'signallinglaw09.WalkGoesOn'. -/
def walkGoesOnCard : Claim7 := { stood := { row := walkGoesOnRow, standIns := [], harness := (true, "a2105613b5e7fc410f299669ccb762ff7233732d631807a24a1a954c7d90bb37"), looks := false }, kinds := [], alts := [], laidByText := true, laidKinds := [.data], laidTests := true, laidLooks := .later }
def WalkGoesOnCardSaid : Prop := Claim7.holds Tryd.pinned (.plain (OpenSpec.ofChange walkGoesOnSpec)) walkGoesOnCard

/-- THE TIED CARD OF 'signallinglaw09.WalkSettles'. -/
def walkSettlesCard : Claim7 := { stood := { row := walkSettlesRow, standIns := [], harness := (true, "a2105613b5e7fc410f299669ccb762ff7233732d631807a24a1a954c7d90bb37"), looks := false }, kinds := [], alts := [], laidByText := true, laidKinds := [.data], laidTests := true, laidLooks := .later }
def WalkSettlesCardSaid : Prop := Claim7.holds Tryd.pinned (.plain (OpenSpec.ofChange walkSettlesSpec)) walkSettlesCard

/-- THE SECOND FORM's CARD OF 'signallinglaw09.WalkSteps'. -/
def walkStepsUptoCard : Claim7 := { stood := { row := walkStepsUptoRow, standIns := [], harness := (true, "a2105613b5e7fc410f299669ccb762ff7233732d631807a24a1a954c7d90bb37"), looks := false }, kinds := [], alts := [], laidByText := true, laidKinds := [.data], laidTests := true, laidLooks := .later }
def WalkStepsUptoCardSaid : Prop := Claim7.holds Tryd.pinned (.plain (OpenSpec.upto walkStepsSpec)) walkStepsUptoCard

/-- THE SECOND FORM's CARD OF 'signallinglaw09.WalkMeasures'. -/
def walkMeasuresUptoCard : Claim7 := { stood := { row := walkMeasuresUptoRow, standIns := [], harness := (true, "a2105613b5e7fc410f299669ccb762ff7233732d631807a24a1a954c7d90bb37"), looks := false }, kinds := [], alts := [], laidByText := true, laidKinds := [.data], laidTests := true, laidLooks := .later }
def WalkMeasuresUptoCardSaid : Prop := Claim7.holds Tryd.pinned (.plain (OpenSpec.upto walkMeasuresSpec)) walkMeasuresUptoCard

/-- THE SECOND FORM's CARD OF 'signallinglaw09.WalkReverses'. -/
def walkReversesUptoCard : Claim7 := { stood := { row := walkReversesUptoRow, standIns := [], harness := (true, "a2105613b5e7fc410f299669ccb762ff7233732d631807a24a1a954c7d90bb37"), looks := false }, kinds := [], alts := [], laidByText := true, laidKinds := [.data], laidTests := true, laidLooks := .later }
def WalkReversesUptoCardSaid : Prop := Claim7.holds Tryd.pinned (.plain (OpenSpec.upto walkReversesSpec)) walkReversesUptoCard

/-- THE SECOND FORM's CARD OF 'signallinglaw09.WalkParts'. -/
def walkPartsUptoCard : Claim7 := { stood := { row := walkPartsUptoRow, standIns := [], harness := (true, "a2105613b5e7fc410f299669ccb762ff7233732d631807a24a1a954c7d90bb37"), looks := false }, kinds := [], alts := [], laidByText := true, laidKinds := [.data], laidTests := true, laidLooks := .later }
def WalkPartsUptoCardSaid : Prop := Claim7.holds Tryd.pinned (.plain (OpenSpec.upto walkPartsSpec)) walkPartsUptoCard

/-- THE SECOND FORM's CARD OF 'signallinglaw09.WalkGoesOn'. -/
def walkGoesOnUptoCard : Claim7 := { stood := { row := walkGoesOnUptoRow, standIns := [], harness := (true, "a2105613b5e7fc410f299669ccb762ff7233732d631807a24a1a954c7d90bb37"), looks := false }, kinds := [], alts := [], laidByText := true, laidKinds := [.data], laidTests := true, laidLooks := .later }
def WalkGoesOnUptoCardSaid : Prop := Claim7.holds Tryd.pinned (.plain (OpenSpec.upto walkGoesOnSpec)) walkGoesOnUptoCard

/-- THE SECOND FORM's CARD OF 'signallinglaw09.WalkSettles'. -/
def walkSettlesUptoCard : Claim7 := { stood := { row := walkSettlesUptoRow, standIns := [], harness := (true, "a2105613b5e7fc410f299669ccb762ff7233732d631807a24a1a954c7d90bb37"), looks := false }, kinds := [], alts := [], laidByText := true, laidKinds := [.data], laidTests := true, laidLooks := .later }
def WalkSettlesUptoCardSaid : Prop := Claim7.holds Tryd.pinned (.plain (OpenSpec.upto walkSettlesSpec)) walkSettlesUptoCard
end Rows
end Go.Proofs.YtjhimekojiegjaaDoor
