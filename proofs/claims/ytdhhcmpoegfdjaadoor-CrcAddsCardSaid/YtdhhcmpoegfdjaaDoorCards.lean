/-
  DERIVED. GIVEN WITH THE SEED: THE CARDS: each row of YtdhhcmpoegfdjaaDoorRows.lean that lists a variable, with what it lists TIED to the program's text (the seventh form; the later family's looks); each row that meets fmt, with fmt's text TOLD by the authors' own Lean function (tested against real Go, not proved from fmt's source: count such statements apart). THE CARD IS WHAT COUNTS. Prove the row's statement (the work); the ties are given (YtdhhcmpoegfdjaaDoorTie.lean); close each card by the builder's one call (the guide's Derived/Test/ToyasCard.lean, 'card_holds'). Laid BY PROGRAM, IN A SANDBOX (cutbox-door.mjs). By AI agents, Wed Nov 11 2026. No macro, syntax, notation, axiom, sorry.
-/
import Derived.Test.YtdhhcmpoegfdjaaDoorRows
import GoSem.ClaimSeven
namespace Go.Proofs.YtdhhcmpoegfdjaaDoor
namespace Rows

/-- THE TIED CARD OF 'signallinglaw04.CrcSums'. -/
def crcSumsCard : Claim7 := { stood := { row := crcSumsRow, standIns := [], harness := (true, "2d00dcba76b764dfd051bb3a13337b88d5886668904bb3c5079b70cda0534ad1"), looks := false }, kinds := [], alts := [], laidByText := true, laidKinds := [.data, .data, .data], laidTests := true, laidLooks := .later }
def CrcSumsCardSaid : Prop := Claim7.holds Tryd.pinned (.plain (OpenSpec.ofChange crcSumsSpec)) crcSumsCard

/-- THE TIED CARD OF 'signallinglaw04.CrcOpens'. -/
def crcOpensCard : Claim7 := { stood := { row := crcOpensRow, standIns := [], harness := (true, "2d00dcba76b764dfd051bb3a13337b88d5886668904bb3c5079b70cda0534ad1"), looks := false }, kinds := [], alts := [], laidByText := true, laidKinds := [.data, .data, .data], laidTests := true, laidLooks := .later }
def CrcOpensCardSaid : Prop := Claim7.holds Tryd.pinned (.plain (OpenSpec.ofChange crcOpensSpec)) crcOpensCard

/-- THE TIED CARD OF 'signallinglaw04.CrcDetects'. -/
def crcDetectsCard : Claim7 := { stood := { row := crcDetectsRow, standIns := [], harness := (true, "2d00dcba76b764dfd051bb3a13337b88d5886668904bb3c5079b70cda0534ad1"), looks := false }, kinds := [], alts := [], laidByText := true, laidKinds := [.data, .data, .data], laidTests := true, laidLooks := .later }
def CrcDetectsCardSaid : Prop := Claim7.holds Tryd.pinned (.plain (OpenSpec.ofChange crcDetectsSpec)) crcDetectsCard

/-- THE TIED CARD OF 'signallinglaw04.CrcAdds'. -/
def crcAddsCard : Claim7 := { stood := { row := crcAddsRow, standIns := [], harness := (true, "2d00dcba76b764dfd051bb3a13337b88d5886668904bb3c5079b70cda0534ad1"), looks := false }, kinds := [], alts := [], laidByText := true, laidKinds := [.data, .data, .data], laidTests := true, laidLooks := .later }
def CrcAddsCardSaid : Prop := Claim7.holds Tryd.pinned (.plain (OpenSpec.ofChange crcAddsSpec)) crcAddsCard

/-- THE TIED CARD OF 'signallinglaw04.CrcChains'. -/
def crcChainsCard : Claim7 := { stood := { row := crcChainsRow, standIns := [], harness := (true, "2d00dcba76b764dfd051bb3a13337b88d5886668904bb3c5079b70cda0534ad1"), looks := false }, kinds := [], alts := [], laidByText := true, laidKinds := [.data, .data, .data], laidTests := true, laidLooks := .later }
def CrcChainsCardSaid : Prop := Claim7.holds Tryd.pinned (.plain (OpenSpec.ofChange crcChainsSpec)) crcChainsCard

/-- THE SECOND FORM's CARD OF 'signallinglaw04.CrcSums'. -/
def crcSumsUptoCard : Claim7 := { stood := { row := crcSumsUptoRow, standIns := [], harness := (true, "2d00dcba76b764dfd051bb3a13337b88d5886668904bb3c5079b70cda0534ad1"), looks := false }, kinds := [], alts := [], laidByText := true, laidKinds := [.data, .data, .data], laidTests := true, laidLooks := .later }
def CrcSumsUptoCardSaid : Prop := Claim7.holds Tryd.pinned (.plain (OpenSpec.upto crcSumsSpec)) crcSumsUptoCard

/-- THE SECOND FORM's CARD OF 'signallinglaw04.CrcOpens'. -/
def crcOpensUptoCard : Claim7 := { stood := { row := crcOpensUptoRow, standIns := [], harness := (true, "2d00dcba76b764dfd051bb3a13337b88d5886668904bb3c5079b70cda0534ad1"), looks := false }, kinds := [], alts := [], laidByText := true, laidKinds := [.data, .data, .data], laidTests := true, laidLooks := .later }
def CrcOpensUptoCardSaid : Prop := Claim7.holds Tryd.pinned (.plain (OpenSpec.upto crcOpensSpec)) crcOpensUptoCard

/-- THE SECOND FORM's CARD OF 'signallinglaw04.CrcDetects'. -/
def crcDetectsUptoCard : Claim7 := { stood := { row := crcDetectsUptoRow, standIns := [], harness := (true, "2d00dcba76b764dfd051bb3a13337b88d5886668904bb3c5079b70cda0534ad1"), looks := false }, kinds := [], alts := [], laidByText := true, laidKinds := [.data, .data, .data], laidTests := true, laidLooks := .later }
def CrcDetectsUptoCardSaid : Prop := Claim7.holds Tryd.pinned (.plain (OpenSpec.upto crcDetectsSpec)) crcDetectsUptoCard

/-- THE SECOND FORM's CARD OF 'signallinglaw04.CrcAdds'. -/
def crcAddsUptoCard : Claim7 := { stood := { row := crcAddsUptoRow, standIns := [], harness := (true, "2d00dcba76b764dfd051bb3a13337b88d5886668904bb3c5079b70cda0534ad1"), looks := false }, kinds := [], alts := [], laidByText := true, laidKinds := [.data, .data, .data], laidTests := true, laidLooks := .later }
def CrcAddsUptoCardSaid : Prop := Claim7.holds Tryd.pinned (.plain (OpenSpec.upto crcAddsSpec)) crcAddsUptoCard

/-- THE SECOND FORM's CARD OF 'signallinglaw04.CrcChains'. -/
def crcChainsUptoCard : Claim7 := { stood := { row := crcChainsUptoRow, standIns := [], harness := (true, "2d00dcba76b764dfd051bb3a13337b88d5886668904bb3c5079b70cda0534ad1"), looks := false }, kinds := [], alts := [], laidByText := true, laidKinds := [.data, .data, .data], laidTests := true, laidLooks := .later }
def CrcChainsUptoCardSaid : Prop := Claim7.holds Tryd.pinned (.plain (OpenSpec.upto crcChainsSpec)) crcChainsUptoCard
end Rows
end Go.Proofs.YtdhhcmpoegfdjaaDoor
