/-
  No cell of these rows narrows 'for every input' (looked for: loops, veiled, ifaces, maps, wideKeys, modest, calm, conditions, laid).
  DERIVED. THE GIVEN ROWS OF THIS SEAT. 4 by the template 'for every input the law returns true; each argument reads behind the call as it read before'; 0 by the template 'total and deterministic' (their statements: YtieoegodhhiiiaaTotals.lean).
  GIVEN WITH THE SEED: the statements are not yours to turn. If you find one false, say at which input.
  Laid BY PROGRAM, IN A SANDBOX (cutbox-rows.mjs): the forced cells as the released guide's own fill.sh prints them over the translation 676d0972ab4e20c2… (all of the seat's roots in one cut). By AI agents, Wed Nov 11 2026. No macro, syntax, notation, axiom, sorry.
-/
import Derived.Test.YtieoegodhhiiiaaChecked
import GoSem.Claim
import GoSem.ClaimJoined
import GoSem.ClaimMapViews
import Derived.JoinedTies
import Derived.KernelRfl
namespace Go.Proofs.Ytieoegodhhiiiaa
/- THE CELL 'sum', in the pinned program and in every row, IS THE sha256 OF THE DUMP (.gsa) THAT YtieoegodhhiiiaaProg.lean LOADS. Nothing in Lean hashes anything: it is a label: what it is worth is what the hold of that sum in a sandbox is worth. -/
noncomputable def Try.pinned : Pinned := { name := "ytieoegodhhiiiaa", sum := "676d0972ab4e20c2741e4fb58f419af11e12122f20ec1b05ae79d5196bc544cc", checked := Try.checked }
namespace Rows
def none {H : Type} : Left H := { results := [], args := [] }

/-- 'signallinglaw07.LayoutChecks': WHATEVER THE INPUT: true; the input reads as it did. -/
def layoutChecksSpec : ChangeSpec := { name := "layoutChecks", fn := fun _ => fun
  | [d] => { results := [.lit (.bool true)], args := [d] }
  | _ => none }
def layoutChecksRow : OpenClaim := { program := "ytieoegodhhiiiaa", sum := "676d0972ab4e20c2741e4fb58f419af11e12122f20ec1b05ae79d5196bc544cc", func := "signalling/signallinglaw07.LayoutChecks", spec := "layoutChecks", unfollowed := true, recurses := true, plainKeys := false, apart := false }
def LayoutChecksSaid : Prop := layoutChecksRow.holds Try.pinned (OpenSpec.ofChange layoutChecksSpec)

/-- ITS FALSE NEIGHBOUR: 'it returns false'. Refute it at one input. -/
def layoutChecksWrong : ChangeSpec := { name := "layoutChecks", fn := fun _ => fun
  | [d] => { results := [.lit (.bool false)], args := [d] }
  | _ => none }
def LayoutChecksWrongFalsely : Prop := layoutChecksRow.holds Try.pinned (OpenSpec.ofChange layoutChecksWrong)

/-- 'signallinglaw07.LayoutJoins': WHATEVER THE INPUT: true; the input reads as it did. -/
def layoutJoinsSpec : ChangeSpec := { name := "layoutJoins", fn := fun _ => fun
  | [d] => { results := [.lit (.bool true)], args := [d] }
  | _ => none }
def layoutJoinsRow : OpenClaim := { program := "ytieoegodhhiiiaa", sum := "676d0972ab4e20c2741e4fb58f419af11e12122f20ec1b05ae79d5196bc544cc", func := "signalling/signallinglaw07.LayoutJoins", spec := "layoutJoins", unfollowed := true, recurses := true, plainKeys := false, apart := false }
def LayoutJoinsSaid : Prop := layoutJoinsRow.holds Try.pinned (OpenSpec.ofChange layoutJoinsSpec)

/-- ITS FALSE NEIGHBOUR: 'it returns false'. Refute it at one input. -/
def layoutJoinsWrong : ChangeSpec := { name := "layoutJoins", fn := fun _ => fun
  | [d] => { results := [.lit (.bool false)], args := [d] }
  | _ => none }
def LayoutJoinsWrongFalsely : Prop := layoutJoinsRow.holds Try.pinned (OpenSpec.ofChange layoutJoinsWrong)

/-- 'signallinglaw07.LayoutParts': WHATEVER THE INPUT: true; the input reads as it did. -/
def layoutPartsSpec : ChangeSpec := { name := "layoutParts", fn := fun _ => fun
  | [d] => { results := [.lit (.bool true)], args := [d] }
  | _ => none }
def layoutPartsRow : OpenClaim := { program := "ytieoegodhhiiiaa", sum := "676d0972ab4e20c2741e4fb58f419af11e12122f20ec1b05ae79d5196bc544cc", func := "signalling/signallinglaw07.LayoutParts", spec := "layoutParts", unfollowed := true, recurses := true, plainKeys := false, apart := false }
def LayoutPartsSaid : Prop := layoutPartsRow.holds Try.pinned (OpenSpec.ofChange layoutPartsSpec)

/-- ITS FALSE NEIGHBOUR: 'it returns false'. Refute it at one input. -/
def layoutPartsWrong : ChangeSpec := { name := "layoutParts", fn := fun _ => fun
  | [d] => { results := [.lit (.bool false)], args := [d] }
  | _ => none }
def LayoutPartsWrongFalsely : Prop := layoutPartsRow.holds Try.pinned (OpenSpec.ofChange layoutPartsWrong)

/-- 'signallinglaw07.LayoutRemoves': WHATEVER THE INPUT: true; the input reads as it did. -/
def layoutRemovesSpec : ChangeSpec := { name := "layoutRemoves", fn := fun _ => fun
  | [d1, d2] => { results := [.lit (.bool true)], args := [d1, d2] }
  | _ => none }
def layoutRemovesRow : OpenClaim := { program := "ytieoegodhhiiiaa", sum := "676d0972ab4e20c2741e4fb58f419af11e12122f20ec1b05ae79d5196bc544cc", func := "signalling/signallinglaw07.LayoutRemoves", spec := "layoutRemoves", unfollowed := true, recurses := true, plainKeys := false, apart := false }
def LayoutRemovesSaid : Prop := layoutRemovesRow.holds Try.pinned (OpenSpec.ofChange layoutRemovesSpec)

/-- ITS FALSE NEIGHBOUR: 'it returns false'. Refute it at one input. -/
def layoutRemovesWrong : ChangeSpec := { name := "layoutRemoves", fn := fun _ => fun
  | [d1, d2] => { results := [.lit (.bool false)], args := [d1, d2] }
  | _ => none }
def LayoutRemovesWrongFalsely : Prop := layoutRemovesRow.holds Try.pinned (OpenSpec.ofChange layoutRemovesWrong)

/- THE SECOND FORM. 'bulk': how many values and letters a reading holds, each counted each time it is reached (what is shared counts as often as it is met; a slice's spare places count too). A statement '..UptoSaid' is the law's where the arguments, and the package variables that the reading takes, are together of bulk at most 1048576: NARROWER than '..Said'. Prove '..Said' where nothing that the law and all that it calls make is longer than what came in: it says more and counts as full. Else prove '..UptoSaid'. A law counts once. -/
mutual
def uptoBulk {H : Type} : DataW H → Nat
  | .lit (.string bytes) => bytes.length + 1
  | .lit _ => 1
  | .nil => 1
  | .ptr d => uptoBulk d + 1
  | .slice elems spare => uptoBulkAll elems + uptoBulkAll spare + 1
  | .agg parts => uptoBulkAll parts + 1
  | .iface _ d => uptoBulk d + 1
  | .map entries => uptoBulkEntries entries + 1
  | .held _ => 1
def uptoBulkAll {H : Type} : List (DataW H) → Nat
  | [] => 0
  | d :: r => uptoBulk d + uptoBulkAll r
def uptoBulkEntries {H : Type} : List (Lit × DataW H) → Nat
  | [] => 0
  | x :: r => uptoBulkEntry x + uptoBulkEntries r
def uptoBulkEntry {H : Type} : Lit × DataW H → Nat
  | (.string bytes, d) => bytes.length + uptoBulk d + 1
  | (_, d) => uptoBulk d + 1
 end
def uptoSmall : (H : Type) → List (DataW H) → Bool := fun _ ds => decide (uptoBulkAll ds ≤ 1048576)
def OpenSpec.upto (s : _root_.Go.ChangeSpec) : _root_.Go.OpenSpec := { _root_.Go.OpenSpec.ofChange s with cond := some uptoSmall }

/-- 'signallinglaw07.LayoutChecks', WHERE WHAT IT READS IS OF BULK AT MOST 1048576: true; the input reads as it did. -/
def layoutChecksUptoRow : OpenClaim := { program := "ytieoegodhhiiiaa", sum := "676d0972ab4e20c2741e4fb58f419af11e12122f20ec1b05ae79d5196bc544cc", func := "signalling/signallinglaw07.LayoutChecks", spec := "layoutChecks", unfollowed := true, recurses := true, plainKeys := false, apart := false, narrowed := true }
def LayoutChecksUptoSaid : Prop := layoutChecksUptoRow.holds Try.pinned (OpenSpec.upto layoutChecksSpec)

/-- 'signallinglaw07.LayoutJoins', WHERE WHAT IT READS IS OF BULK AT MOST 1048576: true; the input reads as it did. -/
def layoutJoinsUptoRow : OpenClaim := { program := "ytieoegodhhiiiaa", sum := "676d0972ab4e20c2741e4fb58f419af11e12122f20ec1b05ae79d5196bc544cc", func := "signalling/signallinglaw07.LayoutJoins", spec := "layoutJoins", unfollowed := true, recurses := true, plainKeys := false, apart := false, narrowed := true }
def LayoutJoinsUptoSaid : Prop := layoutJoinsUptoRow.holds Try.pinned (OpenSpec.upto layoutJoinsSpec)

/-- 'signallinglaw07.LayoutParts', WHERE WHAT IT READS IS OF BULK AT MOST 1048576: true; the input reads as it did. -/
def layoutPartsUptoRow : OpenClaim := { program := "ytieoegodhhiiiaa", sum := "676d0972ab4e20c2741e4fb58f419af11e12122f20ec1b05ae79d5196bc544cc", func := "signalling/signallinglaw07.LayoutParts", spec := "layoutParts", unfollowed := true, recurses := true, plainKeys := false, apart := false, narrowed := true }
def LayoutPartsUptoSaid : Prop := layoutPartsUptoRow.holds Try.pinned (OpenSpec.upto layoutPartsSpec)

/-- 'signallinglaw07.LayoutRemoves', WHERE WHAT IT READS IS OF BULK AT MOST 1048576: true; the input reads as it did. -/
def layoutRemovesUptoRow : OpenClaim := { program := "ytieoegodhhiiiaa", sum := "676d0972ab4e20c2741e4fb58f419af11e12122f20ec1b05ae79d5196bc544cc", func := "signalling/signallinglaw07.LayoutRemoves", spec := "layoutRemoves", unfollowed := true, recurses := true, plainKeys := false, apart := false, narrowed := true }
def LayoutRemovesUptoSaid : Prop := layoutRemovesUptoRow.holds Try.pinned (OpenSpec.upto layoutRemovesSpec)

end Rows
end Go.Proofs.Ytieoegodhhiiiaa
