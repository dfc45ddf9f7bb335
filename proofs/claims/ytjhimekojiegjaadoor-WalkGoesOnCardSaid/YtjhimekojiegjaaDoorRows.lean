/-
  NARROWER THAN 'FOR EVERY INPUT', by the rows' own cells (each row's printed sentence says how): WalkSteps: laid · WalkMeasures: laid · WalkReverses: laid · WalkParts: laid · WalkGoesOn: laid · WalkSettles: laid.
  DERIVED. THE GIVEN ROWS OF THIS SEAT. 6 by the template 'for every input the law returns true; each argument reads behind the call as it read before'; 0 by the template 'total and deterministic' (their statements: YtjhimekojiegjaaDoorTotals.lean).
  GIVEN WITH THE SEED: the statements are not yours to turn. If you find one false, say at which input.
  Laid BY PROGRAM, IN A SANDBOX (cutbox-rows.mjs): the forced cells as the released guide's own fill.sh prints them over the translation 705916645c334208… (all of the seat's roots in one cut). By AI agents, Wed Nov 11 2026. No macro, syntax, notation, axiom, sorry.
-/
import Derived.Test.YtjhimekojiegjaaDoorChecked
import GoSem.Claim
import GoSem.ClaimJoined
import GoSem.ClaimMapViews
import Derived.JoinedTies
import Derived.KernelRfl
namespace Go.Proofs.YtjhimekojiegjaaDoor
/- THE CELL 'sum', in the pinned program and in every row, IS THE sha256 OF THE DUMP (.gsa) THAT YtjhimekojiegjaaDoorProg.lean LOADS. Nothing in Lean hashes anything: it is a label: what it is worth is what the hold of that sum in a sandbox is worth. -/
noncomputable def Tryd.pinned : Pinned := { name := "ytjhimekojiegjaadoor", sum := "705916645c33420876a14bb415c2b6131fb430c41b61adbd555fb7b194b3b10a", checked := Tryd.checked }
namespace Rows
def none {H : Type} : Left H := { results := [], args := [] }

/- WHAT THE LISTED PACKAGE-LEVEL VARIABLES READ AS WHEN THE CALL BEGINS. Each datum BY PROGRAM (the guide's laid-datum.mjs) off the statement by which the dump's own 'gosem.cut.vars' lays the variable. In a bare row this is a premise. The card (YtjhimekojiegjaaDoorCards.lean) ties it to the program's text. -/
def laid_signalling_rail_passages {H : Type} : DataW H := .agg [.agg [.lit (.int .i64 1), .lit (.int .i64 0), .lit (.int .i64 1), .lit (.int .i64 0)], .agg [.lit (.int .i64 1), .lit (.int .i64 1), .lit (.int .i64 0), .lit (.int .i64 0)], .agg [.lit (.int .i64 2), .lit (.int .i64 0), .lit (.int .i64 1), .lit (.int .i64 1)], .agg [.lit (.int .i64 2), .lit (.int .i64 0), .lit (.int .i64 2), .lit (.int .i64 2)], .agg [.lit (.int .i64 2), .lit (.int .i64 1), .lit (.int .i64 0), .lit (.int .i64 1)], .agg [.lit (.int .i64 2), .lit (.int .i64 2), .lit (.int .i64 0), .lit (.int .i64 2)], .agg [.lit (.int .i64 3), .lit (.int .i64 0), .lit (.int .i64 1), .lit (.int .i64 0)], .agg [.lit (.int .i64 3), .lit (.int .i64 1), .lit (.int .i64 0), .lit (.int .i64 0)], .agg [.lit (.int .i64 3), .lit (.int .i64 2), .lit (.int .i64 3), .lit (.int .i64 0)], .agg [.lit (.int .i64 3), .lit (.int .i64 3), .lit (.int .i64 2), .lit (.int .i64 0)]]

/-- 'signallinglaw09.WalkSteps': WHATEVER THE INPUT: true; the input reads as it did. -/
def walkStepsSpec : ChangeSpec := { name := "walkSteps", fn := fun _ => fun
  | [d1, d2, d3] => { results := [.lit (.bool true)], args := [d1, d2, d3] }
  | _ => none }
def walkStepsRow : OpenClaim := { program := "ytjhimekojiegjaadoor", sum := "705916645c33420876a14bb415c2b6131fb430c41b61adbd555fb7b194b3b10a", func := "signalling/signallinglaw09.WalkSteps", spec := "walkSteps", unfollowed := true, recurses := true, named := ["signalling/rail.passages"], apart := false, laid := [("signalling/rail.passages", laid_signalling_rail_passages)] }
def WalkStepsSaid : Prop := walkStepsRow.holds Tryd.pinned (OpenSpec.ofChange walkStepsSpec)

/-- ITS FALSE NEIGHBOUR: 'it returns false'. Refute it at one input. -/
def walkStepsWrong : ChangeSpec := { name := "walkSteps", fn := fun _ => fun
  | [d1, d2, d3] => { results := [.lit (.bool false)], args := [d1, d2, d3] }
  | _ => none }
def WalkStepsWrongFalsely : Prop := walkStepsRow.holds Tryd.pinned (OpenSpec.ofChange walkStepsWrong)

/-- 'signallinglaw09.WalkMeasures': WHATEVER THE INPUT: true; the input reads as it did. -/
def walkMeasuresSpec : ChangeSpec := { name := "walkMeasures", fn := fun _ => fun
  | [d1, d2] => { results := [.lit (.bool true)], args := [d1, d2] }
  | _ => none }
def walkMeasuresRow : OpenClaim := { program := "ytjhimekojiegjaadoor", sum := "705916645c33420876a14bb415c2b6131fb430c41b61adbd555fb7b194b3b10a", func := "signalling/signallinglaw09.WalkMeasures", spec := "walkMeasures", unfollowed := true, recurses := true, named := ["signalling/rail.passages"], apart := false, laid := [("signalling/rail.passages", laid_signalling_rail_passages)] }
def WalkMeasuresSaid : Prop := walkMeasuresRow.holds Tryd.pinned (OpenSpec.ofChange walkMeasuresSpec)

/-- ITS FALSE NEIGHBOUR: 'it returns false'. Refute it at one input. -/
def walkMeasuresWrong : ChangeSpec := { name := "walkMeasures", fn := fun _ => fun
  | [d1, d2] => { results := [.lit (.bool false)], args := [d1, d2] }
  | _ => none }
def WalkMeasuresWrongFalsely : Prop := walkMeasuresRow.holds Tryd.pinned (OpenSpec.ofChange walkMeasuresWrong)

/-- 'signallinglaw09.WalkReverses': WHATEVER THE INPUT: true; the input reads as it did. -/
def walkReversesSpec : ChangeSpec := { name := "walkReverses", fn := fun _ => fun
  | [d1, d2] => { results := [.lit (.bool true)], args := [d1, d2] }
  | _ => none }
def walkReversesRow : OpenClaim := { program := "ytjhimekojiegjaadoor", sum := "705916645c33420876a14bb415c2b6131fb430c41b61adbd555fb7b194b3b10a", func := "signalling/signallinglaw09.WalkReverses", spec := "walkReverses", unfollowed := true, recurses := true, named := ["signalling/rail.passages"], apart := false, laid := [("signalling/rail.passages", laid_signalling_rail_passages)] }
def WalkReversesSaid : Prop := walkReversesRow.holds Tryd.pinned (OpenSpec.ofChange walkReversesSpec)

/-- ITS FALSE NEIGHBOUR: 'it returns false'. Refute it at one input. -/
def walkReversesWrong : ChangeSpec := { name := "walkReverses", fn := fun _ => fun
  | [d1, d2] => { results := [.lit (.bool false)], args := [d1, d2] }
  | _ => none }
def WalkReversesWrongFalsely : Prop := walkReversesRow.holds Tryd.pinned (OpenSpec.ofChange walkReversesWrong)

/-- 'signallinglaw09.WalkParts': WHATEVER THE INPUT: true; the input reads as it did. -/
def walkPartsSpec : ChangeSpec := { name := "walkParts", fn := fun _ => fun
  | [d1, d2, d3, d4] => { results := [.lit (.bool true)], args := [d1, d2, d3, d4] }
  | _ => none }
def walkPartsRow : OpenClaim := { program := "ytjhimekojiegjaadoor", sum := "705916645c33420876a14bb415c2b6131fb430c41b61adbd555fb7b194b3b10a", func := "signalling/signallinglaw09.WalkParts", spec := "walkParts", unfollowed := true, recurses := true, named := ["signalling/rail.passages"], apart := false, laid := [("signalling/rail.passages", laid_signalling_rail_passages)] }
def WalkPartsSaid : Prop := walkPartsRow.holds Tryd.pinned (OpenSpec.ofChange walkPartsSpec)

/-- ITS FALSE NEIGHBOUR: 'it returns false'. Refute it at one input. -/
def walkPartsWrong : ChangeSpec := { name := "walkParts", fn := fun _ => fun
  | [d1, d2, d3, d4] => { results := [.lit (.bool false)], args := [d1, d2, d3, d4] }
  | _ => none }
def WalkPartsWrongFalsely : Prop := walkPartsRow.holds Tryd.pinned (OpenSpec.ofChange walkPartsWrong)

/-- 'signallinglaw09.WalkGoesOn': WHATEVER THE INPUT: true; the input reads as it did. -/
def walkGoesOnSpec : ChangeSpec := { name := "walkGoesOn", fn := fun _ => fun
  | [d1, d2] => { results := [.lit (.bool true)], args := [d1, d2] }
  | _ => none }
def walkGoesOnRow : OpenClaim := { program := "ytjhimekojiegjaadoor", sum := "705916645c33420876a14bb415c2b6131fb430c41b61adbd555fb7b194b3b10a", func := "signalling/signallinglaw09.WalkGoesOn", spec := "walkGoesOn", unfollowed := true, recurses := true, named := ["signalling/rail.passages"], apart := false, laid := [("signalling/rail.passages", laid_signalling_rail_passages)] }
def WalkGoesOnSaid : Prop := walkGoesOnRow.holds Tryd.pinned (OpenSpec.ofChange walkGoesOnSpec)

/-- ITS FALSE NEIGHBOUR: 'it returns false'. Refute it at one input. -/
def walkGoesOnWrong : ChangeSpec := { name := "walkGoesOn", fn := fun _ => fun
  | [d1, d2] => { results := [.lit (.bool false)], args := [d1, d2] }
  | _ => none }
def WalkGoesOnWrongFalsely : Prop := walkGoesOnRow.holds Tryd.pinned (OpenSpec.ofChange walkGoesOnWrong)

/-- 'signallinglaw09.WalkSettles': WHATEVER THE INPUT: true; the input reads as it did. -/
def walkSettlesSpec : ChangeSpec := { name := "walkSettles", fn := fun _ => fun
  | [d1, d2] => { results := [.lit (.bool true)], args := [d1, d2] }
  | _ => none }
def walkSettlesRow : OpenClaim := { program := "ytjhimekojiegjaadoor", sum := "705916645c33420876a14bb415c2b6131fb430c41b61adbd555fb7b194b3b10a", func := "signalling/signallinglaw09.WalkSettles", spec := "walkSettles", unfollowed := true, recurses := true, named := ["signalling/rail.passages"], apart := false, laid := [("signalling/rail.passages", laid_signalling_rail_passages)] }
def WalkSettlesSaid : Prop := walkSettlesRow.holds Tryd.pinned (OpenSpec.ofChange walkSettlesSpec)

/-- ITS FALSE NEIGHBOUR: 'it returns false'. Refute it at one input. -/
def walkSettlesWrong : ChangeSpec := { name := "walkSettles", fn := fun _ => fun
  | [d1, d2] => { results := [.lit (.bool false)], args := [d1, d2] }
  | _ => none }
def WalkSettlesWrongFalsely : Prop := walkSettlesRow.holds Tryd.pinned (OpenSpec.ofChange walkSettlesWrong)

/- THE SECOND FORM. 'bulk': how many values and letters a reading holds, each counted each time it is reached (what is shared counts as often as it is met; a slice's spare places count too). A statement '..UptoSaid' is the law's where the arguments, and the package variables that the reading takes, are together of bulk at most 1048576: NARROWER than '..Said'. Prove '..Said' where nothing that the law and all that it calls make is longer than what came in: it says more and counts as full. Else prove '..UptoSaid'. A law counts once. -/
mutual
def uptoBulk {H : Type} : DataW H → Nat
  | .lit (.string bytes) => bytes.length + 1
  | .lit _ => 1
  | .nil => 1
  | .ptr d => uptoBulk d + 1
  | .slice elems spare => uptoBulkAll elems + uptoBulkAll spare + 1
  | .agg parts => uptoBulkAll parts + 1
  | .iface _ d => uptoBulk d + 1
  | .map entries => uptoBulkEntries entries + 1
  | .held _ => 1
def uptoBulkAll {H : Type} : List (DataW H) → Nat
  | [] => 0
  | d :: r => uptoBulk d + uptoBulkAll r
def uptoBulkEntries {H : Type} : List (Lit × DataW H) → Nat
  | [] => 0
  | x :: r => uptoBulkEntry x + uptoBulkEntries r
def uptoBulkEntry {H : Type} : Lit × DataW H → Nat
  | (.string bytes, d) => bytes.length + uptoBulk d + 1
  | (_, d) => uptoBulk d + 1
 end
def uptoSmall : (H : Type) → List (DataW H) → Bool := fun _ ds => decide (uptoBulkAll ds ≤ 1048576)
def OpenSpec.upto (s : _root_.Go.ChangeSpec) : _root_.Go.OpenSpec := { _root_.Go.OpenSpec.ofChange s with cond := some uptoSmall }

/-- 'signallinglaw09.WalkSteps', WHERE WHAT IT READS IS OF BULK AT MOST 1048576: true; the input reads as it did. -/
def walkStepsUptoRow : OpenClaim := { program := "ytjhimekojiegjaadoor", sum := "705916645c33420876a14bb415c2b6131fb430c41b61adbd555fb7b194b3b10a", func := "signalling/signallinglaw09.WalkSteps", spec := "walkSteps", unfollowed := true, recurses := true, named := ["signalling/rail.passages"], apart := false, laid := [("signalling/rail.passages", laid_signalling_rail_passages)], narrowed := true }
def WalkStepsUptoSaid : Prop := walkStepsUptoRow.holds Tryd.pinned (OpenSpec.upto walkStepsSpec)

/-- 'signallinglaw09.WalkMeasures', WHERE WHAT IT READS IS OF BULK AT MOST 1048576: true; the input reads as it did. -/
def walkMeasuresUptoRow : OpenClaim := { program := "ytjhimekojiegjaadoor", sum := "705916645c33420876a14bb415c2b6131fb430c41b61adbd555fb7b194b3b10a", func := "signalling/signallinglaw09.WalkMeasures", spec := "walkMeasures", unfollowed := true, recurses := true, named := ["signalling/rail.passages"], apart := false, laid := [("signalling/rail.passages", laid_signalling_rail_passages)], narrowed := true }
def WalkMeasuresUptoSaid : Prop := walkMeasuresUptoRow.holds Tryd.pinned (OpenSpec.upto walkMeasuresSpec)

/-- 'signallinglaw09.WalkReverses', WHERE WHAT IT READS IS OF BULK AT MOST 1048576: true; the input reads as it did. -/
def walkReversesUptoRow : OpenClaim := { program := "ytjhimekojiegjaadoor", sum := "705916645c33420876a14bb415c2b6131fb430c41b61adbd555fb7b194b3b10a", func := "signalling/signallinglaw09.WalkReverses", spec := "walkReverses", unfollowed := true, recurses := true, named := ["signalling/rail.passages"], apart := false, laid := [("signalling/rail.passages", laid_signalling_rail_passages)], narrowed := true }
def WalkReversesUptoSaid : Prop := walkReversesUptoRow.holds Tryd.pinned (OpenSpec.upto walkReversesSpec)

/-- 'signallinglaw09.WalkParts', WHERE WHAT IT READS IS OF BULK AT MOST 1048576: true; the input reads as it did. -/
def walkPartsUptoRow : OpenClaim := { program := "ytjhimekojiegjaadoor", sum := "705916645c33420876a14bb415c2b6131fb430c41b61adbd555fb7b194b3b10a", func := "signalling/signallinglaw09.WalkParts", spec := "walkParts", unfollowed := true, recurses := true, named := ["signalling/rail.passages"], apart := false, laid := [("signalling/rail.passages", laid_signalling_rail_passages)], narrowed := true }
def WalkPartsUptoSaid : Prop := walkPartsUptoRow.holds Tryd.pinned (OpenSpec.upto walkPartsSpec)

/-- 'signallinglaw09.WalkGoesOn', WHERE WHAT IT READS IS OF BULK AT MOST 1048576: true; the input reads as it did. -/
def walkGoesOnUptoRow : OpenClaim := { program := "ytjhimekojiegjaadoor", sum := "705916645c33420876a14bb415c2b6131fb430c41b61adbd555fb7b194b3b10a", func := "signalling/signallinglaw09.WalkGoesOn", spec := "walkGoesOn", unfollowed := true, recurses := true, named := ["signalling/rail.passages"], apart := false, laid := [("signalling/rail.passages", laid_signalling_rail_passages)], narrowed := true }
def WalkGoesOnUptoSaid : Prop := walkGoesOnUptoRow.holds Tryd.pinned (OpenSpec.upto walkGoesOnSpec)

/-- 'signallinglaw09.WalkSettles', WHERE WHAT IT READS IS OF BULK AT MOST 1048576: true; the input reads as it did. -/
def walkSettlesUptoRow : OpenClaim := { program := "ytjhimekojiegjaadoor", sum := "705916645c33420876a14bb415c2b6131fb430c41b61adbd555fb7b194b3b10a", func := "signalling/signallinglaw09.WalkSettles", spec := "walkSettles", unfollowed := true, recurses := true, named := ["signalling/rail.passages"], apart := false, laid := [("signalling/rail.passages", laid_signalling_rail_passages)], narrowed := true }
def WalkSettlesUptoSaid : Prop := walkSettlesUptoRow.holds Tryd.pinned (OpenSpec.upto walkSettlesSpec)

end Rows
end Go.Proofs.YtjhimekojiegjaaDoor
