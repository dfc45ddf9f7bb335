/-
  No cell of these rows narrows 'for every input' (looked for: loops, veiled, ifaces, maps, wideKeys, modest, calm, conditions, laid).
  DERIVED. THE GIVEN ROWS OF THIS SEAT. 5 by the template 'for every input the law returns true; each argument reads behind the call as it read before'; 0 by the template 'total and deterministic' (their statements: YtjlnlcnddhilhaaTotals.lean).
  GIVEN WITH THE SEED: the statements are not yours to turn. If you find one false, say at which input.
  Laid BY PROGRAM, IN A SANDBOX (cutbox-rows.mjs): the forced cells as the released guide's own fill.sh prints them over the translation 00016cafd1e7c73f… (all of the seat's roots in one cut). By AI agents, Wed Nov 11 2026. No macro, syntax, notation, axiom, sorry.
-/
import Derived.Test.YtjlnlcnddhilhaaChecked
import GoSem.Claim
import GoSem.ClaimJoined
import GoSem.ClaimMapViews
import Derived.JoinedTies
import Derived.KernelRfl
namespace Go.Proofs.Ytjlnlcnddhilhaa
/- THE CELL 'sum', in the pinned program and in every row, IS THE sha256 OF THE DUMP (.gsa) THAT YtjlnlcnddhilhaaProg.lean LOADS. Nothing in Lean hashes anything: it is a label: what it is worth is what the hold of that sum in a sandbox is worth. -/
noncomputable def Try.pinned : Pinned := { name := "ytjlnlcnddhilhaa", sum := "00016cafd1e7c73fee77f6f2fbfcb3c67979208aefd6a89b780d70fd2cec0ef4", checked := Try.checked }
namespace Rows
def none {H : Type} : Left H := { results := [], args := [] }

/-- 'signallinglaw02.IdsetMakes': WHATEVER THE INPUT: true; the input reads as it did. -/
def idsetMakesSpec : ChangeSpec := { name := "idsetMakes", fn := fun _ => fun
  | [d] => { results := [.lit (.bool true)], args := [d] }
  | _ => none }
def idsetMakesRow : OpenClaim := { program := "ytjlnlcnddhilhaa", sum := "00016cafd1e7c73fee77f6f2fbfcb3c67979208aefd6a89b780d70fd2cec0ef4", func := "signalling/signallinglaw02.IdsetMakes", spec := "idsetMakes", unfollowed := true, recurses := true, apart := false }
def IdsetMakesSaid : Prop := idsetMakesRow.holds Try.pinned (OpenSpec.ofChange idsetMakesSpec)

/-- ITS FALSE NEIGHBOUR: 'it returns false'. Refute it at one input. -/
def idsetMakesWrong : ChangeSpec := { name := "idsetMakes", fn := fun _ => fun
  | [d] => { results := [.lit (.bool false)], args := [d] }
  | _ => none }
def IdsetMakesWrongFalsely : Prop := idsetMakesRow.holds Try.pinned (OpenSpec.ofChange idsetMakesWrong)

/-- 'signallinglaw02.IdsetHas': WHATEVER THE INPUT: true; the input reads as it did. -/
def idsetHasSpec : ChangeSpec := { name := "idsetHas", fn := fun _ => fun
  | [d1, d2, d3] => { results := [.lit (.bool true)], args := [d1, d2, d3] }
  | _ => none }
def idsetHasRow : OpenClaim := { program := "ytjlnlcnddhilhaa", sum := "00016cafd1e7c73fee77f6f2fbfcb3c67979208aefd6a89b780d70fd2cec0ef4", func := "signalling/signallinglaw02.IdsetHas", spec := "idsetHas", unfollowed := true, recurses := true, apart := false }
def IdsetHasSaid : Prop := idsetHasRow.holds Try.pinned (OpenSpec.ofChange idsetHasSpec)

/-- ITS FALSE NEIGHBOUR: 'it returns false'. Refute it at one input. -/
def idsetHasWrong : ChangeSpec := { name := "idsetHas", fn := fun _ => fun
  | [d1, d2, d3] => { results := [.lit (.bool false)], args := [d1, d2, d3] }
  | _ => none }
def IdsetHasWrongFalsely : Prop := idsetHasRow.holds Try.pinned (OpenSpec.ofChange idsetHasWrong)

/-- 'signallinglaw02.IdsetCombines': WHATEVER THE INPUT: true; the input reads as it did. -/
def idsetCombinesSpec : ChangeSpec := { name := "idsetCombines", fn := fun _ => fun
  | [d1, d2] => { results := [.lit (.bool true)], args := [d1, d2] }
  | _ => none }
def idsetCombinesRow : OpenClaim := { program := "ytjlnlcnddhilhaa", sum := "00016cafd1e7c73fee77f6f2fbfcb3c67979208aefd6a89b780d70fd2cec0ef4", func := "signalling/signallinglaw02.IdsetCombines", spec := "idsetCombines", unfollowed := true, recurses := true, apart := false }
def IdsetCombinesSaid : Prop := idsetCombinesRow.holds Try.pinned (OpenSpec.ofChange idsetCombinesSpec)

/-- ITS FALSE NEIGHBOUR: 'it returns false'. Refute it at one input. -/
def idsetCombinesWrong : ChangeSpec := { name := "idsetCombines", fn := fun _ => fun
  | [d1, d2] => { results := [.lit (.bool false)], args := [d1, d2] }
  | _ => none }
def IdsetCombinesWrongFalsely : Prop := idsetCombinesRow.holds Try.pinned (OpenSpec.ofChange idsetCombinesWrong)

/-- 'signallinglaw02.IdsetLaws': WHATEVER THE INPUT: true; the input reads as it did. -/
def idsetLawsSpec : ChangeSpec := { name := "idsetLaws", fn := fun _ => fun
  | [d1, d2, d3] => { results := [.lit (.bool true)], args := [d1, d2, d3] }
  | _ => none }
def idsetLawsRow : OpenClaim := { program := "ytjlnlcnddhilhaa", sum := "00016cafd1e7c73fee77f6f2fbfcb3c67979208aefd6a89b780d70fd2cec0ef4", func := "signalling/signallinglaw02.IdsetLaws", spec := "idsetLaws", unfollowed := true, recurses := true, apart := false }
def IdsetLawsSaid : Prop := idsetLawsRow.holds Try.pinned (OpenSpec.ofChange idsetLawsSpec)

/-- ITS FALSE NEIGHBOUR: 'it returns false'. Refute it at one input. -/
def idsetLawsWrong : ChangeSpec := { name := "idsetLaws", fn := fun _ => fun
  | [d1, d2, d3] => { results := [.lit (.bool false)], args := [d1, d2, d3] }
  | _ => none }
def IdsetLawsWrongFalsely : Prop := idsetLawsRow.holds Try.pinned (OpenSpec.ofChange idsetLawsWrong)

/-- 'signallinglaw02.IdsetAlgebra': WHATEVER THE INPUT: true; the input reads as it did. -/
def idsetAlgebraSpec : ChangeSpec := { name := "idsetAlgebra", fn := fun _ => fun
  | [d1, d2, d3] => { results := [.lit (.bool true)], args := [d1, d2, d3] }
  | _ => none }
def idsetAlgebraRow : OpenClaim := { program := "ytjlnlcnddhilhaa", sum := "00016cafd1e7c73fee77f6f2fbfcb3c67979208aefd6a89b780d70fd2cec0ef4", func := "signalling/signallinglaw02.IdsetAlgebra", spec := "idsetAlgebra", unfollowed := true, recurses := true, apart := false }
def IdsetAlgebraSaid : Prop := idsetAlgebraRow.holds Try.pinned (OpenSpec.ofChange idsetAlgebraSpec)

/-- ITS FALSE NEIGHBOUR: 'it returns false'. Refute it at one input. -/
def idsetAlgebraWrong : ChangeSpec := { name := "idsetAlgebra", fn := fun _ => fun
  | [d1, d2, d3] => { results := [.lit (.bool false)], args := [d1, d2, d3] }
  | _ => none }
def IdsetAlgebraWrongFalsely : Prop := idsetAlgebraRow.holds Try.pinned (OpenSpec.ofChange idsetAlgebraWrong)

/- THE SECOND FORM. 'bulk': how many values and letters a reading holds, each counted each time it is reached (what is shared counts as often as it is met; a slice's spare places count too). A statement '..UptoSaid' is the law's where the arguments, and the package variables that the reading takes, are together of bulk at most 1048576: NARROWER than '..Said'. Prove '..Said' where nothing that the law and all that it calls make is longer than what came in: it says more and counts as full. Else prove '..UptoSaid'. A law counts once. -/
mutual
def uptoBulk {H : Type} : DataW H → Nat
  | .lit (.string bytes) => bytes.length + 1
  | .lit _ => 1
  | .nil => 1
  | .ptr d => uptoBulk d + 1
  | .slice elems spare => uptoBulkAll elems + uptoBulkAll spare + 1
  | .agg parts => uptoBulkAll parts + 1
  | .iface _ d => uptoBulk d + 1
  | .map entries => uptoBulkEntries entries + 1
  | .held _ => 1
def uptoBulkAll {H : Type} : List (DataW H) → Nat
  | [] => 0
  | d :: r => uptoBulk d + uptoBulkAll r
def uptoBulkEntries {H : Type} : List (Lit × DataW H) → Nat
  | [] => 0
  | x :: r => uptoBulkEntry x + uptoBulkEntries r
def uptoBulkEntry {H : Type} : Lit × DataW H → Nat
  | (.string bytes, d) => bytes.length + uptoBulk d + 1
  | (_, d) => uptoBulk d + 1
 end
def uptoSmall : (H : Type) → List (DataW H) → Bool := fun _ ds => decide (uptoBulkAll ds ≤ 1048576)
def OpenSpec.upto (s : _root_.Go.ChangeSpec) : _root_.Go.OpenSpec := { _root_.Go.OpenSpec.ofChange s with cond := some uptoSmall }

/-- 'signallinglaw02.IdsetMakes', WHERE WHAT IT READS IS OF BULK AT MOST 1048576: true; the input reads as it did. -/
def idsetMakesUptoRow : OpenClaim := { program := "ytjlnlcnddhilhaa", sum := "00016cafd1e7c73fee77f6f2fbfcb3c67979208aefd6a89b780d70fd2cec0ef4", func := "signalling/signallinglaw02.IdsetMakes", spec := "idsetMakes", unfollowed := true, recurses := true, apart := false, narrowed := true }
def IdsetMakesUptoSaid : Prop := idsetMakesUptoRow.holds Try.pinned (OpenSpec.upto idsetMakesSpec)

/-- 'signallinglaw02.IdsetHas', WHERE WHAT IT READS IS OF BULK AT MOST 1048576: true; the input reads as it did. -/
def idsetHasUptoRow : OpenClaim := { program := "ytjlnlcnddhilhaa", sum := "00016cafd1e7c73fee77f6f2fbfcb3c67979208aefd6a89b780d70fd2cec0ef4", func := "signalling/signallinglaw02.IdsetHas", spec := "idsetHas", unfollowed := true, recurses := true, apart := false, narrowed := true }
def IdsetHasUptoSaid : Prop := idsetHasUptoRow.holds Try.pinned (OpenSpec.upto idsetHasSpec)

/-- 'signallinglaw02.IdsetCombines', WHERE WHAT IT READS IS OF BULK AT MOST 1048576: true; the input reads as it did. -/
def idsetCombinesUptoRow : OpenClaim := { program := "ytjlnlcnddhilhaa", sum := "00016cafd1e7c73fee77f6f2fbfcb3c67979208aefd6a89b780d70fd2cec0ef4", func := "signalling/signallinglaw02.IdsetCombines", spec := "idsetCombines", unfollowed := true, recurses := true, apart := false, narrowed := true }
def IdsetCombinesUptoSaid : Prop := idsetCombinesUptoRow.holds Try.pinned (OpenSpec.upto idsetCombinesSpec)

/-- 'signallinglaw02.IdsetLaws', WHERE WHAT IT READS IS OF BULK AT MOST 1048576: true; the input reads as it did. -/
def idsetLawsUptoRow : OpenClaim := { program := "ytjlnlcnddhilhaa", sum := "00016cafd1e7c73fee77f6f2fbfcb3c67979208aefd6a89b780d70fd2cec0ef4", func := "signalling/signallinglaw02.IdsetLaws", spec := "idsetLaws", unfollowed := true, recurses := true, apart := false, narrowed := true }
def IdsetLawsUptoSaid : Prop := idsetLawsUptoRow.holds Try.pinned (OpenSpec.upto idsetLawsSpec)

/-- 'signallinglaw02.IdsetAlgebra', WHERE WHAT IT READS IS OF BULK AT MOST 1048576: true; the input reads as it did. -/
def idsetAlgebraUptoRow : OpenClaim := { program := "ytjlnlcnddhilhaa", sum := "00016cafd1e7c73fee77f6f2fbfcb3c67979208aefd6a89b780d70fd2cec0ef4", func := "signalling/signallinglaw02.IdsetAlgebra", spec := "idsetAlgebra", unfollowed := true, recurses := true, apart := false, narrowed := true }
def IdsetAlgebraUptoSaid : Prop := idsetAlgebraUptoRow.holds Try.pinned (OpenSpec.upto idsetAlgebraSpec)

end Rows
end Go.Proofs.Ytjlnlcnddhilhaa
