/- What the listed package-level variables give: the entry of the table for 16; and a heap that holds them. -/
import Derived.Test.YtdhhcmpoegfdjaaDoorRows
import Derived.Test.YtdhhcmpoegfdjaaDoorHex
import Derived.ProofKit
import Derived.LaidMore
import Derived.LaidHandle
import Derived.MakeChecks
import Derived.OpenShut
import Derived.Stop.Joined
namespace Go.Proofs.YtdhhcmpoegfdjaaDoor.Laid
open Go.ChangeShapes Go.WideShapes Go.ChangeAt
open Go.RowKit Go.Proofs.YtdhhcmpoegfdjaaDoor.Hex

def laid3 : List (String × DataW Unit) := [("math/bits.deBruijn32tab", Rows.laid_math_bits_deBruijn32tab), ("math/bits.deBruijn64tab", Rows.laid_math_bits_deBruijn64tab), ("internal/strconv.uint64pow10", Rows.laid_internal_strconv_uint64pow10)]
theorem gTab : Tryd.prog.globalNamed "math/bits.deBruijn64tab" = some 3 := by kernel_rfl
theorem tTab : (Tryd.prog.globals[3]?).map (·.type) = some 81 := by kernel_rfl

set_option maxRecDepth 100000 in
/-- The door's own heap meets the condition: three closed facts. -/
theorem door_met (os : Os) (args : Array Value) : laidMetH Tryd.prog laid3 ((World.doorLaid Tryd.prog 4000 os).forCall (fun _ _ => 0) ⟨#[], args, []⟩).memory :=
  laidMetH_of_parts3 (fuel := 8) (laidMet_of_run' 8 (by kernel_rfl) (by kernel_rfl)) (by kernel_rfl) (by kernel_rfl)

set_option maxRecDepth 100000 in
theorem of_laid {W : World} (h : laidMetH Tryd.prog laid3 W) : Deb W := by
  rw [MakeChecks.laidMetH_plain _ _ _ (by kernel_rfl)] at h
  obtain ⟨ps, ⟨g0, t0, cs0, f0, p0, q0, hg0, ht0, hv0, hd0, ⟨g1, t1, cs1, f1, p1, q1, hg1, ht1, hv1, hd1, _, _⟩, _⟩, _, _⟩ := h
  obtain rfl := Option.some.inj (gTab.symm.trans hg1)
  obtain rfl := Option.some.inj (tTab.symm.trans ht1)
  obtain ⟨xs, m1, rfl, hx1, hlen, hn, hel⟩ := DataW.trod_array Tryd.underlying81 hd1
  have c5 : Tryd.prog.cellsOf 5 = 1 := by kernel_rfl
  have h15 := hel 15 (by decide)
  rw [c5] at h15
  simp only [Prod.mk.injEq] at hx1
  have hxs := hx1.1
  have hg : xs[15]? = some xs[15] := by rw [List.getElem?_eq_getElem]
  rw [hg] at h15
  obtain ⟨k, e1, e2, _⟩ := DataW.trod_int Tryd.underlying5 h15
  have hk : (xs.map (·.1))[15]? = some (.lit (.int .u8 k)) := by rw [List.getElem?_map, hg, e2]; rfl
  unfold Rows.laid_math_bits_deBruijn64tab at hxs
  rw [← DataW.agg.inj hxs] at hk
  have hk4 : (4 : Int) = k := by simpa using hk
  have hc := World.var?_cell hg1 hv1 15
  show W.cell? ⟨_, 15, none⟩ = _
  rw [hc]
  have : (cs1.toList.drop 15)[0]? = some (.int .u8 k) := by
    have := congrArg (fun l => l[0]?) e1
    simpa using this
  rw [List.getElem?_drop] at this
  rw [← Array.getElem?_toList, this, ← hk4]

end Go.Proofs.YtdhhcmpoegfdjaaDoor.Laid
