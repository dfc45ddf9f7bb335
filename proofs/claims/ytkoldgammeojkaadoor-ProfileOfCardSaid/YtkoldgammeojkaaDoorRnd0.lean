/- The calls of the reference's Need. -/
import Derived.Test.YtkoldgammeojkaaDoorRtab
import Derived.Test.YtkoldgammeojkaaDoorReads
import Derived.Maps.AppendAt
namespace Go.Proofs.YtkoldgammeojkaaDoor.Rref
open Go.RowKit Go.Lib Go.Proofs.YtkoldgammeojkaaDoor.Rail Go.Proofs.YtkoldgammeojkaaDoor.Rtab Go.Proofs.YtkoldgammeojkaaDoor.Reads

theorem need1 (i o : Int) : needC 1 i o = (0, decide (min i o = 0 ∧ max i o = 1)) := by simp [needC]
theorem need2 (i o : Int) : needC 2 i o = if min i o = 0 ∧ max i o = 1 then (1, true) else if min i o = 0 ∧ max i o = 2 then (2, true) else (0, false) := by simp [needC]
theorem need3 (i o : Int) : needC 3 i o = (0, decide ((min i o = 0 ∧ max i o = 1) ∨ (min i o = 2 ∧ max i o = 3))) := by simp [needC]
theorem rleaf {k i o x : Int} {b : Bool} {r : Int × Bool} {w : World} (hr : needF k i o = r) (h : needC k i o = (x, b)) :
    Ending.returned (.tuple #[.int .i64 x, .bool b]) = Ending.returned (.tuple #[.int .i64 r.1, .bool r.2]) ∧ w = w := by
  rw [← hr, needF_eq, h]
  exact ⟨rfl, rfl⟩

set_option maxRecDepth 100000 in
set_option maxHeartbeats 1600000 in
theorem rneed_any (k i o : Int) (w : World) :
    Calls Tryd.prog 22 #[.int .i64 k, .int .i64 i, .int .i64 o] w fun e w' => e = .returned (.tuple #[.int .i64 (needF k i o).1, .bool (needF k i o).2]) ∧ w = w' := by
  obtain ⟨r, hr⟩ : ∃ r, needF k i o = r := ⟨_, rfl⟩
  rw [hr]
  have HR := Lib.hid hr
  clear hr
  rcases kinds k with rfl | rfl | rfl | ⟨h1, h2, h3⟩
  all_goals
    go_enter Tryd.func22, Tryd.ntmps22
    go_wp2_with fail
    all_goals
      go_ret2
      refine rleaf HR.out ?_
      first
        | rw [need1]
        | rw [need2]
        | rw [need3]
        | rw [needC_none ⟨h1, h2, h3⟩]
      repeat' split
      all_goals first
        | rfl
        | (exfalso; omega)
        | (exfalso; simp only [beq_iff_eq, beq_eq_false_iff_ne] at *; omega)
        | exact congrArg (Prod.mk 0) (decide_eq_true (by omega))
        | exact congrArg (Prod.mk 0) (decide_eq_false (by omega))
        | (refine Prod.ext rfl ?_
           show _ = _
           rw [Bool.eq_iff_iff]
           simp only [decide_eq_true_eq, beq_iff_eq]
           omega)

end Go.Proofs.YtkoldgammeojkaaDoor.Rref
