/- The call of the reference's Sides. -/
import Derived.Test.YtkoldgammeojkaaDoorLayf
namespace Go.Proofs.YtkoldgammeojkaaDoor.Lsid
open Go.RowKit Go.Lib Go.Proofs.YtkoldgammeojkaaDoor.Layf
theorem kinds (k : Int) : k = 1 ∨ k = 2 ∨ k = 3 ∨ (k ≠ 1 ∧ k ≠ 2 ∧ k ≠ 3) := by omega
theorem rsides_any (k : Int) (w : World) : Calls Tryd.prog 46 #[.int .i64 k] w fun e w' => e = .returned (.int .i64 (sidesN k)) ∧ w = w' := by
  rcases kinds k with rfl | rfl | rfl | ⟨h1, h2, h3⟩
  all_goals
    go_enter Tryd.func46, Tryd.ntmps46
    go_wp2_with fail
    go_ret
    first
      | exact ⟨rfl, rfl⟩
      | exact ⟨by simp [sidesN, h1, h2, h3], rfl⟩

end Go.Proofs.YtkoldgammeojkaaDoor.Lsid
