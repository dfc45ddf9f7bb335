/- The call of the reference's Sides. -/
import Derived.Test.YtieoegodhhiiiaaLayf
namespace Go.Proofs.Ytieoegodhhiiiaa.Lsid
open Go.RowKit Go.Lib Go.Proofs.Ytieoegodhhiiiaa.Layf
theorem kinds (k : Int) : k = 1 ∨ k = 2 ∨ k = 3 ∨ (k ≠ 1 ∧ k ≠ 2 ∧ k ≠ 3) := by omega
theorem rsides_any (k : Int) (w : World) : Calls Try.prog 11 #[.int .i64 k] w fun e w' => e = .returned (.int .i64 (sidesN k)) ∧ w = w' := by
  rcases kinds k with rfl | rfl | rfl | ⟨h1, h2, h3⟩
  all_goals
    go_enter Try.func11, Try.ntmps11
    go_wp2_with fail
    go_ret
    first
      | exact ⟨rfl, rfl⟩
      | exact ⟨by simp [sidesN, h1, h2, h3], rfl⟩

end Go.Proofs.Ytieoegodhhiiiaa.Lsid
