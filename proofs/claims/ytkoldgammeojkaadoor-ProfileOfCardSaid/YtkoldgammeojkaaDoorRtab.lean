/- The table of passages as the program's variable holds it. -/
import Derived.Test.YtkoldgammeojkaaDoorRail
import Derived.Test.YtkoldgammeojkaaDoorProg
import Derived.Below
import Derived.KernelRfl
import Derived.Laws.Rows
import Derived.Outline
import Derived.Lib.Hide
namespace Go.Proofs.YtkoldgammeojkaaDoor.Rtab
open Go.RowKit Go.Proofs.YtkoldgammeojkaaDoor.Rail

/-- The cells of the variable. -/
def cells : Array Value := #[.int .i64 1, .int .i64 0, .int .i64 1, .int .i64 0, .int .i64 1, .int .i64 1, .int .i64 0, .int .i64 0, .int .i64 2, .int .i64 0, .int .i64 1, .int .i64 1, .int .i64 2, .int .i64 0, .int .i64 2, .int .i64 2, .int .i64 2, .int .i64 1, .int .i64 0, .int .i64 1, .int .i64 2, .int .i64 2, .int .i64 0, .int .i64 2, .int .i64 3, .int .i64 0, .int .i64 1, .int .i64 0, .int .i64 3, .int .i64 1, .int .i64 0, .int .i64 0, .int .i64 3, .int .i64 2, .int .i64 3, .int .i64 0, .int .i64 3, .int .i64 3, .int .i64 2, .int .i64 0]
def RTab (w : World) : Prop := ∃ t fr, w.heap[0]? = some (.cells cells t fr)
theorem rtab_lt {w : World} (h : RTab w) : 0 < w.heap.size := by
  obtain ⟨t, fr, h⟩ := h
  exact (Array.getElem?_eq_some_iff.1 h).1
theorem rtab_next {w w' : World} (h : RTab w) (hb : Below w.heap.size w w') : RTab w' := by
  have hl := rtab_lt h
  obtain ⟨t, fr, h⟩ := h
  exact ⟨t, fr, (hb.block _ hl).trans h⟩
theorem bel_next {w W w' : World} (h : Below w.heap.size w W) (hb : Below W.heap.size W w') : Below w.heap.size w w' := h.trans (hb.mono h.size)

def rowV (j : Nat) : Value := .agg #[.int .i64 (row j).1, .int .i64 (row j).2.1, .int .i64 (row j).2.2.1, .int .i64 (row j).2.2.2]
set_option maxRecDepth 100000 in
theorem idx_any {j : Nat} (h : j < 10) (w : World) : (Instr.index 86 (.agg cells) (.int .i64 (j : Int))).run Tryd.prog w = .ok (rowV j) w := by
  rcases (by omega : j = 0 ∨ j = 1 ∨ j = 2 ∨ j = 3 ∨ j = 4 ∨ j = 5 ∨ j = 6 ∨ j = 7 ∨ j = 8 ∨ j = 9) with rfl | rfl | rfl | rfl | rfl | rfl | rfl | rfl | rfl | rfl
  all_goals kernel_rfl

end Go.Proofs.YtkoldgammeojkaaDoor.Rtab
