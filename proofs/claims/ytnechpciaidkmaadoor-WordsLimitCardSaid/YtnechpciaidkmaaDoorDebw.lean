/- What the calls want of the package-level variables, and how it is carried. -/
import Derived.Test.YtnechpciaidkmaaDoorProg
import Derived.Below
import Derived.WalkKit
import Derived.Lib.LaidTab
import Derived.Lib.ItoaNum
namespace Go.Proofs.YtnechpciaidkmaaDoor.Debw
open Go.RowKit

/-- The library's greatest length is some number; the table of powers of ten and the error of range are what they are. -/
def Deb (w : World) : Prop :=
  (∃ m, w.cell? ⟨0, 0, none⟩ = some (.int .i64 m)) ∧ Lib.TabIs Tryd.prog w "internal/strconv.uint64pow10" .u64 Lib.pow10Tab ∧
    ∃ ev, w.cell? ⟨2, 0, none⟩ = some ev ∧ (ev = .nilIface ∨ ∃ te pe, ev = .iface te pe)

theorem cell_next {w w' : World} {p : Addr} {v : Value} (h : w.cell? p = some v) (hb : Below w.heap.size w w') : w'.cell? p = some v :=
  (hb.cell (World.block_lt_of_cell? w p h)).trans h
theorem var_next {P : Program} {w w' : World} {name : String} {cs : Array Value} (h : w.var? P name = some cs) (hb : Below w.heap.size w w') : w'.var? P name = some cs := by
  unfold World.var? at h ⊢
  obtain ⟨g, hg, hm⟩ := Option.bind_eq_some_iff.1 h
  rw [hg]
  show (match w'.heap[g]? with | some (.cells cs _ _) => some cs | _ => none) = some cs
  have hlt : g < w.heap.size := by
    cases hx : w.heap[g]? with
    | none => rw [hx] at hm; cases hm
    | some o => exact (Array.getElem?_eq_some_iff.1 hx).1
  rw [hb.block g hlt]
  exact hm
theorem deb_next {w w' : World} (h : Deb w) (hb : Below w.heap.size w w') : Deb w' := by
  obtain ⟨⟨m, h1⟩, h2, ev, h3, h4⟩ := h
  exact ⟨⟨m, cell_next h1 hb⟩, var_next h2 hb, ev, cell_next h3 hb, h4⟩
theorem bel_next {w w1 w2 : World} (h : Below w.heap.size w w1) (k : Below w1.heap.size w1 w2) : Below w.heap.size w w2 := h.trans (k.mono h.size)

end Go.Proofs.YtnechpciaidkmaaDoor.Debw
