/- A slice of bytes of the call's own that grows by append. -/
import Derived.Test.YtdhhcmpoegfdjaaDoorProg
import Derived.Test.YtdhhcmpoegfdjaaDoorCrc
import Derived.WalkKit
import Derived.Below
import Derived.Maps.AppendAt
import Derived.Lib.UnsafeStr
import Derived.Lib.VarintMem
import Derived.Lib.AppendStr
import Derived.Laws.IdiomStrings
import Derived.Lib.Hide
namespace Go.Proofs.YtdhhcmpoegfdjaaDoor.Ownb
open Go.RowKit Go.Lib

/-- The slice v of the call's own holds these bytes. -/
def OwnB (B : Nat) (w : World) (v : Value) (l : List UInt8) : Prop := w.ownsRow B 5 1 v l.length (byteCells l)
theorem infoB : (Tryd.prog.info? 5).map (fun i => (i.zero, i.size, i.bytes)) = some (some (.int .u8 0), 1, 1) := by kernel_rfl
theorem own_snoc {B : Nat} {w : World} {v : Value} {l : List UInt8} {a : Nat} {X : Int} (h : w.ownsRow B 5 1 v (l.length + 1) (byteCells l ++ [.int .u8 X])) (hX : X = (a : Int)) (ha : a < 256) : OwnB B w v (l ++ [a.toUInt8]) := by
  unfold OwnB
  rw [byteCells_snoc l ha, ← hX, List.length_append]
  exact h
theorem own_string {B : Nat} {w : World} {v : Value} {l : List UInt8} {s : ByteArray} (h : w.ownsRow B 5 1 v (l.length + s.size) (byteCells l ++ strCells s)) : OwnB B w v (l ++ s.data.toList) := by
  unfold OwnB
  have e : byteCells (l ++ s.data.toList) = byteCells l ++ strCells s := by simp [byteCells, strCells]
  rw [e, List.length_append, Array.length_toList]
  exact h
theorem own_ltB {B : Nat} {w : World} {v : Value} {l : List UInt8} (h : OwnB B w v l) : ∀ g, v.ownBlock = some g → B ≤ g := fun g hg => (h.lt g hg).1
theorem own_back {B : Nat} {w : World} {v : Value} {l : List UInt8} (h : OwnB B w v l) (h0 : l ≠ []) : ∃ g cap, v = .slice (some ⟨g, 0, none⟩) l.length cap ∧ ∀ j (hj : j < l.length), w.cell? ((⟨g, 0, none⟩ : Addr).add j) = some (.int .u8 (l[j].toNat : Int)) := by
  have hx := h
  obtain ⟨_, hor⟩ := hx
  rcases hor with ⟨rfl, hz⟩ | ⟨g, cap, cur, rfl, _⟩
  · exact absurd (List.length_eq_zero_iff.1 hz) h0
  · refine ⟨g, cap, rfl, fun j hj => ?_⟩
    exact World.ownsRow.cells (g := g) h rfl j _ (by simp [byteCells, List.getElem?_eq_getElem hj])
theorem own_nil (B : Nat) (w : World) : OwnB B w (.slice none 0 0) [] := World.ownsRow_nil _ _ _ _
theorem own_empty {B : Nat} {w : World} {v : Value} (h : OwnB B w v []) : v = .slice none 0 0 ∨ ∃ g cap, v = .slice (some ⟨g, 0, none⟩) 0 cap := by
  obtain ⟨_, hor⟩ := h
  rcases hor with ⟨rfl, _⟩ | ⟨g, cap, cur, rfl, _⟩
  · exact .inl rfl
  · exact .inr ⟨g, cap, rfl⟩

end Go.Proofs.YtdhhcmpoegfdjaaDoor.Ownb
