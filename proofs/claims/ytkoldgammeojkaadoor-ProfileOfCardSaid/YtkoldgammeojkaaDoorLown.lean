/- Lists that a call builds, in blocks of its own; the shapes of a layout's slices. -/
import Derived.Test.YtkoldgammeojkaaDoorLnam
namespace Go.Proofs.YtkoldgammeojkaaDoor.Lown
open Go.RowKit Go.Lib Go.Proofs.YtkoldgammeojkaaDoor.Text Go.Proofs.YtkoldgammeojkaaDoor.Reads Go.Proofs.YtkoldgammeojkaaDoor.Rows2 Go.Proofs.YtkoldgammeojkaaDoor.Lay Go.Proofs.YtkoldgammeojkaaDoor.Layf Go.Proofs.YtkoldgammeojkaaDoor.Ldup Go.Proofs.YtkoldgammeojkaaDoor.Lnam

theorem flat_of {α : Type} (f : α → List Value) (sz : Nat) (hlen : ∀ a, (f a).length = sz) : ∀ {l : List α} {i j : Nat} {r : List Value} {x : Value}, (l.map f)[i]? = some r → r[j]? = some x → (l.flatMap f)[i * sz + j]? = some x
  | [], i, j, r, x, h, _ => by simp at h
  | p :: l, i, j, r, x, h, hx => by
    rw [List.flatMap_cons]
    cases i with
    | zero =>
      simp only [List.map_cons, List.getElem?_cons_zero, Option.some.injEq] at h
      subst h
      have hj : j < (f p).length := (List.getElem?_eq_some_iff.1 hx).1
      rw [Nat.zero_mul, Nat.zero_add, List.getElem?_append_left hj]
      exact hx
    | succ i =>
      simp only [List.map_cons, List.getElem?_cons_succ] at h
      rw [List.getElem?_append_right (by rw [hlen, Nat.succ_mul]; omega)]
      rw [show (i + 1) * sz + j - (f p).length = i * sz + j by rw [hlen, Nat.succ_mul]; omega]
      exact flat_of f sz hlen h hx
/-- A slice of structures of the call's own. -/
theorem grid_of_own {α : Type} (f : α → List Value) {B sz : Nat} (hlen : ∀ a, (f a).length = sz) {w : World} {e : TypeId} {v : Value} {l : List α} (h : w.ownsRow B e sz v l.length (l.flatMap f)) : Grid (fun b => B ≤ b ∧ b < w.heap.size) w v sz (l.map f) := by
  have hx := h
  obtain ⟨_, hor⟩ := hx
  rcases hor with ⟨rfl, h0⟩ | ⟨g, cap, cur, rfl, hg, hh, hn, hcap, _, _⟩
  · have := List.length_eq_zero_iff.1 h0
    subst this
    exact grid_nil _ _ _
  · refine ⟨_, cap, by simp, by simpa using hn, hcap, .inr ⟨g, 0, rfl, ⟨(h.lt g rfl).1, (h.lt g rfl).2⟩, fun i r hr j x hx => ?_⟩⟩
    have := h.cells (g := g) rfl (i * sz + j) x (flat_of f sz hlen hr hx)
    rw [add_mk] at this
    rw [← this, Nat.add_assoc]
/-- The shapes of a layout's five slices. -/
theorem shapes {w : World} {L : Lay} {vs ve vj vg vb : Value} (h : LayAt (In w) w L vs ve vj vg vb) : ∃ a1 c1 a2 c2 a3 c3 a4 c4 a5 c5, vs = .slice a1 L.secs.length c1 ∧ ve = .slice a2 L.els.length c2 ∧ vj = .slice a3 L.joints.length c3 ∧ vg = .slice a4 L.sigs.length c4 ∧ vb = .slice a5 L.bals.length c5 := by
  obtain ⟨a1, c1, h1, _, _⟩ := h.sn
  obtain ⟨a2, c2, h2, _, _⟩ := h.el
  obtain ⟨a3, c3, h3, _, _⟩ := h.jt
  obtain ⟨a4, c4, h4, _, _⟩ := h.sg
  obtain ⟨a5, c5, h5, _, _⟩ := h.bl
  exact ⟨a1, c1, a2, c2, a3, c3, a4, c4, a5, c5, h1, h2, h3, h4, h5⟩

/-- What a call gives that returns a list of its own: in blocks that the call made. -/
def OwnOut (l : List Int) (w : World) (e : Ending) (w' : World) : Prop := ∃ v, e = .returned v ∧ Grid (fun b => w.heap.size ≤ b ∧ b < w'.heap.size) w' v 1 (l.map fun x => [.int .i64 x]) ∧ Below w.heap.size w w'

end Go.Proofs.YtkoldgammeojkaaDoor.Lown
