/- What LayoutParts counts: a row of numbers, how often each index has been met. -/
import Derived.Test.YtieoegodhhiiiaaLsev
import Derived.Test.YtieoegodhhiiiaaLnam
import Derived.Laws.MakeOwn
import Derived.Laws.OwnMore
namespace Go.Proofs.Ytieoegodhhiiiaa.Lcnt
open Go.RowKit Go.Lib Go.Proofs.Ytieoegodhhiiiaa.Lay Go.Proofs.Ytieoegodhhiiiaa.Layf Go.Proofs.Ytieoegodhhiiiaa.Lcon Go.Proofs.Ytieoegodhhiiiaa.Lnam Go.Proofs.Ytieoegodhhiiiaa.Lmem Go.Proofs.Ytieoegodhhiiiaa.Rows2

def zi : Array Value := #[.int .i64 0]
theorem make_ints (n : Nat) (hn : n ≤ 60) (w : World) : (Instr.makeSlice 42 (.int .i64 (n : Int)) (.int .i64 (n : Int))).run Try.prog w = .ok (.slice (some ⟨w.heap.size, 0, none⟩) n n) (w.alloc (.cells (madeCells zi n) 3)) := by
  obtain ⟨i0, hi, hz0, hz1, hz2⟩ := info_parts infoI
  have := run_make (P := Try.prog) w 42 3 i0 (.int .i64 0) Try.underlying42 hi hz0 .i64 .i64 (n : Int) (n : Int) (by omega) (Int.le_refl _) (by rw [hz2]; omega) (by omega)
  rw [hz1, Nat.mul_one] at this
  exact this
/-- The row in block g holds, for each of n indexes, how often it is in the list. -/
def Cnt (g n : Nat) (done : List Int) (wr : World) : Prop :=
  ∃ cs : Array Value, wr.heap[g]? = some (.cells cs 3 (0, 0)) ∧ cs.size = n ∧ ∀ i, i < n → cs[i]? = some (.int .i64 ((done.count (i : Int) : Nat) : Int))
theorem cnt_start (n : Nat) (w : World) : Cnt w.heap.size n [] (w.alloc (.cells (madeCells zi n) 3)) := by
  refine ⟨_, heap_alloc_new _ _, size_madeCells _ _, fun i hi => ?_⟩
  rw [← Array.getElem?_toList, show (madeCells zi n).toList = List.replicate n (.int .i64 0) from toList_madeCells_one _ _, List.getElem?_replicate, if_pos hi]
  rfl
theorem cnt_more {g n : Nat} {done : List Int} {wr : World} {k : Nat} (h : Cnt g n done wr) (hk : k < n) {x : Int} (hx : x = ((done.count (k : Int) : Nat) : Int) + 1) : Cnt g n (done ++ [(k : Int)]) (wr.setCell ⟨g, k, none⟩ (.int .i64 x)) := by
  obtain ⟨cs, h1, h2, h3⟩ := h
  refine ⟨_, heap_setCell_same _ _ _ _ _ _ h1, by simpa using h2, fun i hi => ?_⟩
  rw [Array.getElem?_setIfInBounds, List.count_append, List.count_singleton]
  by_cases e : k = i
  · subst e
    rw [if_pos rfl, if_pos (by omega), hx]
    simp
  · rw [if_neg e, h3 i hi, if_neg (by simp; omega)]
    rfl
theorem cnt_next {g n : Nat} {done : List Int} {wr w' : World} (h : Cnt g n done wr) (hb : Below wr.heap.size wr w') : Cnt g n done w' := by
  obtain ⟨cs, h1, h2, h3⟩ := h
  have hg : g < wr.heap.size := by
    rcases Nat.lt_or_ge g wr.heap.size with h | h
    · exact h
    · rw [Array.getElem?_eq_none h] at h1
      cases h1
  exact ⟨cs, (hb.block g hg).trans h1, h2, h3⟩
theorem cnt_cell {g n : Nat} {done : List Int} {wr : World} {k : Nat} (h : Cnt g n done wr) (hk : k < n) : wr.cell? ⟨g, k, none⟩ = some (.int .i64 ((done.count (k : Int) : Nat) : Int)) ∧ wr.frozen? ⟨g, k, none⟩ = false := by
  obtain ⟨cs, h1, h2, h3⟩ := h
  obtain ⟨q1, q2⟩ := cells_at h1 k
  exact ⟨q1.trans (h3 k hk), q2⟩
/-- A call, between blocks that stay. -/
theorem but_call {g B : Nat} {a w w' : World} (h : But g B a w) (hB : B ≤ w.heap.size) (hb : Below w.heap.size w w') : But g B a w' :=
  ⟨hb.os.trans h.os, hb.tape.trans h.tape, hb.output.trans h.output, Nat.le_trans h.size hb.size, fun k hk hne => (hb.block k (by omega)).trans (h.block k hk hne)⟩
/-- A layout below the row stays. -/
theorem lay_but {g : Nat} {W1 W wr : World} {L : Lay} {vs ve vj vg vb : Value} (h : LayAt (In W1) W1 L vs ve vj vg vb) (h1 : Below W1.heap.size W1 W) (hg : W1.heap.size ≤ g) (hb : But g W.heap.size W wr) : LayAt (In wr) wr L vs ve vj vg vb :=
  h.keep fun b hb' => by
    have hlt : b < W1.heap.size := hb'
    exact ⟨Nat.lt_of_lt_of_le hlt (Nat.le_trans h1.size hb.size), (hb.block b (Nat.lt_of_lt_of_le hlt h1.size) (by omega)).trans (h1.block b hlt)⟩
/-- A member's cell, in a list that a call made. -/
theorem own_cell {w w' : World} {v : Value} {l : List Int} (h : Grid (fun b => w.heap.size ≤ b ∧ b < w'.heap.size) w' v 1 (l.map fun x => [.int .i64 x])) :
    ∃ a cap, v = .slice a l.length cap ∧ (l.length : Int) ≤ 9223372036854775807 ∧ ∀ (j : Nat) (x : Int), l[j]? = some x → ∃ b off, a = some ⟨b, off, none⟩ ∧ w.heap.size ≤ b ∧ b < w'.heap.size ∧ w'.cell? ⟨b, off + j, none⟩ = some (.int .i64 x) := by
  obtain ⟨a, cap, h1, h2, _, _, h5⟩ := h.shape
  rw [List.length_map] at h1 h2
  refine ⟨a, cap, h1, h2, fun j x hx => ?_⟩
  obtain ⟨b, off, e, hb, hc⟩ := h5 j _ (by rw [List.getElem?_map, hx]; rfl)
  have := hc 0 _ rfl
  rw [Nat.mul_one] at this
  exact ⟨b, off, e, hb.1, hb.2, this⟩

end Go.Proofs.Ytieoegodhhiiiaa.Lcnt
