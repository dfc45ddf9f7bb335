/- The calls of the statements' Line and Few. -/
import Derived.Test.YtieoegodhhiiiaaLele
namespace Go.Proofs.Ytieoegodhhiiiaa.Llin
open Go.RowKit Go.Lib Go.Proofs.Ytieoegodhhiiiaa.Text Go.Proofs.Ytieoegodhhiiiaa.Reads Go.Proofs.Ytieoegodhhiiiaa.Rows2 Go.Proofs.Ytieoegodhhiiiaa.Lay Go.Proofs.Ytieoegodhhiiiaa.Layf Go.Proofs.Ytieoegodhhiiiaa.Ldup Go.Proofs.Ytieoegodhhiiiaa.Ljoi Go.Proofs.Ytieoegodhhiiiaa.Lnam Go.Proofs.Ytieoegodhhiiiaa.Lele

theorem flat_of {α : Type} (f : α → List Value) (sz : Nat) (hlen : ∀ a, (f a).length = sz) : ∀ {l : List α} {i j : Nat} {r : List Value} {x : Value}, (l.map f)[i]? = some r → r[j]? = some x → (l.flatMap f)[i * sz + j]? = some x
  | [], i, j, r, x, h, _ => by simp at h
  | p :: l, i, j, r, x, h, hx => by
    rw [List.flatMap_cons]
    cases i with
    | zero =>
      simp only [List.map_cons, List.getElem?_cons_zero, Option.some.injEq] at h
      subst h
      have hj : j < (f p).length := (List.getElem?_eq_some_iff.1 hx).1
      rw [Nat.zero_mul, Nat.zero_add, List.getElem?_append_left hj]
      exact hx
    | succ i =>
      simp only [List.map_cons, List.getElem?_cons_succ] at h
      rw [List.getElem?_append_right (by rw [hlen, Nat.succ_mul]; omega)]
      rw [show (i + 1) * sz + j - (f p).length = i * sz + j by rw [hlen, Nat.succ_mul]; omega]
      exact flat_of f sz hlen h hx
/-- A slice of structures of the call's own. -/
theorem grid_of_own {α : Type} (f : α → List Value) {B sz : Nat} (hlen : ∀ a, (f a).length = sz) {w : World} {e : TypeId} {v : Value} {l : List α} (h : w.ownsRow B e sz v l.length (l.flatMap f)) : Grid (fun b => B ≤ b ∧ b < w.heap.size) w v sz (l.map f) := by
  have hx := h
  obtain ⟨_, hor⟩ := hx
  rcases hor with ⟨rfl, h0⟩ | ⟨g, cap, cur, rfl, hg, hh, hn, hcap, _, _⟩
  · have := List.length_eq_zero_iff.1 h0
    subst this
    exact grid_nil _ _ _
  · refine ⟨_, cap, by simp, by simpa using hn, hcap, .inr ⟨g, 0, rfl, ⟨(h.lt g rfl).1, (h.lt g rfl).2⟩, fun i r hr j x hx => ?_⟩⟩
    have := h.cells (g := g) rfl (i * sz + j) x (flat_of f sz hlen hr hx)
    rw [add_mk] at this
    rw [← this, Nat.add_assoc]

def lineEls : List Elem := [⟨[97], 1, 20000, 0, 3000, 0, 0⟩, ⟨[98], 1, 20000, 0, 3000, 0, 1⟩, ⟨[99], 1, 20000, 0, 3000, 0, 2⟩]
def lineL : Lay := ⟨[108, 105, 110, 101], [[120], [121], [122]], lineEls, [((0, 1), (1, 0)), ((1, 1), (2, 0))], [⟨[115, 49], (0, 1), 0⟩, ⟨[115, 50], (1, 1), 0⟩], []⟩
/-- What a call gives that returns a layout. -/
def LayOut (L : Lay) (w : World) (e : Ending) (w' : World) : Prop := ∃ vs ve vj vg vb, e = .returned (layV L vs ve vj vg vb) ∧ LayAt (In w') w' L vs ve vj vg vb ∧ Below w.heap.size w w'
theorem infoEl : (Try.prog.info? 34).map (fun i => (i.zero, i.size, i.bytes)) = some (some (.agg #[.string ByteArray.empty, .int .i64 0, .int .i64 0, .int .i64 0, .int .i64 0, .int .i64 0, .int .i64 0]), 7, 64) := by kernel_rfl

theorem own_len' {B n sz : Nat} {w : World} {e : TypeId} {v : Value} {xs : List Value} (h : w.ownsRow B e sz v n xs) : ∃ A C, v = .slice A n C := by
  obtain ⟨h1, hor⟩ := h
  rcases hor with ⟨rfl, h0⟩ | ⟨g, cap, cur, rfl, _⟩
  · subst h0
    exact ⟨none, 0, rfl⟩
  · exact ⟨_, _, rfl⟩
theorem four_boxes (w : World) (A B C D : Array Value) (TA TB TC TD : TypeId) :
    ((((w.alloc (.cells A TA)).alloc (.cells B TB)).alloc (.cells C TC)).alloc (.cells D TD)).heap[w.heap.size]? = some (.cells A TA (0, 0)) ∧
    ((((w.alloc (.cells A TA)).alloc (.cells B TB)).alloc (.cells C TC)).alloc (.cells D TD)).heap[w.heap.size + 1]? = some (.cells B TB (0, 0)) ∧
    ((((w.alloc (.cells A TA)).alloc (.cells B TB)).alloc (.cells C TC)).alloc (.cells D TD)).heap[w.heap.size + 1 + 1]? = some (.cells C TC (0, 0)) ∧
    ((((w.alloc (.cells A TA)).alloc (.cells B TB)).alloc (.cells C TC)).alloc (.cells D TD)).heap[w.heap.size + 1 + 1 + 1]? = some (.cells D TD (0, 0)) ∧
    ((((w.alloc (.cells A TA)).alloc (.cells B TB)).alloc (.cells C TC)).alloc (.cells D TD)).heap.size = w.heap.size + 1 + 1 + 1 + 1 ∧
    Below w.heap.size w ((((w.alloc (.cells A TA)).alloc (.cells B TB)).alloc (.cells C TC)).alloc (.cells D TD)) := by
  have s1 : (w.alloc (.cells A TA)).heap.size = w.heap.size + 1 := by simp
  have s2 : ((w.alloc (.cells A TA)).alloc (.cells B TB)).heap.size = w.heap.size + 1 + 1 := by simp
  have s3 : (((w.alloc (.cells A TA)).alloc (.cells B TB)).alloc (.cells C TC)).heap.size = w.heap.size + 1 + 1 + 1 := by simp
  have e1 := heap_alloc_new w (.cells A TA)
  have e2 := heap_alloc_new (w.alloc (.cells A TA)) (.cells B TB)
  have e3 := heap_alloc_new ((w.alloc (.cells A TA)).alloc (.cells B TB)) (.cells C TC)
  have e4 := heap_alloc_new (((w.alloc (.cells A TA)).alloc (.cells B TB)).alloc (.cells C TC)) (.cells D TD)
  rw [s1] at e2
  rw [s2] at e3
  rw [s3] at e4
  have b1 := (Below.refl w.heap.size w).alloc (Nat.le_refl _) (.cells A TA)
  have b2 := b1.alloc b1.size (.cells B TB)
  have b3 := b2.alloc b2.size (.cells C TC)
  refine ⟨?_, ?_, ?_, e4, by simp, b3.alloc b3.size _⟩
  · rw [Below.heap_alloc _ _ _ (by rw [s3]; omega), Below.heap_alloc _ _ _ (by rw [s2]; omega), Below.heap_alloc _ _ _ (by rw [s1]; omega)]
    exact e1
  · rw [Below.heap_alloc _ _ _ (by rw [s3]; omega), Below.heap_alloc _ _ _ (by rw [s2]; omega)]
    exact e2
  · rw [Below.heap_alloc _ _ _ (by rw [s3]; omega)]
    exact e3
/-- The cells of the line's box, with these elements. -/
def lineBox (w : World) (v : Value) : Array Value := #[.string ⟨#[108, 105, 110, 101]⟩, .slice (some ⟨w.heap.size + 1, 0, none⟩) 3 3, v, .slice none 0 0, .slice none 0 0, .slice none 0 0]
/-- What holds at the head of the line's loop. -/
def LnRel (w W : World) (vk : Value) (wr : World) : Prop :=
  ∃ (k : Nat) (v : Value), vk = .int .i64 (k : Int) ∧ k ≤ 3 ∧ wr.heap[w.heap.size + 1 + 1]? = some (.cells (lineBox w v) 28 (0, 0)) ∧ wr.ownsRow W.heap.size 34 7 v (lineEls.take k).length ((lineEls.take k).flatMap Elem.cells) ∧ But (w.heap.size + 1 + 1) W.heap.size W wr

theorem own_any {B n sz : Nat} {w : World} {e : TypeId} {v : Value} {xs : List Value} (h : w.ownsRow B e sz v n xs) : ∃ A N C, v = .slice A N C := by
  obtain ⟨A, C, rfl⟩ := own_len' h
  exact ⟨_, _, _, rfl⟩
theorem line_next {w W wr w1 : World} {v v' : Value} {k : Nat} {o : Obj} (hrow : wr.heap[w.heap.size + 1 + 1]? = some (.cells (lineBox w v) 28 (0, 0))) (ho : wr.ownsRow W.heap.size 34 7 v (lineEls.take k).length ((lineEls.take k).flatMap Elem.cells)) (hb : But (w.heap.size + 1 + 1) W.heap.size W wr) (hW : w.heap.size + 1 + 1 < W.heap.size) (hk : k < 3)
    (h1 : w1.ownsRow W.heap.size 34 7 v' ((lineEls.take k).length + 1) ((lineEls.take k).flatMap Elem.cells ++ ((lineEls[k]?).map Elem.cells).getD [])) (hg : (wr.alloc o).grownBy w1 v.ownBlock) :
    w1.cell? ⟨w.heap.size + 1 + 1, 2, none⟩ = some v ∧ w1.frozen? ⟨w.heap.size + 1 + 1, 2, none⟩ = false ∧ LnRel w W (.int .i64 ((k : Int) + 1)) (w1.setCell ⟨w.heap.size + 1 + 1, 2, none⟩ v') ∧ w.heap.size + 1 + 1 < w1.heap.size := by
  have hw := hb.size
  have hne : ∀ x, v.ownBlock = some x → W.heap.size ≤ x ∨ x = w.heap.size + 1 + 1 := fun x hx => .inl (ho.lt x hx).1
  have b3 := (hb.alloc hw o).grown hg (by simp; omega) hne
  have r1 : w1.heap[w.heap.size + 1 + 1]? = some (.cells (lineBox w v) 28 (0, 0)) := by
    rw [hg.block (w.heap.size + 1 + 1) (by simp; omega) (fun e => by have := (ho.lt _ e.symm).1; omega), Below.heap_alloc _ _ _ (by omega)]
    exact hrow
  refine ⟨(cells_at r1 2).1, (cells_at r1 2).2, ⟨k + 1, v', by simp, hk, heap_setCell_same _ _ 2 _ _ v' r1, ?_, b3.setCell (.inl rfl) _⟩, Nat.lt_of_lt_of_le hW b3.size⟩
  have h2 := ownsRow_setCell_below h1 (a := ⟨w.heap.size + 1 + 1, 2, none⟩) hW v'
  rcases (by omega : k = 0 ∨ k = 1 ∨ k = 2) with rfl | rfl | rfl
  all_goals exact h2

def lineJ : Array Value := #[.int .i64 0, .int .i64 1, .int .i64 1, .int .i64 0, .int .i64 1, .int .i64 1, .int .i64 2, .int .i64 0]
def lineS : Array Value := #[.string ⟨#[115, 49]⟩, .int .i64 0, .int .i64 1, .int .i64 0, .string ⟨#[115, 50]⟩, .int .i64 1, .int .i64 1, .int .i64 0]
/-- The world behind the line. -/
def line8 (w wr : World) (v : Value) : World :=
  (((((((wr.setCell ⟨w.heap.size + 1 + 1, 3, none⟩ (.slice (some ⟨wr.heap.size, 0, none⟩) 2 2)).setCell ⟨w.heap.size + 1 + 1, 4, none⟩ (.slice (some ⟨wr.heap.size + 1, 0, none⟩) 2 2)).setCell ⟨w.heap.size, 0, none⟩ (.string ⟨#[108, 105, 110, 101]⟩)).setCell ⟨w.heap.size, 1, none⟩ (.slice (some ⟨w.heap.size + 1, 0, none⟩) 3 3)).setCell ⟨w.heap.size, 2, none⟩ v).setCell ⟨w.heap.size, 3, none⟩ (.slice (some ⟨wr.heap.size, 0, none⟩) 2 2)).setCell ⟨w.heap.size, 4, none⟩ (.slice (some ⟨wr.heap.size + 1, 0, none⟩) 2 2)).setCell ⟨w.heap.size, 5, none⟩ (.slice none 0 0)
theorem line8_size (w wr : World) (v : Value) : (line8 w wr v).heap.size = wr.heap.size := by simp [line8, World.setCell]
theorem line8_other (w wr : World) (v : Value) (k : Nat) (h1 : k ≠ w.heap.size) (h2 : k ≠ w.heap.size + 1 + 1) : (line8 w wr v).heap[k]? = wr.heap[k]? := by
  unfold line8
  rw [heap_setCell_other _ _ _ _ h1, heap_setCell_other _ _ _ _ h1, heap_setCell_other _ _ _ _ h1, heap_setCell_other _ _ _ _ h1, heap_setCell_other _ _ _ _ h1, heap_setCell_other _ _ _ _ h1, heap_setCell_other _ _ _ _ h2, heap_setCell_other _ _ _ _ h2]
theorem line8_box {w wr : World} {v a b c d e f : Value} {T : TypeId} (h : wr.heap[w.heap.size]? = some (.cells #[a, b, c, d, e, f] T (0, 0))) :
    (line8 w wr v).heap[w.heap.size]? = some (.cells #[.string ⟨#[108, 105, 110, 101]⟩, .slice (some ⟨w.heap.size + 1, 0, none⟩) 3 3, v, .slice (some ⟨wr.heap.size, 0, none⟩) 2 2, .slice (some ⟨wr.heap.size + 1, 0, none⟩) 2 2, .slice none 0 0] T (0, 0)) := by
  have h0 : ((wr.setCell ⟨w.heap.size + 1 + 1, 3, none⟩ (.slice (some ⟨wr.heap.size, 0, none⟩) 2 2)).setCell ⟨w.heap.size + 1 + 1, 4, none⟩ (.slice (some ⟨wr.heap.size + 1, 0, none⟩) 2 2)).heap[w.heap.size]? = some (.cells #[a, b, c, d, e, f] T (0, 0)) := by
    rw [heap_setCell_other _ _ _ _ (by simp; omega), heap_setCell_other _ _ _ _ (by simp; omega)]
    exact h
  have h1 := heap_setCell_same _ _ 0 _ _ (.string ⟨#[108, 105, 110, 101]⟩) h0
  have h2 := heap_setCell_same _ _ 1 _ _ (.slice (some ⟨w.heap.size + 1, 0, none⟩) 3 3) h1
  have h3 := heap_setCell_same _ _ 2 _ _ v h2
  have h4 := heap_setCell_same _ _ 3 _ _ (.slice (some ⟨wr.heap.size, 0, none⟩) 2 2) h3
  have h5 := heap_setCell_same _ _ 4 _ _ (.slice (some ⟨wr.heap.size + 1, 0, none⟩) 2 2) h4
  exact heap_setCell_same _ _ 5 _ _ (.slice none 0 0) h5
theorem wf_lit {x : Int} (h : -9223372036854775808 ≤ x ∧ x ≤ 9223372036854775807) : Lay.Wf x := WalkArith.wf_i64 h

theorem line_out {w W wr : World} {A1 : Option Addr} {L1 C1 : Nat} (ho : wr.ownsRow W.heap.size 34 7 (.slice A1 L1 C1) (lineEls.take 3).length ((lineEls.take 3).flatMap Elem.cells)) (hb : But (w.heap.size + 1 + 1) W.heap.size W wr)
    (h2 : wr.heap[w.heap.size]? = some (.cells #[.string ⟨#[]⟩, .slice none 0 0, .slice none 0 0, .slice none 0 0, .slice none 0 0, .slice none 0 0] 28 (0, 0))) (f2 : W.heap[w.heap.size + 1]? = some (.cells #[.string ⟨#[120]⟩, .string ⟨#[121]⟩, .string ⟨#[122]⟩] 9 (0, 0))) (fs : W.heap.size = w.heap.size + 1 + 1 + 1 + 1) (fb : Below w.heap.size w W) :
    (((line8 w wr (.slice A1 L1 C1)).alloc (.cells lineJ 47)).alloc (.cells lineS 55)).heap[w.heap.size]? = some (.cells #[.string ⟨#[108, 105, 110, 101]⟩, .slice (some ⟨w.heap.size + 1, 0, none⟩) 3 3, .slice A1 L1 C1, .slice (some ⟨wr.heap.size, 0, none⟩) 2 2, .slice (some ⟨wr.heap.size + 1, 0, none⟩) 2 2, .slice none 0 0] 28 (0, 0)) ∧
    LayAt (In (((line8 w wr (.slice A1 L1 C1)).alloc (.cells lineJ 47)).alloc (.cells lineS 55))) (((line8 w wr (.slice A1 L1 C1)).alloc (.cells lineJ 47)).alloc (.cells lineS 55)) lineL (.slice (some ⟨w.heap.size + 1, 0, none⟩) 3 3) (.slice A1 L1 C1) (.slice (some ⟨wr.heap.size, 0, none⟩) 2 2) (.slice (some ⟨wr.heap.size + 1, 0, none⟩) 2 2) (.slice none 0 0) ∧
    Below w.heap.size w (((line8 w wr (.slice A1 L1 C1)).alloc (.cells lineJ 47)).alloc (.cells lineS 55)) := by
  have hs := hb.size
  have s8 := line8_size w wr (.slice A1 L1 C1)
  have s9 : ((line8 w wr (.slice A1 L1 C1)).alloc (.cells lineJ 47)).heap.size = wr.heap.size + 1 := by simp [s8]
  have old : ∀ k, k < wr.heap.size → (((line8 w wr (.slice A1 L1 C1)).alloc (.cells lineJ 47)).alloc (.cells lineS 55)).heap[k]? = (line8 w wr (.slice A1 L1 C1)).heap[k]? := fun k hk => by
    rw [Below.heap_alloc _ _ _ (by rw [s9]; omega), Below.heap_alloc _ _ _ (by rw [s8]; exact hk)]
  have hj : (((line8 w wr (.slice A1 L1 C1)).alloc (.cells lineJ 47)).alloc (.cells lineS 55)).heap[wr.heap.size]? = some (.cells lineJ 47 (0, 0)) := by
    rw [Below.heap_alloc _ _ _ (by rw [s9]; omega)]
    have := heap_alloc_new (line8 w wr (.slice A1 L1 C1)) (.cells lineJ 47)
    rwa [s8] at this
  have hg : (((line8 w wr (.slice A1 L1 C1)).alloc (.cells lineJ 47)).alloc (.cells lineS 55)).heap[wr.heap.size + 1]? = some (.cells lineS 55 (0, 0)) := by
    have := heap_alloc_new ((line8 w wr (.slice A1 L1 C1)).alloc (.cells lineJ 47)) (.cells lineS 55)
    rwa [s9] at this
  have hsec : (((line8 w wr (.slice A1 L1 C1)).alloc (.cells lineJ 47)).alloc (.cells lineS 55)).heap[w.heap.size + 1]? = some (.cells #[.string ⟨#[120]⟩, .string ⟨#[121]⟩, .string ⟨#[122]⟩] 9 (0, 0)) := by
    rw [old _ (by omega), line8_other _ _ _ _ (by omega) (by omega), hb.block _ (by omega) (by omega)]
    exact f2
  have hsz : (((line8 w wr (.slice A1 L1 C1)).alloc (.cells lineJ 47)).alloc (.cells lineS 55)).heap.size = wr.heap.size + 1 + 1 := by simp [s8]
  obtain ⟨WF, hWF⟩ : ∃ WF, ((line8 w wr (.slice A1 L1 C1)).alloc (.cells lineJ 47)).alloc (.cells lineS 55) = WF := ⟨_, rfl⟩
  have hbel : Below w.heap.size w WF := by
    have b1 := But.below fb hb (by omega) (by omega)
    have b8 : Below w.heap.size w (line8 w wr (.slice A1 L1 C1)) := by
      unfold line8
      exact (((((((b1.setCell (by simp; omega) _).setCell (by simp; omega) _).setCell (by simp) _).setCell (by simp) _).setCell (by simp) _).setCell (by simp) _).setCell (by simp) _).setCell (by simp) _
    rw [← hWF]
    exact (b8.alloc (by rw [s8]; omega) _).alloc (by rw [s9]; omega) _
  refine ⟨?_, ?_, by rw [hWF]; exact hbel⟩
  · rw [old _ (by omega)]
    exact line8_box h2
  rw [hWF] at old hj hg hsec hsz ⊢
  have hel := (grid_of_own Elem.cells (fun _ => rfl) (l := lineEls) ho).keep (ok' := In WF) (w' := WF) fun b hb' => ⟨by show b < _; omega, by rw [old b hb'.2, line8_other _ _ _ _ (by omega) (by omega)]⟩
  have cs : ∀ j, WF.cell? ⟨w.heap.size + 1, j, none⟩ = #[.string ⟨#[120]⟩, .string ⟨#[121]⟩, .string ⟨#[122]⟩][j]? := fun j => cell_of_row _ _ _ _ _ _ hsec
  have cj : ∀ j, WF.cell? ⟨wr.heap.size, j, none⟩ = lineJ[j]? := fun j => cell_of_row _ _ _ _ _ _ hj
  have cg : ∀ j, WF.cell? ⟨wr.heap.size + 1, j, none⟩ = lineS[j]? := fun j => cell_of_row _ _ _ _ _ _ hg
  refine ⟨⟨row_mk (strV [[120], [121], [122]]) (show w.heap.size + 1 < WF.heap.size by omega) (by decide) (by decide) (fun j x hx => ?_), by decide⟩, hel, ?_, ?_, grid_nil _ _ _, by decide, by decide, by decide, ?_, ?_, ?_, (by intro x hx; cases hx), .inr ⟨_, _, _, rfl⟩⟩
  · rw [Nat.zero_add, cs j, ← hx]
    simp [strV, bs]
  · refine ⟨_, 2, rfl, Nat.le_refl _, by decide, .inr ⟨wr.heap.size, 0, rfl, show wr.heap.size < WF.heap.size by omega, fun i r hr j x hx => ?_⟩⟩
    rw [Nat.zero_add, cj, ← Array.getElem?_toList]
    exact flat_of jCells 4 (fun _ => rfl) (l := lineL.joints) hr hx
  · refine ⟨_, 2, rfl, Nat.le_refl _, by decide, .inr ⟨wr.heap.size + 1, 0, rfl, show wr.heap.size + 1 < WF.heap.size by omega, fun i r hr j x hx => ?_⟩⟩
    rw [Nat.zero_add, cg, ← Array.getElem?_toList]
    exact flat_of Sig.cells 4 (fun _ => rfl) (l := lineL.sigs) hr hx
  · intro x hx
    have : x ∈ lineEls := hx
    simp only [lineEls, List.mem_cons, List.not_mem_nil, or_false] at this
    rcases this with rfl | rfl | rfl <;> exact ⟨wf_lit (by decide), wf_lit (by decide), wf_lit (by decide), wf_lit (by decide), wf_lit (by decide), wf_lit (by decide)⟩
  · intro x hx
    have : x ∈ [((0, 1), (1, 0)), ((1, 1), (2, 0))] := hx
    simp only [List.mem_cons, List.not_mem_nil, or_false] at this
    rcases this with rfl | rfl <;> exact ⟨⟨wf_lit (by decide), wf_lit (by decide)⟩, ⟨wf_lit (by decide), wf_lit (by decide)⟩⟩
  · intro x hx
    have : x ∈ [(⟨[115, 49], (0, 1), 0⟩ : Sig), ⟨[115, 50], (1, 1), 0⟩] := hx
    simp only [List.mem_cons, List.not_mem_nil, or_false] at this
    rcases this with rfl | rfl <;> exact ⟨⟨wf_lit (by decide), wf_lit (by decide)⟩, wf_lit (by decide)⟩

set_option maxRecDepth 100000 in
set_option maxHeartbeats 3200000 in
theorem line_any (w : World) : Calls Try.prog 38 #[] w (LayOut lineL w) := by
  obtain ⟨i0, hi, hz0, hz1, hz2⟩ := info_parts infoEl
  have HI0 := Lib.hid hi
  have HZ0 := Lib.hid hz0
  have HZ1 := Lib.hid hz1
  have HZ2 := Lib.hid hz2
  clear hi hz0 hz1 hz2
  go_enter Try.func38, Try.ntmps38
  go_wp2_with fail
  have F0 := four_boxes w #[.string ⟨#[]⟩, .slice none 0 0, .slice none 0 0, .slice none 0 0, .slice none 0 0, .slice none 0 0] #[.string ⟨#[120]⟩, .string ⟨#[121]⟩, .string ⟨#[122]⟩] #[.string ⟨#[108, 105, 110, 101]⟩, .slice (some ⟨w.heap.size + 1, 0, none⟩) 3 3, .slice none 0 0, .slice none 0 0, .slice none 0 0, .slice none 0 0] #[.string ⟨#[97]⟩, .string ⟨#[98]⟩, .string ⟨#[99]⟩] 28 9 28 9
  obtain ⟨W, hW⟩ : ∃ W, (((w.alloc (.cells #[.string ⟨#[]⟩, .slice none 0 0, .slice none 0 0, .slice none 0 0, .slice none 0 0, .slice none 0 0] 28)).alloc (.cells #[.string ⟨#[120]⟩, .string ⟨#[121]⟩, .string ⟨#[122]⟩] 9)).alloc (.cells #[.string ⟨#[108, 105, 110, 101]⟩, .slice (some ⟨w.heap.size + 1, 0, none⟩) 3 3, .slice none 0 0, .slice none 0 0, .slice none 0 0, .slice none 0 0] 28)).alloc (.cells #[.string ⟨#[97]⟩, .string ⟨#[98]⟩, .string ⟨#[99]⟩] 9) = W := ⟨_, rfl⟩
  rw [hW] at F0 ⊢
  clear hW
  obtain ⟨f0, f1, f2, f3, fs, fb⟩ := F0
  have F1 := Lib.hid f0
  have F2 := Lib.hid f1
  have F3 := Lib.hid f2
  have F4 := Lib.hid f3
  have FS := Lib.hid fs
  have FB := Lib.hid fb
  clear f0 f1 f2 f3 fs fb
  go_loopw [8] (fun vk wr => LnRel w W vk wr) (fun vk _ => 3 - (RowKit.intOf vk).toNat)
  case atStart => exact ⟨0, .slice none 0 0, rfl, by omega, F3.out, World.ownsRow_nil _ _ _ _, But.refl _ _ _⟩
  case round =>
    obtain ⟨k, v, rfl, hk, hrow, ho, hb⟩ := hrel
    obtain ⟨A1, L1, C1, rfl⟩ := own_any ho
    have HR := Lib.hid hrow
    have HO := Lib.hid ho
    have HB := Lib.hid hb
    have g4 := (hb.block (w.heap.size + 1 + 1 + 1) (by rw [FS.out]; omega) (by omega)).trans F4.out
    obtain ⟨p2', q2⟩ := cells_at hrow 2
    have p2 : wr.cell? ⟨w.heap.size + 1 + 1, 2, none⟩ = some (.slice A1 L1 C1) := p2'
    have n0 := cell_of_row wr _ 0 _ _ _ g4
    have n1 := cell_of_row wr _ 1 _ _ _ g4
    have n2 := cell_of_row wr _ 2 _ _ _ g4
    have hlt : w.heap.size + 1 + 1 < wr.heap.size := Nat.lt_of_lt_of_le (by rw [FS.out]; omega) hb.size
    have HS := Lib.hid hb.size
    simp at n0 n1 n2
    clear hrow ho hb g4 p2'
    rcases (by omega : k = 0 ∨ k = 1 ∨ k = 2 ∨ k = 3) with rfl | rfl | rfl | rfl
    · go_wp2_with (at_builtin; refine wpList_append_own_at _ rfl (.tmp 14) (.tmp 18) 23 rfl W.heap.size 34 i0 (.agg #[.string ByteArray.empty, .int .i64 0, .int .i64 0, .int .i64 0, .int .i64 0, .int .i64 0, .int .i64 0]) 7 64 Try.underlying23 HI0.out HZ0.out HZ1.out HZ2.out rfl (by decide) _ _ _ rfl (HO.out.alloc _) ⟨wr.heap.size, 0, none⟩ 1 1 [.string ⟨#[97]⟩, .int .i64 1, .int .i64 20000, .int .i64 0, .int .i64 3000, .int .i64 0, .int .i64 0] rfl rfl (cells_new wr #[.string ⟨#[97]⟩, .int .i64 1, .int .i64 20000, .int .i64 0, .int .i64 3000, .int .i64 0, .int .i64 0] 34) (by decide) (by decide) (by decide) (by have := HS.out; simp; omega) ?_; intro v2 w2 h1own hg1 _ _; obtain ⟨A2, N2, C2, rfl⟩ := own_any h1own; obtain ⟨e1, e2, e3, e4⟩ := line_next (k := 0) HR.out HO.out HB.out (by have := FS.out; omega) (by decide) h1own hg1; have R1 := Lib.hid e3; clear h1own hg1 e3)
      go_roundw
      case rel => exact R1.out
      case measure => simp [RowKit.intOf]
    · go_wp2_with (at_builtin; refine wpList_append_own_at _ rfl (.tmp 14) (.tmp 18) 23 rfl W.heap.size 34 i0 (.agg #[.string ByteArray.empty, .int .i64 0, .int .i64 0, .int .i64 0, .int .i64 0, .int .i64 0, .int .i64 0]) 7 64 Try.underlying23 HI0.out HZ0.out HZ1.out HZ2.out rfl (by decide) _ _ _ rfl (HO.out.alloc _) ⟨wr.heap.size, 0, none⟩ 1 1 [.string ⟨#[98]⟩, .int .i64 1, .int .i64 20000, .int .i64 0, .int .i64 3000, .int .i64 0, .int .i64 1] rfl rfl (cells_new wr #[.string ⟨#[98]⟩, .int .i64 1, .int .i64 20000, .int .i64 0, .int .i64 3000, .int .i64 0, .int .i64 1] 34) (by decide) (by decide) (by decide) (by have := HS.out; simp; omega) ?_; intro v2 w2 h1own hg1 _ _; obtain ⟨A2, N2, C2, rfl⟩ := own_any h1own; obtain ⟨e1, e2, e3, e4⟩ := line_next (k := 1) HR.out HO.out HB.out (by have := FS.out; omega) (by decide) h1own hg1; have R1 := Lib.hid e3; clear h1own hg1 e3)
      go_roundw
      case rel => exact R1.out
      case measure => simp [RowKit.intOf]
    · go_wp2_with (at_builtin; refine wpList_append_own_at _ rfl (.tmp 14) (.tmp 18) 23 rfl W.heap.size 34 i0 (.agg #[.string ByteArray.empty, .int .i64 0, .int .i64 0, .int .i64 0, .int .i64 0, .int .i64 0, .int .i64 0]) 7 64 Try.underlying23 HI0.out HZ0.out HZ1.out HZ2.out rfl (by decide) _ _ _ rfl (HO.out.alloc _) ⟨wr.heap.size, 0, none⟩ 1 1 [.string ⟨#[99]⟩, .int .i64 1, .int .i64 20000, .int .i64 0, .int .i64 3000, .int .i64 0, .int .i64 2] rfl rfl (cells_new wr #[.string ⟨#[99]⟩, .int .i64 1, .int .i64 20000, .int .i64 0, .int .i64 3000, .int .i64 0, .int .i64 2] 34) (by decide) (by decide) (by decide) (by have := HS.out; simp; omega) ?_; intro v2 w2 h1own hg1 _ _; obtain ⟨A2, N2, C2, rfl⟩ := own_any h1own; obtain ⟨e1, e2, e3, e4⟩ := line_next (k := 2) HR.out HO.out HB.out (by have := FS.out; omega) (by decide) h1own hg1; have R1 := Lib.hid e3; clear h1own hg1 e3)
      go_roundw
      case rel => exact R1.out
      case measure => simp [RowKit.intOf]
    · obtain ⟨p0, _⟩ := cells_at HR.out 0
      obtain ⟨p1, _⟩ := cells_at HR.out 1
      obtain ⟨p3, q3⟩ := cells_at HR.out 3
      obtain ⟨p4, q4⟩ := cells_at HR.out 4
      obtain ⟨p5, _⟩ := cells_at HR.out 5
      replace p0 : wr.cell? ⟨w.heap.size + 1 + 1, 0, none⟩ = some (.string ⟨#[108, 105, 110, 101]⟩) := p0
      replace p1 : wr.cell? ⟨w.heap.size + 1 + 1, 1, none⟩ = some (.slice (some ⟨w.heap.size + 1, 0, none⟩) 3 3) := p1
      replace p3 : wr.cell? ⟨w.heap.size + 1 + 1, 3, none⟩ = some (.slice none 0 0) := p3
      replace p4 : wr.cell? ⟨w.heap.size + 1 + 1, 4, none⟩ = some (.slice none 0 0) := p4
      replace p5 : wr.cell? ⟨w.heap.size + 1 + 1, 5, none⟩ = some (.slice none 0 0) := p5
      have h2 := (HB.out.block w.heap.size (by rw [FS.out]; omega) (by omega)).trans F1.out
      have hlt0 : w.heap.size < wr.heap.size := by omega
      obtain ⟨z0, y0⟩ := cells_at h2 0
      obtain ⟨z1, y1⟩ := cells_at h2 1
      obtain ⟨z2, y2⟩ := cells_at h2 2
      obtain ⟨z3, y3⟩ := cells_at h2 3
      obtain ⟨z4, y4⟩ := cells_at h2 4
      obtain ⟨z5, y5⟩ := cells_at h2 5
      simp at z0 z1 z2 z3 z4 z5
      have H2 := Lib.hid h2
      have la : w.heap.size + 1 + 1 < wr.heap.size + 1 := by omega
      have lb : w.heap.size + 1 + 1 < wr.heap.size + 1 + 1 := by omega
      have lc : w.heap.size < wr.heap.size + 1 := by omega
      have ld : w.heap.size < wr.heap.size + 1 + 1 := by omega
      clear h2
      go_wp2_with fail
      obtain ⟨e1, e2, e3⟩ := line_out HO.out HB.out H2.out F2.out FS.out FB.out
      (try simp only [Exit.inBlock, Exit.then])
      refine bodyPost_ret (v := .agg #[.string ⟨#[108, 105, 110, 101]⟩, .slice (some ⟨w.heap.size + 1, 0, none⟩) 3 3, .slice A1 L1 C1, .slice (some ⟨wr.heap.size, 0, none⟩) 2 2, .slice (some ⟨wr.heap.size + 1, 0, none⟩) 2 2, .slice none 0 0]) ?_ rfl ?_
      · exact results_cell_row rfl _ _ w.heap.size 28 _ (0, 0) _ rfl e1 Try.underlying28 rfl (by kernel_rfl)
      · exact ⟨_, _, _, _, _, rfl, e2, e3⟩

end Go.Proofs.Ytieoegodhhiiiaa.Llin
