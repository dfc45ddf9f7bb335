/- Texts of this proof, merged: Wlin, Rlg0, Rnee, Wrf, Wsam, Wlst. -/
import Derived.Test.YtjhimekojiegjaaDoorG03
import Derived.Test.YtjhimekojiegjaaDoorG01
import Derived.Maps.AppendAt
import Derived.Test.YtjhimekojiegjaaDoorG02
import Derived.Laws.OwnMore

/- The call of the statements' line (walk). -/
namespace Go.Proofs.YtjhimekojiegjaaDoor.Wlin
open Go.RowKit Go.Lib Go.Proofs.YtjhimekojiegjaaDoor.Text Go.Proofs.YtjhimekojiegjaaDoor.Reads Go.Proofs.YtjhimekojiegjaaDoor.Rows2 Go.Proofs.YtjhimekojiegjaaDoor.Lay Go.Proofs.YtjhimekojiegjaaDoor.Layf Go.Proofs.YtjhimekojiegjaaDoor.Ldup Go.Proofs.YtjhimekojiegjaaDoor.Ljoi Go.Proofs.YtjhimekojiegjaaDoor.Lnam Go.Proofs.YtjhimekojiegjaaDoor.Lele Go.Proofs.YtjhimekojiegjaaDoor.Lown

def lineEls : List Elem := [⟨[97], 1, 20000, 0, 3000, 0, 0⟩, ⟨[98], 1, 20000, 0, 3000, 0, 1⟩, ⟨[99], 1, 20000, 0, 3000, 0, 2⟩]
def lineJs : List ((Int × Int) × (Int × Int)) := [((0, 1), (1, 0)), ((1, 1), (2, 0))]
def lineL : Lay := ⟨[108, 105, 110, 101], [[116, 97], [116, 98], [116, 99]], lineEls, lineJs, [], []⟩
/-- What a call gives that returns a layout. -/
def LayOut (L : Lay) (w : World) (e : Ending) (w' : World) : Prop := ∃ vs ve vj vg vb, e = .returned (layV L vs ve vj vg vb) ∧ LayAt (In w') w' L vs ve vj vg vb ∧ Below w.heap.size w w'
theorem infoEl : (Tryd.prog.info? 54).map (fun i => (i.zero, i.size, i.bytes)) = some (some (.agg #[.string ByteArray.empty, .int .i64 0, .int .i64 0, .int .i64 0, .int .i64 0, .int .i64 0, .int .i64 0]), 7, 64) := by kernel_rfl
theorem infoJt : (Tryd.prog.info? 79).map (fun i => (i.zero, i.size, i.bytes)) = some (some (.agg #[.int .i64 0, .int .i64 0, .int .i64 0, .int .i64 0]), 4, 32) := by kernel_rfl

theorem own_len' {B n sz : Nat} {w : World} {e : TypeId} {v : Value} {xs : List Value} (h : w.ownsRow B e sz v n xs) : ∃ A C, v = .slice A n C := by
  obtain ⟨h1, hor⟩ := h
  rcases hor with ⟨rfl, h0⟩ | ⟨g, cap, cur, rfl, _⟩
  · subst h0
    exact ⟨none, 0, rfl⟩
  · exact ⟨_, _, rfl⟩
theorem own_any {B n sz : Nat} {w : World} {e : TypeId} {v : Value} {xs : List Value} (h : w.ownsRow B e sz v n xs) : ∃ A N C, v = .slice A N C := by
  obtain ⟨A, C, rfl⟩ := own_len' h
  exact ⟨_, _, _, rfl⟩
theorem four_boxes (w : World) (A B C D : Array Value) (TA TB TC TD : TypeId) :
    ((((w.alloc (.cells A TA)).alloc (.cells B TB)).alloc (.cells C TC)).alloc (.cells D TD)).heap[w.heap.size]? = some (.cells A TA (0, 0)) ∧
    ((((w.alloc (.cells A TA)).alloc (.cells B TB)).alloc (.cells C TC)).alloc (.cells D TD)).heap[w.heap.size + 1]? = some (.cells B TB (0, 0)) ∧
    ((((w.alloc (.cells A TA)).alloc (.cells B TB)).alloc (.cells C TC)).alloc (.cells D TD)).heap[w.heap.size + 1 + 1]? = some (.cells C TC (0, 0)) ∧
    ((((w.alloc (.cells A TA)).alloc (.cells B TB)).alloc (.cells C TC)).alloc (.cells D TD)).heap[w.heap.size + 1 + 1 + 1]? = some (.cells D TD (0, 0)) ∧
    ((((w.alloc (.cells A TA)).alloc (.cells B TB)).alloc (.cells C TC)).alloc (.cells D TD)).heap.size = w.heap.size + 1 + 1 + 1 + 1 ∧
    Below w.heap.size w ((((w.alloc (.cells A TA)).alloc (.cells B TB)).alloc (.cells C TC)).alloc (.cells D TD)) := by
  have s1 : (w.alloc (.cells A TA)).heap.size = w.heap.size + 1 := by simp
  have s2 : ((w.alloc (.cells A TA)).alloc (.cells B TB)).heap.size = w.heap.size + 1 + 1 := by simp
  have s3 : (((w.alloc (.cells A TA)).alloc (.cells B TB)).alloc (.cells C TC)).heap.size = w.heap.size + 1 + 1 + 1 := by simp
  have e1 := heap_alloc_new w (.cells A TA)
  have e2 := heap_alloc_new (w.alloc (.cells A TA)) (.cells B TB)
  have e3 := heap_alloc_new ((w.alloc (.cells A TA)).alloc (.cells B TB)) (.cells C TC)
  have e4 := heap_alloc_new (((w.alloc (.cells A TA)).alloc (.cells B TB)).alloc (.cells C TC)) (.cells D TD)
  rw [s1] at e2
  rw [s2] at e3
  rw [s3] at e4
  have b1 := (Below.refl w.heap.size w).alloc (Nat.le_refl _) (.cells A TA)
  have b2 := b1.alloc b1.size (.cells B TB)
  have b3 := b2.alloc b2.size (.cells C TC)
  refine ⟨?_, ?_, ?_, e4, by simp, b3.alloc b3.size _⟩
  · rw [Below.heap_alloc _ _ _ (by rw [s3]; omega), Below.heap_alloc _ _ _ (by rw [s2]; omega), Below.heap_alloc _ _ _ (by rw [s1]; omega)]
    exact e1
  · rw [Below.heap_alloc _ _ _ (by rw [s3]; omega), Below.heap_alloc _ _ _ (by rw [s2]; omega)]
    exact e2
  · rw [Below.heap_alloc _ _ _ (by rw [s3]; omega)]
    exact e3
/-- The cells of the line's box, with these elements and joints. -/
def lineBox (w : World) (v u : Value) : Array Value := #[.string ⟨#[108, 105, 110, 101]⟩, .slice (some ⟨w.heap.size + 1, 0, none⟩) 3 3, v, u, .slice none 0 0, .slice none 0 0]
/-- The line under way. -/
def Line (w W : World) (k j : Nat) (v u : Value) (wr : World) : Prop :=
  wr.heap[w.heap.size + 1 + 1]? = some (.cells (lineBox w v u) 28 (0, 0)) ∧ wr.ownsRow W.heap.size 54 7 v (lineEls.take k).length ((lineEls.take k).flatMap Elem.cells) ∧ wr.ownsRow W.heap.size 79 4 u (lineJs.take j).length ((lineJs.take j).flatMap jCells) ∧ But (w.heap.size + 1 + 1) W.heap.size W wr

theorem own_apart {B n m s1 s2 : Nat} {w : World} {e f : TypeId} {v u : Value} {xs ys : List Value} (h : w.ownsRow B e s1 v n xs) (k : w.ownsRow B f s2 u m ys) (hne : e ≠ f) : u.ownBlock = none ∨ u.ownBlock ≠ v.ownBlock := by
  rcases k.2 with ⟨rfl, _⟩ | ⟨g, cap, cur, rfl, _, hg, _⟩
  · exact .inl rfl
  · rcases h.2 with ⟨rfl, _⟩ | ⟨g', cap', cur', rfl, _, hg', _⟩
    · exact .inr (by simp [Value.ownBlock])
    · refine .inr fun e' => ?_
      have : g = g' := by simpa [Value.ownBlock] using e'
      subst this
      rw [hg] at hg'
      simp at hg'
      exact hne hg'.2.symm

theorem line_els {w W wr w1 : World} {v v' u : Value} {k j : Nat} {o : Obj} (h : Line w W k j v u wr) (hW : w.heap.size + 1 + 1 < W.heap.size) (hk : k < 3)
    (h1 : w1.ownsRow W.heap.size 54 7 v' ((lineEls.take k).length + 1) ((lineEls.take k).flatMap Elem.cells ++ ((lineEls[k]?).map Elem.cells).getD [])) (hg : (wr.alloc o).grownBy w1 v.ownBlock) :
    w1.cell? ⟨w.heap.size + 1 + 1, 2, none⟩ = some v ∧ w1.frozen? ⟨w.heap.size + 1 + 1, 2, none⟩ = false ∧ Line w W (k + 1) j v' u (w1.setCell ⟨w.heap.size + 1 + 1, 2, none⟩ v') ∧ w.heap.size + 1 + 1 < w1.heap.size ∧ w1.cell? ⟨w.heap.size + 1 + 1, 3, none⟩ = some u ∧ w1.frozen? ⟨w.heap.size + 1 + 1, 3, none⟩ = false := by
  obtain ⟨hrow, ho, hu, hb⟩ := h
  have hw := hb.size
  have hne : ∀ x, v.ownBlock = some x → W.heap.size ≤ x ∨ x = w.heap.size + 1 + 1 := fun x hx => .inl (ho.lt x hx).1
  have b3 := (hb.alloc hw o).grown hg (by simp; omega) hne
  have r1 : w1.heap[w.heap.size + 1 + 1]? = some (.cells (lineBox w v u) 28 (0, 0)) := by
    rw [hg.block (w.heap.size + 1 + 1) (by simp; omega) (fun e => by have := (ho.lt _ e.symm).1; omega), Below.heap_alloc _ _ _ (by omega)]
    exact hrow
  refine ⟨(cells_at r1 2).1, (cells_at r1 2).2, ⟨heap_setCell_same _ _ 2 _ _ v' r1, ?_, ?_, b3.setCell (.inl rfl) _⟩, Nat.lt_of_lt_of_le hW b3.size, (cells_at r1 3).1, (cells_at r1 3).2⟩
  · have h2 := ownsRow_setCell_below h1 (a := ⟨w.heap.size + 1 + 1, 2, none⟩) hW v'
    rcases (by omega : k = 0 ∨ k = 1 ∨ k = 2) with rfl | rfl | rfl
    all_goals exact h2
  · exact ownsRow_setCell_below ((hu.alloc o).kept hg (own_apart ho hu (by decide))) (a := ⟨w.heap.size + 1 + 1, 2, none⟩) hW v'

theorem line_jts {w W wr w1 : World} {v u' u : Value} {k j : Nat} {o : Obj} (h : Line w W k j v u wr) (hW : w.heap.size + 1 + 1 < W.heap.size) (hk : j < 2)
    (h1 : w1.ownsRow W.heap.size 79 4 u' ((lineJs.take j).length + 1) ((lineJs.take j).flatMap jCells ++ ((lineJs[j]?).map jCells).getD [])) (hg : (wr.alloc o).grownBy w1 u.ownBlock) :
    w1.cell? ⟨w.heap.size + 1 + 1, 3, none⟩ = some u ∧ w1.frozen? ⟨w.heap.size + 1 + 1, 3, none⟩ = false ∧ Line w W k (j + 1) v u' (w1.setCell ⟨w.heap.size + 1 + 1, 3, none⟩ u') ∧ w.heap.size + 1 + 1 < w1.heap.size := by
  obtain ⟨hrow, hv, ho, hb⟩ := h
  have hw := hb.size
  have hne : ∀ x, u.ownBlock = some x → W.heap.size ≤ x ∨ x = w.heap.size + 1 + 1 := fun x hx => .inl (ho.lt x hx).1
  have b3 := (hb.alloc hw o).grown hg (by simp; omega) hne
  have r1 : w1.heap[w.heap.size + 1 + 1]? = some (.cells (lineBox w v u) 28 (0, 0)) := by
    rw [hg.block (w.heap.size + 1 + 1) (by simp; omega) (fun e => by have := (ho.lt _ e.symm).1; omega), Below.heap_alloc _ _ _ (by omega)]
    exact hrow
  refine ⟨(cells_at r1 3).1, (cells_at r1 3).2, ⟨heap_setCell_same _ _ 3 _ _ u' r1, ?_, ?_, b3.setCell (.inl rfl) _⟩, Nat.lt_of_lt_of_le hW b3.size⟩
  · exact ownsRow_setCell_below ((hv.alloc o).kept hg (own_apart ho hv (by decide))) (a := ⟨w.heap.size + 1 + 1, 3, none⟩) hW u'
  · have h2 := ownsRow_setCell_below h1 (a := ⟨w.heap.size + 1 + 1, 3, none⟩) hW u'
    rcases (by omega : j = 0 ∨ j = 1) with rfl | rfl
    all_goals exact h2

/-- The world behind the line. -/
def line6 (w wr : World) (v u : Value) : World :=
  (((((wr.setCell ⟨w.heap.size, 0, none⟩ (.string ⟨#[108, 105, 110, 101]⟩)).setCell ⟨w.heap.size, 1, none⟩ (.slice (some ⟨w.heap.size + 1, 0, none⟩) 3 3)).setCell ⟨w.heap.size, 2, none⟩ v).setCell ⟨w.heap.size, 3, none⟩ u).setCell ⟨w.heap.size, 4, none⟩ (.slice none 0 0)).setCell ⟨w.heap.size, 5, none⟩ (.slice none 0 0)
theorem line6_size (w wr : World) (v u : Value) : (line6 w wr v u).heap.size = wr.heap.size := by simp [line6, World.setCell]
theorem line6_other (w wr : World) (v u : Value) (k : Nat) (h1 : k ≠ w.heap.size) : (line6 w wr v u).heap[k]? = wr.heap[k]? := by
  unfold line6
  rw [heap_setCell_other _ _ _ _ h1, heap_setCell_other _ _ _ _ h1, heap_setCell_other _ _ _ _ h1, heap_setCell_other _ _ _ _ h1, heap_setCell_other _ _ _ _ h1, heap_setCell_other _ _ _ _ h1]
theorem line6_box {w wr : World} {v u a b c d e f : Value} {T : TypeId} (h : wr.heap[w.heap.size]? = some (.cells #[a, b, c, d, e, f] T (0, 0))) :
    (line6 w wr v u).heap[w.heap.size]? = some (.cells #[.string ⟨#[108, 105, 110, 101]⟩, .slice (some ⟨w.heap.size + 1, 0, none⟩) 3 3, v, u, .slice none 0 0, .slice none 0 0] T (0, 0)) := by
  have h1 := heap_setCell_same _ _ 0 _ _ (.string ⟨#[108, 105, 110, 101]⟩) h
  have h2 := heap_setCell_same _ _ 1 _ _ (.slice (some ⟨w.heap.size + 1, 0, none⟩) 3 3) h1
  have h3 := heap_setCell_same _ _ 2 _ _ v h2
  have h4 := heap_setCell_same _ _ 3 _ _ u h3
  have h5 := heap_setCell_same _ _ 4 _ _ (.slice none 0 0) h4
  exact heap_setCell_same _ _ 5 _ _ (.slice none 0 0) h5
theorem wf_lit {x : Int} (h : -9223372036854775808 ≤ x ∧ x ≤ 9223372036854775807) : Lay.Wf x := WalkArith.wf_i64 h

theorem line_out {w W wr : World} {v u : Value} (h : Line w W 3 2 v u wr)
    (h2 : wr.heap[w.heap.size]? = some (.cells #[.string ⟨#[]⟩, .slice none 0 0, .slice none 0 0, .slice none 0 0, .slice none 0 0, .slice none 0 0] 28 (0, 0))) (f2 : W.heap[w.heap.size + 1]? = some (.cells #[.string ⟨#[116, 97]⟩, .string ⟨#[116, 98]⟩, .string ⟨#[116, 99]⟩] 9 (0, 0))) (fs : W.heap.size = w.heap.size + 1 + 1 + 1 + 1) (fb : Below w.heap.size w W) :
    (line6 w wr v u).heap[w.heap.size]? = some (.cells #[.string ⟨#[108, 105, 110, 101]⟩, .slice (some ⟨w.heap.size + 1, 0, none⟩) 3 3, v, u, .slice none 0 0, .slice none 0 0] 28 (0, 0)) ∧
    LayAt (In (line6 w wr v u)) (line6 w wr v u) lineL (.slice (some ⟨w.heap.size + 1, 0, none⟩) 3 3) v u (.slice none 0 0) (.slice none 0 0) ∧
    Below w.heap.size w (line6 w wr v u) := by
  obtain ⟨_, ho, hu, hb⟩ := h
  have hs := hb.size
  have s8 := line6_size w wr v u
  have b1 := But.below fb hb (by omega) (by omega)
  have hbel : Below w.heap.size w (line6 w wr v u) := by
    unfold line6
    exact (((((b1.setCell (by simp) _).setCell (by simp) _).setCell (by simp) _).setCell (by simp) _).setCell (by simp) _).setCell (by simp) _
  refine ⟨line6_box h2, ?_, hbel⟩
  have hsec : (line6 w wr v u).heap[w.heap.size + 1]? = some (.cells #[.string ⟨#[116, 97]⟩, .string ⟨#[116, 98]⟩, .string ⟨#[116, 99]⟩] 9 (0, 0)) := by
    rw [line6_other _ _ _ _ _ (by omega), hb.block _ (by omega) (by omega)]
    exact f2
  obtain ⟨WF, hWF⟩ : ∃ WF, line6 w wr v u = WF := ⟨_, rfl⟩
  have hoth := line6_other w wr v u
  rw [hWF] at hsec s8 hoth ⊢
  have hel := (grid_of_own Elem.cells (fun _ => rfl) (l := lineEls) ho).keep (ok' := In WF) (w' := WF) fun b hb' => ⟨by show b < _; omega, hoth b (by omega)⟩
  have hju := (grid_of_own jCells (fun _ => rfl) (l := lineJs) hu).keep (ok' := In WF) (w' := WF) fun b hb' => ⟨by show b < _; omega, hoth b (by omega)⟩
  have cs : ∀ j, WF.cell? ⟨w.heap.size + 1, j, none⟩ = #[.string ⟨#[116, 97]⟩, .string ⟨#[116, 98]⟩, .string ⟨#[116, 99]⟩][j]? := fun j => cell_of_row _ _ _ _ _ _ hsec
  refine ⟨⟨row_mk (strV [[116, 97], [116, 98], [116, 99]]) (show w.heap.size + 1 < WF.heap.size by omega) (by decide) (by decide) (fun j x hx => ?_), by decide⟩, hel, hju, grid_nil _ _ _, grid_nil _ _ _, by decide, by decide, by decide, ?_, ?_, (by intro x hx; cases hx), (by intro x hx; cases hx), .inr ⟨_, _, _, rfl⟩⟩
  · rw [Nat.zero_add, cs j, ← hx]
    simp [strV, bs]
  · intro x hx
    have : x ∈ lineEls := hx
    simp only [lineEls, List.mem_cons, List.not_mem_nil, or_false] at this
    rcases this with rfl | rfl | rfl <;> exact ⟨wf_lit (by decide), wf_lit (by decide), wf_lit (by decide), wf_lit (by decide), wf_lit (by decide), wf_lit (by decide)⟩
  · intro x hx
    have : x ∈ lineJs := hx
    simp only [lineJs, List.mem_cons, List.not_mem_nil, or_false] at this
    rcases this with rfl | rfl <;> exact ⟨⟨wf_lit (by decide), wf_lit (by decide)⟩, ⟨wf_lit (by decide), wf_lit (by decide)⟩⟩

theorem cells_new_set (w : World) (p : Addr) (x : Value) (cs : Array Value) (T : TypeId) : ∀ j u, cs.toList[j]? = some u → ((w.setCell p x).alloc (.cells cs T)).cell? ((⟨w.heap.size, 0, none⟩ : Addr).add j) = some u := by
  have h := cells_new (w.setCell p x) cs T
  have e : (w.setCell p x).heap.size = w.heap.size := by simp [World.setCell]
  rwa [e] at h

set_option maxRecDepth 100000 in
set_option maxHeartbeats 3200000 in
theorem line_any (w : World) : Calls Tryd.prog 32 #[] w (LayOut lineL w) := by
  obtain ⟨i0, hi, hz0, hz1, hz2⟩ := info_parts infoEl
  obtain ⟨j0, hj, hy0, hy1, hy2⟩ := info_parts infoJt
  have HI0 := Lib.hid hi
  have HZ0 := Lib.hid hz0
  have HZ1 := Lib.hid hz1
  have HZ2 := Lib.hid hz2
  have HJ0 := Lib.hid hj
  have HY0 := Lib.hid hy0
  have HY1 := Lib.hid hy1
  have HY2 := Lib.hid hy2
  clear hi hz0 hz1 hz2 hj hy0 hy1 hy2
  go_enter Tryd.func32, Tryd.ntmps32
  go_wp2_with fail
  have F0 := four_boxes w #[.string ⟨#[]⟩, .slice none 0 0, .slice none 0 0, .slice none 0 0, .slice none 0 0, .slice none 0 0] #[.string ⟨#[116, 97]⟩, .string ⟨#[116, 98]⟩, .string ⟨#[116, 99]⟩] #[.string ⟨#[108, 105, 110, 101]⟩, .slice (some ⟨w.heap.size + 1, 0, none⟩) 3 3, .slice none 0 0, .slice none 0 0, .slice none 0 0, .slice none 0 0] #[.string ⟨#[97]⟩, .string ⟨#[98]⟩, .string ⟨#[99]⟩] 28 9 28 9
  obtain ⟨W, hW⟩ : ∃ W, (((w.alloc (.cells #[.string ⟨#[]⟩, .slice none 0 0, .slice none 0 0, .slice none 0 0, .slice none 0 0, .slice none 0 0] 28)).alloc (.cells #[.string ⟨#[116, 97]⟩, .string ⟨#[116, 98]⟩, .string ⟨#[116, 99]⟩] 9)).alloc (.cells #[.string ⟨#[108, 105, 110, 101]⟩, .slice (some ⟨w.heap.size + 1, 0, none⟩) 3 3, .slice none 0 0, .slice none 0 0, .slice none 0 0, .slice none 0 0] 28)).alloc (.cells #[.string ⟨#[97]⟩, .string ⟨#[98]⟩, .string ⟨#[99]⟩] 9) = W := ⟨_, rfl⟩
  rw [hW] at F0 ⊢
  clear hW
  obtain ⟨f0, f1, f2, f3, fs, fb⟩ := F0
  have F1 := Lib.hid f0
  have F2 := Lib.hid f1
  have F3 := Lib.hid f2
  have F4 := Lib.hid f3
  have FS := Lib.hid fs
  have FB := Lib.hid fb
  clear f0 f1 f2 f3 fs fb
  go_loopw [8] (fun vk wr => ∃ (k : Nat) (v u : Value), vk = .int .i64 (k : Int) ∧ k ≤ 3 ∧ Line w W k (k - 1) v u wr) (fun vk _ => 3 - (RowKit.intOf vk).toNat)
  case atStart => exact ⟨0, .slice none 0 0, .slice none 0 0, rfl, by omega, F3.out, World.ownsRow_nil _ _ _ _, World.ownsRow_nil _ _ _ _, But.refl _ _ _⟩
  case round =>
    obtain ⟨k, v, u, rfl, hk, hl⟩ := hrel
    obtain ⟨A1, L1, C1, rfl⟩ := own_any hl.2.1
    obtain ⟨A0, L0, C0, rfl⟩ := own_any hl.2.2.1
    have HL := Lib.hid hl
    have hb := hl.2.2.2
    have g4 := (hb.block (w.heap.size + 1 + 1 + 1) (by rw [FS.out]; omega) (by omega)).trans F4.out
    obtain ⟨p2', q2⟩ := cells_at hl.1 2
    obtain ⟨p3', q3⟩ := cells_at hl.1 3
    have p2 : wr.cell? ⟨w.heap.size + 1 + 1, 2, none⟩ = some (.slice A1 L1 C1) := p2'
    have p3 : wr.cell? ⟨w.heap.size + 1 + 1, 3, none⟩ = some (.slice A0 L0 C0) := p3'
    have n0 := cell_of_row wr _ 0 _ _ _ g4
    have n1 := cell_of_row wr _ 1 _ _ _ g4
    have n2 := cell_of_row wr _ 2 _ _ _ g4
    have hlt : w.heap.size + 1 + 1 < wr.heap.size := Nat.lt_of_lt_of_le (by rw [FS.out]; omega) hb.size
    have HS := Lib.hid hb.size
    simp at n0 n1 n2
    clear hl hb g4 p2' p3'
    rcases (by omega : k = 0 ∨ k = 1 ∨ k = 2 ∨ k = 3) with rfl | rfl | rfl | rfl
    · go_wp2_with (at_builtin; refine wpList_append_own_at _ rfl (.tmp 14) (.tmp 18) 23 rfl W.heap.size 54 i0 (.agg #[.string ByteArray.empty, .int .i64 0, .int .i64 0, .int .i64 0, .int .i64 0, .int .i64 0, .int .i64 0]) 7 64 Tryd.underlying23 HI0.out HZ0.out HZ1.out HZ2.out rfl (by decide) _ _ _ rfl (HL.out.2.1.alloc _) ⟨wr.heap.size, 0, none⟩ 1 1 [.string ⟨#[97]⟩, .int .i64 1, .int .i64 20000, .int .i64 0, .int .i64 3000, .int .i64 0, .int .i64 0] rfl rfl (cells_new wr #[.string ⟨#[97]⟩, .int .i64 1, .int .i64 20000, .int .i64 0, .int .i64 3000, .int .i64 0, .int .i64 0] 54) (by decide) (by decide) (by decide) (by have := HS.out; simp; omega) ?_; intro v2 w2 h1own hg1 _ _; obtain ⟨A2, N2, C2, rfl⟩ := own_any h1own; obtain ⟨e1, e2, e3, e4, e5, e6⟩ := line_els (k := 0) HL.out (by have := FS.out; omega) (by decide) h1own hg1; have L1 := Lib.hid e3; clear h1own hg1 e3)
      go_roundw
      case rel => exact ⟨1, _, _, by simp, by omega, L1.out⟩
      case measure => simp [RowKit.intOf]
    · go_wp2_with (first
        | (at_builtin; refine wpList_append_own_at _ rfl (.tmp 14) (.tmp 18) 23 rfl W.heap.size 54 i0 (.agg #[.string ByteArray.empty, .int .i64 0, .int .i64 0, .int .i64 0, .int .i64 0, .int .i64 0, .int .i64 0]) 7 64 Tryd.underlying23 HI0.out HZ0.out HZ1.out HZ2.out rfl (by decide) _ _ _ rfl (HL.out.2.1.alloc _) ⟨wr.heap.size, 0, none⟩ 1 1 [.string ⟨#[98]⟩, .int .i64 1, .int .i64 20000, .int .i64 0, .int .i64 3000, .int .i64 0, .int .i64 1] rfl rfl (cells_new wr #[.string ⟨#[98]⟩, .int .i64 1, .int .i64 20000, .int .i64 0, .int .i64 3000, .int .i64 0, .int .i64 1] 54) (by decide) (by decide) (by decide) (by have := HS.out; simp; omega) ?_; intro v2 w2 h1own hg1 _ _; obtain ⟨A2, N2, C2, rfl⟩ := own_any h1own; obtain ⟨e1, e2, e3, e4, e5, e6⟩ := line_els (k := 1) HL.out (by have := FS.out; omega) (by decide) h1own hg1; have L1 := Lib.hid e3; clear h1own hg1 e3)
        | (at_builtin; refine wpList_append_own_at _ rfl (.tmp 24) (.tmp 31) 24 rfl W.heap.size 79 j0 (.agg #[.int .i64 0, .int .i64 0, .int .i64 0, .int .i64 0]) 4 32 Tryd.underlying24 HJ0.out HY0.out HY1.out HY2.out rfl (by decide) _ _ _ rfl (L1.out.2.2.1.alloc _) ⟨w2.heap.size, 0, none⟩ 1 1 [.int .i64 0, .int .i64 1, .int .i64 1, .int .i64 0] rfl rfl (cells_new_set w2 _ _ #[.int .i64 0, .int .i64 1, .int .i64 1, .int .i64 0] 79) (by decide) (by decide) (by decide) (by have h9 := L1.out.2.2.2.size; simp [World.setCell] at h9 ⊢; omega) ?_; intro v3 w3 h2own hg2 _ _; obtain ⟨A3, N3, C3, rfl⟩ := own_any h2own; obtain ⟨f1, f2, f3, f4⟩ := line_jts (j := 0) L1.out (by have := FS.out; omega) (by decide) h2own hg2; have L2 := Lib.hid f3; clear h2own hg2 f3))
      go_roundw
      case rel => exact ⟨2, _, _, by simp, by omega, L2.out⟩
      case measure => simp [RowKit.intOf]
    · go_wp2_with (first
        | (at_builtin; refine wpList_append_own_at _ rfl (.tmp 14) (.tmp 18) 23 rfl W.heap.size 54 i0 (.agg #[.string ByteArray.empty, .int .i64 0, .int .i64 0, .int .i64 0, .int .i64 0, .int .i64 0, .int .i64 0]) 7 64 Tryd.underlying23 HI0.out HZ0.out HZ1.out HZ2.out rfl (by decide) _ _ _ rfl (HL.out.2.1.alloc _) ⟨wr.heap.size, 0, none⟩ 1 1 [.string ⟨#[99]⟩, .int .i64 1, .int .i64 20000, .int .i64 0, .int .i64 3000, .int .i64 0, .int .i64 2] rfl rfl (cells_new wr #[.string ⟨#[99]⟩, .int .i64 1, .int .i64 20000, .int .i64 0, .int .i64 3000, .int .i64 0, .int .i64 2] 54) (by decide) (by decide) (by decide) (by have := HS.out; simp; omega) ?_; intro v2 w2 h1own hg1 _ _; obtain ⟨A2, N2, C2, rfl⟩ := own_any h1own; obtain ⟨e1, e2, e3, e4, e5, e6⟩ := line_els (k := 2) HL.out (by have := FS.out; omega) (by decide) h1own hg1; have L1 := Lib.hid e3; clear h1own hg1 e3)
        | (at_builtin; refine wpList_append_own_at _ rfl (.tmp 24) (.tmp 31) 24 rfl W.heap.size 79 j0 (.agg #[.int .i64 0, .int .i64 0, .int .i64 0, .int .i64 0]) 4 32 Tryd.underlying24 HJ0.out HY0.out HY1.out HY2.out rfl (by decide) _ _ _ rfl (L1.out.2.2.1.alloc _) ⟨w2.heap.size, 0, none⟩ 1 1 [.int .i64 1, .int .i64 1, .int .i64 2, .int .i64 0] rfl rfl (cells_new_set w2 _ _ #[.int .i64 1, .int .i64 1, .int .i64 2, .int .i64 0] 79) (by decide) (by decide) (by decide) (by have h9 := L1.out.2.2.2.size; simp [World.setCell] at h9 ⊢; omega) ?_; intro v3 w3 h2own hg2 _ _; obtain ⟨A3, N3, C3, rfl⟩ := own_any h2own; obtain ⟨f1, f2, f3, f4⟩ := line_jts (j := 1) L1.out (by have := FS.out; omega) (by decide) h2own hg2; have L2 := Lib.hid f3; clear h2own hg2 f3))
      go_roundw
      case rel => exact ⟨3, _, _, by simp, by omega, L2.out⟩
      case measure => simp [RowKit.intOf]
    · obtain ⟨p0, _⟩ := cells_at HL.out.1 0
      obtain ⟨p1, _⟩ := cells_at HL.out.1 1
      obtain ⟨p4, _⟩ := cells_at HL.out.1 4
      obtain ⟨p5, _⟩ := cells_at HL.out.1 5
      replace p0 : wr.cell? ⟨w.heap.size + 1 + 1, 0, none⟩ = some (.string ⟨#[108, 105, 110, 101]⟩) := p0
      replace p1 : wr.cell? ⟨w.heap.size + 1 + 1, 1, none⟩ = some (.slice (some ⟨w.heap.size + 1, 0, none⟩) 3 3) := p1
      replace p4 : wr.cell? ⟨w.heap.size + 1 + 1, 4, none⟩ = some (.slice none 0 0) := p4
      replace p5 : wr.cell? ⟨w.heap.size + 1 + 1, 5, none⟩ = some (.slice none 0 0) := p5
      have h2 := (HL.out.2.2.2.block w.heap.size (by rw [FS.out]; omega) (by omega)).trans F1.out
      have hlt0 : w.heap.size < wr.heap.size := by omega
      obtain ⟨z0, y0⟩ := cells_at h2 0
      obtain ⟨z1, y1⟩ := cells_at h2 1
      obtain ⟨z2, y2⟩ := cells_at h2 2
      obtain ⟨z3, y3⟩ := cells_at h2 3
      obtain ⟨z4, y4⟩ := cells_at h2 4
      obtain ⟨z5, y5⟩ := cells_at h2 5
      simp at z0 z1 z2 z3 z4 z5
      have H2 := Lib.hid h2
      clear h2
      go_wp2_with fail
      obtain ⟨e1, e2, e3⟩ := line_out HL.out H2.out F2.out FS.out FB.out
      (try simp only [Exit.inBlock, Exit.then])
      refine bodyPost_ret (v := .agg #[.string ⟨#[108, 105, 110, 101]⟩, .slice (some ⟨w.heap.size + 1, 0, none⟩) 3 3, .slice A1 L1 C1, .slice A0 L0 C0, .slice none 0 0, .slice none 0 0]) ?_ rfl ?_
      · exact results_cell_row rfl _ _ w.heap.size 28 _ (0, 0) _ rfl e1 Tryd.underlying28 rfl (by kernel_rfl)
      · exact ⟨_, _, _, _, _, rfl, e2, e3⟩

end Go.Proofs.YtjhimekojiegjaaDoor.Wlin

/- The call of rail.Legs alone. -/
namespace Go.Proofs.YtjhimekojiegjaaDoor.Rlegs
open Go.RowKit Go.Lib Go.Proofs.YtjhimekojiegjaaDoor.Rail Go.Proofs.YtjhimekojiegjaaDoor.Rtab Go.Proofs.YtjhimekojiegjaaDoor.Reads

theorem infoI : (Tryd.prog.info? 3).map (fun i => (i.zero, i.size, i.bytes)) = some (some (.int .i64 0), 1, 8) := by kernel_rfl
/-- What a call gives that returns a list. -/
def ListOut (l : List Int) (w : World) (e : Ending) (w' : World) : Prop := ∃ v, e = .returned v ∧ Reads w'.heap.size w' v l ∧ Below w.heap.size w w'

/-- What holds at the head of the loop. -/
def LRel (k i : Int) (r : List Int) (w : World) (vout vj : Value) (wr : World) : Prop :=
  ∃ (j : Nat) (acc : List Int), j ≤ 10 ∧ vj = .int .i64 (j : Int) ∧ r = acc ++ legsR k i (rows.drop j) ∧ acc.length ≤ j ∧ (∀ x ∈ acc, (Lit.int .i64 x).wf = true) ∧ wr.ownsRow w.heap.size 3 1 vout acc.length (acc.map (Value.int .i64)) ∧ Below w.heap.size w wr

theorem row_wf {j : Nat} {a b c d : Int} {l : List (Int × Int × Int × Int)} (h : rows.drop j = (a, b, c, d) :: l) : (Lit.int .i64 c).wf = true := by
  have hm : (a, b, c, d) ∈ rows := List.mem_of_mem_drop (by rw [h]; exact List.mem_cons_self)
  have : ∀ x ∈ rows, (Lit.int .i64 x.2.2.1).wf = true := by decide
  exact this _ hm
theorem lskip {k i a b c d : Int} {r : List Int} {j : Nat} {w wr : World} {o : Obj} {vout : Value} {acc : List Int} (hl : j < 10) (hr : r = acc ++ legsR k i (rows.drop j)) (hd : rows.drop j = (a, b, c, d) :: rows.drop (j + 1)) (h : ¬ (k = a ∧ i = b))
    (ha : acc.length ≤ j) (hw : ∀ x ∈ acc, (Lit.int .i64 x).wf = true) (ho : wr.ownsRow w.heap.size 3 1 vout acc.length (acc.map (Value.int .i64))) (hb : Below w.heap.size w wr) :
    LRel k i r w vout (.int .i64 ((j : Int) + 1)) (wr.alloc o) :=
  ⟨j + 1, acc, hl, by simp, by rw [hr, hd, legsR_no h], by omega, hw, ho.alloc _, hb.alloc hb.size _⟩
theorem lmore {k i a b c d : Int} {r : List Int} {j : Nat} {w wr w1 : World} {o : Obj} {vout v1 : Value} {acc : List Int} (hl : j < 10) (hr : r = acc ++ legsR k i (rows.drop j)) (hd : rows.drop j = (a, b, c, d) :: rows.drop (j + 1)) (h : k = a ∧ i = b)
    (ha : acc.length ≤ j) (hw : ∀ x ∈ acc, (Lit.int .i64 x).wf = true) (ho : wr.ownsRow w.heap.size 3 1 vout acc.length (acc.map (Value.int .i64))) (hb : Below w.heap.size w wr)
    (h1 : w1.ownsRow w.heap.size 3 1 v1 (acc.length + 1) (acc.map (Value.int .i64) ++ [.int .i64 c]))
    (hg : ((wr.alloc o).alloc (.cells #[.int .i64 c] 3)).grownBy w1 vout.ownBlock) : LRel k i r w v1 (.int .i64 ((j : Int) + 1)) w1 := by
  refine ⟨j + 1, acc ++ [c], hl, by simp, by rw [hr, hd, legsR_yes h.1 h.2, List.append_assoc]; rfl, by simp; omega, ?_, by simpa using h1, ?_⟩
  · intro x hx
    rcases List.mem_append.1 hx with hx | hx
    · exact hw x hx
    · rw [List.mem_singleton.1 hx]; exact row_wf hd
  · have h2 := (hb.alloc hb.size o).alloc (by have := hb.size; simp; omega) (.cells #[.int .i64 c] 3)
    exact h2.grown hg (by have := hb.size; simp; omega) (fun g hg => (ho.lt g hg).1)

set_option maxRecDepth 100000 in
set_option maxHeartbeats 800000 in
theorem legs_any (k i : Int) (w : World) (h : RTab w) :
    Calls Tryd.prog 35 #[.int .i64 k, .int .i64 i] w (ListOut (legsF k i) w) := by
  obtain ⟨r, hr⟩ : ∃ r, legsF k i = r := ⟨_, rfl⟩
  rw [hr]
  have HR := Lib.hid hr
  have HL := Lib.hid (rtab_lt h)
  obtain ⟨T, fr, hg⟩ := h
  have hT := hg
  clear hr
  obtain ⟨i0, hi, hz0, hz1, hz2⟩ := info_parts infoI
  have HI0 := Lib.hid hi
  have HZ0 := Lib.hid hz0
  have HZ1 := Lib.hid hz1
  have HZ2 := Lib.hid hz2
  clear hi hz0 hz1 hz2
  go_enter Tryd.func35, Tryd.ntmps35
  go_wp2_with (refine wpList_load_row rfl 82 _ rfl 0 rfl T _ fr _ hT Tryd.underlying82 rfl (by kernel_rfl) ?_)
  go_loopw [5, 9] (fun vout vj wr => LRel k i r w vout vj wr) (fun _ vj _ => 10 - (Go.RowKit.intOf vj).toNat)
  case atStart => exact ⟨0, [], Nat.zero_le _, rfl, by rw [← HR.out]; rfl, Nat.le_refl _, by simp, World.ownsRow_nil _ _ _ _, Below.refl _ _⟩
  case round =>
    obtain ⟨j, acc, hj, rfl, hrj, ha, hw, ho, hb⟩ := hrel
    have HB := Lib.hid hb
    have HS := Lib.hid hb.size
    have HJ := Lib.hid hrj
    have HA := Lib.hid ha
    have HW := Lib.hid hw
    have HO := Lib.hid ho
    clear hb hrj ha hw ho
    by_cases hl : j < 10
    · have hix := fun w => idx_any hl w
      have HD := Lib.hid (drop_row hl)
      unfold rowV at hix
      obtain ⟨⟨a, b, c, d⟩, hrow⟩ : ∃ x, row j = x := ⟨_, rfl⟩
      rw [hrow] at hix HD
      simp only at hix
      clear hrow
      by_cases hit : k = a ∧ i = b
      · obtain ⟨rfl, rfl⟩ := hit
        go_wp2_with (at_builtin; refine wpList_append_own_at _ rfl (.tmp 22) (.tmp 25) 43 rfl w.heap.size 3 i0 (.int .i64 0) 1 8 Tryd.underlying43 HI0.out HZ0.out HZ1.out HZ2.out rfl (by decide) _ _ _ rfl ((HO.out.alloc _).alloc _) ⟨wr.heap.size + 1, 0, none⟩ 1 1 [.int .i64 c] rfl rfl (by simpa using cell_one_new (wr.alloc _) (.int .i64 c) 3) (by intro u hu; simp at hu; subst hu; rfl) (by have := HA.out; unfold maxLen; omega) (by have := HA.out; omega) (by have := HS.out; simp; omega) ?_; intro v1 w1 h1own hg1 _ _; have R1 := Lib.hid h1own; have R2 := Lib.hid hg1; clear h1own hg1)
        go_roundw
        case rel => exact lmore hl HJ.out HD.out ⟨rfl, rfl⟩ HA.out HW.out HO.out HB.out R1.out R2.out
        case measure => simp [Go.RowKit.intOf]; omega
      · have hq : (a == k) = false ∨ (b == i) = false := by
          simp only [beq_eq_false_iff_ne]
          omega
        rcases hq with hq | hq
        · go_wp2_with fail
          go_roundw
          case rel => exact lskip hl HJ.out HD.out hit HA.out HW.out HO.out HB.out
          case measure => simp [Go.RowKit.intOf]; omega
        · go_wp2_with fail
          all_goals
            go_roundw
            case rel => exact lskip hl HJ.out HD.out hit HA.out HW.out HO.out HB.out
            case measure => simp [Go.RowKit.intOf]; omega
    · have he : j = 10 := by omega
      subst he
      clear hl hj
      go_wp2_with fail
      go_ret
      have e : r = acc := by
        rw [HJ.out, show rows.drop 10 = [] from rfl]
        simp [legsR]
      subst e
      exact ⟨_, rfl, reads_own HO.out HW.out (Nat.le_refl _), HB.out⟩

end Go.Proofs.YtjhimekojiegjaaDoor.Rlegs

/- The calls of the reference's Need and Legs. -/
namespace Go.Proofs.YtjhimekojiegjaaDoor.Rref
open Go.RowKit Go.Lib Go.Proofs.YtjhimekojiegjaaDoor.Rail Go.Proofs.YtjhimekojiegjaaDoor.Rtab Go.Proofs.YtjhimekojiegjaaDoor.Reads Go.Proofs.YtjhimekojiegjaaDoor.Rlegs

theorem need1 (i o : Int) : needC 1 i o = (0, decide (min i o = 0 ∧ max i o = 1)) := by simp [needC]
theorem need2 (i o : Int) : needC 2 i o = if min i o = 0 ∧ max i o = 1 then (1, true) else if min i o = 0 ∧ max i o = 2 then (2, true) else (0, false) := by simp [needC]
theorem need3 (i o : Int) : needC 3 i o = (0, decide ((min i o = 0 ∧ max i o = 1) ∨ (min i o = 2 ∧ max i o = 3))) := by simp [needC]
theorem rleaf {k i o x : Int} {b : Bool} {r : Int × Bool} {w : World} (hr : needF k i o = r) (h : needC k i o = (x, b)) :
    Ending.returned (.tuple #[.int .i64 x, .bool b]) = Ending.returned (.tuple #[.int .i64 r.1, .bool r.2]) ∧ w = w := by
  rw [← hr, needF_eq, h]
  exact ⟨rfl, rfl⟩

set_option maxRecDepth 100000 in
set_option maxHeartbeats 1600000 in
theorem rneed_any (k i o : Int) (w : World) :
    Calls Tryd.prog 59 #[.int .i64 k, .int .i64 i, .int .i64 o] w fun e w' => e = .returned (.tuple #[.int .i64 (needF k i o).1, .bool (needF k i o).2]) ∧ w = w' := by
  obtain ⟨r, hr⟩ : ∃ r, needF k i o = r := ⟨_, rfl⟩
  rw [hr]
  have HR := Lib.hid hr
  clear hr
  rcases kinds k with rfl | rfl | rfl | ⟨h1, h2, h3⟩
  all_goals
    go_enter Tryd.func59, Tryd.ntmps59
    go_wp2_with fail
    all_goals
      go_ret2
      refine rleaf HR.out ?_
      first
        | rw [need1]
        | rw [need2]
        | rw [need3]
        | rw [needC_none ⟨h1, h2, h3⟩]
      repeat' split
      all_goals first
        | rfl
        | (exfalso; omega)
        | (exfalso; simp only [beq_iff_eq, beq_eq_false_iff_ne] at *; omega)
        | exact congrArg (Prod.mk 0) (decide_eq_true (by omega))
        | exact congrArg (Prod.mk 0) (decide_eq_false (by omega))
        | (refine Prod.ext rfl ?_
           show _ = _
           rw [Bool.eq_iff_iff]
           simp only [decide_eq_true_eq, beq_iff_eq]
           omega)

/-- What holds at the head of the loop of Legs. -/
def MRel (k i : Int) (r : List Int) (w : World) (vout vo : Value) (wr : World) : Prop :=
  ∃ (o n : Nat) (acc : List Int), o + n = 4 ∧ vo = .int .i64 (o : Int) ∧ r = acc ++ lR k i o n ∧ acc.length ≤ o ∧ (∀ x ∈ acc, (Lit.int .i64 x).wf = true) ∧ wr.ownsRow w.heap.size 3 1 vout acc.length (acc.map (Value.int .i64)) ∧ Below w.heap.size w wr
theorem mmore {k i x : Int} {r : List Int} {o n : Nat} {w wr w1 : World} {vout v1 : Value} {acc : List Int} (hn : o + (n + 1) = 4) (hr : r = acc ++ lR k i o (n + 1)) (h : needF k i (o : Int) = (x, true))
    (ha : acc.length ≤ o) (hw : ∀ x ∈ acc, (Lit.int .i64 x).wf = true) (ho : wr.ownsRow w.heap.size 3 1 vout acc.length (acc.map (Value.int .i64))) (hb : Below w.heap.size w wr)
    (h1 : w1.ownsRow w.heap.size 3 1 v1 (acc.length + 1) (acc.map (Value.int .i64) ++ [.int .i64 (o : Int)]))
    (hg : (wr.alloc (.cells #[.int .i64 (o : Int)] 3)).grownBy w1 vout.ownBlock) : MRel k i r w v1 (.int .i64 ((o : Int) + 1)) w1 := by
  refine ⟨o + 1, n, acc ++ [(o : Int)], by omega, by simp, by rw [hr, lR_yes h, List.append_assoc]; rfl, by simp; omega, ?_, by simpa using h1, ?_⟩
  · intro x hx
    rcases List.mem_append.1 hx with hx | hx
    · exact hw x hx
    · rw [List.mem_singleton.1 hx]; exact WalkArith.wf_i64 (by omega)
  · exact (hb.alloc hb.size _).grown hg (by have := hb.size; simp; omega) (fun g hg => (ho.lt g hg).1)

set_option maxRecDepth 100000 in
set_option maxHeartbeats 800000 in
theorem rlegs_any (k i : Int) (w : World) :
    Calls Tryd.prog 38 #[.int .i64 k, .int .i64 i] w (ListOut (legsF k i) w) := by
  rw [← lR_eq]
  obtain ⟨r, hr⟩ : ∃ r, lR k i 0 4 = r := ⟨_, rfl⟩
  rw [hr]
  have HR := Lib.hid hr.symm
  clear hr
  obtain ⟨i0, hi, hz0, hz1, hz2⟩ := info_parts infoI
  have HI0 := Lib.hid hi
  have HZ0 := Lib.hid hz0
  have HZ1 := Lib.hid hz1
  have HZ2 := Lib.hid hz2
  clear hi hz0 hz1 hz2
  go_enter Tryd.func38, Tryd.ntmps38
  go_wp2_with fail
  go_loopw [5, 6] (fun vout vo wr => MRel k i r w vout vo wr) (fun _ vo _ => 4 - (Go.RowKit.intOf vo).toNat)
  case atStart => exact ⟨0, 4, [], rfl, rfl, by rw [← HR.out]; rfl, Nat.le_refl _, by simp, World.ownsRow_nil _ _ _ _, Below.refl _ _⟩
  case round =>
    obtain ⟨o, n, acc, hn, rfl, hrj, ha, hw, ho, hb⟩ := hrel
    have HB := Lib.hid hb
    have HS := Lib.hid hb.size
    have HJ := Lib.hid hrj
    have HA := Lib.hid ha
    have HW := Lib.hid hw
    have HO := Lib.hid ho
    clear hb hrj ha hw ho
    rcases n with _ | n
    · have e : o = 4 := by omega
      subst e
      go_wp2_with fail
      go_ret
      have e : r = acc := by
        rw [HJ.out]
        simp [lR]
      subst e
      exact ⟨_, rfl, reads_own HO.out HW.out (Nat.le_refl _), HB.out⟩
    · have hl : o < 4 := by omega
      have HM := Lib.hid (rneed_any k i (o : Int) wr)
      obtain ⟨⟨x, b⟩, hx⟩ : ∃ x, needF k i (o : Int) = x := ⟨_, rfl⟩
      rw [hx] at HM
      have HX := Lib.hid hx
      have HN := Lib.hid hn
      clear hx
      cases b
      · go_wp2_with fail
        refine HM.out.mono ?_
        rintro e w' ⟨rfl, rfl⟩
        go_wp2_with fail
        go_roundw
        case rel => exact ⟨o + 1, n, acc, by have := HN.out; omega, by simp, by rw [HJ.out, lR_no HX.out], Nat.le_succ_of_le HA.out, HW.out, HO.out, HB.out⟩
        case measure => simp [Go.RowKit.intOf]; omega
      · go_wp2_with fail
        refine HM.out.mono ?_
        rintro e w' ⟨rfl, rfl⟩
        go_wp2_with (at_builtin; refine wpList_append_own_at _ rfl (.tmp 21) (.tmp 23) 43 rfl w.heap.size 3 i0 (.int .i64 0) 1 8 Tryd.underlying43 HI0.out HZ0.out HZ1.out HZ2.out rfl (by decide) _ _ _ rfl (HO.out.alloc _) ⟨wr.heap.size, 0, none⟩ 1 1 [.int .i64 (o : Int)] rfl rfl (cell_one_new _ _ _) (by intro u hu; simp at hu; subst hu; rfl) (by have := HA.out; unfold maxLen; omega) (by have := HA.out; omega) (by have := HS.out; simp; omega) ?_; intro v1 w1 h1own hg1 _ _; have R1 := Lib.hid h1own; have R2 := Lib.hid hg1; clear h1own hg1)
        go_roundw
        case rel => exact mmore HN.out HJ.out HX.out HA.out HW.out HO.out HB.out R1.out R2.out
        case measure => simp [Go.RowKit.intOf]; omega

end Go.Proofs.YtjhimekojiegjaaDoor.Rref

/- The calls of the reference's exists, need, Next, Length, has (walk). -/
namespace Go.Proofs.YtjhimekojiegjaaDoor.Wrf
open Go.RowKit Go.Lib Go.Proofs.YtjhimekojiegjaaDoor.Reads Go.Proofs.YtjhimekojiegjaaDoor.Rows2 Go.Proofs.YtjhimekojiegjaaDoor.Lay Go.Proofs.YtjhimekojiegjaaDoor.Layf Go.Proofs.YtjhimekojiegjaaDoor.Ldup Go.Proofs.YtjhimekojiegjaaDoor.Lext Go.Proofs.YtjhimekojiegjaaDoor.Ljoi Go.Proofs.YtjhimekojiegjaaDoor.Way
open Go.Proofs.YtjhimekojiegjaaDoor.Text hiding lineL joinR
open Go.Proofs.YtjhimekojiegjaaDoor.Rail (needF legsF)
open Go.Proofs.YtjhimekojiegjaaDoor.Rref (rneed_any rlegs_any)

set_option maxRecDepth 100000 in
set_option maxHeartbeats 800000 in
theorem wexists_any (L : Lay) (e : Int) {vs ve vj vg vb : Value} (w : World) (h : LayAt (In w) w L vs ve vj vg vb) :
    Calls Tryd.prog 37 #[layV L vs ve vj vg vb, .int .i64 e] w (BoolOut (inB L.els e) w) := by
  obtain ⟨a, cap, rfl, hm, _⟩ := h.el
  have HB := Lib.hid ((Below.refl w.heap.size w).alloc (Nat.le_refl _) (.cells #[.string (bs L.name), vs, .slice a L.els.length cap, vj, vg, vb] 28))
  clear h
  unfold layV
  by_cases h0 : 0 ≤ e
  · go_enter Tryd.func37, Tryd.ntmps37
    go_wp2_with fail
    go_ret
    exact ⟨by simp [inB, h0], HB.out⟩
  · have hd : decide (0 ≤ e) = false := by simpa using h0
    go_enter Tryd.func37, Tryd.ntmps37
    go_wp2_with fail
    go_ret
    exact ⟨by simp [inB]; omega, HB.out⟩

/-- What a call gives that returns a number and whether there is one. -/
def NumB (r : Int × Bool) (w : World) (e : Ending) (w' : World) : Prop := e = .returned (.tuple #[.int .i64 r.1, .bool r.2]) ∧ Below w.heap.size w w'

theorem two_boxes (w : World) (A B : Array Value) (TA TB : TypeId) :
    (∀ j, ((w.alloc (.cells A TA)).alloc (.cells B TB)).cell? ⟨w.heap.size, j, none⟩ = A[j]?) ∧
    (∀ j, ((w.alloc (.cells A TA)).alloc (.cells B TB)).cell? ⟨w.heap.size + 1, j, none⟩ = B[j]?) ∧
    ((w.alloc (.cells A TA)).alloc (.cells B TB)).heap.size = w.heap.size + 1 + 1 ∧
    Below w.heap.size w ((w.alloc (.cells A TA)).alloc (.cells B TB)) := by
  refine ⟨fun j => ?_, fun j => ?_, by simp, ((Below.refl w.heap.size w).alloc (Nat.le_refl _) _).alloc (by simp) _⟩
  · rw [World.cell?_alloc_past _ _ _ (by simp), World.cell?_alloc_at _ _ _ _ rfl]
  · rw [World.cell?_alloc_at _ _ _ _ (by simp)]

set_option maxRecDepth 100000 in
set_option maxHeartbeats 1600000 in
theorem wneed_any (L : Lay) (s : Stp) {vs ve vj vg vb : Value} (w : World) (h : LayAt (In w) w L vs ve vj vg vb) :
    Calls Tryd.prog 42 #[layV L vs ve vj vg vb, stV s] w (NumB (needS L.els s) w) := by
  obtain ⟨a, cap, rfl, hm, _⟩ := h.el
  obtain ⟨s1, s2, s3⟩ := s
  have X := two_boxes w #[.string (bs L.name), vs, .slice a L.els.length cap, vj, vg, vb] #[.int .i64 s1, .int .i64 s2, .int .i64 s3] 28 30
  have H0 := h.next X.2.2.2
  unfold layV stV
  go_enter Tryd.func42, Tryd.ntmps42
  go_wp2_with fail
  obtain ⟨W, hW⟩ : ∃ W, (w.alloc (.cells #[.string (bs L.name), vs, .slice a L.els.length cap, vj, vg, vb] 28)).alloc (.cells #[.int .i64 s1, .int .i64 s2, .int .i64 s3] 30) = W := ⟨_, rfl⟩
  rw [hW] at X H0 ⊢
  clear hW h
  obtain ⟨x1, x2, xs, xb⟩ := X
  have B0 := Lib.hid xb
  have HX := Lib.hid (wexists_any L s1 W H0)
  obtain ⟨a', cap', he, _, hel⟩ := H0.el
  cases he
  have HE := Lib.hid hel
  have C1 := Lib.hid x1
  have C2 := Lib.hid x2
  have WS := Lib.hid xs
  clear H0 hel x1 x2 xs xb
  refine HX.out.mono ?_
  rintro e w1 ⟨rfl, b1⟩
  have B1 := Lib.hid b1
  cases hq : inB L.els s1 with
  | false =>
    have HN := Lib.hid (need_none (s := (s1, s2, s3)) hq)
    clear hq b1
    go_wp2_with fail
    go_ret2
    exact ⟨by rw [HN.out]; rfl, bel_next B0.out B1.out⟩
  | true =>
    obtain ⟨i, x, rfl, hi, hx, ho⟩ := el_some hq
    have HN := Lib.hid (need_some (s := ((i : Int), s2, s3)) ho)
    obtain ⟨b, off, rfl, c0, c1, c2, c3, c4, c5, c6⟩ := HE.out w1 b1 i x hx
    have g2 := (b1.cell (p := ⟨w.heap.size, 2, none⟩) (by rw [WS.out]; simp only; omega)).trans (C1.out 2)
    have y0 := (b1.cell (p := ⟨w.heap.size + 1, 0, none⟩) (by rw [WS.out]; simp)).trans (C2.out 0)
    have y1 := (b1.cell (p := ⟨w.heap.size + 1, 1, none⟩) (by rw [WS.out]; simp)).trans (C2.out 1)
    have y2 := (b1.cell (p := ⟨w.heap.size + 1, 2, none⟩) (by rw [WS.out]; simp)).trans (C2.out 2)
    obtain ⟨nm, kd, ln, gr, sp, sl, sc⟩ := x
    simp only at c1 HN
    have HS := Lib.hid (fun w => (rneed_any kd s2 s3 w).mono (fun _ _ ⟨he, hw⟩ => (⟨he, hw.symm⟩ : _ ∧ _ = w)))
    obtain ⟨⟨r1, r2⟩, hr⟩ : ∃ r, needF kd s2 s3 = r := ⟨_, rfl⟩
    rw [hr] at HS HN
    simp only at HS
    clear hq b1 hx ho hr c0 c2 c3 c4 c5 c6
    go_wp2_with fail
    go_quiet ((go_at_call 59; exact Calls.quiet_of_same (HS.out _)))
    go_wp2_with fail
    go_ret2
    exact ⟨by rw [HN.out]; rfl, below_drewN (bel_next B0.out B1.out) _⟩

set_option maxRecDepth 100000 in
set_option maxHeartbeats 1600000 in
theorem wnext_any (L : Lay) (s : Stp) {vs ve vj vg vb : Value} (w : World) (h : LayAt (In w) w L vs ve vj vg vb) :
    Calls Tryd.prog 12 #[layV L vs ve vj vg vb, stV s] w (EndOut (nextS L s) w) := by
  obtain ⟨s1, s2, s3⟩ := s
  have b1 := (Below.refl w.heap.size w).alloc (Nat.le_refl _) (.cells #[.string (bs L.name), vs, ve, vj, vg, vb] 28)
  have b2 := b1.alloc b1.size (.cells #[.int .i64 s1, .int .i64 s2, .int .i64 s3] 30)
  have b3 := b2.alloc b2.size (.cells #[.int .i64 0, .int .i64 0] 32)
  have H0 := h.next b3
  have X0 := box3 w #[.string (bs L.name), vs, ve, vj, vg, vb] #[.int .i64 s1, .int .i64 s2, .int .i64 s3] #[.int .i64 0, .int .i64 0] 28 30 32
  clear b1 b2
  unfold layV stV
  go_enter Tryd.func12, Tryd.ntmps12
  go_wp2_with fail
  obtain ⟨W, hW⟩ : ∃ W, ((w.alloc (.cells #[.string (bs L.name), vs, ve, vj, vg, vb] 28)).alloc (.cells #[.int .i64 s1, .int .i64 s2, .int .i64 s3] 30)).alloc (.cells #[.int .i64 0, .int .i64 0] 32) = W := ⟨_, rfl⟩
  rw [hW] at H0 X0 b3 ⊢
  clear hW h
  obtain ⟨x0, x1, x2, x3⟩ := X0
  have CR := Lib.hid x2
  have WS := Lib.hid x3
  have B0 := Lib.hid b3
  have HJ := Lib.hid (rjoined_any L (s1, s3) W H0)
  obtain ⟨⟨⟨r1, r2⟩, r3⟩, hr⟩ : ∃ r, nextS L (s1, s2, s3) = r := ⟨_, rfl⟩
  have hr2 : joinedF L (s1, s3) = ((r1, r2), r3) := hr
  rw [hr2] at HJ
  have HR := Lib.hid hr
  clear hr hr2 H0 x0 x1 x2 x3 b3
  refine HJ.out.mono ?_
  rintro e w1 ⟨rfl, hb⟩
  have HB := Lib.hid hb
  have g3 := (hb.block (w.heap.size + 1 + 1) (by rw [WS.out]; omega)).trans CR.out
  have g4 := cell_of_row w1 _ 0 _ _ _ g3
  have g5 := cell_of_row w1 _ 1 _ _ _ g3
  have g6 := frozen_of_row w1 _ 0 _ _ g3
  have g7 := frozen_of_row w1 _ 1 _ _ g3
  clear hb g3
  simp only [pV]
  go_wp2_with fail
  refine bodyPost_ret (v := .tuple #[.agg #[.int .i64 r1, .int .i64 r2], .bool r3]) ?_ ?_ ?_
  · rw [results_cell_tmp rfl]
    go_simp
  · rfl
  · refine ⟨?_, ?_⟩
    · rw [HR.out]
      rfl
    · exact ((bel_next B0.out HB.out).setCell (by simp; omega) _).setCell (by simp; omega) _

end Go.Proofs.YtjhimekojiegjaaDoor.Wrf

/- The calls of the reference's SameSteps and SameSettings (walk). -/
namespace Go.Proofs.YtjhimekojiegjaaDoor.Wsam
open Go.RowKit Go.Lib Go.Proofs.YtjhimekojiegjaaDoor.Reads Go.Proofs.YtjhimekojiegjaaDoor.Rows2 Go.Proofs.YtjhimekojiegjaaDoor.Lay Go.Proofs.YtjhimekojiegjaaDoor.Ldup Go.Proofs.YtjhimekojiegjaaDoor.Way

theorem trips_shape {w : World} {v : Value} {xs : List Stp} (h : Grid (In w) w v 3 (xs.map stCells)) :
    ∃ a cap, v = .slice a xs.length cap ∧ (xs.length : Int) ≤ 9223372036854775807 ∧ ∀ (k : Nat) (x : Stp), xs[k]? = some x → ∃ b off, a = some ⟨b, off, none⟩ ∧ b < w.heap.size ∧ w.cell? ⟨b, off + k * 3, none⟩ = some (.int .i64 x.1) ∧ w.cell? ⟨b, off + k * 3 + 1, none⟩ = some (.int .i64 x.2.1) ∧ w.cell? ⟨b, off + k * 3 + 2, none⟩ = some (.int .i64 x.2.2) := by
  obtain ⟨a, cap, h1, h2, _, _, h5⟩ := h.shape
  rw [List.length_map] at h1 h2
  refine ⟨a, cap, h1, h2, fun i x hx => ?_⟩
  obtain ⟨b, off, e, hbl, hc⟩ := h5 i _ (by rw [List.getElem?_map, hx]; rfl)
  exact ⟨b, off, e, hbl, hc 0 _ rfl, hc 1 _ rfl, hc 2 _ rfl⟩

theorem same_next {α : Type} {xs ys : List α} {k : Nat} {x : α} (h : xs.take k = ys.take k) (hx : xs[k]? = some x) (hy : ys[k]? = some x) : xs.take (k + 1) = ys.take (k + 1) := by
  rw [List.take_add_one, List.take_add_one, h, hx, hy]
theorem same_not {α : Type} {xs ys : List α} {k : Nat} {x y : α} (hx : xs[k]? = some x) (hy : ys[k]? = some y) (h : x ≠ y) : xs ≠ ys := by
  rintro rfl
  rw [hx] at hy
  exact h (Option.some.inj hy)
theorem same_all {α : Type} {xs ys : List α} {n : Nat} (h : xs.take n = ys.take n) (hx : xs.length = n) (hy : ys.length = n) : xs = ys := by
  rwa [List.take_of_length_le (Nat.le_of_eq hx), List.take_of_length_le (Nat.le_of_eq hy)] at h

theorem ne2 {x1 x2 y1 y2 : Int} (h : ¬ (x1, x2) = (y1, y2)) : (x1 == y1) = false ∨ ((x1 == y1) = true ∧ (x2 == y2) = false) := by
  simp only [beq_eq_false_iff_ne, beq_iff_eq]
  simp only [Prod.mk.injEq] at h
  omega
theorem ne3 {x1 x2 x3 y1 y2 y3 : Int} (h : ¬ (x1, x2, x3) = (y1, y2, y3)) : (x1 == y1) = false ∨ ((x1 == y1) = true ∧ (x2 == y2) = false) ∨ ((x1 == y1) = true ∧ (x2 == y2) = true ∧ (x3 == y3) = false) := by
  simp only [beq_eq_false_iff_ne, beq_iff_eq]
  simp only [Prod.mk.injEq] at h
  omega

set_option maxRecDepth 100000 in
set_option maxHeartbeats 800000 in
theorem steps_any {va vb : Value} {xs ys : List (Stp)} {w : World} (h : Grid (In w) w va 3 (xs.map stCells)) (hy : Grid (In w) w vb 3 (ys.map stCells)) :
    Calls Tryd.prog 13 #[va, vb] w (BoolOut (decide (xs = ys)) w) := by
  obtain ⟨a, cap, rfl, hm, hc⟩ := trips_shape h
  obtain ⟨a2, cap2, rfl, hm2, hc2⟩ := trips_shape hy
  have HC := Lib.hid hc
  have HC2 := Lib.hid hc2
  clear h hy hc hc2
  by_cases hlen : xs.length = ys.length
  · have HLEN := Lib.hid hlen
    rw [hlen] at hm ⊢
    clear hlen
    have hq : ((ys.length : Int) != (ys.length : Int)) = false := by simp
    go_enter Tryd.func13, Tryd.ntmps13
    go_wp2_with fail
    go_loopw [5] (fun vi wr => ∃ k : Nat, k ≤ ys.length ∧ vi = .int .i64 (k : Int) ∧ xs.take k = ys.take k ∧ Below w.heap.size w wr) (fun vi _ => ys.length - (Go.RowKit.intOf vi).toNat)
    case atStart => exact ⟨0, Nat.zero_le _, rfl, rfl, Below.refl _ _⟩
    case round =>
      obtain ⟨k, hk, rfl, ht, hbel⟩ := hrel
      have HT := Lib.hid ht
      have HB := Lib.hid hbel
      clear ht hbel
      by_cases hlt : k < ys.length
      · obtain ⟨x, hx⟩ := at_lt (l := xs) (k := k) (by rw [HLEN.out]; exact hlt)
        obtain ⟨y, hy⟩ := at_lt hlt
        obtain ⟨b, off, rfl, hb, c0, c1, c2⟩ := HC.out k x hx
        obtain ⟨b2, off2, rfl, hb2, d0, d1, d2⟩ := HC2.out k y hy
        have g0 := (HB.out.cell (p := ⟨b, off + k * 3, none⟩) hb).trans c0
        have f0 := (HB.out.cell (p := ⟨b2, off2 + k * 3, none⟩) hb2).trans d0
        have g1 := (HB.out.cell (p := ⟨b, off + k * 3 + 1, none⟩) hb).trans c1
        have f1 := (HB.out.cell (p := ⟨b2, off2 + k * 3 + 1, none⟩) hb2).trans d1
        have g2 := (HB.out.cell (p := ⟨b, off + k * 3 + 2, none⟩) hb).trans c2
        have f2 := (HB.out.cell (p := ⟨b2, off2 + k * 3 + 2, none⟩) hb2).trans d2
        have HX := Lib.hid hx
        have HY := Lib.hid hy
        obtain ⟨x1, x2, x3⟩ := x
        obtain ⟨y1, y2, y3⟩ := y
        simp only at g0 f0 g1 f1 g2 f2
        clear hx hy c0 c1 c2 d0 d1 d2 hb hb2
        by_cases hxy : (x1, x2, x3) = (y1, y2, y3)
        · cases hxy
          have HS := Lib.hid (same_next HT.out HX.out HY.out)
          go_wp2_with fail
          go_quiet (fail)
          go_wp2_with fail
          go_roundw
          case rel => exact ⟨k + 1, by omega, by simp, HS.out, below_drewN HB.out _⟩
          case measure => simp [Go.RowKit.intOf]; omega
        · have HS := Lib.hid (same_not HX.out HY.out hxy)
          have hc := ne3 hxy
          clear hxy
          rcases hc with hc | ⟨hc, hc2⟩ | ⟨hc, hc2, hc3⟩
          all_goals
            go_wp2_with fail
            go_quiet (fail)
            go_wp2_with fail
            go_ret
            exact ⟨by rw [decide_eq_false HS.out]; rfl, below_drewN HB.out _⟩
      · obtain rfl : k = ys.length := by omega
        have HS := Lib.hid (show xs = ys from same_all HT.out HLEN.out rfl)
        go_wp2_with fail
        go_ret
        exact ⟨by rw [decide_eq_true HS.out]; rfl, HB.out⟩
  · have HS := Lib.hid (show xs ≠ ys from fun e => hlen (by rw [e]))
    have hq : ((xs.length : Int) != (ys.length : Int)) = true := by simp; omega
    clear hlen
    go_enter Tryd.func13, Tryd.ntmps13
    go_wp2_with fail
    go_ret
    exact ⟨by rw [decide_eq_false HS.out]; rfl, Below.refl _ _⟩

set_option maxRecDepth 100000 in
set_option maxHeartbeats 800000 in
theorem settings_any {va vb : Value} {xs ys : List (Int × Int)} {w : World} (h : Grid (In w) w va 2 (xs.map pCells)) (hy : Grid (In w) w vb 2 (ys.map pCells)) :
    Calls Tryd.prog 23 #[va, vb] w (BoolOut (decide (xs = ys)) w) := by
  obtain ⟨a, cap, rfl, hm, hc⟩ := pairs_shape h
  obtain ⟨a2, cap2, rfl, hm2, hc2⟩ := pairs_shape hy
  have HC := Lib.hid hc
  have HC2 := Lib.hid hc2
  clear h hy hc hc2
  by_cases hlen : xs.length = ys.length
  · have HLEN := Lib.hid hlen
    rw [hlen] at hm ⊢
    clear hlen
    have hq : ((ys.length : Int) != (ys.length : Int)) = false := by simp
    go_enter Tryd.func23, Tryd.ntmps23
    go_wp2_with fail
    go_loopw [5] (fun vi wr => ∃ k : Nat, k ≤ ys.length ∧ vi = .int .i64 (k : Int) ∧ xs.take k = ys.take k ∧ Below w.heap.size w wr) (fun vi _ => ys.length - (Go.RowKit.intOf vi).toNat)
    case atStart => exact ⟨0, Nat.zero_le _, rfl, rfl, Below.refl _ _⟩
    case round =>
      obtain ⟨k, hk, rfl, ht, hbel⟩ := hrel
      have HT := Lib.hid ht
      have HB := Lib.hid hbel
      clear ht hbel
      by_cases hlt : k < ys.length
      · obtain ⟨x, hx⟩ := at_lt (l := xs) (k := k) (by rw [HLEN.out]; exact hlt)
        obtain ⟨y, hy⟩ := at_lt hlt
        obtain ⟨b, off, rfl, hb, c0, c1⟩ := HC.out k x hx
        obtain ⟨b2, off2, rfl, hb2, d0, d1⟩ := HC2.out k y hy
        have g0 := (HB.out.cell (p := ⟨b, off + k * 2, none⟩) hb).trans c0
        have f0 := (HB.out.cell (p := ⟨b2, off2 + k * 2, none⟩) hb2).trans d0
        have g1 := (HB.out.cell (p := ⟨b, off + k * 2 + 1, none⟩) hb).trans c1
        have f1 := (HB.out.cell (p := ⟨b2, off2 + k * 2 + 1, none⟩) hb2).trans d1
        have HX := Lib.hid hx
        have HY := Lib.hid hy
        obtain ⟨x1, x2⟩ := x
        obtain ⟨y1, y2⟩ := y
        simp only at g0 f0 g1 f1
        clear hx hy c0 c1 d0 d1 hb hb2
        by_cases hxy : (x1, x2) = (y1, y2)
        · cases hxy
          have HS := Lib.hid (same_next HT.out HX.out HY.out)
          go_wp2_with fail
          go_quiet (fail)
          go_wp2_with fail
          go_roundw
          case rel => exact ⟨k + 1, by omega, by simp, HS.out, below_drewN HB.out _⟩
          case measure => simp [Go.RowKit.intOf]; omega
        · have HS := Lib.hid (same_not HX.out HY.out hxy)
          have hc := ne2 hxy
          clear hxy
          rcases hc with hc | ⟨hc, hc2⟩
          all_goals
            go_wp2_with fail
            go_quiet (fail)
            go_wp2_with fail
            go_ret
            exact ⟨by rw [decide_eq_false HS.out]; rfl, below_drewN HB.out _⟩
      · obtain rfl : k = ys.length := by omega
        have HS := Lib.hid (show xs = ys from same_all HT.out HLEN.out rfl)
        go_wp2_with fail
        go_ret
        exact ⟨by rw [decide_eq_true HS.out]; rfl, HB.out⟩
  · have HS := Lib.hid (show xs ≠ ys from fun e => hlen (by rw [e]))
    have hq : ((xs.length : Int) != (ys.length : Int)) = true := by simp; omega
    clear hlen
    go_enter Tryd.func23, Tryd.ntmps23
    go_wp2_with fail
    go_ret
    exact ⟨by rw [decide_eq_false HS.out]; rfl, Below.refl _ _⟩

end Go.Proofs.YtjhimekojiegjaaDoor.Wsam

/- Lists that a call builds by appending one element at a time, in drawn regions too. -/
namespace Go.Proofs.YtjhimekojiegjaaDoor.Wlst
open Go.RowKit Go.Lib Go.Proofs.YtjhimekojiegjaaDoor.Reads Go.Proofs.YtjhimekojiegjaaDoor.Rows2 Go.Proofs.YtjhimekojiegjaaDoor.Lay Go.Proofs.YtjhimekojiegjaaDoor.Ldup Go.Proofs.YtjhimekojiegjaaDoor.Way
open Go.Proofs.YtjhimekojiegjaaDoor.Lele (cells_new)
open Go.Proofs.YtjhimekojiegjaaDoor.Lown (grid_of_own)

theorem infoT : (Tryd.prog.info? 30).map (fun i => (i.zero, i.size, i.bytes)) = some (some (.agg #[.int .i64 0, .int .i64 0, .int .i64 0]), 3, 24) := by kernel_rfl
theorem infoG : (Tryd.prog.info? 52).map (fun i => (i.zero, i.size, i.bytes)) = some (some (.agg #[.int .i64 0, .int .i64 0]), 2, 16) := by kernel_rfl
theorem infoI : (Tryd.prog.info? 3).map (fun i => (i.zero, i.size, i.bytes)) = some (some (.int .i64 0), 1, 8) := by kernel_rfl

theorem st_len (s : Stp) : (stCells s).length = 3 := rfl
theorem st_one (s : Stp) : ∀ u ∈ stCells s, u.oneCell' = true := by
  intro u hu
  simp only [stCells, List.mem_cons, List.not_mem_nil, or_false] at hu
  rcases hu with rfl | rfl | rfl <;> rfl
theorem p_len (s : Int × Int) : (pCells s).length = 2 := rfl
theorem p_one (s : Int × Int) : ∀ u ∈ pCells s, u.oneCell' = true := by
  intro u hu
  simp only [pCells, List.mem_cons, List.not_mem_nil, or_false] at hu
  rcases hu with rfl | rfl <;> rfl
def iCells (x : Int) : List Value := [.int .i64 x]
theorem i_len (x : Int) : (iCells x).length = 1 := rfl
theorem i_one (x : Int) : ∀ u ∈ iCells x, u.oneCell' = true := by
  intro u hu
  simp only [iCells, List.mem_cons, List.not_mem_nil, or_false] at hu
  rw [hu]; rfl

/-- What a call gives that returns a list of its own. -/
def MadeOut {α : Type} (f : α → List Value) (sz : Nat) (l : List α) (w : World) (e : Ending) (w' : World) : Prop :=
  ∃ v, e = .returned v ∧ Grid (fun b => w.heap.size ≤ b ∧ b < w'.heap.size) w' v sz (l.map f) ∧ Below w.heap.size w w'
theorem made_nil {α : Type} (f : α → List Value) (sz : Nat) {w w' : World} (hb : Below w.heap.size w w') : MadeOut f sz [] w (.returned (.slice none 0 0)) w' := ⟨_, rfl, grid_nil _ _ _, hb⟩
theorem made_own {α : Type} (f : α → List Value) {sz : Nat} (hlen : ∀ a, (f a).length = sz) {l : List α} {w W w' : World} {e : TypeId} {v : Value} (hw : Below w.heap.size w W) (ho : w'.ownsRow W.heap.size e sz v l.length (l.flatMap f)) (hb : Below W.heap.size W w') : MadeOut f sz l w (.returned v) w' :=
  ⟨v, rfl, (grid_of_own f hlen ho).keep fun _ hb' => ⟨⟨Nat.le_trans hw.size hb'.1, hb'.2⟩, rfl⟩, bel_next hw hb⟩

theorem bel_drew {W W' : World} (h : Below W.drew.heap.size W.drew W') : Below W.heap.size W W' := ⟨h.os, h.tape, h.output, h.size, h.block⟩

/-- One element is appended. -/
theorem step_append_row {P : Program} {ops : Array Oper} {o : Oper} {a : Act} {wr : World} {K : Act → World → Prop} {Q : Exit → Act → World → Prop} {E : Prop}
    (hg : o.guard = none) (s x : Operand) (t : TypeId) (hop : o.op = Op.call { callee := Callee.builtin Builtin.append, args := #[s, x], argTypes := #[t, t] })
    (W : World) (e : TypeId) (i : TypeInfo) (z : Value) (sz bytes : Nat) (ht : P.underlying t = some (.slice e)) (hi : P.info? e = some i) (hz : i.zero = some z)
    (hsize : i.size = sz) (hby : i.bytes = bytes) (hzs : z.cells.size = sz) (hpos : 0 < sz)
    {α : Type} (f : α → List Value) (hlen : ∀ a, (f a).length = sz) (hone : ∀ a, ∀ u ∈ f a, u.oneCell' = true)
    {v : Value} {l : List α} (r : α) {cs : Array Value} {T : TypeId} {g : Nat} (hs : a.eval s = v) (hx : a.eval x = .slice (some ⟨g, 0, none⟩) 1 1) (hgs : g = wr.heap.size) (hcs : cs.toList = f r)
    (ho : wr.ownsRow W.heap.size e sz v l.length (l.flatMap f)) (hb : Below W.heap.size W wr) (hn : (l.length + 1) * bytes ≤ 140737488355328) (hn2 : l.length + 1 ≤ maxLen)
    (h : ∀ v' w', w'.ownsRow W.heap.size e sz v' (l ++ [r]).length ((l ++ [r]).flatMap f) → Below W.heap.size W w' → K (a.put o.dst v') w') :
    if Region.wanted o (yielded ops a.tmps) = true then Oper.wp P o a (wr.alloc (.cells cs T)) K Q else E := by
  subst hgs
  have hw : Region.wanted o (yielded ops a.tmps) = true := by simp [Region.wanted, hg]
  rw [if_pos hw]
  have hc := cells_new wr cs T
  rw [hcs] at hc
  obtain ⟨v', w', hr, q2, q3, _, _⟩ := run_append_own_at (P := P) (wr.alloc (.cells cs T)) W.heap.size t o.type e i z sz bytes ht hi hz hsize hby hzs hpos v l.length (l.flatMap f) (ho.alloc _) ⟨wr.heap.size, 0, none⟩ 1 1 (f r) (by rw [hlen, Nat.one_mul]) hc (hone r) hn2 hn (by have := hb.size; simp; omega)
  have hbe : Below W.heap.size W w' := (hb.alloc hb.size _).grown q3 (by have := hb.size; simp; omega) (fun g hg => (ho.lt g hg).1)
  unfold Oper.wp execOp
  simp only [hop, resolve, invoke, builtin, Sem.run_bind, Sem.run_pure, Result.andThen_ok, List.map_toArray, List.map_cons, List.map_nil, hs, hx, hr]
  exact h v' w' (by simpa [List.flatMap_append] using q2) hbe

/-- Rows of another slice are appended. -/
theorem wp_append_rows {P : Program} {ops : Array Oper} {rest : List Oper} {o : Oper} {a : Act} {w : World} {Q : Exit → Act → World → Prop}
    (hg : o.guard = none) (s x : Operand) (t : TypeId) (hop : o.op = Op.call { callee := Callee.builtin Builtin.append, args := #[s, x], argTypes := #[t, t] })
    (W : World) (e : TypeId) (i : TypeInfo) (z : Value) (sz bytes : Nat) (ht : P.underlying t = some (.slice e)) (hi : P.info? e = some i) (hz : i.zero = some z)
    (hsize : i.size = sz) (hby : i.bytes = bytes) (hzs : z.cells.size = sz) (hpos : 0 < sz)
    {α : Type} (f : α → List Value) (hlen : ∀ a, (f a).length = sz) (hone : ∀ a, ∀ u ∈ f a, u.oneCell' = true)
    {v : Value} {l : List α} (news : List α) {xa : Addr} {m c : Nat} (hs : a.eval s = v) (hx : a.eval x = .slice (some xa) m c) (hm : m = news.length)
    (hnews : ∀ j u, (news.flatMap f)[j]? = some u → w.cell? (xa.add j) = some u)
    (ho : w.ownsRow W.heap.size e sz v l.length (l.flatMap f)) (hb : Below W.heap.size W w) (hn : (l.length + news.length) * bytes ≤ 140737488355328) (hn2 : l.length + news.length ≤ maxLen)
    (h : ∀ v' w', w'.ownsRow W.heap.size e sz v' (l ++ news).length ((l ++ news).flatMap f) → Below W.heap.size W w' → wpList P ops Q rest (a.put o.dst v') w') :
    wpList P ops Q (o :: rest) a w := by
  subst hm
  have hfl : (news.flatMap f).length = news.length * sz := by
    clear hnews hn hn2 h hx
    induction news with
    | nil => simp
    | cons y r ih => rw [List.flatMap_cons, List.length_append, hlen, ih, List.length_cons, Nat.succ_mul, Nat.add_comm]
  refine wpList_append_own_at _ hg s x t hop W.heap.size e i z sz bytes ht hi hz hsize hby hzs hpos v l.length (l.flatMap f) hs ho xa news.length c (news.flatMap f) hx hfl hnews (fun u hu => ?_) hn2 hn hb.size ?_
  · obtain ⟨y, _, hy⟩ := List.mem_flatMap.1 hu
    exact hone y u hy
  · intro v' w' q2 q3 _ _
    refine h v' w' (by simpa [List.flatMap_append] using q2) (hb.grown q3 hb.size (fun g hg => (ho.lt g hg).1))
/-- One element is appended, in a region that draws nothing. -/
theorem wp_append_row {P : Program} {ops : Array Oper} {rest : List Oper} {o : Oper} {a : Act} {wr : World} {Q : Exit → Act → World → Prop}
    (hg : o.guard = none) (s x : Operand) (t : TypeId) (hop : o.op = Op.call { callee := Callee.builtin Builtin.append, args := #[s, x], argTypes := #[t, t] })
    (W : World) (e : TypeId) (i : TypeInfo) (z : Value) (sz bytes : Nat) (ht : P.underlying t = some (.slice e)) (hi : P.info? e = some i) (hz : i.zero = some z)
    (hsize : i.size = sz) (hby : i.bytes = bytes) (hzs : z.cells.size = sz) (hpos : 0 < sz)
    {α : Type} (f : α → List Value) (hlen : ∀ a, (f a).length = sz) (hone : ∀ a, ∀ u ∈ f a, u.oneCell' = true)
    {v : Value} {l : List α} (r : α) {cs : Array Value} {T : TypeId} {g : Nat} (hs : a.eval s = v) (hx : a.eval x = .slice (some ⟨g, 0, none⟩) 1 1) (hgs : g = wr.heap.size) (hcs : cs.toList = f r)
    (ho : wr.ownsRow W.heap.size e sz v l.length (l.flatMap f)) (hb : Below W.heap.size W wr) (hn : (l.length + 1) * bytes ≤ 140737488355328) (hn2 : l.length + 1 ≤ maxLen)
    (h : ∀ v' w', w'.ownsRow W.heap.size e sz v' (l ++ [r]).length ((l ++ [r]).flatMap f) → Below W.heap.size W w' → wpList P ops Q rest (a.put o.dst v') w') :
    wpList P ops Q (o :: rest) a (wr.alloc (.cells cs T)) := by
  subst hgs
  have hc := cells_new wr cs T
  rw [hcs] at hc
  refine wp_append_rows hg s x t hop W e i z sz bytes ht hi hz hsize hby hzs hpos f hlen hone [r] hs hx rfl (by simpa using hc) (ho.alloc _) (hb.alloc hb.size _) hn hn2 h
/-- The nil slice is appended: nothing turns. -/
theorem wp_append_nil {P : Program} {ops : Array Oper} {rest : List Oper} {o : Oper} {a : Act} {w : World} {Q : Exit → Act → World → Prop}
    (hg : o.guard = none) (s x : Operand) (t : TypeId) (hop : o.op = Op.call { callee := Callee.builtin Builtin.append, args := #[s, x], argTypes := #[t, t] })
    (base : Nat) (e : TypeId) (i : TypeInfo) (sz : Nat) (ht : P.underlying t = some (.slice e)) (hi : P.info? e = some i)
    {v : Value} {n : Nat} {xs : List Value} (hs : a.eval s = v) (hx : a.eval x = .slice none 0 0) (ho : w.ownsRow base e sz v n xs) (h : wpList P ops Q rest (a.put o.dst v) w) :
    wpList P ops Q (o :: rest) a w := by
  refine wpList_plain hg fun K hK => ?_
  have hr := run_append_owned_none (P := P) (w := w) base t o.type e i sz ht hi v n xs ho
  unfold Oper.wp execOp
  simp only [hop, resolve, invoke, builtin, Sem.run_bind, Sem.run_pure, Result.andThen_ok, List.map_toArray, List.map_cons, List.map_nil, hs, hx, hr]
  exact hK _ _ h

end Go.Proofs.YtjhimekojiegjaaDoor.Wlst
