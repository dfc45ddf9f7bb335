/- What LayoutRemoves uses: lists without one of their parts, a layout in a box that is written, rows that a call builds. -/
import Derived.Test.YtieoegodhhiiiaaLapp
import Derived.Test.YtieoegodhhiiiaaLcnt
import Derived.Test.YtieoegodhhiiiaaLlin
import Derived.Test.YtieoegodhhiiiaaLcon
import Derived.ChangeKeysEq
namespace Go.Proofs.Ytieoegodhhiiiaa.Lrmp
open Go.RowKit Go.Lib Go.Proofs.Ytieoegodhhiiiaa.Reads Go.Proofs.Ytieoegodhhiiiaa.Rows2 Go.Proofs.Ytieoegodhhiiiaa.Lay Go.Proofs.Ytieoegodhhiiiaa.Layf Go.Proofs.Ytieoegodhhiiiaa.Lcon Go.Proofs.Ytieoegodhhiiiaa.Lapp Go.Proofs.Ytieoegodhhiiiaa.Lcnt Go.Proofs.Ytieoegodhhiiiaa.Lnam Go.Proofs.Ytieoegodhhiiiaa.Lmem Go.Proofs.Ytieoegodhhiiiaa.Lfew Go.Proofs.Ytieoegodhhiiiaa.Ldup
open Go.Proofs.Ytieoegodhhiiiaa.Llin (grid_of_own)
open Go.Proofs.Ytieoegodhhiiiaa.Text hiding lineL joinR

theorem infoBa : (Try.prog.info? 61).map (fun i => (i.zero, i.size, i.bytes)) = some (some (.agg #[.int .i64 0, .int .i64 0, .int .i64 0]), 3, 24) := by kernel_rfl
theorem infoSg : (Try.prog.info? 55).map (fun i => (i.zero, i.size, i.bytes)) = some (some (.agg #[.string ByteArray.empty, .int .i64 0, .int .i64 0, .int .i64 0]), 4, 40) := by kernel_rfl
theorem infoJt : (Try.prog.info? 47).map (fun i => (i.zero, i.size, i.bytes)) = some (some (.agg #[.int .i64 0, .int .i64 0, .int .i64 0, .int .i64 0]), 4, 32) := by kernel_rfl

/-- A list without its part at i. -/
def less {α : Type} (l : List α) (i : Nat) : List α := l.take i ++ l.drop (i + 1)
theorem less_sub {α : Type} (l : List α) (i : Nat) : (less l i).Sublist l := by
  unfold less
  rw [← List.eraseIdx_eq_take_drop_succ]
  exact List.eraseIdx_sublist _ _
theorem less_len {α : Type} {l : List α} {i : Nat} (h : i < l.length) : (less l i).length = 0 + i + (l.length - (i + 1)) := by
  unfold less
  rw [List.length_append, List.length_take, List.length_drop]
  omega
theorem less_flat {α : Type} (f : α → List Value) (l : List α) (i : Nat) : [] ++ ((l.map f).take i).flatten ++ ((l.map f).drop (i + 1)).flatten = (less l i).flatMap f := by
  unfold less
  rw [List.nil_append, List.flatMap_append, ← List.map_take, ← List.map_drop, List.flatMap_def, List.flatMap_def]
theorem less_at {α : Type} {l : List α} {i : Nat} {x : α} (h : l[i]? = some x) : l = l.take i ++ x :: l.drop (i + 1) := by
  obtain ⟨hi, rfl⟩ := List.getElem?_eq_some_iff.1 h
  rw [← List.drop_eq_getElem_cons hi, List.take_append_drop]

/-- The slice of rows, and their cells, in every later world. -/
theorem rows_src {w : World} {v : Value} {sz : Nat} {rows : List (List Value)} (h : Grid (In w) w v sz rows) (hl : ∀ r ∈ rows, r.length = sz) (hpos : 0 < rows.length) :
    ∃ b off cap, v = .slice (some ⟨b, off, none⟩) rows.length cap ∧ rows.length ≤ cap ∧ (cap : Int) ≤ 9223372036854775807 ∧ b < w.heap.size ∧
      ∀ i, i < rows.length → ∀ wr : World, (wr.heap[b]? = w.heap[b]?) → (∀ j u, (rows.take i).flatten[j]? = some u → wr.cell? ((⟨b, off, none⟩ : Addr).add j) = some u) ∧ (∀ j u, (rows.drop (i + 1)).flatten[j]? = some u → wr.cell? ((⟨b, off + (i + 1) * sz, none⟩ : Addr).add j) = some u) := by
  obtain ⟨a, cap, rfl, h2, h3, h4⟩ := h
  rcases h4 with rfl | ⟨b, off, rfl, hb, hc⟩
  · simp at hpos
  · refine ⟨b, off, cap, rfl, h2, by unfold maxLen at h3; omega, hb, fun i hi wr hwr => ⟨fun j u hu => ?_, fun j u hu => ?_⟩⟩
    · rw [add_mk, cell_same hwr]
      exact rows_take hc hl j u hu
    · rw [add_mk, cell_same hwr]
      exact rows_drop hc hl j u hu
theorem take_len {sz i : Nat} {rows : List (List Value)} (hl : ∀ r ∈ rows, r.length = sz) (hi : i ≤ rows.length) : (rows.take i).flatten.length = i * sz := by
  rw [rows_len (fun r hr => hl r (List.mem_of_mem_take hr)), List.length_take, Nat.min_eq_left hi]
theorem drop_len {sz i : Nat} {rows : List (List Value)} (hl : ∀ r ∈ rows, r.length = sz) : (rows.drop i).flatten.length = (rows.length - i) * sz := by
  rw [rows_len (fun r hr => hl r (List.mem_of_mem_drop hr)), List.length_drop]
theorem take_one {i : Nat} {rows : List (List Value)} (h : ∀ r ∈ rows, ∀ u ∈ r, u.oneCell' = true) : ∀ u ∈ (rows.take i).flatten, u.oneCell' = true := by
  intro u hu
  obtain ⟨r, hr, hu⟩ := List.mem_flatten.1 hu
  exact h r (List.mem_of_mem_take hr) u hu
theorem drop_one {i : Nat} {rows : List (List Value)} (h : ∀ r ∈ rows, ∀ u ∈ r, u.oneCell' = true) : ∀ u ∈ (rows.drop i).flatten, u.oneCell' = true := by
  intro u hu
  obtain ⟨r, hr, hu⟩ := List.mem_flatten.1 hu
  exact h r (List.mem_of_mem_drop hr) u hu
theorem cut_low (t : TypeId) {inf : TypeInfo} (ht : Try.prog.underlying t = some (.slice (Try.prog.elem t))) (hinf : Try.prog.info? (Try.prog.elem t) = some inf) {b off n c i : Nat} (h1 : i ≤ n) (h2 : n ≤ c) (w : World) :
    (Instr.slice t (.slice (some ⟨b, off, none⟩) n c) none (some (.int .i64 (i : Int))) none).run Try.prog w = .ok (.slice (some ⟨b, off, none⟩) i c) w := by
  rw [run_slice_h w t _ n c ht .i64 (i : Int) (by omega) (by omega), Go.run_sizeOf w hinf]
  simp [Result.andThen, sliced, add_mk]
theorem cut_high (t : TypeId) {inf : TypeInfo} {sz : Nat} (ht : Try.prog.underlying t = some (.slice (Try.prog.elem t))) (hinf : Try.prog.info? (Try.prog.elem t) = some inf) (hsz : Try.prog.cellsOf (Try.prog.elem t) = sz) {b off n c i : Nat} (h1 : i < n) (h2 : n ≤ c) :
    ∃ ad : Addr, (∀ w, (Instr.slice t (.slice (some ⟨b, off, none⟩) n c) (some (.int .i64 ((i : Int) + 1))) none none).run Try.prog w = .ok (.slice (some ad) (n - (i + 1)) (c - (i + 1))) w) ∧
      ∀ (rows : List (List Value)) (wr : World), rows.length = n → (∀ j u, (rows.drop (i + 1)).flatten[j]? = some u → wr.cell? ((⟨b, off + (i + 1) * sz, none⟩ : Addr).add j) = some u) → ∀ j u, (rows.drop (i + 1)).flatten[j]? = some u → wr.cell? (ad.add j) = some u := by
  have hr : ∀ w, (Instr.slice t (.slice (some ⟨b, off, none⟩) n c) (some (.int .i64 ((i : Int) + 1))) none none).run Try.prog w = .ok (sliced (some ⟨b, off, none⟩) (i + 1) n c sz) w := fun w => by
    rw [run_slice_l w t _ n c ht .i64 ((i : Int) + 1) (by omega) (by omega), Go.run_sizeOf w hinf, hsz, show ((i : Int) + 1).toNat = i + 1 by omega]
    rfl
  by_cases hc : c = i + 1
  · refine ⟨⟨b, off, none⟩, fun w => by rw [hr w]; simp [sliced, hc], fun rows wr hl _ j u hu => ?_⟩
    rw [List.drop_eq_nil_of_le (by omega)] at hu
    simp at hu
  · exact ⟨⟨b, off + (i + 1) * sz, none⟩, fun w => by rw [hr w]; simp [sliced, hc, add_mk], fun rows wr _ h => h⟩
theorem own_empty (W : World) (e : TypeId) (sz : Nat) : (W.alloc (.cells #[] e)).drew.ownsRow W.heap.size e sz (.slice (some ⟨W.heap.size, 0, none⟩) 0 0) 0 [] :=
  (World.ownsRow_lit W #[] 0 (Nat.le_refl _) (by unfold maxLen; omega) (by simp)).drew

/-- The box that is written, behind the first copy. -/
def MS (g : Nat) (W3 : World) (L : Lay) (vs ve : Value) (wx : World) : Prop :=
  But g W3.heap.size W3 wx ∧ ∃ c3 c4 c5, wx.heap[g]? = some (.cells #[.string (bs L.name), vs, ve, c3, c4, c5] 28 (0, 0))
theorem ms_cells {g : Nat} {wx : World} {c0 c1 c2 c3 c4 c5 : Value} (h : wx.heap[g]? = some (.cells #[c0, c1, c2, c3, c4, c5] 28 (0, 0))) :
    (wx.cell? ⟨g, 0, none⟩ = some c0 ∧ wx.cell? ⟨g, 1, none⟩ = some c1 ∧ wx.cell? ⟨g, 2, none⟩ = some c2 ∧ wx.cell? ⟨g, 3, none⟩ = some c3 ∧ wx.cell? ⟨g, 4, none⟩ = some c4 ∧ wx.cell? ⟨g, 5, none⟩ = some c5) ∧ (∀ j, wx.frozen? ⟨g, j, none⟩ = false) ∧ g < wx.heap.size := by
  refine ⟨⟨?_, ?_, ?_, ?_, ?_, ?_⟩, fun j => frozen_of_row _ _ j _ _ h, ?_⟩
  all_goals first
    | (rw [cell_of_row _ _ _ _ _ _ h]; rfl)
    | (rcases Nat.lt_or_ge g wx.heap.size with hl | hl
       · exact hl
       · rw [Array.getElem?_eq_none hl] at h
         cases h)
theorem but_join {g B B' : Nat} {a b c : World} (h : But g B a b) (h2 : But g B' b c) (hB : B ≤ B') : But g B a c :=
  ⟨h2.os.trans h.os, h2.tape.trans h.tape, h2.output.trans h.output, Nat.le_trans h.size h2.size, fun k hk hne => (h2.block k (by omega) hne).trans (h.block k hk hne)⟩
theorem but_of {g B : Nat} {a c : World} (h : Below a.heap.size a c) (hB : B ≤ a.heap.size) : But g B a c :=
  ⟨h.os, h.tape, h.output, h.size, fun k hk _ => h.block k (by omega)⟩
theorem lay_bals {w : World} {L : Lay} {m : List Bal} {vs ve vj vg vb v : Value} (h : LayAt (In w) w L vs ve vj vg vb) (hs : m.Sublist L.bals) (hg : Grid (In w) w v 3 (m.map Bal.cells)) : LayAt (In w) w { L with bals := m } vs ve vj vg v :=
  ⟨h.secs, h.els, h.joints, h.sigs, hg, h.name, h.elName, h.sigName, h.ewf, h.jwf, h.swf, fun x hx => h.bwf x (hs.mem hx), h.some_⟩
theorem lay_sigs {w : World} {L : Lay} {m : List Sig} {vs ve vj vg vb v : Value} (h : LayAt (In w) w L vs ve vj vg vb) (hs : m.Sublist L.sigs) (hg : Grid (In w) w v 4 (m.map Sig.cells)) : LayAt (In w) w { L with sigs := m } vs ve vj v vb :=
  ⟨h.secs, h.els, h.joints, hg, h.bals, h.name, h.elName, fun x hx => h.sigName x (hs.mem hx), h.ewf, h.jwf, fun x hx => h.swf x (hs.mem hx), h.bwf, h.some_⟩
theorem lay_joints {w : World} {L : Lay} {m : List ((Int × Int) × (Int × Int))} {vs ve vj vg vb v : Value} (h : LayAt (In w) w L vs ve vj vg vb) (hs : m.Sublist L.joints) (hg : Grid (In w) w v 4 (m.map jCells)) : LayAt (In w) w { L with joints := m } vs ve v vg vb :=
  ⟨h.secs, h.els, hg, h.sigs, h.bals, h.name, h.elName, h.sigName, h.ewf, fun x hx => h.jwf x (hs.mem hx), h.swf, h.bwf, h.some_⟩
theorem few_bals {L : Lay} {m : List Bal} (h : fewB L = true) (hs : m.Sublist L.bals) : fewB { L with bals := m } = true := by
  have := few_yes h
  have := hs.length_le
  exact decide_eq_true (by simp only; omega)
theorem few_sigs {L : Lay} {m : List Sig} (h : fewB L = true) (hs : m.Sublist L.sigs) : fewB { L with sigs := m } = true := by
  have := few_yes h
  have := hs.length_le
  exact decide_eq_true (by simp only; omega)
theorem few_joints {L : Lay} {m : List ((Int × Int) × (Int × Int))} (h : fewB L = true) (hs : m.Sublist L.joints) : fewB { L with joints := m } = true := by
  have := few_yes h
  have := hs.length_le
  exact decide_eq_true (by simp only; omega)
theorem bal_len : ∀ (L : List Bal), ∀ r ∈ L.map Bal.cells, r.length = 3 := by
  intro L r hr
  obtain ⟨x, _, rfl⟩ := List.mem_map.1 hr
  rfl
theorem sig_len : ∀ (L : List Sig), ∀ r ∈ L.map Sig.cells, r.length = 4 := by
  intro L r hr
  obtain ⟨x, _, rfl⟩ := List.mem_map.1 hr
  rfl
theorem joint_len : ∀ (L : List ((Int × Int) × (Int × Int))), ∀ r ∈ L.map jCells, r.length = 4 := by
  intro L r hr
  obtain ⟨x, _, rfl⟩ := List.mem_map.1 hr
  rfl
theorem bal_one : ∀ (L : List Bal), ∀ r ∈ L.map Bal.cells, ∀ u ∈ r, u.oneCell' = true := by
  intro L r hr u hu
  obtain ⟨x, _, rfl⟩ := List.mem_map.1 hr
  simp only [Bal.cells, List.mem_cons, List.not_mem_nil, or_false] at hu
  rcases hu with rfl | rfl | rfl <;> rfl
theorem sig_one : ∀ (L : List Sig), ∀ r ∈ L.map Sig.cells, ∀ u ∈ r, u.oneCell' = true := by
  intro L r hr u hu
  obtain ⟨x, _, rfl⟩ := List.mem_map.1 hr
  simp only [Sig.cells, List.mem_cons, List.not_mem_nil, or_false] at hu
  rcases hu with rfl | rfl | rfl | rfl <;> rfl
theorem joint_one : ∀ (L : List ((Int × Int) × (Int × Int))), ∀ r ∈ L.map jCells, ∀ u ∈ r, u.oneCell' = true := by
  intro L r hr u hu
  obtain ⟨x, _, rfl⟩ := List.mem_map.1 hr
  simp only [jCells, List.mem_cons, List.not_mem_nil, or_false] at hu
  rcases hu with rfl | rfl | rfl | rfl <;> rfl
/-- All six cells written. -/
theorem ms_store {g : Nat} {wx : World} {c0 c1 c2 c3 c4 c5 d0 d1 d2 d3 d4 d5 : Value} (h : wx.heap[g]? = some (.cells #[c0, c1, c2, c3, c4, c5] 28 (0, 0))) :
    ((((((wx.setCell ⟨g, 0, none⟩ d0).setCell ⟨g, 1, none⟩ d1).setCell ⟨g, 2, none⟩ d2).setCell ⟨g, 3, none⟩ d3).setCell ⟨g, 4, none⟩ d4).setCell ⟨g, 5, none⟩ d5).heap[g]? = some (.cells #[d0, d1, d2, d3, d4, d5] 28 (0, 0)) := by
  have h0 := heap_setCell_same _ _ 0 _ _ d0 h
  have h1 := heap_setCell_same _ _ 1 _ _ d1 h0
  have h2 := heap_setCell_same _ _ 2 _ _ d2 h1
  have h3 := heap_setCell_same _ _ 3 _ _ d3 h2
  have h4 := heap_setCell_same _ _ 4 _ _ d4 h3
  have h5 := heap_setCell_same _ _ 5 _ _ d5 h4
  simpa using h5
theorem but_store {g B : Nat} {W wx : World} {d0 d1 d2 d3 d4 d5 : Value} (h : But g B W wx) :
    But g B W ((((((wx.setCell ⟨g, 0, none⟩ d0).setCell ⟨g, 1, none⟩ d1).setCell ⟨g, 2, none⟩ d2).setCell ⟨g, 3, none⟩ d3).setCell ⟨g, 4, none⟩ d4).setCell ⟨g, 5, none⟩ d5) :=
  (((((h.setCell (.inl rfl) _).setCell (.inl rfl) _).setCell (.inl rfl) _).setCell (.inl rfl) _).setCell (.inl rfl) _).setCell (.inl rfl) _
/-- A row of the call's own, as the rows of a list. -/
theorem less_grid {α : Type} (f : α → List Value) {sz : Nat} (hlen : ∀ a, (f a).length = sz) {B i : Nat} {w : World} {e : TypeId} {v : Value} {l : List α} (hi : i < l.length) (h : w.ownsRow B e sz v (0 + i + (l.length - (i + 1))) ([] ++ ((l.map f).take i).flatten ++ ((l.map f).drop (i + 1)).flatten)) :
    Grid (fun b => B ≤ b ∧ b < w.heap.size) w v sz ((less l i).map f) := by
  rw [← less_len hi, less_flat] at h
  exact grid_of_own f hlen h
theorem own_shape {B n sz : Nat} {e : TypeId} {v : Value} {xs : List Value} {w : World} (h : w.ownsRow B e sz v n xs) : ∃ A C, v = .slice A n C := by
  obtain ⟨_, hor⟩ := h
  rcases hor with ⟨rfl, h0⟩ | ⟨g, cap, cur, rfl, _⟩
  · subst h0
    exact ⟨none, 0, rfl⟩
  · exact ⟨_, _, rfl⟩
theorem frozen_same {w w' : World} {g k : Nat} (h : w'.heap[g]? = w.heap[g]?) : w'.frozen? ⟨g, k, none⟩ = w.frozen? ⟨g, k, none⟩ := by
  unfold World.frozen?
  rw [h]
/-- A grid, behind a write into another block. -/
theorem grid_set {B sz g k : Nat} {w : World} {v u : Value} {rows : List (List Value)} (h : Grid (fun b => B ≤ b ∧ b < w.heap.size) w v sz rows) (hg : g < B) : Grid (In (w.setCell ⟨g, k, none⟩ u)) (w.setCell ⟨g, k, none⟩ u) v sz rows :=
  h.keep fun b hb => ⟨by simpa [World.setCell, In] using hb.2, heap_setCell_other w _ _ _ (by simp; omega)⟩

end Go.Proofs.Ytieoegodhhiiiaa.Lrmp
