/- Arguments opened: a list of segments, a range. -/
import Derived.Test.YtkoldgammeojkaaSegs
import Derived.ProofKit
import Derived.ChangeSlices
import Derived.Deep.Slices
import Derived.DataReads
import Derived.SizedLaws
namespace Go.Proofs.Ytkoldgammeojkaa.Sopn
open Go.ChangeShapes Go.WideShapes Go.Deep Go.Proofs.Ytkoldgammeojkaa.Text Go.Proofs.Ytkoldgammeojkaa.Rows2 Go.Proofs.Ytkoldgammeojkaa.Lay Go.Proofs.Ytkoldgammeojkaa.Segs

/-- A slice that is nil or has an address. -/
def Sn (v : Value) : Prop := v = .slice none 0 0 ∨ ∃ ad n c, v = .slice (some ad) n c

section
variable {H : Type} {enc : TypeId × Value → H} {w : World} {base : Nat} {held : Bool}

/-- A slice whose elements are known by their cells. -/
theorem open_rows {P : Program} {α : Type} {t e : TypeId} {fuel sz : Nat} {c : Value} {x : DataW H × List MemPlace} (a0 : α) (cellsOf : α → List Value) (Q : α → Prop) (ht : P.underlying t = some (.slice e)) (hsz : P.cellsOf e = sz) (hpos : 0 < sz) (hlen : ∀ a, (cellsOf a).length = sz)
    (hel : ∀ (n : Nat) (cs : List Value) (y : DataW H × List MemPlace), DataW.trod enc P w base (fun _ => true) held n e cs = some y → ∃ a : α, cs = cellsOf a ∧ Q a)
    (h : DataW.trod enc P w base (fun _ => true) held fuel t [c] = some x) : ∃ l : List α, Grid (In w) w c sz (l.map cellsOf) ∧ (∀ a ∈ l, Q a) ∧ Sn c := by
  rcases open_slice ht h with ⟨h1, _⟩ | ⟨a, len, cap, m, n, D, Pl, h1, _, hl, hm, hmm, _, hi⟩
  · simp only [List.cons.injEq, and_true] at h1
    subst h1
    exact ⟨[], grid_nil _ _ _, by simp, .inl rfl⟩
  · simp only [List.cons.injEq, and_true] at h1
    subst h1
    have hlm : len ≤ m := by rw [hmm]; simp; exact hl
    haveI : Inhabited α := ⟨a0⟩
    obtain ⟨f, hf⟩ := choose_lt (α := α) (n := len) (p := fun i a' => w.cells? base (a.add (i * sz)) sz = some (cellsOf a') ∧ Q a') (fun i hlt => by
      obtain ⟨cs', hc, htr⟩ := hi i (by omega)
      rw [hsz] at hc
      obtain ⟨a', rfl, hq⟩ := hel _ _ _ htr
      exact ⟨a', hc, hq⟩)
    have hcell : ∀ i, i < len → ∀ j, j < sz → w.cell? ((a.add (i * sz)).add j) = (cellsOf (f i))[j]? := fun i hlt j hj => (World.cells?_some (hf i hlt).1).2.2 j hj
    refine ⟨(List.range len).map f, ?_, ?_, .inr ⟨_, _, _, rfl⟩⟩
    · have e1 : (((List.range len).map f).map cellsOf).length = len := by simp
      refine ⟨some a, cap, by rw [e1], by rw [e1]; exact hl, hm, ?_⟩
      by_cases h0 : len = 0
      · subst h0
        exact .inl rfl
      · right
        obtain ⟨b, off, spot⟩ := a
        have hc0 := hcell 0 (by omega) 0 hpos
        have hv : ∃ v, (cellsOf (f 0))[0]? = some v := ⟨_, List.getElem?_eq_getElem (by rw [hlen]; exact hpos)⟩
        obtain ⟨v, hv⟩ := hv
        rw [hv] at hc0
        have hspot : spot = none := by simpa [Addr.add] using World.cell?_spot hc0
        subst hspot
        have hb : b < w.heap.size := by
          have := World.block_lt_of_cell? w _ hc0
          simpa [Addr.add] using this
        refine ⟨b, off, rfl, hb, fun i r hr j y hy => ?_⟩
        have hi' : i < len := by
          have := (List.getElem?_eq_some_iff.1 hr).1
          rwa [e1] at this
        have hr2 : r = cellsOf (f i) := by
          rw [List.getElem?_map, List.getElem?_map, List.getElem?_range hi'] at hr
          exact (Option.some.inj hr).symm
        subst hr2
        have hj : j < sz := by
          have := (List.getElem?_eq_some_iff.1 hy).1
          rwa [hlen] at this
        have := hcell i hi' j hj
        rw [add_mk, add_mk] at this
        rw [this]
        exact hy
    · intro a' ha
      obtain ⟨i, hi', rfl⟩ := List.mem_map.1 ha
      exact (hf i (by simpa using hi')).2

theorem one_int {fuel : Nat} {l : List Value} {x : DataW H × List MemPlace} (h : DataW.trod enc Try.prog w base (fun _ => true) held fuel 3 l = some x) : ∃ z : Int, l = [.int .i64 z] ∧ Wf z := by
  obtain ⟨n, e1, _, hw⟩ := DataW.trod_int Try.underlying3 h
  exact ⟨n, e1, hw⟩
theorem cI : Try.prog.cellsOf 3 = 1 := by kernel_rfl
theorem len3 {α : Type} {l : List α} (h : l.length = 3) : ∃ a b c, l = [a, b, c] := by
  match l, h with
  | [a, b, c], _ => exact ⟨a, b, c, rfl⟩
theorem len4 {α : Type} {l : List α} (h : l.length = 4) : ∃ a b c d, l = [a, b, c, d] := by
  match l, h with
  | [a, b, c, d], _ => exact ⟨a, b, c, d, rfl⟩
theorem seg_of {fuel : Nat} {l : List Value} {x : DataW H × List MemPlace} (h : DataW.trod enc Try.prog w base (fun _ => true) held fuel 25 l = some x) : ∃ s : Sg, l = sgC s ∧ sgW s := by
  obtain ⟨xs, n, _, _, hlen, hxl, hg⟩ := DataW.trod_struct Try.underlying25 h
  rw [show Try.prog.cellsOf 25 = 4 by kernel_rfl] at hlen
  obtain ⟨v0, v1, v2, v3, rfl⟩ := len4 hlen
  obtain ⟨x0, x1, x2, x3, rfl⟩ := len4 (show xs.length = 4 from hxl)
  have g0 : DataW.trod enc Try.prog w base (fun _ => true) held n 3 (([v0, v1, v2, v3].drop 0).take (Try.prog.cellsOf 3)) = some x0 := hg 0 _ rfl
  have g1 : DataW.trod enc Try.prog w base (fun _ => true) held n 3 (([v0, v1, v2, v3].drop 1).take (Try.prog.cellsOf 3)) = some x1 := hg 1 _ rfl
  have g2 : DataW.trod enc Try.prog w base (fun _ => true) held n 3 (([v0, v1, v2, v3].drop 2).take (Try.prog.cellsOf 3)) = some x2 := hg 2 _ rfl
  have g3 : DataW.trod enc Try.prog w base (fun _ => true) held n 3 (([v0, v1, v2, v3].drop 3).take (Try.prog.cellsOf 3)) = some x3 := hg 3 _ rfl
  rw [cI] at g0 g1 g2 g3
  obtain ⟨a, ha, wha⟩ := one_int g0
  obtain ⟨b, hb, whb⟩ := one_int g1
  obtain ⟨c, hc, whc⟩ := one_int g2
  obtain ⟨d, hd, whd⟩ := one_int g3
  simp only [List.drop_zero, List.take_succ_cons, List.take_zero, List.drop_succ_cons, List.cons.injEq, and_true] at ha hb hc hd
  exact ⟨(a, b, c, d), by rw [ha, hb, hc, hd]; rfl, wha, whb, whc, whd⟩
set_option maxRecDepth 100000 in
theorem open_segs {v : Value} {d : DataW H} {p : List MemPlace} {b0 : Nat} {r : Reach} (hv : Value.okWide Try.prog w r b0 22 v) (h : DataW.Trod enc Try.prog w base (fun _ => true) held 22 v d p) : ∃ l : List Sg, SegIn w v l := by
  obtain ⟨fuel, hf⟩ := h
  obtain ⟨b, len, cap, rfl⟩ := okWide_slice Try.underlying22 hv
  obtain ⟨l, hl, hw, hs⟩ := open_rows (0, 0, 0, 0) sgC sgW Try.underlying22 (by kernel_rfl) (by decide : 0 < 4) (fun _ => rfl) (fun _ _ _ h => seg_of h) hf
  exact ⟨l, hl, hw, hs⟩

/-- A range: two coordinates and a speed. -/
abbrev Rg := Int × (Int × Int)
def rgV (x : Rg) : Value := .agg #[.int .i64 x.1, .int .i64 x.2.1, .int .i64 x.2.2]
def rgW (x : Rg) : Prop := Lay.Wf x.1 ∧ Lay.Wf x.2.1 ∧ Lay.Wf x.2.2
theorem range_of {fuel : Nat} {l : List Value} {x : DataW H × List MemPlace} (h : DataW.trod enc Try.prog w base (fun _ => true) held fuel 37 l = some x) : ∃ s : Rg, l = [.int .i64 s.1, .int .i64 s.2.1, .int .i64 s.2.2] ∧ rgW s := by
  obtain ⟨xs, n, _, _, hlen, hxl, hg⟩ := DataW.trod_struct Try.underlying37 h
  rw [show Try.prog.cellsOf 37 = 3 by kernel_rfl] at hlen
  obtain ⟨v0, v1, v2, rfl⟩ := len3 hlen
  obtain ⟨x0, x1, x2, rfl⟩ := len3 (show xs.length = 3 from hxl)
  have g0 : DataW.trod enc Try.prog w base (fun _ => true) held n 3 (([v0, v1, v2].drop 0).take (Try.prog.cellsOf 3)) = some x0 := hg 0 _ rfl
  have g1 : DataW.trod enc Try.prog w base (fun _ => true) held n 3 (([v0, v1, v2].drop 1).take (Try.prog.cellsOf 3)) = some x1 := hg 1 _ rfl
  have g2 : DataW.trod enc Try.prog w base (fun _ => true) held n 3 (([v0, v1, v2].drop 2).take (Try.prog.cellsOf 3)) = some x2 := hg 2 _ rfl
  rw [cI] at g0 g1 g2
  obtain ⟨a, ha, wha⟩ := one_int g0
  obtain ⟨b, hb, whb⟩ := one_int g1
  obtain ⟨c, hc, whc⟩ := one_int g2
  simp only [List.drop_zero, List.take_succ_cons, List.take_zero, List.drop_succ_cons, List.cons.injEq, and_true] at ha hb hc
  exact ⟨(a, b, c), by rw [ha, hb, hc], wha, whb, whc⟩
set_option maxRecDepth 100000 in
theorem open_range {v : Value} {d : DataW H} {p : List MemPlace} {b0 : Nat} {r : Reach} (hv : Value.okWide Try.prog w r b0 37 v) (h : DataW.Trod enc Try.prog w base (fun _ => true) held 37 v d p) : ∃ s : Rg, v = rgV s ∧ rgW s := by
  obtain ⟨⟨cs⟩, rfl, hsz⟩ := okWide_struct Try.underlying37 hv
  obtain ⟨fuel, hf⟩ := h
  obtain ⟨s, hs, hw⟩ := range_of hf
  have hs2 : cs = [.int .i64 s.1, .int .i64 s.2.1, .int .i64 s.2.2] := hs
  subst hs2
  exact ⟨s, rfl, hw⟩
end

end Go.Proofs.Ytkoldgammeojkaa.Sopn
