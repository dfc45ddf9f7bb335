/- Texts of this proof, merged: Lopen, Rail, Way, Wopn, Rtab, Laidr, Kin0, Nam0, Rname. -/
import Derived.Test.YtjhimekojiegjaaDoorG01
import Derived.ProofKit
import Derived.ChangeSlices
import Derived.Deep.Slices
import Derived.DataReads
import Derived.SizedLaws
import Derived.WalkKit
import Derived.Test.YtjhimekojiegjaaDoorProg
import Derived.Below
import Derived.KernelRfl
import Derived.Laws.Rows
import Derived.Outline
import Derived.Lib.Hide
import Derived.Test.YtjhimekojiegjaaDoorRows
import Derived.LaidMore
import Derived.LaidHandle
import Derived.MakeChecks
import Derived.OpenShut
import Derived.Stop.Joined
import Derived.Laws.RangeAny
import Derived.Laws.IdiomStrings
import Derived.Deep.DeepFit
import Derived.Lib.Walk
import Derived.BigQuiet
import Derived.Deep.QuietTactic
import Derived.Shelf.Abstract

/- An argument opened: a layout by value. -/
namespace Go.Proofs.YtjhimekojiegjaaDoor.Lopen
open Go.ChangeShapes Go.WideShapes Go.Deep Go.Proofs.YtjhimekojiegjaaDoor.Text Go.Proofs.YtjhimekojiegjaaDoor.Rows2 Go.Proofs.YtjhimekojiegjaaDoor.Lay Go.Proofs.YtjhimekojiegjaaDoor.Lnam

section
variable {H : Type} {enc : TypeId × Value → H} {w : World} {base : Nat} {held : Bool}

/-- A slice whose elements are known by their cells. -/
theorem open_rows {P : Program} {α : Type} {t e : TypeId} {fuel sz : Nat} {c : Value} {x : DataW H × List MemPlace} (a0 : α) (cellsOf : α → List Value) (Q : α → Prop) (ht : P.underlying t = some (.slice e)) (hsz : P.cellsOf e = sz) (hpos : 0 < sz) (hlen : ∀ a, (cellsOf a).length = sz)
    (hel : ∀ (n : Nat) (cs : List Value) (y : DataW H × List MemPlace), DataW.trod enc P w base (fun _ => true) held n e cs = some y → ∃ a : α, cs = cellsOf a ∧ Q a)
    (h : DataW.trod enc P w base (fun _ => true) held fuel t [c] = some x) : ∃ l : List α, Grid (In w) w c sz (l.map cellsOf) ∧ (∀ a ∈ l, Q a) ∧ Sn c := by
  rcases open_slice ht h with ⟨h1, _⟩ | ⟨a, len, cap, m, n, D, Pl, h1, _, hl, hm, hmm, _, hi⟩
  · simp only [List.cons.injEq, and_true] at h1
    subst h1
    exact ⟨[], grid_nil _ _ _, by simp, .inl rfl⟩
  · simp only [List.cons.injEq, and_true] at h1
    subst h1
    have hlm : len ≤ m := by rw [hmm]; simp; exact hl
    haveI : Inhabited α := ⟨a0⟩
    obtain ⟨f, hf⟩ := choose_lt (α := α) (n := len) (p := fun i a' => w.cells? base (a.add (i * sz)) sz = some (cellsOf a') ∧ Q a') (fun i hlt => by
      obtain ⟨cs', hc, htr⟩ := hi i (by omega)
      rw [hsz] at hc
      obtain ⟨a', rfl, hq⟩ := hel _ _ _ htr
      exact ⟨a', hc, hq⟩)
    have hcell : ∀ i, i < len → ∀ j, j < sz → w.cell? ((a.add (i * sz)).add j) = (cellsOf (f i))[j]? := fun i hlt j hj => (World.cells?_some (hf i hlt).1).2.2 j hj
    refine ⟨(List.range len).map f, ?_, ?_, .inr ⟨_, _, _, rfl⟩⟩
    · have e1 : (((List.range len).map f).map cellsOf).length = len := by simp
      refine ⟨some a, cap, by rw [e1], by rw [e1]; exact hl, hm, ?_⟩
      by_cases h0 : len = 0
      · subst h0
        exact .inl rfl
      · right
        obtain ⟨b, off, spot⟩ := a
        have hc0 := hcell 0 (by omega) 0 hpos
        have hv : ∃ v, (cellsOf (f 0))[0]? = some v := ⟨_, List.getElem?_eq_getElem (by rw [hlen]; exact hpos)⟩
        obtain ⟨v, hv⟩ := hv
        rw [hv] at hc0
        have hspot : spot = none := by simpa [Addr.add] using World.cell?_spot hc0
        subst hspot
        have hb : b < w.heap.size := by
          have := World.block_lt_of_cell? w _ hc0
          simpa [Addr.add] using this
        refine ⟨b, off, rfl, hb, fun i r hr j y hy => ?_⟩
        have hi' : i < len := by
          have := (List.getElem?_eq_some_iff.1 hr).1
          rwa [e1] at this
        have hr2 : r = cellsOf (f i) := by
          rw [List.getElem?_map, List.getElem?_map, List.getElem?_range hi'] at hr
          exact (Option.some.inj hr).symm
        subst hr2
        have hj : j < sz := by
          have := (List.getElem?_eq_some_iff.1 hy).1
          rwa [hlen] at this
        have := hcell i hi' j hj
        rw [add_mk, add_mk] at this
        rw [this]
        exact hy
    · intro a' ha
      obtain ⟨i, hi', rfl⟩ := List.mem_map.1 ha
      exact (hf i (by simpa using hi')).2

theorem one_int {fuel : Nat} {l : List Value} {x : DataW H × List MemPlace} (h : DataW.trod enc Tryd.prog w base (fun _ => true) held fuel 3 l = some x) : ∃ z : Int, l = [.int .i64 z] ∧ Wf z := by
  obtain ⟨n, e1, _, hw⟩ := DataW.trod_int Tryd.underlying3 h
  exact ⟨n, e1, hw⟩
theorem one_str {fuel : Nat} {l : List Value} {x : DataW H × List MemPlace} (h : DataW.trod enc Tryd.prog w base (fun _ => true) held fuel 9 l = some x) : ∃ s : List UInt8, l = [.string (bs s)] ∧ s.length ≤ maxLen := by
  obtain ⟨s, e1, _, hb⟩ := DataW.trod_string Tryd.underlying9 h
  refine ⟨s.data.toList, by rw [bs_of]; exact e1, ?_⟩
  rw [← bs_size, bs_of]
  exact hb
theorem cI : Tryd.prog.cellsOf 3 = 1 := by kernel_rfl
theorem cS : Tryd.prog.cellsOf 9 = 1 := by kernel_rfl
theorem cE : Tryd.prog.cellsOf 32 = 2 := by kernel_rfl
theorem len2 {α : Type} {l : List α} (h : l.length = 2) : ∃ a b, l = [a, b] := by
  match l, h with
  | [a, b], _ => exact ⟨a, b, rfl⟩
theorem len3 {α : Type} {l : List α} (h : l.length = 3) : ∃ a b c, l = [a, b, c] := by
  match l, h with
  | [a, b, c], _ => exact ⟨a, b, c, rfl⟩
theorem len4 {α : Type} {l : List α} (h : l.length = 4) : ∃ a b c d, l = [a, b, c, d] := by
  match l, h with
  | [a, b, c, d], _ => exact ⟨a, b, c, d, rfl⟩
theorem len7 {α : Type} {l : List α} (h : l.length = 7) : ∃ a b c d e f g, l = [a, b, c, d, e, f, g] := by
  match l, h with
  | [a, b, c, d, e, f, g], _ => exact ⟨a, b, c, d, e, f, g, rfl⟩

theorem end_of {fuel : Nat} {l : List Value} {x : DataW H × List MemPlace} (h : DataW.trod enc Tryd.prog w base (fun _ => true) held fuel 32 l = some x) : ∃ p : Int × Int, l = pCells p ∧ pWf p := by
  obtain ⟨xs, n, _, _, hlen, hxl, hg⟩ := DataW.trod_struct Tryd.underlying32 h
  rw [cE] at hlen
  obtain ⟨v0, v1, rfl⟩ := len2 hlen
  obtain ⟨x0, x1, rfl⟩ := len2 (show xs.length = 2 from hxl)
  have g0 : DataW.trod enc Tryd.prog w base (fun _ => true) held n 3 (([v0, v1].drop 0).take (Tryd.prog.cellsOf 3)) = some x0 := hg 0 _ rfl
  have g1 : DataW.trod enc Tryd.prog w base (fun _ => true) held n 3 (([v0, v1].drop 1).take (Tryd.prog.cellsOf 3)) = some x1 := hg 1 _ rfl
  rw [cI] at g0 g1
  obtain ⟨a, ha, wha⟩ := one_int g0
  obtain ⟨b, hb, whb⟩ := one_int g1
  simp only [List.drop_zero, List.take_succ_cons, List.take_zero, List.drop_succ_cons, List.cons.injEq, and_true] at ha hb
  exact ⟨(a, b), by rw [ha, hb]; rfl, wha, whb⟩
theorem elem_of {fuel : Nat} {l : List Value} {x : DataW H × List MemPlace} (h : DataW.trod enc Tryd.prog w base (fun _ => true) held fuel 54 l = some x) : ∃ a : Elem, l = a.cells ∧ a.name.length ≤ maxLen ∧ a.Wf := by
  obtain ⟨xs, n, _, _, hlen, hxl, hg⟩ := DataW.trod_struct Tryd.underlying54 h
  rw [show Tryd.prog.cellsOf 54 = 7 by kernel_rfl] at hlen
  obtain ⟨v0, v1, v2, v3, v4, v5, v6, rfl⟩ := len7 hlen
  obtain ⟨x0, x1, x2, x3, x4, x5, x6, rfl⟩ := len7 (show xs.length = 7 from hxl)
  have g0 : DataW.trod enc Tryd.prog w base (fun _ => true) held n 9 (([v0, v1, v2, v3, v4, v5, v6].drop 0).take (Tryd.prog.cellsOf 9)) = some x0 := hg 0 _ rfl
  have g1 : DataW.trod enc Tryd.prog w base (fun _ => true) held n 3 (([v0, v1, v2, v3, v4, v5, v6].drop 1).take (Tryd.prog.cellsOf 3)) = some x1 := hg 1 _ rfl
  have g2 : DataW.trod enc Tryd.prog w base (fun _ => true) held n 3 (([v0, v1, v2, v3, v4, v5, v6].drop 2).take (Tryd.prog.cellsOf 3)) = some x2 := hg 2 _ rfl
  have g3 : DataW.trod enc Tryd.prog w base (fun _ => true) held n 3 (([v0, v1, v2, v3, v4, v5, v6].drop 3).take (Tryd.prog.cellsOf 3)) = some x3 := hg 3 _ rfl
  have g4 : DataW.trod enc Tryd.prog w base (fun _ => true) held n 3 (([v0, v1, v2, v3, v4, v5, v6].drop 4).take (Tryd.prog.cellsOf 3)) = some x4 := hg 4 _ rfl
  have g5 : DataW.trod enc Tryd.prog w base (fun _ => true) held n 3 (([v0, v1, v2, v3, v4, v5, v6].drop 5).take (Tryd.prog.cellsOf 3)) = some x5 := hg 5 _ rfl
  have g6 : DataW.trod enc Tryd.prog w base (fun _ => true) held n 3 (([v0, v1, v2, v3, v4, v5, v6].drop 6).take (Tryd.prog.cellsOf 3)) = some x6 := hg 6 _ rfl
  rw [cS] at g0
  rw [cI] at g1 g2 g3 g4 g5 g6
  obtain ⟨s, hs, hb⟩ := one_str g0
  obtain ⟨a1, h1, wh1⟩ := one_int g1
  obtain ⟨a2, h2, wh2⟩ := one_int g2
  obtain ⟨a3, h3, wh3⟩ := one_int g3
  obtain ⟨a4, h4, wh4⟩ := one_int g4
  obtain ⟨a5, h5, wh5⟩ := one_int g5
  obtain ⟨a6, h6, wh6⟩ := one_int g6
  simp only [List.drop_zero, List.take_succ_cons, List.take_zero, List.drop_succ_cons, List.cons.injEq, and_true] at hs h1 h2 h3 h4 h5 h6
  exact ⟨⟨s, a1, a2, a3, a4, a5, a6⟩, by rw [hs, h1, h2, h3, h4, h5, h6]; rfl, hb, wh1, wh2, wh3, wh4, wh5, wh6⟩
theorem joint_of {fuel : Nat} {l : List Value} {x : DataW H × List MemPlace} (h : DataW.trod enc Tryd.prog w base (fun _ => true) held fuel 79 l = some x) : ∃ j : (Int × Int) × (Int × Int), l = jCells j ∧ jWf j := by
  obtain ⟨xs, n, _, _, hlen, hxl, hg⟩ := DataW.trod_struct Tryd.underlying79 h
  rw [show Tryd.prog.cellsOf 79 = 4 by kernel_rfl] at hlen
  obtain ⟨v0, v1, v2, v3, rfl⟩ := len4 hlen
  obtain ⟨x0, x1, rfl⟩ := len2 (show xs.length = 2 from hxl)
  have g0 : DataW.trod enc Tryd.prog w base (fun _ => true) held n 32 (([v0, v1, v2, v3].drop 0).take (Tryd.prog.cellsOf 32)) = some x0 := hg 0 _ rfl
  have g1 : DataW.trod enc Tryd.prog w base (fun _ => true) held n 32 (([v0, v1, v2, v3].drop 2).take (Tryd.prog.cellsOf 32)) = some x1 := hg 1 _ rfl
  rw [cE] at g0 g1
  obtain ⟨p, hp, whp⟩ := end_of g0
  obtain ⟨q, hq, whq⟩ := end_of g1
  simp only [pCells, List.drop_zero, List.take_succ_cons, List.take_zero, List.drop_succ_cons, List.cons.injEq, and_true] at hp hq
  exact ⟨(p, q), by rw [hp.1, hp.2, hq.1, hq.2]; rfl, whp, whq⟩
theorem sig_of {fuel : Nat} {l : List Value} {x : DataW H × List MemPlace} (h : DataW.trod enc Tryd.prog w base (fun _ => true) held fuel 102 l = some x) : ∃ a : Sig, l = a.cells ∧ a.name.length ≤ maxLen ∧ a.Wf := by
  obtain ⟨xs, n, _, _, hlen, hxl, hg⟩ := DataW.trod_struct Tryd.underlying102 h
  rw [show Tryd.prog.cellsOf 102 = 4 by kernel_rfl] at hlen
  obtain ⟨v0, v1, v2, v3, rfl⟩ := len4 hlen
  obtain ⟨x0, x1, x2, rfl⟩ := len3 (show xs.length = 3 from hxl)
  have g0 : DataW.trod enc Tryd.prog w base (fun _ => true) held n 9 (([v0, v1, v2, v3].drop 0).take (Tryd.prog.cellsOf 9)) = some x0 := hg 0 _ rfl
  have g1 : DataW.trod enc Tryd.prog w base (fun _ => true) held n 32 (([v0, v1, v2, v3].drop 1).take (Tryd.prog.cellsOf 32)) = some x1 := hg 1 _ rfl
  have g2 : DataW.trod enc Tryd.prog w base (fun _ => true) held n 3 (([v0, v1, v2, v3].drop 3).take (Tryd.prog.cellsOf 3)) = some x2 := hg 2 _ rfl
  rw [cS] at g0
  rw [cE] at g1
  rw [cI] at g2
  obtain ⟨s, hs, hb⟩ := one_str g0
  obtain ⟨p, hp, whp⟩ := end_of g1
  obtain ⟨o, ho, who⟩ := one_int g2
  simp only [pCells, List.drop_zero, List.take_succ_cons, List.take_zero, List.drop_succ_cons, List.cons.injEq, and_true] at hs hp ho
  exact ⟨⟨s, p, o⟩, by rw [hs, hp.1, hp.2, ho]; rfl, hb, whp, who⟩
theorem bal_of {fuel : Nat} {l : List Value} {x : DataW H × List MemPlace} (h : DataW.trod enc Tryd.prog w base (fun _ => true) held fuel 104 l = some x) : ∃ a : Bal, l = a.cells ∧ a.Wf := by
  obtain ⟨xs, n, _, _, hlen, hxl, hg⟩ := DataW.trod_struct Tryd.underlying104 h
  rw [show Tryd.prog.cellsOf 104 = 3 by kernel_rfl] at hlen
  obtain ⟨v0, v1, v2, rfl⟩ := len3 hlen
  obtain ⟨x0, x1, x2, rfl⟩ := len3 (show xs.length = 3 from hxl)
  have g0 : DataW.trod enc Tryd.prog w base (fun _ => true) held n 3 (([v0, v1, v2].drop 0).take (Tryd.prog.cellsOf 3)) = some x0 := hg 0 _ rfl
  have g1 : DataW.trod enc Tryd.prog w base (fun _ => true) held n 3 (([v0, v1, v2].drop 1).take (Tryd.prog.cellsOf 3)) = some x1 := hg 1 _ rfl
  have g2 : DataW.trod enc Tryd.prog w base (fun _ => true) held n 3 (([v0, v1, v2].drop 2).take (Tryd.prog.cellsOf 3)) = some x2 := hg 2 _ rfl
  rw [cI] at g0 g1 g2
  obtain ⟨a, ha, wha⟩ := one_int g0
  obtain ⟨b, hb, whb⟩ := one_int g1
  obtain ⟨c, hc, whc⟩ := one_int g2
  simp only [List.drop_zero, List.take_succ_cons, List.take_zero, List.drop_succ_cons, List.cons.injEq, and_true] at ha hb hc
  exact ⟨⟨a, b, c⟩, by rw [ha, hb, hc]; rfl, wha, whb, whc⟩
/-- A slice of texts, by the same law. -/
theorem grid_strs {ok : Nat → Prop} {w : World} {v : Value} {ss : List (List UInt8)} (h : Grid ok w v 1 (ss.map fun s => [.string (bs s)])) (hs : ∀ s ∈ ss, s.length ≤ maxLen) : Strs ok w v ss := by
  obtain ⟨a, cap, h1, h2, h3, h4⟩ := h
  rw [List.length_map] at h1 h2
  refine ⟨⟨a, cap, by rw [strV_len]; exact h1, by rw [strV_len]; exact h2, h3, ?_⟩, hs⟩
  rcases h4 with h4 | ⟨b, off, e, hb, hc⟩
  · left
    have : ss = [] := by simpa using h4
    rw [this]
    rfl
  · refine .inr ⟨b, off, e, hb, fun j x hx => ?_⟩
    obtain ⟨s, hs', rfl⟩ : ∃ s, ss[j]? = some s ∧ .string (bs s) = x := by simpa [strV] using hx
    have := hc j [.string (bs s)] (by rw [List.getElem?_map, hs']; rfl) 0 _ rfl
    simpa using this

set_option maxRecDepth 100000 in
/-- The whole layout. -/
theorem open_layout {v : Value} {d : DataW H} {p : List MemPlace} {b0 : Nat} {r : Reach} (hv : Value.okWide Tryd.prog w r b0 28 v) (h : DataW.Trod enc Tryd.prog w base (fun _ => true) held 28 v d p) :
    ∃ (L : Lay) (vs ve vj vg vb : Value), v = layV L vs ve vj vg vb ∧ LayAt (In w) w L vs ve vj vg vb := by
  obtain ⟨⟨cs⟩, rfl, hsz⟩ := okWide_struct Tryd.underlying28 hv
  obtain ⟨fuel, hf⟩ := h
  obtain ⟨xs, n, _, _, hlen, hxl, hg⟩ := DataW.trod_struct Tryd.underlying28 hf
  have hc6 : Tryd.prog.cellsOf 28 = 6 := by kernel_rfl
  rw [hc6] at hlen
  have hl6 : cs.length = 6 := hlen
  match cs, hl6 with
  | [v0, v1, v2, v3, v4, v5], _ =>
    match xs, (show xs.length = 6 from hxl) with
    | [x0, x1, x2, x3, x4, x5], _ =>
      have g0 : DataW.trod enc Tryd.prog w base (fun _ => true) held n 9 (([v0, v1, v2, v3, v4, v5].drop 0).take (Tryd.prog.cellsOf 9)) = some x0 := hg 0 _ rfl
      have g1 : DataW.trod enc Tryd.prog w base (fun _ => true) held n 22 (([v0, v1, v2, v3, v4, v5].drop 1).take (Tryd.prog.cellsOf 22)) = some x1 := hg 1 _ rfl
      have g2 : DataW.trod enc Tryd.prog w base (fun _ => true) held n 23 (([v0, v1, v2, v3, v4, v5].drop 2).take (Tryd.prog.cellsOf 23)) = some x2 := hg 2 _ rfl
      have g3 : DataW.trod enc Tryd.prog w base (fun _ => true) held n 24 (([v0, v1, v2, v3, v4, v5].drop 3).take (Tryd.prog.cellsOf 24)) = some x3 := hg 3 _ rfl
      have g4 : DataW.trod enc Tryd.prog w base (fun _ => true) held n 25 (([v0, v1, v2, v3, v4, v5].drop 4).take (Tryd.prog.cellsOf 25)) = some x4 := hg 4 _ rfl
      have g5 : DataW.trod enc Tryd.prog w base (fun _ => true) held n 26 (([v0, v1, v2, v3, v4, v5].drop 5).take (Tryd.prog.cellsOf 26)) = some x5 := hg 5 _ rfl
      rw [cS] at g0
      rw [show Tryd.prog.cellsOf 22 = 1 by kernel_rfl] at g1
      rw [show Tryd.prog.cellsOf 23 = 1 by kernel_rfl] at g2
      rw [show Tryd.prog.cellsOf 24 = 1 by kernel_rfl] at g3
      rw [show Tryd.prog.cellsOf 25 = 1 by kernel_rfl] at g4
      rw [show Tryd.prog.cellsOf 26 = 1 by kernel_rfl] at g5
      obtain ⟨nm, hs, hb⟩ := one_str g0
      simp only [List.drop_zero, List.take_succ_cons, List.take_zero, List.drop_succ_cons, List.cons.injEq, and_true] at hs g1 g2 g3 g4 g5
      subst hs
      obtain ⟨l1, r1, q1, s1⟩ := open_rows [] (fun s : List UInt8 => [.string (bs s)]) (fun s => s.length ≤ maxLen) Tryd.underlying22 cS (by decide) (fun _ => rfl) (fun _ _ _ h => one_str h) g1
      obtain ⟨l2, r2, q2, _⟩ := open_rows ⟨[], 0, 0, 0, 0, 0, 0⟩ Elem.cells (fun s => s.name.length ≤ maxLen ∧ s.Wf) Tryd.underlying23 (by kernel_rfl) (by decide : 0 < 7) (fun _ => rfl) (fun _ _ _ h => elem_of h) g2
      obtain ⟨l3, r3, q3, _⟩ := open_rows ((0, 0), (0, 0)) jCells jWf Tryd.underlying24 (by kernel_rfl) (by decide : 0 < 4) (fun _ => rfl) (fun _ _ _ h => joint_of h) g3
      obtain ⟨l4, r4, q4, _⟩ := open_rows ⟨[], (0, 0), 0⟩ Sig.cells (fun s => s.name.length ≤ maxLen ∧ s.Wf) Tryd.underlying25 (by kernel_rfl) (by decide : 0 < 4) (fun _ => rfl) (fun _ _ _ h => sig_of h) g4
      obtain ⟨l5, r5, q5, _⟩ := open_rows ⟨0, 0, 0⟩ Bal.cells Bal.Wf Tryd.underlying26 (by kernel_rfl) (by decide : 0 < 3) (fun _ => rfl) (fun _ _ _ h => bal_of h) g5
      exact ⟨⟨nm, l1, l2, l3, l4, l5⟩, v1, v2, v3, v4, v5, rfl, grid_strs r1 q1, r2, r3, r4, r5, hb, fun x hx => (q2 x hx).1, fun x hx => (q4 x hx).1, fun x hx => (q2 x hx).2, q3, fun x hx => (q4 x hx).2, q5, s1⟩
end

end Go.Proofs.YtjhimekojiegjaaDoor.Lopen

/- The passages of the elements: plain mathematics, of no program. -/
namespace Go.Proofs.YtjhimekojiegjaaDoor.Rail

/-- The table: kind, side in, side out, position needed. -/
def rows : List (Int × Int × Int × Int) := [(1, 0, 1, 0), (1, 1, 0, 0), (2, 0, 1, 1), (2, 0, 2, 2), (2, 1, 0, 1), (2, 2, 0, 2), (3, 0, 1, 0), (3, 1, 0, 0), (3, 2, 3, 0), (3, 3, 2, 0)]
def row (j : Nat) : Int × Int × Int × Int := rows.getD j (0, 0, 0, 0)
theorem drop_row {j : Nat} (h : j < 10) : rows.drop j = row j :: rows.drop (j + 1) := by
  have hl : j < rows.length := h
  rw [List.drop_eq_getElem_cons hl]
  simp [row, List.getD_eq_getElem?_getD, hl]

/-- The first row that fits, for a position. -/
def outR (k i p : Int) : List (Int × Int × Int × Int) → Int × Bool
  | [] => (0, false)
  | r :: l => if k = r.1 ∧ i = r.2.1 ∧ (r.2.2.2 = 0 ∨ p = r.2.2.2) then (r.2.2.1, true) else outR k i p l
/-- The first row that fits, for a side out. -/
def needR (k i o : Int) : List (Int × Int × Int × Int) → Int × Bool
  | [] => (0, false)
  | r :: l => if k = r.1 ∧ i = r.2.1 ∧ o = r.2.2.1 then (r.2.2.2, true) else needR k i o l
/-- The sides out of the rows that fit. -/
def legsR (k i : Int) : List (Int × Int × Int × Int) → List Int
  | [] => []
  | r :: l => if k = r.1 ∧ i = r.2.1 then r.2.2.1 :: legsR k i l else legsR k i l
def outF (k i p : Int) : Int × Bool := outR k i p rows
def needF (k i o : Int) : Int × Bool := needR k i o rows
def legsF (k i : Int) : List Int := legsR k i rows
def sidesF (k : Int) : Int := if k = 1 then 2 else if k = 2 then 3 else if k = 3 then 4 else 0
def facF (k i : Int) : Bool := decide (k = 2 ∧ i = 0)

theorem outR_yes {k i p a b c d : Int} {l : List (Int × Int × Int × Int)} (h1 : k = a) (h2 : i = b) (h3 : d = 0 ∨ p = d) : outR k i p ((a, b, c, d) :: l) = (c, true) := by
  rw [outR, if_pos ⟨h1, h2, h3⟩]
theorem outR_no {k i p a b c d : Int} {l : List (Int × Int × Int × Int)} (h : ¬ (k = a ∧ i = b ∧ (d = 0 ∨ p = d))) : outR k i p ((a, b, c, d) :: l) = outR k i p l := by
  rw [outR, if_neg h]
theorem needR_yes {k i o a b c d : Int} {l : List (Int × Int × Int × Int)} (h1 : k = a) (h2 : i = b) (h3 : o = c) : needR k i o ((a, b, c, d) :: l) = (d, true) := by
  rw [needR, if_pos ⟨h1, h2, h3⟩]
theorem needR_no {k i o a b c d : Int} {l : List (Int × Int × Int × Int)} (h : ¬ (k = a ∧ i = b ∧ o = c)) : needR k i o ((a, b, c, d) :: l) = needR k i o l := by
  rw [needR, if_neg h]
theorem legsR_yes {k i a b c d : Int} {l : List (Int × Int × Int × Int)} (h1 : k = a) (h2 : i = b) : legsR k i ((a, b, c, d) :: l) = c :: legsR k i l := by
  rw [legsR, if_pos ⟨h1, h2⟩]
theorem legsR_no {k i a b c d : Int} {l : List (Int × Int × Int × Int)} (h : ¬ (k = a ∧ i = b)) : legsR k i ((a, b, c, d) :: l) = legsR k i l := by
  rw [legsR, if_neg h]

/-! Closed forms, kind by kind. -/
theorem kinds (k : Int) : k = 1 ∨ k = 2 ∨ k = 3 ∨ (k ≠ 1 ∧ k ≠ 2 ∧ k ≠ 3) := by omega
theorem ends (x : Int) : x = 0 ∨ x = 1 ∨ x = 2 ∨ x = 3 ∨ (x ≠ 0 ∧ x ≠ 1 ∧ x ≠ 2 ∧ x ≠ 3) := by omega
theorem poss (x : Int) : x = 1 ∨ x = 2 ∨ (x ≠ 1 ∧ x ≠ 2) := by omega

/-- The reference's Need. -/
def needC (k i o : Int) : Int × Bool :=
  if k = 1 ∨ k = 3 then (0, decide ((min i o = 0 ∧ max i o = 1) ∨ (k = 3 ∧ min i o = 2 ∧ max i o = 3)))
  else if k = 2 ∧ min i o = 0 ∧ max i o = 1 then (1, true)
  else if k = 2 ∧ min i o = 0 ∧ max i o = 2 then (2, true)
  else (0, false)
theorem need_none {k i o : Int} (h : k ≠ 1 ∧ k ≠ 2 ∧ k ≠ 3) : needF k i o = (0, false) := by
  simp [needF, needR, rows, h.1, h.2.1, h.2.2]
theorem out_none {k i p : Int} (h : k ≠ 1 ∧ k ≠ 2 ∧ k ≠ 3) : outF k i p = (0, false) := by
  simp [outF, outR, rows, h.1, h.2.1, h.2.2]
theorem legs_none {k i : Int} (h : k ≠ 1 ∧ k ≠ 2 ∧ k ≠ 3) : legsF k i = [] := by
  simp [legsF, legsR, rows, h.1, h.2.1, h.2.2]
theorem need_in {k i o : Int} (h : i ≠ 0 ∧ i ≠ 1 ∧ i ≠ 2 ∧ i ≠ 3) : needF k i o = (0, false) := by
  simp [needF, needR, rows, h.1, h.2.1, h.2.2.1, h.2.2.2]
theorem need_to {k i o : Int} (h : o ≠ 0 ∧ o ≠ 1 ∧ o ≠ 2 ∧ o ≠ 3) : needF k i o = (0, false) := by
  simp [needF, needR, rows, h.1, h.2.1, h.2.2.1, h.2.2.2]
theorem out_in {k i p : Int} (h : i ≠ 0 ∧ i ≠ 1 ∧ i ≠ 2 ∧ i ≠ 3) : outF k i p = (0, false) := by
  simp [outF, outR, rows, h.1, h.2.1, h.2.2.1, h.2.2.2]
theorem legs_in {k i : Int} (h : i ≠ 0 ∧ i ≠ 1 ∧ i ≠ 2 ∧ i ≠ 3) : legsF k i = [] := by
  simp [legsF, legsR, rows, h.1, h.2.1, h.2.2.1, h.2.2.2]
/-- At points, another position than the two. -/
theorem out_pos {i p : Int} (h : p ≠ 1 ∧ p ≠ 2) : outF 2 i p = (0, false) := by
  simp [outF, outR, rows, h.1, h.2]
/-- At tracks and crossings the position does not matter. -/
theorem out_any1 (i p : Int) : outF 1 i p = outF 1 i 0 := by simp [outF, outR, rows]
theorem out_any3 (i p : Int) : outF 3 i p = outF 3 i 0 := by simp [outF, outR, rows]

theorem needC_none {k i o : Int} (h : k ≠ 1 ∧ k ≠ 2 ∧ k ≠ 3) : needC k i o = (0, false) := by
  simp [needC, h.1, h.2.1, h.2.2]
theorem needC_in {k i o : Int} (h : i ≠ 0 ∧ i ≠ 1 ∧ i ≠ 2 ∧ i ≠ 3) : needC k i o = (0, false) := by
  have h1 : ¬ (min i o = 0 ∧ max i o = 1) := by omega
  have h2 : ¬ (min i o = 2 ∧ max i o = 3) := by omega
  have h3 : ¬ (min i o = 0 ∧ max i o = 2) := by omega
  simp [needC, h1, h2, h3]
theorem needC_to {k i o : Int} (h : o ≠ 0 ∧ o ≠ 1 ∧ o ≠ 2 ∧ o ≠ 3) : needC k i o = (0, false) := by
  have h1 : ¬ (min i o = 0 ∧ max i o = 1) := by omega
  have h2 : ¬ (min i o = 2 ∧ max i o = 3) := by omega
  have h3 : ¬ (min i o = 0 ∧ max i o = 2) := by omega
  simp [needC, h1, h2, h3]
theorem needF_eq (k i o : Int) : needF k i o = needC k i o := by
  rcases ends i with rfl | rfl | rfl | rfl | h
  all_goals first
    | (rw [need_in h, needC_in h]; done)
    | (rcases ends o with rfl | rfl | rfl | rfl | h
       all_goals first
         | (rw [need_to h, needC_to h]; done)
         | (rcases kinds k with rfl | rfl | rfl | h
            all_goals first
              | (rw [need_none h, needC_none h]; done)
              | rfl))

/-! What the statements say of these. -/
theorem need_sym (k i o : Int) : needF k i o = needF k o i := by
  rw [needF_eq, needF_eq]
  simp only [needC, Int.min_comm i o, Int.max_comm i o]

theorem fac_len (k i : Int) : decide ((1 : Int) < ((legsF k i).length : Int)) = facF k i := by
  rcases ends i with rfl | rfl | rfl | rfl | h
  all_goals first
    | (rw [legs_in h]; simp [facF, h.1]; done)
    | (rcases kinds k with rfl | rfl | rfl | h
       all_goals first
         | (rw [legs_none h]; simp [facF, h.2.1]; done)
         | rfl)

/-- The reference's Out and Legs: the sides out from o on, n of them. -/
def oR (k i p : Int) : Nat → Nat → Int × Bool
  | _, 0 => (0, false)
  | o, n + 1 => if (needF k i (o : Int)).2 = true ∧ ((needF k i (o : Int)).1 = 0 ∨ (needF k i (o : Int)).1 = p) then ((o : Int), true) else oR k i p (o + 1) n
def lR (k i : Int) : Nat → Nat → List Int
  | _, 0 => []
  | o, n + 1 => if (needF k i (o : Int)).2 = true then (o : Int) :: lR k i (o + 1) n else lR k i (o + 1) n
theorem oR_yes {k i p x : Int} {o n : Nat} (h : needF k i (o : Int) = (x, true)) (hx : x = 0 ∨ x = p) : oR k i p o (n + 1) = ((o : Int), true) := by
  rw [oR, h, if_pos ⟨rfl, hx⟩]
theorem oR_no {k i p x : Int} {o n : Nat} (h : needF k i (o : Int) = (x, true)) (hx : ¬ (x = 0 ∨ x = p)) : oR k i p o (n + 1) = oR k i p (o + 1) n := by
  rw [oR, h, if_neg (fun e => hx e.2)]
theorem oR_none {k i p x : Int} {o n : Nat} (h : needF k i (o : Int) = (x, false)) : oR k i p o (n + 1) = oR k i p (o + 1) n := by
  rw [oR, h, if_neg (by simp)]
theorem lR_yes {k i x : Int} {o n : Nat} (h : needF k i (o : Int) = (x, true)) : lR k i o (n + 1) = (o : Int) :: lR k i (o + 1) n := by
  rw [lR, h, if_pos rfl]
theorem lR_no {k i x : Int} {o n : Nat} (h : needF k i (o : Int) = (x, false)) : lR k i o (n + 1) = lR k i (o + 1) n := by
  rw [lR, h, if_neg (by simp)]
theorem oR_eq (k i p : Int) : oR k i p 0 4 = outF k i p := by
  rcases ends i with rfl | rfl | rfl | rfl | h
  all_goals first
    | (rw [out_in h]; simp [oR, need_in h]; done)
    | (rcases kinds k with rfl | rfl | rfl | h
       all_goals first
         | (rw [out_none h]; simp [oR, need_none h]; done)
         | (rw [out_any1]; rfl)
         | (rw [out_any3]; rfl)
         | (rcases poss p with rfl | rfl | h
            all_goals first
              | rfl
              | (rw [out_pos h]
                 have h1 : ¬ (1 = p) := by omega
                 have h2 : ¬ (2 = p) := by omega
                 simp [oR, needF, needR, rows, h1, h2])))
theorem lR_eq (k i : Int) : lR k i 0 4 = legsF k i := by
  rcases ends i with rfl | rfl | rfl | rfl | h
  all_goals first
    | (rw [legs_in h]; simp [lR, need_in h]; done)
    | (rcases kinds k with rfl | rfl | rfl | h
       all_goals first
         | (rw [legs_none h]; simp [lR, need_none h]; done)
         | rfl)

/-- What the statements say of passages: the way back, in the same position. -/
theorem out_back (k i p : Int) (h : (outF k i p).2 = true) : outF k (outF k i p).1 p = (i, true) := by
  revert h
  rcases ends i with rfl | rfl | rfl | rfl | h
  all_goals first
    | (rw [out_in h]; intro h; cases h; done)
    | (rcases kinds k with rfl | rfl | rfl | h
       all_goals first
         | (rw [out_none h]; intro h; cases h; done)
         | (rw [out_any1, out_any1 _ p]; decide)
         | (rw [out_any3, out_any3 _ p]; decide)
         | (rcases poss p with rfl | rfl | h
            all_goals first
              | decide
              | (rw [out_pos h]; intro h; cases h; done)))
/-- Where a passage leads. -/
theorem out_range (k i p : Int) (h : (outF k i p).2 = true) : (outF k i p).1 ≠ i ∧ 0 ≤ (outF k i p).1 ∧ (outF k i p).1 < sidesF k := by
  revert h
  rcases ends i with rfl | rfl | rfl | rfl | h
  all_goals first
    | (rw [out_in h]; intro h; cases h; done)
    | (rcases kinds k with rfl | rfl | rfl | h
       all_goals first
         | (rw [out_none h]; intro h; cases h; done)
         | (rw [out_any1]; decide)
         | (rw [out_any3]; decide)
         | (rcases poss p with rfl | rfl | h
            all_goals first
              | decide
              | (rw [out_pos h]; intro h; cases h; done)))
/-- A passage is possible in a position exactly if it needs this position, or none. -/
theorem out_need (k i o p : Int) : ((outF k i p).2 = true ∧ (outF k i p).1 = o) ↔ ((needF k i o).2 = true ∧ ((needF k i o).1 = 0 ∨ (needF k i o).1 = p)) := by
  rcases ends i with rfl | rfl | rfl | rfl | h
  all_goals first
    | (rw [out_in h, need_in h]; simp; done)
    | (rcases ends o with rfl | rfl | rfl | rfl | h
       all_goals
         rcases kinds k with rfl | rfl | rfl | h2
         all_goals first
           | (rw [out_none h2, need_none h2]; simp; done)
           | (rw [out_any1]; simp [outF, needF, outR, needR, rows]; done)
           | (rw [out_any3]; simp [outF, needF, outR, needR, rows]; done)
           | (rw [out_any1, need_to h]; simp [outF, outR, rows]; omega)
           | (rw [out_any3, need_to h]; simp [outF, outR, rows]; omega)
           | (rcases poss p with rfl | rfl | h3
              all_goals first
                | (simp [outF, needF, outR, needR, rows]; done)
                | (rw [need_to h]; simp [outF, outR, rows]; done)
                | (rw [need_to h]; simp [outF, outR, rows]; omega)
                | (rw [need_to h, out_pos h3]; simp; done)
                | (have h4 : ¬ (1 = p) := by omega
                   have h5 : ¬ (2 = p) := by omega
                   rw [out_pos h3]; simp [needF, needR, rows, h4, h5]; done)))
/-- Two different sides never lead to the same side. -/
theorem out_apart (k i o p : Int) (h1 : (outF k i p).2 = true) (h2 : (outF k o p).2 = true) (h : (outF k i p).1 = (outF k o p).1) : i = o := by
  have a := out_back k i p h1
  have b := out_back k o p h2
  rw [h, b] at a
  exact (congrArg Prod.fst a).symm
/-- The legs are the sides for which there is a passage. -/
theorem mem_legs (k i o : Int) : o ∈ legsF k i ↔ (needF k i o).2 = true := by
  rcases ends i with rfl | rfl | rfl | rfl | h
  all_goals first
    | (rw [legs_in h, need_in h]; simp; done)
    | (rcases kinds k with rfl | rfl | rfl | h
       all_goals first
         | (rw [legs_none h, need_none h]; simp; done)
         | (rcases ends o with rfl | rfl | rfl | rfl | h
            all_goals first
              | decide
              | (rw [need_to h]; simp [legsF, legsR, rows]; done)
              | (rw [need_to h]; simp [legsF, legsR, rows]; omega)))
theorem legs_len (k i : Int) : (legsF k i).length = if i < 0 ∨ sidesF k ≤ i then 0 else if facF k i = true then 2 else 1 := by
  rcases kinds k with rfl | rfl | rfl | h
  all_goals first
    | (rw [legs_none h]; simp [sidesF, h.1, h.2.1, h.2.2]; done)
    | (rw [legs_none h]; simp [sidesF, h.1, h.2.1, h.2.2]; omega)
    | (rcases ends i with rfl | rfl | rfl | rfl | h
       all_goals first
         | rfl
         | (rw [legs_in h]; simp [sidesF, facF]; done)
         | (rw [legs_in h]; simp [sidesF, facF]; omega))

end Go.Proofs.YtjhimekojiegjaaDoor.Rail

/- Ways over a layout: plain. -/
namespace Go.Proofs.YtjhimekojiegjaaDoor.Way
open Go.Proofs.YtjhimekojiegjaaDoor.Rail (needF legsF)
open Go.Proofs.YtjhimekojiegjaaDoor.Lay Go.Proofs.YtjhimekojiegjaaDoor.Layf

/-- A step: its element, the side where it enters, the side where it leaves. -/
abbrev Stp := Int × (Int × Int)
def stCells (s : Stp) : List Value := [.int .i64 s.1, .int .i64 s.2.1, .int .i64 s.2.2]
def stWf (s : Stp) : Prop := Lay.Wf s.1 ∧ Lay.Wf s.2.1 ∧ Lay.Wf s.2.2
def stV (s : Stp) : Value := .agg #[.int .i64 s.1, .int .i64 s.2.1, .int .i64 s.2.2]

def inB (els : List Elem) (e : Int) : Bool := decide (0 ≤ e) && decide (e < (els.length : Int))
def elOf (els : List Elem) (e : Int) : Option Elem := if 0 ≤ e then els[e.toNat]? else none
theorem el_none {els : List Elem} {e : Int} (h : inB els e = false) : elOf els e = none := by
  unfold elOf
  split
  · rename_i h0
    simp only [inB, h0, decide_true, Bool.true_and, decide_eq_false_iff_not] at h
    exact List.getElem?_eq_none (by omega)
  · rfl
theorem el_some {els : List Elem} {e : Int} (h : inB els e = true) : ∃ (i : Nat) (x : Elem), e = (i : Int) ∧ i < els.length ∧ els[i]? = some x ∧ elOf els e = some x := by
  simp only [inB, Bool.and_eq_true, decide_eq_true_eq] at h
  obtain ⟨h0, h1⟩ := h
  obtain ⟨i, rfl⟩ := Int.eq_ofNat_of_zero_le h0
  have hi : i < els.length := by omega
  refine ⟨i, els[i], rfl, hi, List.getElem?_eq_getElem hi, ?_⟩
  rw [elOf, if_pos h0]
  simp

def needS (els : List Elem) (s : Stp) : Int × Bool :=
  match elOf els s.1 with
  | none => (0, false)
  | some x => needF x.kind s.2.1 s.2.2
theorem need_none {els : List Elem} {s : Stp} (h : inB els s.1 = false) : needS els s = (0, false) := by rw [needS, el_none h]
theorem need_some {els : List Elem} {s : Stp} {x : Elem} (h : elOf els s.1 = some x) : needS els s = needF x.kind s.2.1 s.2.2 := by rw [needS, h]
def nextS (L : Lay) (s : Stp) : (Int × Int) × Bool := joinedF L (s.1, s.2.2)
def branchesF (L : Lay) (p : Int × Int) : List Stp :=
  match elOf L.els p.1 with
  | none => []
  | some x => (legsF x.kind p.2).map fun o => (p.1, p.2, o)
theorem branches_none {L : Lay} {p : Int × Int} (h : inB L.els p.1 = false) : branchesF L p = [] := by rw [branchesF, el_none h]
theorem branches_some {L : Lay} {p : Int × Int} {x : Elem} (h : elOf L.els p.1 = some x) : branchesF L p = (legsF x.kind p.2).map fun o => (p.1, p.2, o) := by rw [branchesF, h]

def lenS (els : List Elem) (s : Stp) : Int :=
  match elOf els s.1 with
  | none => 0
  | some x => x.len
/-- The length so far, and the rest of the way. -/
def lenR (els : List Elem) (n : Int) : List Stp → Int
  | [] => n
  | s :: r => lenR els (n + lenS els s) r
def lengthF (els : List Elem) (way : List Stp) : Int := lenR els 0 way
theorem len_none {els : List Elem} {s : Stp} (h : inB els s.1 = false) : lenS els s = 0 := by rw [lenS, el_none h]
theorem len_some {els : List Elem} {s : Stp} {x : Elem} (h : elOf els s.1 = some x) : lenS els s = x.len := by rw [lenS, h]

/-- The sections so far, and the rest of the way. -/
def secR (els : List Elem) (acc : List Int) : List Stp → List Int
  | [] => acc
  | s :: r => match elOf els s.1 with
    | none => secR els acc r
    | some x => if acc.contains x.sec then secR els acc r else secR els (acc ++ [x.sec]) r
def sectionsF (els : List Elem) (way : List Stp) : List Int := secR els [] way

/-- A setting: its element and its position. -/
def lessB (a b : Int × Int) : Bool := decide (a.1 < b.1) || (decide (a.1 = b.1) && decide (a.2 < b.2))
def insertF (l : List (Int × Int)) (s : Int × Int) : List (Int × Int) :=
  match l with
  | [] => [s]
  | x :: r => if lessB x s then x :: insertF r s else if x = s then x :: r else s :: x :: r
def setR (els : List Elem) (acc : List (Int × Int)) : List Stp → List (Int × Int)
  | [] => acc
  | s :: r => if (needS els s).2 = true ∧ (needS els s).1 ≠ 0 then setR els (insertF acc (s.1, (needS els s).1)) r else setR els acc r
def settingsF (els : List Elem) (way : List Stp) : List (Int × Int) := setR els [] way

def turned (s : Stp) : Stp := (s.1, s.2.2, s.2.1)
def reverseF (way : List Stp) : List Stp := (way.map turned).reverse

/-- Whether a step goes on behind these. -/
def goesB (L : Lay) (bef : List Stp) (s : Stp) : Bool :=
  (needS L.els s).2 && ((match bef.getLast? with | none => true | some p => decide (nextS L p = ((s.1, s.2.1), true))) && bef.all fun p => decide (p.1 ≠ s.1))
def goesR (L : Lay) (bef : List Stp) : List Stp → Bool
  | [] => true
  | s :: r => goesB L bef s && goesR L (bef ++ [s]) r
def validF (L : Lay) (way : List Stp) : Bool := decide (1 ≤ way.length ∧ way.length ≤ 64) && goesR L [] way

end Go.Proofs.YtjhimekojiegjaaDoor.Way

/- Arguments opened: a way, a step, an end; a layout whose joints are within the reach. -/
namespace Go.Proofs.YtjhimekojiegjaaDoor.Wopn
open Go.ChangeShapes Go.WideShapes Go.Deep Go.Proofs.YtjhimekojiegjaaDoor.Text Go.Proofs.YtjhimekojiegjaaDoor.Rows2 Go.Proofs.YtjhimekojiegjaaDoor.Lay Go.Proofs.YtjhimekojiegjaaDoor.Lnam Go.Proofs.YtjhimekojiegjaaDoor.Lext Go.Proofs.YtjhimekojiegjaaDoor.Lopen Go.Proofs.YtjhimekojiegjaaDoor.Way

section
variable {H : Type} {enc : TypeId × Value → H} {w : World} {base : Nat} {held : Bool}

theorem step_of {fuel : Nat} {l : List Value} {x : DataW H × List MemPlace} (h : DataW.trod enc Tryd.prog w base (fun _ => true) held fuel 30 l = some x) : ∃ s : Stp, l = stCells s ∧ stWf s := by
  obtain ⟨xs, n, _, _, hlen, hxl, hg⟩ := DataW.trod_struct Tryd.underlying30 h
  rw [show Tryd.prog.cellsOf 30 = 3 by kernel_rfl] at hlen
  obtain ⟨v0, v1, v2, rfl⟩ := len3 hlen
  obtain ⟨x0, x1, x2, rfl⟩ := len3 (show xs.length = 3 from hxl)
  have g0 : DataW.trod enc Tryd.prog w base (fun _ => true) held n 3 (([v0, v1, v2].drop 0).take (Tryd.prog.cellsOf 3)) = some x0 := hg 0 _ rfl
  have g1 : DataW.trod enc Tryd.prog w base (fun _ => true) held n 3 (([v0, v1, v2].drop 1).take (Tryd.prog.cellsOf 3)) = some x1 := hg 1 _ rfl
  have g2 : DataW.trod enc Tryd.prog w base (fun _ => true) held n 3 (([v0, v1, v2].drop 2).take (Tryd.prog.cellsOf 3)) = some x2 := hg 2 _ rfl
  rw [cI] at g0 g1 g2
  obtain ⟨a, ha, wha⟩ := one_int g0
  obtain ⟨b, hb, whb⟩ := one_int g1
  obtain ⟨c, hc, whc⟩ := one_int g2
  simp only [List.drop_zero, List.take_succ_cons, List.take_zero, List.drop_succ_cons, List.cons.injEq, and_true] at ha hb hc
  exact ⟨(a, b, c), by rw [ha, hb, hc]; rfl, wha, whb, whc⟩

set_option maxRecDepth 100000 in
theorem open_step {v : Value} {d : DataW H} {p : List MemPlace} {b0 : Nat} {r : Reach} (hv : Value.okWide Tryd.prog w r b0 30 v) (h : DataW.Trod enc Tryd.prog w base (fun _ => true) held 30 v d p) : ∃ s : Stp, v = stV s ∧ stWf s := by
  obtain ⟨⟨cs⟩, rfl, hsz⟩ := okWide_struct Tryd.underlying30 hv
  obtain ⟨fuel, hf⟩ := h
  obtain ⟨s, hs, hw⟩ := step_of hf
  have hs2 : cs = stCells s := hs
  subst hs2
  exact ⟨s, rfl, hw⟩
set_option maxRecDepth 100000 in
theorem open_end {v : Value} {d : DataW H} {p : List MemPlace} {b0 : Nat} {r : Reach} (hv : Value.okWide Tryd.prog w r b0 32 v) (h : DataW.Trod enc Tryd.prog w base (fun _ => true) held 32 v d p) : ∃ s : Int × Int, v = pV s ∧ pWf s := by
  obtain ⟨⟨cs⟩, rfl, hsz⟩ := okWide_struct Tryd.underlying32 hv
  obtain ⟨fuel, hf⟩ := h
  obtain ⟨s, hs, hw⟩ := end_of hf
  have hs2 : cs = pCells s := hs
  subst hs2
  exact ⟨s, rfl, hw⟩
set_option maxRecDepth 100000 in
theorem open_way {v : Value} {d : DataW H} {p : List MemPlace} {b0 : Nat} {r : Reach} (hv : Value.okWide Tryd.prog w r b0 38 v) (h : DataW.Trod enc Tryd.prog w base (fun _ => true) held 38 v d p) : ∃ l : List Stp, Grid (In w) w v 3 (l.map stCells) := by
  obtain ⟨fuel, hf⟩ := h
  obtain ⟨b, len, cap, rfl⟩ := okWide_slice Tryd.underlying38 hv
  obtain ⟨l, hl, _, _⟩ := open_rows (0, 0, 0) stCells stWf Tryd.underlying38 (by kernel_rfl) (by decide : 0 < 3) (fun _ => rfl) (fun _ _ _ h => step_of h) hf
  exact ⟨l, hl⟩

/-- A slice that is within the reach. -/
theorem len_rows {P : Program} {t e : TypeId} {fuel : Nat} {c : Value} {x : DataW H × List MemPlace} (ht : P.underlying t = some (.slice e)) (hw : ∀ k ∈ x.1.weights P t, k ≤ reachBytes)
    (h : DataW.trod enc P w base (fun _ => true) held fuel t [c] = some x) : ∃ a n cap, c = .slice a n cap ∧ n * P.bytesOf e ≤ reachBytes := by
  rcases open_slice ht h with ⟨h1, _⟩ | ⟨a, len, cap, m, n, D, Pl, h1, _, _, _, _, hx, _⟩
  · simp only [List.cons.injEq, and_true] at h1
    subst h1
    exact ⟨none, 0, 0, rfl, by simp⟩
  · simp only [List.cons.injEq, and_true] at h1
    subst h1
    refine ⟨some a, len, cap, rfl, ?_⟩
    have := hw ((((List.range len).map D).length + ((List.range (m - len)).map fun j => D (len + j)).length) * P.bytesOf e) (by
      rw [hx]
      simp [DataW.weights, ht])
    refine Nat.le_trans (Nat.mul_le_mul_right _ ?_) this
    simp

set_option maxRecDepth 100000 in
/-- The whole layout, whose joints are within the reach. -/
theorem open_layout2 {v : Value} {d : DataW H} {p : List MemPlace} {b0 : Nat} {r : Reach} (hv : Value.okWide Tryd.prog w r b0 28 v) (h : DataW.Trod enc Tryd.prog w base (fun _ => true) held 28 v d p) (hw : ∀ k ∈ d.weights Tryd.prog 28, k ≤ reachBytes) :
    ∃ (L : Lay) (vs ve vj vg vb : Value), v = layV L vs ve vj vg vb ∧ LayAt (In w) w L vs ve vj vg vb ∧ L.joints.length ≤ 4398046510976 := by
  obtain ⟨L, vs, ve, vj, vg, vb, rfl, hl⟩ := open_layout hv h
  refine ⟨L, vs, ve, vj, vg, vb, rfl, hl, ?_⟩
  obtain ⟨fuel, hf⟩ := h
  obtain ⟨xs, n, _, hx, hlen, hxl, hg⟩ := DataW.trod_struct Tryd.underlying28 hf
  match xs, (show xs.length = 6 from hxl) with
  | [x0, x1, x2, x3, x4, x5], _ =>
    have g3 : DataW.trod enc Tryd.prog w base (fun _ => true) held n 24 (((layV L vs ve vj vg vb).cells.toList.drop 3).take (Tryd.prog.cellsOf 24)) = some x3 := hg 3 _ rfl
    rw [show Tryd.prog.cellsOf 24 = 1 by kernel_rfl] at g3
    have g4 : DataW.trod enc Tryd.prog w base (fun _ => true) held n 24 [vj] = some x3 := g3
    obtain ⟨a, m, cap, hvj, hm⟩ := len_rows Tryd.underlying24 (fun k hk => hw k (by
      have hd : d = .agg ([x0, x1, x2, x3, x4, x5].map (·.1)) := congrArg Prod.fst hx
      rw [hd]
      simp only [DataW.weights, Tryd.underlying28]
      exact DataW.weights_mem_each (j := 3) (t := 24) (d := x3.1) rfl rfl k hk)) g4
    obtain ⟨a2, cap2, hvj2, _, _⟩ := hl.jt
    rw [hvj2] at hvj
    simp only [Value.slice.injEq] at hvj
    rw [← hvj.2.1, show Tryd.prog.bytesOf 79 = 32 by kernel_rfl] at hm
    simp [reachBytes] at hm
    omega
end

end Go.Proofs.YtjhimekojiegjaaDoor.Wopn

/- The table of passages as the program's variable holds it. -/
namespace Go.Proofs.YtjhimekojiegjaaDoor.Rtab
open Go.RowKit Go.Proofs.YtjhimekojiegjaaDoor.Rail

/-- The cells of the variable. -/
def cells : Array Value := #[.int .i64 1, .int .i64 0, .int .i64 1, .int .i64 0, .int .i64 1, .int .i64 1, .int .i64 0, .int .i64 0, .int .i64 2, .int .i64 0, .int .i64 1, .int .i64 1, .int .i64 2, .int .i64 0, .int .i64 2, .int .i64 2, .int .i64 2, .int .i64 1, .int .i64 0, .int .i64 1, .int .i64 2, .int .i64 2, .int .i64 0, .int .i64 2, .int .i64 3, .int .i64 0, .int .i64 1, .int .i64 0, .int .i64 3, .int .i64 1, .int .i64 0, .int .i64 0, .int .i64 3, .int .i64 2, .int .i64 3, .int .i64 0, .int .i64 3, .int .i64 3, .int .i64 2, .int .i64 0]
def RTab (w : World) : Prop := ∃ t fr, w.heap[0]? = some (.cells cells t fr)
theorem rtab_lt {w : World} (h : RTab w) : 0 < w.heap.size := by
  obtain ⟨t, fr, h⟩ := h
  exact (Array.getElem?_eq_some_iff.1 h).1
theorem rtab_next {w w' : World} (h : RTab w) (hb : Below w.heap.size w w') : RTab w' := by
  have hl := rtab_lt h
  obtain ⟨t, fr, h⟩ := h
  exact ⟨t, fr, (hb.block _ hl).trans h⟩
theorem bel_next {w W w' : World} (h : Below w.heap.size w W) (hb : Below W.heap.size W w') : Below w.heap.size w w' := h.trans (hb.mono h.size)

def rowV (j : Nat) : Value := .agg #[.int .i64 (row j).1, .int .i64 (row j).2.1, .int .i64 (row j).2.2.1, .int .i64 (row j).2.2.2]
set_option maxRecDepth 100000 in
theorem idx_any {j : Nat} (h : j < 10) (w : World) : (Instr.index 82 (.agg cells) (.int .i64 (j : Int))).run Tryd.prog w = .ok (rowV j) w := by
  rcases (by omega : j = 0 ∨ j = 1 ∨ j = 2 ∨ j = 3 ∨ j = 4 ∨ j = 5 ∨ j = 6 ∨ j = 7 ∨ j = 8 ∨ j = 9) with rfl | rfl | rfl | rfl | rfl | rfl | rfl | rfl | rfl | rfl
  all_goals kernel_rfl

end Go.Proofs.YtjhimekojiegjaaDoor.Rtab

/- What the listed variable gives: the table of passages; and a heap that holds it. -/
namespace Go.Proofs.YtjhimekojiegjaaDoor.Laidr
open Go.ChangeShapes Go.WideShapes Go.ChangeAt
open Go.RowKit Go.Proofs.YtjhimekojiegjaaDoor.Rtab

section
variable {H : Type} {enc : TypeId × Value → H} {W : World} {base : Nat} {sp : Nat → Bool} {held : Bool}
theorem one_int {fuel : Nat} {l : List Value} {x : DataW H × List MemPlace} {z : Int} (h : DataW.trod enc Tryd.prog W base sp held fuel 3 l = some x) (hx : x.1 = .lit (.int .i64 z)) : l = [.int .i64 z] := by
  obtain ⟨n, e1, e2, _⟩ := DataW.trod_int Tryd.underlying3 h
  subst e2
  simp only [DataW.lit.injEq, Lit.int.injEq, true_and] at hx
  rw [e1, hx]
theorem four {α : Type} {l : List α} (h : l.length = 4) : ∃ a b c d, l = [a, b, c, d] := by
  match l, h with
  | [a, b, c, d], _ => exact ⟨a, b, c, d, rfl⟩

set_option maxRecDepth 100000 in
theorem row_of {fuel : Nat} {l : List Value} {a b c d : Int} {q : List MemPlace} (h : DataW.trod enc Tryd.prog W base sp held fuel 81 l = some (.agg [.lit (.int .i64 a), .lit (.int .i64 b), .lit (.int .i64 c), .lit (.int .i64 d)], q)) :
    l = [.int .i64 a, .int .i64 b, .int .i64 c, .int .i64 d] := by
  obtain ⟨xs, n, _, hx, hlen, hxl, hg⟩ := DataW.trod_struct Tryd.underlying81 h
  have hc4 : Tryd.prog.cellsOf 81 = 4 := by kernel_rfl
  have hc1 : Tryd.prog.cellsOf 3 = 1 := by kernel_rfl
  rw [hc4] at hlen
  obtain ⟨v0, v1, v2, v3, rfl⟩ := four hlen
  have hxs : xs.length = 4 := hxl
  obtain ⟨x0, x1, x2, x3, rfl⟩ := four hxs
  simp only [Prod.mk.injEq, DataW.agg.injEq, List.map_cons, List.map_nil, List.cons.injEq, and_true] at hx
  obtain ⟨⟨e0, e1, e2, e3⟩, _⟩ := hx
  have g0 : DataW.trod enc Tryd.prog W base sp held n 3 (([v0, v1, v2, v3].drop 0).take (Tryd.prog.cellsOf 3)) = some x0 := hg 0 _ rfl
  have g1 : DataW.trod enc Tryd.prog W base sp held n 3 (([v0, v1, v2, v3].drop 1).take (Tryd.prog.cellsOf 3)) = some x1 := hg 1 _ rfl
  have g2 : DataW.trod enc Tryd.prog W base sp held n 3 (([v0, v1, v2, v3].drop 2).take (Tryd.prog.cellsOf 3)) = some x2 := hg 2 _ rfl
  have g3 : DataW.trod enc Tryd.prog W base sp held n 3 (([v0, v1, v2, v3].drop 3).take (Tryd.prog.cellsOf 3)) = some x3 := hg 3 _ rfl
  rw [hc1] at g0 g1 g2 g3
  have r0 := one_int g0 e0.symm
  have r1 := one_int g1 e1.symm
  have r2 := one_int g2 e2.symm
  have r3 := one_int g3 e3.symm
  simp only [List.drop_zero, List.take_succ_cons, List.take_zero, List.drop_succ_cons, List.cons.injEq, and_true] at r0 r1 r2 r3
  rw [r0, r1, r2, r3]
theorem split4 {l : List Value} {n : Nat} {x : List Value} (h : (l.drop n).take 4 = x) : l.drop n = x ++ l.drop (n + 4) := by
  rw [← h, ← List.drop_drop, List.take_append_drop]

set_option maxRecDepth 100000 in
theorem cells_of {fuel : Nat} {l : List Value} {q : List MemPlace} (h : DataW.trod enc Tryd.prog W base sp held fuel 82 l = some (Rows.laid_signalling_rail_passages, q)) : l = cells.toList := by
  obtain ⟨xs, m, _, hx, hlen, hn, hel⟩ := DataW.trod_array Tryd.underlying82 h
  have hc4 : Tryd.prog.cellsOf 81 = 4 := by kernel_rfl
  have hc40 : Tryd.prog.cellsOf 82 = 40 := by kernel_rfl
  rw [hc4] at hel
  rw [hc40] at hlen
  unfold Rows.laid_signalling_rail_passages at hx
  simp only [Prod.mk.injEq, DataW.agg.injEq] at hx
  have hm := hx.1
  have at_ : ∀ (i : Nat) (a b c d : Int), (xs.map (·.1))[i]? = some (.agg [.lit (.int .i64 a), .lit (.int .i64 b), .lit (.int .i64 c), .lit (.int .i64 d)]) → i < 10 → (l.drop (i * 4)).take 4 = [.int .i64 a, .int .i64 b, .int .i64 c, .int .i64 d] := by
    intro i a b c d hi hi10
    rw [List.getElem?_map, Option.map_eq_some_iff] at hi
    obtain ⟨⟨x, qx⟩, hxi, hxe⟩ := hi
    simp only at hxe
    subst hxe
    exact row_of ((hel i hi10).trans hxi)
  rw [← hm] at at_
  have s0 := split4 (at_ 0 _ _ _ _ rfl (by decide))
  have s1 := split4 (at_ 1 _ _ _ _ rfl (by decide))
  have s2 := split4 (at_ 2 _ _ _ _ rfl (by decide))
  have s3 := split4 (at_ 3 _ _ _ _ rfl (by decide))
  have s4 := split4 (at_ 4 _ _ _ _ rfl (by decide))
  have s5 := split4 (at_ 5 _ _ _ _ rfl (by decide))
  have s6 := split4 (at_ 6 _ _ _ _ rfl (by decide))
  have s7 := split4 (at_ 7 _ _ _ _ rfl (by decide))
  have s8 := split4 (at_ 8 _ _ _ _ rfl (by decide))
  have s9 := split4 (at_ 9 _ _ _ _ rfl (by decide))
  have s10 : l.drop 40 = [] := List.drop_eq_nil_of_le (by omega)
  simp only [Nat.zero_mul, Nat.one_mul, Nat.reduceMul, Nat.reduceAdd, List.drop_zero] at s0 s1 s2 s3 s4 s5 s6 s7 s8 s9
  rw [s0, s1, s2, s3, s4, s5, s6, s7, s8, s9, s10]
  rfl
end

theorem gTab : Tryd.prog.globalNamed "signalling/rail.passages" = some 0 := by kernel_rfl
theorem tTab : (Tryd.prog.globals[0]?).map (·.type) = some 82 := by kernel_rfl

/-- The table stands first on the list. -/
theorem rtab_of_head {W : World} {rest : List (String × DataW Unit)} (h : laidMet Tryd.prog (("signalling/rail.passages", Rows.laid_signalling_rail_passages) :: rest) W) : RTab W := by
  obtain ⟨ps, ⟨g', t', cs, fuel, p, q, hg', ht', hvar, hd, _, _⟩, _⟩ := h
  obtain rfl := Option.some.inj (gTab.symm.trans hg')
  obtain rfl := Option.some.inj (tTab.symm.trans ht')
  have hcs := cells_of hd
  have hcs2 : cs = cells := Array.toList_inj.1 hcs
  subst hcs2
  unfold World.var? at hvar
  rw [gTab] at hvar
  simp only [Option.bind_some] at hvar
  unfold RTab
  split at hvar
  · rename_i cs' t fr he
    exact ⟨t, fr, by rw [he, Option.some.inj hvar]⟩
  · cases hvar

def laid1 : List (String × DataW Unit) := [("signalling/rail.passages", Rows.laid_signalling_rail_passages)]
set_option maxRecDepth 100000 in
/-- The door's own heap meets the condition: three closed facts. -/
theorem door_met (os : Os) (args : Array Value) : laidMetH Tryd.prog laid1 ((World.doorLaid Tryd.prog 4000 os).forCall (fun _ _ => 0) ⟨#[], args, []⟩).memory :=
  laidMetH_of_parts3 (fuel := 8) (laidMet_of_run' 8 (by kernel_rfl) (by kernel_rfl)) (by kernel_rfl) (by kernel_rfl)

set_option maxRecDepth 100000 in
theorem of_laid {W : World} (h : laidMetH Tryd.prog laid1 W) : RTab W := by
  rw [MakeChecks.laidMetH_plain _ _ _ (by kernel_rfl)] at h
  exact rtab_of_head h

end Go.Proofs.YtjhimekojiegjaaDoor.Laidr

/- The kinds of characters: what they say, with no call (cut from XKindn, for programs that hold no function of words). -/
namespace Go.Proofs.YtjhimekojiegjaaDoor.Kindn
open Go.RowKit Go.Lib Go.Proofs.YtjhimekojiegjaaDoor.Text Go.Proofs.YtjhimekojiegjaaDoor.Numt

/-- The call answers a Bool and leaves the world as it was but for new memory. -/
def BoolOut (b : Bool) (w : World) (e : Ending) (w' : World) : Prop := e = .returned (.bool b) ∧ Below w.heap.size w w'

def pWord (c : Int) : Bool := decide (33 ≤ c) && decide (c ≤ 126)
def pDigit (c : Int) : Bool := decide (48 ≤ c) && decide (c ≤ 57)
def pLetter (c : Int) : Bool := decide (97 ≤ c) && decide (c ≤ 122)
def pName (c : Int) : Bool := (pLetter c || pDigit c) || decide (c = 95)

theorem drop_at (s : ByteArray) (pos : Nat) (h : pos < s.size) : s.data.toList.drop pos = s[pos]'h :: s.data.toList.drop (pos + 1) := by
  have h2 : pos < s.data.toList.length := by simpa using h
  rw [List.drop_eq_getElem_cons h2]
  rfl
end Go.Proofs.YtjhimekojiegjaaDoor.Kindn

/- A name, part by part (cut from XNamew). -/
namespace Go.Proofs.YtjhimekojiegjaaDoor.Namew
open Go.RowKit Go.Lib Go.Proofs.YtjhimekojiegjaaDoor.Text Go.Proofs.YtjhimekojiegjaaDoor.Numt Go.Proofs.YtjhimekojiegjaaDoor.Kindn

theorem name_split (l : (List UInt8)) : nameL l = (decide (l ≠ []) && decide (l.length ≤ 12) && (match l with | [] => false | b :: _ => isLet b) && l.all inName) := rfl
end Go.Proofs.YtjhimekojiegjaaDoor.Namew

/- The call of the reference's Name alone (of XRword what it needs). -/
namespace Go.Proofs.YtjhimekojiegjaaDoor.Rname
open Go.RowKit Go.Lib Go.Proofs.YtjhimekojiegjaaDoor.Text Go.Proofs.YtjhimekojiegjaaDoor.Numt Go.Proofs.YtjhimekojiegjaaDoor.Kindn Go.Proofs.YtjhimekojiegjaaDoor.Namew

theorem drop_end {s : ByteArray} {k : Nat} (h : ¬ k < s.size) : s.data.toList.drop k = [] := by
  have h2 : s.data.toList.length ≤ k := by rw [← Lib.size_eq]; omega
  exact List.drop_eq_nil_of_le h2
theorem all_step {p : UInt8 → Bool} {s : ByteArray} {k : Nat} (h : k < s.size) : (s.data.toList.drop k).all p = (p (s[k]'h) && (s.data.toList.drop (k + 1)).all p) := by
  rw [drop_at s k h, List.all_cons]
theorem isDig_of {b : UInt8} (h1 : ¬ b.toNat < 48) (h2 : ¬ 57 < b.toNat) : isDig b = true := by simp [isDig]; omega
theorem isDig_no {b : UInt8} (h : b.toNat < 48 ∨ 57 < b.toNat) : isDig b = false := by simp [isDig]; omega
theorem let_of {b : UInt8} (h1 : 97 ≤ b.toNat) (h2 : b.toNat ≤ 122) : isLet b = true := by simp [isLet]; omega
theorem let_no {b : UInt8} (h : ¬ (97 ≤ b.toNat ∧ b.toNat ≤ 122)) : isLet b = false := by simp [isLet]; omega
theorem name_let {b : UInt8} (h : isLet b = true) : inName b = true := by rw [inName, h, Bool.true_or, Bool.true_or]
theorem name_dig {b : UInt8} (h : 48 ≤ b.toNat ∧ b.toNat ≤ 57 ∨ b.toNat = 95) : inName b = true := by
  unfold inName isDig
  rcases h with h | h
  · simp [h.1, h.2]
  · simp [h]
theorem name_no {b : UInt8} (h1 : ¬ (97 ≤ b.toNat ∧ b.toNat ≤ 122)) (h2 : ¬ (48 ≤ b.toNat ∧ b.toNat ≤ 57)) (h3 : b.toNat ≠ 95) : inName b = false := by
  rw [inName, let_no h1]
  unfold isDig
  simp [h3]
  omega
/-- What is still to be looked at from place k on. -/
def restN (s : ByteArray) (k : Nat) : Bool := if k = 0 then (match s.data.toList with | [] => true | b :: r => isLet b && r.all inName) else (s.data.toList.drop k).all inName
theorem restN_end {s : ByteArray} {k : Nat} (h : ¬ k < s.size) : restN s k = true := by
  unfold restN
  split
  · rename_i h0
    have := drop_end h
    rw [h0, List.drop_zero] at this
    rw [this]
  · rw [drop_end h]; rfl
theorem restN_step {s : ByteArray} {k : Nat} (h : k < s.size) : restN s k = ((if k = 0 then isLet (s[k]'h) else inName (s[k]'h)) && restN s (k + 1)) := by
  unfold restN
  by_cases h0 : k = 0
  · subst h0
    have := drop_at s 0 h
    rw [List.drop_zero] at this
    rw [if_pos rfl, if_pos rfl, if_neg (by omega)]
    rw [this]
    rfl
  · rw [if_neg h0, if_neg h0, if_neg (by omega), all_step h]
theorem name_at (s : ByteArray) : nameL s.data.toList = (decide (1 ≤ s.size) && decide (s.size ≤ 12) && restN s 0) := by
  have hsz : s.size = s.data.toList.length := Lib.size_eq s
  rw [name_split, hsz]
  unfold restN
  rw [if_pos rfl]
  cases s.data.toList with
  | nil => rfl
  | cons b r =>
    simp only [List.all_cons, List.length_cons]
    have h1 : decide (b :: r ≠ []) = true := by simp
    have h2 : decide (1 ≤ r.length + 1) = true := by simp
    rw [h1, h2]
    cases hl : isLet b with
    | true => rw [name_let hl, Bool.true_and, Bool.true_and, Bool.and_true]
    | false => simp

set_option maxRecDepth 100000 in
set_option maxHeartbeats 800000 in
theorem rname_any (s : ByteArray) (w : World) (hs : s.size ≤ 9223372036854775807) :
    Calls Tryd.prog 71 #[.string s] w fun e w' => e = .returned (.bool (nameL s.data.toList)) ∧ w' = w := by
  have e := name_at s
  obtain ⟨W, hW⟩ : ∃ W, nameL s.data.toList = W := ⟨_, rfl⟩
  obtain ⟨A, hA⟩ : ∃ A, restN s 0 = A := ⟨_, rfl⟩
  rw [hA] at e
  rw [hW] at e ⊢
  have HA := Lib.hid hA
  have HE := Lib.hid e
  clear hA hW e
  go_enter Tryd.func71, Tryd.ntmps71
  go_wp2_with fail
  go_loop [3] (fun i => ∃ k : Nat, i = .int .i64 k ∧ k ≤ s.size ∧ restN s k = A) (fun i => s.size - (RowKit.intOf i).toNat)
  case atStart => exact ⟨0, rfl, Nat.zero_le _, HA.out⟩
  case round =>
    obtain ⟨k, rfl, hk, hr⟩ := hrel
    have HR := Lib.hid hr
    clear hr
    by_cases hlt : k < s.size
    · rw [restN_step hlt] at HR
      obtain ⟨b, hb⟩ : ∃ b, s[k]'hlt = b := ⟨_, rfl⟩
      rw [hb] at HR
      by_cases hl : 97 ≤ b.toNat ∧ b.toNat ≤ 122
      · have h1 := let_of hl.1 hl.2
        have hif : (if k = 0 then isLet b else inName b) = true := by
          split
          · exact h1
          · exact name_let h1
        obtain ⟨ha, hz⟩ := hl
        have c1 : (97 : Int) ≤ b.toNat := by omega
        have c2 : (b.toNat : Int) ≤ 122 := by omega
        have c3 : (48 : Int) ≤ b.toNat := by omega
        have c4 : ¬ (b.toNat : Int) ≤ 57 := by omega
        have g95 : ((b.toNat : Int) == 95) = false := by simp; omega
        have HF := Lib.hid (show restN s (k + 1) = A by rw [← HR.out, hif, Bool.true_and])
        go_wp2_with fail
        go_round
        case rel => exact ⟨k + 1, by simp, by omega, HF.out⟩
        case measure => simp [RowKit.intOf]; omega
      · by_cases hd : 48 ≤ b.toNat ∧ b.toNat ≤ 57 ∨ b.toNat = 95
        · by_cases hk0 : k = 0
          · have hif : (if k = 0 then isLet b else inName b) = false := by rw [if_pos hk0]; exact let_no hl
            subst hk0
            rcases hd with hd | hd
            · have hd1 := hd.1
              have hd2 := hd.2
              have c1 : ¬ (97 : Int) ≤ b.toNat := by omega
              have c3 : (48 : Int) ≤ b.toNat := by omega
              have c4 : (b.toNat : Int) ≤ 57 := by omega
              have HF := Lib.hid (show A = false by rw [← HR.out, hif, Bool.false_and])
              go_wp2_with fail
              go_ret
              exact ⟨by rw [HE.out, HF.out, Bool.and_false]; rfl, rfl⟩
            · have c1 : ¬ (97 : Int) ≤ b.toNat := by omega
              have c3 : (48 : Int) ≤ b.toNat := by omega
              have c4 : ¬ (b.toNat : Int) ≤ 57 := by omega
              have g95 : ((b.toNat : Int) == 95) = true := by simp; omega
              have HF := Lib.hid (show A = false by rw [← HR.out, hif, Bool.false_and])
              go_wp2_with fail
              go_ret
              exact ⟨by rw [HE.out, HF.out, Bool.and_false]; rfl, rfl⟩
          · have hif : (if k = 0 then isLet b else inName b) = true := by rw [if_neg hk0]; exact name_dig hd
            rcases hd with hd | hd
            · have hd1 := hd.1
              have hd2 := hd.2
              have c1 : ¬ (97 : Int) ≤ b.toNat := by omega
              have c3 : (48 : Int) ≤ b.toNat := by omega
              have c4 : (b.toNat : Int) ≤ 57 := by omega
              have gk : ((k : Int) == 0) = false := by simp; omega
              have HF := Lib.hid (show restN s (k + 1) = A by rw [← HR.out, hif, Bool.true_and])
              go_wp2_with fail
              go_round
              case rel => exact ⟨k + 1, by simp, by omega, HF.out⟩
              case measure => simp [RowKit.intOf]; omega
            · have c1 : ¬ (97 : Int) ≤ b.toNat := by omega
              have c3 : (48 : Int) ≤ b.toNat := by omega
              have c4 : ¬ (b.toNat : Int) ≤ 57 := by omega
              have g95 : ((b.toNat : Int) == 95) = true := by simp; omega
              have gk : ((k : Int) == 0) = false := by simp; omega
              have HF := Lib.hid (show restN s (k + 1) = A by rw [← HR.out, hif, Bool.true_and])
              go_wp2_with fail
              go_round
              case rel => exact ⟨k + 1, by simp, by omega, HF.out⟩
              case measure => simp [RowKit.intOf]; omega
        · have hif : (if k = 0 then isLet b else inName b) = false := by
            split
            · exact let_no hl
            · exact name_no hl (fun h => hd (.inl h)) (fun h => hd (.inr h))
          have n1 : ¬ (48 ≤ b.toNat ∧ b.toNat ≤ 57) := fun h => hd (.inl h)
          have n2 : b.toNat ≠ 95 := fun h => hd (.inr h)
          by_cases q1 : b.toNat < 48
          · have c1 : ¬ (97 : Int) ≤ b.toNat := by omega
            have c3 : ¬ (48 : Int) ≤ b.toNat := by omega
            have g95 : ((b.toNat : Int) == 95) = false := by simp; omega
            have HF := Lib.hid (show A = false by rw [← HR.out, hif, Bool.false_and])
            go_wp2_with fail
            go_ret
            exact ⟨by rw [HE.out, HF.out, Bool.and_false]; rfl, rfl⟩
          · by_cases q2 : b.toNat < 97
            · have c1 : ¬ (97 : Int) ≤ b.toNat := by omega
              have c3 : (48 : Int) ≤ b.toNat := by omega
              have c4 : ¬ (b.toNat : Int) ≤ 57 := by omega
              have g95 : ((b.toNat : Int) == 95) = false := by simp; omega
              have HF := Lib.hid (show A = false by rw [← HR.out, hif, Bool.false_and])
              go_wp2_with fail
              go_ret
              exact ⟨by rw [HE.out, HF.out, Bool.and_false]; rfl, rfl⟩
            · have c1 : (97 : Int) ≤ b.toNat := by omega
              have c2 : ¬ (b.toNat : Int) ≤ 122 := by omega
              have c3 : (48 : Int) ≤ b.toNat := by omega
              have c4 : ¬ (b.toNat : Int) ≤ 57 := by omega
              have g95 : ((b.toNat : Int) == 95) = false := by simp; omega
              have HF := Lib.hid (show A = false by rw [← HR.out, hif, Bool.false_and])
              go_wp2_with fail
              go_ret
              exact ⟨by rw [HE.out, HF.out, Bool.and_false]; rfl, rfl⟩
    · have HF := Lib.hid (show A = true by rw [← HR.out, restN_end hlt])
      by_cases h1 : 1 ≤ s.size
      · by_cases h12 : s.size ≤ 12
        · have h12' : decide ((s.size : Int) ≤ 12) = true := by simp; omega
          go_wp2_with fail
          go_ret
          exact ⟨by rw [HE.out, HF.out, decide_eq_true h1, decide_eq_true h12]; rfl, rfl⟩
        · have h12' : decide ((s.size : Int) ≤ 12) = false := by simp; omega
          go_wp2_with fail
          go_ret
          exact ⟨by rw [HE.out, decide_eq_false h12, Bool.and_false, Bool.false_and]; rfl, rfl⟩
      · go_wp2_with fail
        go_ret
        exact ⟨by rw [HE.out, decide_eq_false h1, Bool.false_and, Bool.false_and]; rfl, rfl⟩

end Go.Proofs.YtjhimekojiegjaaDoor.Rname
