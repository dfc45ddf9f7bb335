/- An argument opened: a layout by value. -/
import Derived.Test.YtkoldgammeojkaaDoorLnam
import Derived.ProofKit
import Derived.ChangeSlices
import Derived.Deep.Slices
import Derived.DataReads
import Derived.SizedLaws
namespace Go.Proofs.YtkoldgammeojkaaDoor.Lopen
open Go.ChangeShapes Go.WideShapes Go.Deep Go.Proofs.YtkoldgammeojkaaDoor.Text Go.Proofs.YtkoldgammeojkaaDoor.Rows2 Go.Proofs.YtkoldgammeojkaaDoor.Lay Go.Proofs.YtkoldgammeojkaaDoor.Lnam

section
variable {H : Type} {enc : TypeId × Value → H} {w : World} {base : Nat} {held : Bool}

/-- A slice whose elements are known by their cells. -/
theorem open_rows {P : Program} {α : Type} {t e : TypeId} {fuel sz : Nat} {c : Value} {x : DataW H × List MemPlace} (a0 : α) (cellsOf : α → List Value) (Q : α → Prop) (ht : P.underlying t = some (.slice e)) (hsz : P.cellsOf e = sz) (hpos : 0 < sz) (hlen : ∀ a, (cellsOf a).length = sz)
    (hel : ∀ (n : Nat) (cs : List Value) (y : DataW H × List MemPlace), DataW.trod enc P w base (fun _ => true) held n e cs = some y → ∃ a : α, cs = cellsOf a ∧ Q a)
    (h : DataW.trod enc P w base (fun _ => true) held fuel t [c] = some x) : ∃ l : List α, Grid (In w) w c sz (l.map cellsOf) ∧ (∀ a ∈ l, Q a) ∧ Sn c := by
  rcases open_slice ht h with ⟨h1, _⟩ | ⟨a, len, cap, m, n, D, Pl, h1, _, hl, hm, hmm, _, hi⟩
  · simp only [List.cons.injEq, and_true] at h1
    subst h1
    exact ⟨[], grid_nil _ _ _, by simp, .inl rfl⟩
  · simp only [List.cons.injEq, and_true] at h1
    subst h1
    have hlm : len ≤ m := by rw [hmm]; simp; exact hl
    haveI : Inhabited α := ⟨a0⟩
    obtain ⟨f, hf⟩ := choose_lt (α := α) (n := len) (p := fun i a' => w.cells? base (a.add (i * sz)) sz = some (cellsOf a') ∧ Q a') (fun i hlt => by
      obtain ⟨cs', hc, htr⟩ := hi i (by omega)
      rw [hsz] at hc
      obtain ⟨a', rfl, hq⟩ := hel _ _ _ htr
      exact ⟨a', hc, hq⟩)
    have hcell : ∀ i, i < len → ∀ j, j < sz → w.cell? ((a.add (i * sz)).add j) = (cellsOf (f i))[j]? := fun i hlt j hj => (World.cells?_some (hf i hlt).1).2.2 j hj
    refine ⟨(List.range len).map f, ?_, ?_, .inr ⟨_, _, _, rfl⟩⟩
    · have e1 : (((List.range len).map f).map cellsOf).length = len := by simp
      refine ⟨some a, cap, by rw [e1], by rw [e1]; exact hl, hm, ?_⟩
      by_cases h0 : len = 0
      · subst h0
        exact .inl rfl
      · right
        obtain ⟨b, off, spot⟩ := a
        have hc0 := hcell 0 (by omega) 0 hpos
        have hv : ∃ v, (cellsOf (f 0))[0]? = some v := ⟨_, List.getElem?_eq_getElem (by rw [hlen]; exact hpos)⟩
        obtain ⟨v, hv⟩ := hv
        rw [hv] at hc0
        have hspot : spot = none := by simpa [Addr.add] using World.cell?_spot hc0
        subst hspot
        have hb : b < w.heap.size := by
          have := World.block_lt_of_cell? w _ hc0
          simpa [Addr.add] using this
        refine ⟨b, off, rfl, hb, fun i r hr j y hy => ?_⟩
        have hi' : i < len := by
          have := (List.getElem?_eq_some_iff.1 hr).1
          rwa [e1] at this
        have hr2 : r = cellsOf (f i) := by
          rw [List.getElem?_map, List.getElem?_map, List.getElem?_range hi'] at hr
          exact (Option.some.inj hr).symm
        subst hr2
        have hj : j < sz := by
          have := (List.getElem?_eq_some_iff.1 hy).1
          rwa [hlen] at this
        have := hcell i hi' j hj
        rw [add_mk, add_mk] at this
        rw [this]
        exact hy
    · intro a' ha
      obtain ⟨i, hi', rfl⟩ := List.mem_map.1 ha
      exact (hf i (by simpa using hi')).2

theorem one_int {fuel : Nat} {l : List Value} {x : DataW H × List MemPlace} (h : DataW.trod enc Tryd.prog w base (fun _ => true) held fuel 3 l = some x) : ∃ z : Int, l = [.int .i64 z] ∧ Wf z := by
  obtain ⟨n, e1, _, hw⟩ := DataW.trod_int Tryd.underlying3 h
  exact ⟨n, e1, hw⟩
theorem one_str {fuel : Nat} {l : List Value} {x : DataW H × List MemPlace} (h : DataW.trod enc Tryd.prog w base (fun _ => true) held fuel 9 l = some x) : ∃ s : List UInt8, l = [.string (bs s)] ∧ s.length ≤ maxLen := by
  obtain ⟨s, e1, _, hb⟩ := DataW.trod_string Tryd.underlying9 h
  refine ⟨s.data.toList, by rw [bs_of]; exact e1, ?_⟩
  rw [← bs_size, bs_of]
  exact hb
theorem cI : Tryd.prog.cellsOf 3 = 1 := by kernel_rfl
theorem cS : Tryd.prog.cellsOf 9 = 1 := by kernel_rfl
theorem cE : Tryd.prog.cellsOf 64 = 2 := by kernel_rfl
theorem len2 {α : Type} {l : List α} (h : l.length = 2) : ∃ a b, l = [a, b] := by
  match l, h with
  | [a, b], _ => exact ⟨a, b, rfl⟩
theorem len3 {α : Type} {l : List α} (h : l.length = 3) : ∃ a b c, l = [a, b, c] := by
  match l, h with
  | [a, b, c], _ => exact ⟨a, b, c, rfl⟩
theorem len4 {α : Type} {l : List α} (h : l.length = 4) : ∃ a b c d, l = [a, b, c, d] := by
  match l, h with
  | [a, b, c, d], _ => exact ⟨a, b, c, d, rfl⟩
theorem len7 {α : Type} {l : List α} (h : l.length = 7) : ∃ a b c d e f g, l = [a, b, c, d, e, f, g] := by
  match l, h with
  | [a, b, c, d, e, f, g], _ => exact ⟨a, b, c, d, e, f, g, rfl⟩

theorem end_of {fuel : Nat} {l : List Value} {x : DataW H × List MemPlace} (h : DataW.trod enc Tryd.prog w base (fun _ => true) held fuel 64 l = some x) : ∃ p : Int × Int, l = pCells p ∧ pWf p := by
  obtain ⟨xs, n, _, _, hlen, hxl, hg⟩ := DataW.trod_struct Tryd.underlying64 h
  rw [cE] at hlen
  obtain ⟨v0, v1, rfl⟩ := len2 hlen
  obtain ⟨x0, x1, rfl⟩ := len2 (show xs.length = 2 from hxl)
  have g0 : DataW.trod enc Tryd.prog w base (fun _ => true) held n 3 (([v0, v1].drop 0).take (Tryd.prog.cellsOf 3)) = some x0 := hg 0 _ rfl
  have g1 : DataW.trod enc Tryd.prog w base (fun _ => true) held n 3 (([v0, v1].drop 1).take (Tryd.prog.cellsOf 3)) = some x1 := hg 1 _ rfl
  rw [cI] at g0 g1
  obtain ⟨a, ha, wha⟩ := one_int g0
  obtain ⟨b, hb, whb⟩ := one_int g1
  simp only [List.drop_zero, List.take_succ_cons, List.take_zero, List.drop_succ_cons, List.cons.injEq, and_true] at ha hb
  exact ⟨(a, b), by rw [ha, hb]; rfl, wha, whb⟩
theorem elem_of {fuel : Nat} {l : List Value} {x : DataW H × List MemPlace} (h : DataW.trod enc Tryd.prog w base (fun _ => true) held fuel 51 l = some x) : ∃ a : Elem, l = a.cells ∧ a.name.length ≤ maxLen ∧ a.Wf := by
  obtain ⟨xs, n, _, _, hlen, hxl, hg⟩ := DataW.trod_struct Tryd.underlying51 h
  rw [show Tryd.prog.cellsOf 51 = 7 by kernel_rfl] at hlen
  obtain ⟨v0, v1, v2, v3, v4, v5, v6, rfl⟩ := len7 hlen
  obtain ⟨x0, x1, x2, x3, x4, x5, x6, rfl⟩ := len7 (show xs.length = 7 from hxl)
  have g0 : DataW.trod enc Tryd.prog w base (fun _ => true) held n 9 (([v0, v1, v2, v3, v4, v5, v6].drop 0).take (Tryd.prog.cellsOf 9)) = some x0 := hg 0 _ rfl
  have g1 : DataW.trod enc Tryd.prog w base (fun _ => true) held n 3 (([v0, v1, v2, v3, v4, v5, v6].drop 1).take (Tryd.prog.cellsOf 3)) = some x1 := hg 1 _ rfl
  have g2 : DataW.trod enc Tryd.prog w base (fun _ => true) held n 3 (([v0, v1, v2, v3, v4, v5, v6].drop 2).take (Tryd.prog.cellsOf 3)) = some x2 := hg 2 _ rfl
  have g3 : DataW.trod enc Tryd.prog w base (fun _ => true) held n 3 (([v0, v1, v2, v3, v4, v5, v6].drop 3).take (Tryd.prog.cellsOf 3)) = some x3 := hg 3 _ rfl
  have g4 : DataW.trod enc Tryd.prog w base (fun _ => true) held n 3 (([v0, v1, v2, v3, v4, v5, v6].drop 4).take (Tryd.prog.cellsOf 3)) = some x4 := hg 4 _ rfl
  have g5 : DataW.trod enc Tryd.prog w base (fun _ => true) held n 3 (([v0, v1, v2, v3, v4, v5, v6].drop 5).take (Tryd.prog.cellsOf 3)) = some x5 := hg 5 _ rfl
  have g6 : DataW.trod enc Tryd.prog w base (fun _ => true) held n 3 (([v0, v1, v2, v3, v4, v5, v6].drop 6).take (Tryd.prog.cellsOf 3)) = some x6 := hg 6 _ rfl
  rw [cS] at g0
  rw [cI] at g1 g2 g3 g4 g5 g6
  obtain ⟨s, hs, hb⟩ := one_str g0
  obtain ⟨a1, h1, wh1⟩ := one_int g1
  obtain ⟨a2, h2, wh2⟩ := one_int g2
  obtain ⟨a3, h3, wh3⟩ := one_int g3
  obtain ⟨a4, h4, wh4⟩ := one_int g4
  obtain ⟨a5, h5, wh5⟩ := one_int g5
  obtain ⟨a6, h6, wh6⟩ := one_int g6
  simp only [List.drop_zero, List.take_succ_cons, List.take_zero, List.drop_succ_cons, List.cons.injEq, and_true] at hs h1 h2 h3 h4 h5 h6
  exact ⟨⟨s, a1, a2, a3, a4, a5, a6⟩, by rw [hs, h1, h2, h3, h4, h5, h6]; rfl, hb, wh1, wh2, wh3, wh4, wh5, wh6⟩
theorem joint_of {fuel : Nat} {l : List Value} {x : DataW H × List MemPlace} (h : DataW.trod enc Tryd.prog w base (fun _ => true) held fuel 66 l = some x) : ∃ j : (Int × Int) × (Int × Int), l = jCells j ∧ jWf j := by
  obtain ⟨xs, n, _, _, hlen, hxl, hg⟩ := DataW.trod_struct Tryd.underlying66 h
  rw [show Tryd.prog.cellsOf 66 = 4 by kernel_rfl] at hlen
  obtain ⟨v0, v1, v2, v3, rfl⟩ := len4 hlen
  obtain ⟨x0, x1, rfl⟩ := len2 (show xs.length = 2 from hxl)
  have g0 : DataW.trod enc Tryd.prog w base (fun _ => true) held n 64 (([v0, v1, v2, v3].drop 0).take (Tryd.prog.cellsOf 64)) = some x0 := hg 0 _ rfl
  have g1 : DataW.trod enc Tryd.prog w base (fun _ => true) held n 64 (([v0, v1, v2, v3].drop 2).take (Tryd.prog.cellsOf 64)) = some x1 := hg 1 _ rfl
  rw [cE] at g0 g1
  obtain ⟨p, hp, whp⟩ := end_of g0
  obtain ⟨q, hq, whq⟩ := end_of g1
  simp only [pCells, List.drop_zero, List.take_succ_cons, List.take_zero, List.drop_succ_cons, List.cons.injEq, and_true] at hp hq
  exact ⟨(p, q), by rw [hp.1, hp.2, hq.1, hq.2]; rfl, whp, whq⟩
theorem sig_of {fuel : Nat} {l : List Value} {x : DataW H × List MemPlace} (h : DataW.trod enc Tryd.prog w base (fun _ => true) held fuel 70 l = some x) : ∃ a : Sig, l = a.cells ∧ a.name.length ≤ maxLen ∧ a.Wf := by
  obtain ⟨xs, n, _, _, hlen, hxl, hg⟩ := DataW.trod_struct Tryd.underlying70 h
  rw [show Tryd.prog.cellsOf 70 = 4 by kernel_rfl] at hlen
  obtain ⟨v0, v1, v2, v3, rfl⟩ := len4 hlen
  obtain ⟨x0, x1, x2, rfl⟩ := len3 (show xs.length = 3 from hxl)
  have g0 : DataW.trod enc Tryd.prog w base (fun _ => true) held n 9 (([v0, v1, v2, v3].drop 0).take (Tryd.prog.cellsOf 9)) = some x0 := hg 0 _ rfl
  have g1 : DataW.trod enc Tryd.prog w base (fun _ => true) held n 64 (([v0, v1, v2, v3].drop 1).take (Tryd.prog.cellsOf 64)) = some x1 := hg 1 _ rfl
  have g2 : DataW.trod enc Tryd.prog w base (fun _ => true) held n 3 (([v0, v1, v2, v3].drop 3).take (Tryd.prog.cellsOf 3)) = some x2 := hg 2 _ rfl
  rw [cS] at g0
  rw [cE] at g1
  rw [cI] at g2
  obtain ⟨s, hs, hb⟩ := one_str g0
  obtain ⟨p, hp, whp⟩ := end_of g1
  obtain ⟨o, ho, who⟩ := one_int g2
  simp only [pCells, List.drop_zero, List.take_succ_cons, List.take_zero, List.drop_succ_cons, List.cons.injEq, and_true] at hs hp ho
  exact ⟨⟨s, p, o⟩, by rw [hs, hp.1, hp.2, ho]; rfl, hb, whp, who⟩
theorem bal_of {fuel : Nat} {l : List Value} {x : DataW H × List MemPlace} (h : DataW.trod enc Tryd.prog w base (fun _ => true) held fuel 74 l = some x) : ∃ a : Bal, l = a.cells ∧ a.Wf := by
  obtain ⟨xs, n, _, _, hlen, hxl, hg⟩ := DataW.trod_struct Tryd.underlying74 h
  rw [show Tryd.prog.cellsOf 74 = 3 by kernel_rfl] at hlen
  obtain ⟨v0, v1, v2, rfl⟩ := len3 hlen
  obtain ⟨x0, x1, x2, rfl⟩ := len3 (show xs.length = 3 from hxl)
  have g0 : DataW.trod enc Tryd.prog w base (fun _ => true) held n 3 (([v0, v1, v2].drop 0).take (Tryd.prog.cellsOf 3)) = some x0 := hg 0 _ rfl
  have g1 : DataW.trod enc Tryd.prog w base (fun _ => true) held n 3 (([v0, v1, v2].drop 1).take (Tryd.prog.cellsOf 3)) = some x1 := hg 1 _ rfl
  have g2 : DataW.trod enc Tryd.prog w base (fun _ => true) held n 3 (([v0, v1, v2].drop 2).take (Tryd.prog.cellsOf 3)) = some x2 := hg 2 _ rfl
  rw [cI] at g0 g1 g2
  obtain ⟨a, ha, wha⟩ := one_int g0
  obtain ⟨b, hb, whb⟩ := one_int g1
  obtain ⟨c, hc, whc⟩ := one_int g2
  simp only [List.drop_zero, List.take_succ_cons, List.take_zero, List.drop_succ_cons, List.cons.injEq, and_true] at ha hb hc
  exact ⟨⟨a, b, c⟩, by rw [ha, hb, hc]; rfl, wha, whb, whc⟩
/-- A slice of texts, by the same law. -/
theorem grid_strs {ok : Nat → Prop} {w : World} {v : Value} {ss : List (List UInt8)} (h : Grid ok w v 1 (ss.map fun s => [.string (bs s)])) (hs : ∀ s ∈ ss, s.length ≤ maxLen) : Strs ok w v ss := by
  obtain ⟨a, cap, h1, h2, h3, h4⟩ := h
  rw [List.length_map] at h1 h2
  refine ⟨⟨a, cap, by rw [strV_len]; exact h1, by rw [strV_len]; exact h2, h3, ?_⟩, hs⟩
  rcases h4 with h4 | ⟨b, off, e, hb, hc⟩
  · left
    have : ss = [] := by simpa using h4
    rw [this]
    rfl
  · refine .inr ⟨b, off, e, hb, fun j x hx => ?_⟩
    obtain ⟨s, hs', rfl⟩ : ∃ s, ss[j]? = some s ∧ .string (bs s) = x := by simpa [strV] using hx
    have := hc j [.string (bs s)] (by rw [List.getElem?_map, hs']; rfl) 0 _ rfl
    simpa using this

set_option maxRecDepth 100000 in
/-- The whole layout. -/
theorem open_layout {v : Value} {d : DataW H} {p : List MemPlace} {b0 : Nat} {r : Reach} (hv : Value.okWide Tryd.prog w r b0 28 v) (h : DataW.Trod enc Tryd.prog w base (fun _ => true) held 28 v d p) :
    ∃ (L : Lay) (vs ve vj vg vb : Value), v = layV L vs ve vj vg vb ∧ LayAt (In w) w L vs ve vj vg vb := by
  obtain ⟨⟨cs⟩, rfl, hsz⟩ := okWide_struct Tryd.underlying28 hv
  obtain ⟨fuel, hf⟩ := h
  obtain ⟨xs, n, _, _, hlen, hxl, hg⟩ := DataW.trod_struct Tryd.underlying28 hf
  have hc6 : Tryd.prog.cellsOf 28 = 6 := by kernel_rfl
  rw [hc6] at hlen
  have hl6 : cs.length = 6 := hlen
  match cs, hl6 with
  | [v0, v1, v2, v3, v4, v5], _ =>
    match xs, (show xs.length = 6 from hxl) with
    | [x0, x1, x2, x3, x4, x5], _ =>
      have g0 : DataW.trod enc Tryd.prog w base (fun _ => true) held n 9 (([v0, v1, v2, v3, v4, v5].drop 0).take (Tryd.prog.cellsOf 9)) = some x0 := hg 0 _ rfl
      have g1 : DataW.trod enc Tryd.prog w base (fun _ => true) held n 22 (([v0, v1, v2, v3, v4, v5].drop 1).take (Tryd.prog.cellsOf 22)) = some x1 := hg 1 _ rfl
      have g2 : DataW.trod enc Tryd.prog w base (fun _ => true) held n 23 (([v0, v1, v2, v3, v4, v5].drop 2).take (Tryd.prog.cellsOf 23)) = some x2 := hg 2 _ rfl
      have g3 : DataW.trod enc Tryd.prog w base (fun _ => true) held n 24 (([v0, v1, v2, v3, v4, v5].drop 3).take (Tryd.prog.cellsOf 24)) = some x3 := hg 3 _ rfl
      have g4 : DataW.trod enc Tryd.prog w base (fun _ => true) held n 25 (([v0, v1, v2, v3, v4, v5].drop 4).take (Tryd.prog.cellsOf 25)) = some x4 := hg 4 _ rfl
      have g5 : DataW.trod enc Tryd.prog w base (fun _ => true) held n 26 (([v0, v1, v2, v3, v4, v5].drop 5).take (Tryd.prog.cellsOf 26)) = some x5 := hg 5 _ rfl
      rw [cS] at g0
      rw [show Tryd.prog.cellsOf 22 = 1 by kernel_rfl] at g1
      rw [show Tryd.prog.cellsOf 23 = 1 by kernel_rfl] at g2
      rw [show Tryd.prog.cellsOf 24 = 1 by kernel_rfl] at g3
      rw [show Tryd.prog.cellsOf 25 = 1 by kernel_rfl] at g4
      rw [show Tryd.prog.cellsOf 26 = 1 by kernel_rfl] at g5
      obtain ⟨nm, hs, hb⟩ := one_str g0
      simp only [List.drop_zero, List.take_succ_cons, List.take_zero, List.drop_succ_cons, List.cons.injEq, and_true] at hs g1 g2 g3 g4 g5
      subst hs
      obtain ⟨l1, r1, q1, s1⟩ := open_rows [] (fun s : List UInt8 => [.string (bs s)]) (fun s => s.length ≤ maxLen) Tryd.underlying22 cS (by decide) (fun _ => rfl) (fun _ _ _ h => one_str h) g1
      obtain ⟨l2, r2, q2, _⟩ := open_rows ⟨[], 0, 0, 0, 0, 0, 0⟩ Elem.cells (fun s => s.name.length ≤ maxLen ∧ s.Wf) Tryd.underlying23 (by kernel_rfl) (by decide : 0 < 7) (fun _ => rfl) (fun _ _ _ h => elem_of h) g2
      obtain ⟨l3, r3, q3, _⟩ := open_rows ((0, 0), (0, 0)) jCells jWf Tryd.underlying24 (by kernel_rfl) (by decide : 0 < 4) (fun _ => rfl) (fun _ _ _ h => joint_of h) g3
      obtain ⟨l4, r4, q4, _⟩ := open_rows ⟨[], (0, 0), 0⟩ Sig.cells (fun s => s.name.length ≤ maxLen ∧ s.Wf) Tryd.underlying25 (by kernel_rfl) (by decide : 0 < 4) (fun _ => rfl) (fun _ _ _ h => sig_of h) g4
      obtain ⟨l5, r5, q5, _⟩ := open_rows ⟨0, 0, 0⟩ Bal.cells Bal.Wf Tryd.underlying26 (by kernel_rfl) (by decide : 0 < 3) (fun _ => rfl) (fun _ _ _ h => bal_of h) g5
      exact ⟨⟨nm, l1, l2, l3, l4, l5⟩, v1, v2, v3, v4, v5, rfl, grid_strs r1 q1, r2, r3, r4, r5, hb, fun x hx => (q2 x hx).1, fun x hx => (q4 x hx).1, fun x hx => (q2 x hx).2, q3, fun x hx => (q4 x hx).2, q5, s1⟩
end

end Go.Proofs.YtkoldgammeojkaaDoor.Lopen
