/- Arguments opened: a way, a step, an end; a layout whose joints are within the reach. -/
import Derived.Test.YtkoldgammeojkaaDoorLopen
import Derived.Test.YtkoldgammeojkaaDoorWay
namespace Go.Proofs.YtkoldgammeojkaaDoor.Wopn
open Go.ChangeShapes Go.WideShapes Go.Deep Go.Proofs.YtkoldgammeojkaaDoor.Text Go.Proofs.YtkoldgammeojkaaDoor.Rows2 Go.Proofs.YtkoldgammeojkaaDoor.Lay Go.Proofs.YtkoldgammeojkaaDoor.Lnam Go.Proofs.YtkoldgammeojkaaDoor.Lext Go.Proofs.YtkoldgammeojkaaDoor.Lopen Go.Proofs.YtkoldgammeojkaaDoor.Way

section
variable {H : Type} {enc : TypeId × Value → H} {w : World} {base : Nat} {held : Bool}

theorem step_of {fuel : Nat} {l : List Value} {x : DataW H × List MemPlace} (h : DataW.trod enc Tryd.prog w base (fun _ => true) held fuel 47 l = some x) : ∃ s : Stp, l = stCells s ∧ stWf s := by
  obtain ⟨xs, n, _, _, hlen, hxl, hg⟩ := DataW.trod_struct Tryd.underlying47 h
  rw [show Tryd.prog.cellsOf 47 = 3 by kernel_rfl] at hlen
  obtain ⟨v0, v1, v2, rfl⟩ := len3 hlen
  obtain ⟨x0, x1, x2, rfl⟩ := len3 (show xs.length = 3 from hxl)
  have g0 : DataW.trod enc Tryd.prog w base (fun _ => true) held n 3 (([v0, v1, v2].drop 0).take (Tryd.prog.cellsOf 3)) = some x0 := hg 0 _ rfl
  have g1 : DataW.trod enc Tryd.prog w base (fun _ => true) held n 3 (([v0, v1, v2].drop 1).take (Tryd.prog.cellsOf 3)) = some x1 := hg 1 _ rfl
  have g2 : DataW.trod enc Tryd.prog w base (fun _ => true) held n 3 (([v0, v1, v2].drop 2).take (Tryd.prog.cellsOf 3)) = some x2 := hg 2 _ rfl
  rw [cI] at g0 g1 g2
  obtain ⟨a, ha, wha⟩ := one_int g0
  obtain ⟨b, hb, whb⟩ := one_int g1
  obtain ⟨c, hc, whc⟩ := one_int g2
  simp only [List.drop_zero, List.take_succ_cons, List.take_zero, List.drop_succ_cons, List.cons.injEq, and_true] at ha hb hc
  exact ⟨(a, b, c), by rw [ha, hb, hc]; rfl, wha, whb, whc⟩

set_option maxRecDepth 100000 in
theorem open_step {v : Value} {d : DataW H} {p : List MemPlace} {b0 : Nat} {r : Reach} (hv : Value.okWide Tryd.prog w r b0 47 v) (h : DataW.Trod enc Tryd.prog w base (fun _ => true) held 47 v d p) : ∃ s : Stp, v = stV s ∧ stWf s := by
  obtain ⟨⟨cs⟩, rfl, hsz⟩ := okWide_struct Tryd.underlying47 hv
  obtain ⟨fuel, hf⟩ := h
  obtain ⟨s, hs, hw⟩ := step_of hf
  have hs2 : cs = stCells s := hs
  subst hs2
  exact ⟨s, rfl, hw⟩
set_option maxRecDepth 100000 in
theorem open_end {v : Value} {d : DataW H} {p : List MemPlace} {b0 : Nat} {r : Reach} (hv : Value.okWide Tryd.prog w r b0 64 v) (h : DataW.Trod enc Tryd.prog w base (fun _ => true) held 64 v d p) : ∃ s : Int × Int, v = pV s ∧ pWf s := by
  obtain ⟨⟨cs⟩, rfl, hsz⟩ := okWide_struct Tryd.underlying64 hv
  obtain ⟨fuel, hf⟩ := h
  obtain ⟨s, hs, hw⟩ := end_of hf
  have hs2 : cs = pCells s := hs
  subst hs2
  exact ⟨s, rfl, hw⟩
set_option maxRecDepth 100000 in
theorem open_way {v : Value} {d : DataW H} {p : List MemPlace} {b0 : Nat} {r : Reach} (hv : Value.okWide Tryd.prog w r b0 29 v) (h : DataW.Trod enc Tryd.prog w base (fun _ => true) held 29 v d p) : ∃ l : List Stp, Grid (In w) w v 3 (l.map stCells) := by
  obtain ⟨fuel, hf⟩ := h
  obtain ⟨b, len, cap, rfl⟩ := okWide_slice Tryd.underlying29 hv
  obtain ⟨l, hl, _, _⟩ := open_rows (0, 0, 0) stCells stWf Tryd.underlying29 (by kernel_rfl) (by decide : 0 < 3) (fun _ => rfl) (fun _ _ _ h => step_of h) hf
  exact ⟨l, hl⟩

/-- A slice that is within the reach. -/
theorem len_rows {P : Program} {t e : TypeId} {fuel : Nat} {c : Value} {x : DataW H × List MemPlace} (ht : P.underlying t = some (.slice e)) (hw : ∀ k ∈ x.1.weights P t, k ≤ reachBytes)
    (h : DataW.trod enc P w base (fun _ => true) held fuel t [c] = some x) : ∃ a n cap, c = .slice a n cap ∧ n * P.bytesOf e ≤ reachBytes := by
  rcases open_slice ht h with ⟨h1, _⟩ | ⟨a, len, cap, m, n, D, Pl, h1, _, _, _, _, hx, _⟩
  · simp only [List.cons.injEq, and_true] at h1
    subst h1
    exact ⟨none, 0, 0, rfl, by simp⟩
  · simp only [List.cons.injEq, and_true] at h1
    subst h1
    refine ⟨some a, len, cap, rfl, ?_⟩
    have := hw ((((List.range len).map D).length + ((List.range (m - len)).map fun j => D (len + j)).length) * P.bytesOf e) (by
      rw [hx]
      simp [DataW.weights, ht])
    refine Nat.le_trans (Nat.mul_le_mul_right _ ?_) this
    simp

set_option maxRecDepth 100000 in
/-- The whole layout, whose joints are within the reach. -/
theorem open_layout2 {v : Value} {d : DataW H} {p : List MemPlace} {b0 : Nat} {r : Reach} (hv : Value.okWide Tryd.prog w r b0 28 v) (h : DataW.Trod enc Tryd.prog w base (fun _ => true) held 28 v d p) (hw : ∀ k ∈ d.weights Tryd.prog 28, k ≤ reachBytes) :
    ∃ (L : Lay) (vs ve vj vg vb : Value), v = layV L vs ve vj vg vb ∧ LayAt (In w) w L vs ve vj vg vb ∧ L.joints.length ≤ 4398046510976 := by
  obtain ⟨L, vs, ve, vj, vg, vb, rfl, hl⟩ := open_layout hv h
  refine ⟨L, vs, ve, vj, vg, vb, rfl, hl, ?_⟩
  obtain ⟨fuel, hf⟩ := h
  obtain ⟨xs, n, _, hx, hlen, hxl, hg⟩ := DataW.trod_struct Tryd.underlying28 hf
  match xs, (show xs.length = 6 from hxl) with
  | [x0, x1, x2, x3, x4, x5], _ =>
    have g3 : DataW.trod enc Tryd.prog w base (fun _ => true) held n 24 (((layV L vs ve vj vg vb).cells.toList.drop 3).take (Tryd.prog.cellsOf 24)) = some x3 := hg 3 _ rfl
    rw [show Tryd.prog.cellsOf 24 = 1 by kernel_rfl] at g3
    have g4 : DataW.trod enc Tryd.prog w base (fun _ => true) held n 24 [vj] = some x3 := g3
    obtain ⟨a, m, cap, hvj, hm⟩ := len_rows Tryd.underlying24 (fun k hk => hw k (by
      have hd : d = .agg ([x0, x1, x2, x3, x4, x5].map (·.1)) := congrArg Prod.fst hx
      rw [hd]
      simp only [DataW.weights, Tryd.underlying28]
      exact DataW.weights_mem_each (j := 3) (t := 24) (d := x3.1) rfl rfl k hk)) g4
    obtain ⟨a2, cap2, hvj2, _, _⟩ := hl.jt
    rw [hvj2] at hvj
    simp only [Value.slice.injEq] at hvj
    rw [← hvj.2.1, show Tryd.prog.bytesOf 66 = 32 by kernel_rfl] at hm
    simp [reachBytes] at hm
    omega
end

end Go.Proofs.YtkoldgammeojkaaDoor.Wopn
