/- The chapter's example, and alive (profile). -/
import Derived.Test.YtkoldgammeojkaaDoorSmp
import Derived.Test.YtkoldgammeojkaaDoorPct
import Derived.Deep.RegionHeld3
namespace Go.Proofs.YtkoldgammeojkaaDoor.Pal10
open Go.RowKit Go.Lib Go.Proofs.YtkoldgammeojkaaDoor.Reads Go.Proofs.YtkoldgammeojkaaDoor.Rows2 Go.Proofs.YtkoldgammeojkaaDoor.Lay Go.Proofs.YtkoldgammeojkaaDoor.Segs Go.Proofs.YtkoldgammeojkaaDoor.Psg Go.Proofs.YtkoldgammeojkaaDoor.Pvd Go.Proofs.YtkoldgammeojkaaDoor.Phv Go.Proofs.YtkoldgammeojkaaDoor.Pth Go.Proofs.YtkoldgammeojkaaDoor.Pat Go.Proofs.YtkoldgammeojkaaDoor.Pct Go.Proofs.YtkoldgammeojkaaDoor.Smp

def exP : List Sg := [(0, 10, 5, 300), (10, 30, -5, 200)]
def exC : List Sg := [(5, 10, 5, 300), (10, 12, -5, 200)]
theorem ex_valid : validF exP = true := by decide +kernel
theorem ex_at : atF exP 10 = ((10, 30, -5, 200), true) := by decide +kernel
theorem ex_slow9 : slowF exP 0 9 = 300 := by decide +kernel
theorem ex_slow10 : slowF exP 0 10 = 200 := by decide +kernel
theorem ex_steep : steepF exP 10 10 = -5 := by decide +kernel
theorem ex_cut : cutF exP 5 12 = exC := by decide +kernel

set_option maxRecDepth 100000 in
theorem example_any (w : World) : Calls Tryd.prog 15 #[] w fun e w' => e = .returned (.slice (some ⟨w.heap.size, 0, none⟩) 2 2) ∧ w' = w.alloc (.cells #[.int .i64 0, .int .i64 10, .int .i64 5, .int .i64 300, .int .i64 10, .int .i64 30, .int .i64 (-5), .int .i64 200] 41) := by
  go_enter Tryd.func15, Tryd.ntmps15
  go_wp2_with fail
  go_ret
  exact ⟨rfl, rfl⟩

theorem flat_cell {sz : Nat} : ∀ {rows : List (List Value)}, (∀ r ∈ rows, r.length = sz) → ∀ {i : Nat} {r : List Value}, rows[i]? = some r → ∀ {j : Nat} {x : Value}, r[j]? = some x → rows.flatten[i * sz + j]? = some x
  | [], _, i, r, hr, j, x, hx => by simp at hr
  | a :: l, hl, 0, r, hr, j, x, hx => by
    simp only [List.getElem?_cons_zero, Option.some.injEq] at hr
    subst hr
    rw [List.flatten_cons, Nat.zero_mul, Nat.zero_add, List.getElem?_append_left (List.getElem?_eq_some_iff.1 hx).1]
    exact hx
  | a :: l, hl, i + 1, r, hr, j, x, hx => by
    have ha := hl a List.mem_cons_self
    rw [List.flatten_cons, List.getElem?_append_right (by rw [ha, Nat.add_mul]; omega), ha, show (i + 1) * sz + j - sz = i * sz + j by rw [Nat.add_mul]; omega]
    exact flat_cell (fun r hr => hl r (List.mem_cons_of_mem _ hr)) (by simpa using hr) hx
theorem grid_fresh (w : World) (T : TypeId) {sz n : Nat} {rows : List (List Value)} {cs : Array Value} (hcs : cs = rows.flatten.toArray) (hl : ∀ r ∈ rows, r.length = sz) (hn : n = rows.length) (hm : n ≤ maxLen) : Grid (In (w.alloc (.cells cs T))) (w.alloc (.cells cs T)) (.slice (some ⟨w.heap.size, 0, none⟩) n n) sz rows := by
  subst hcs hn
  refine ⟨_, _, rfl, Nat.le_refl _, hm, .inr ⟨w.heap.size, 0, rfl, by simp [In], fun i r hr j x hx => ?_⟩⟩
  rw [World.cell?_alloc_at _ _ _ _ rfl]
  simpa using flat_cell hl hr hx
theorem ex_grid (w : World) : Grid (In (w.alloc (.cells #[.int .i64 0, .int .i64 10, .int .i64 5, .int .i64 300, .int .i64 10, .int .i64 30, .int .i64 (-5), .int .i64 200] 41))) (w.alloc (.cells #[.int .i64 0, .int .i64 10, .int .i64 5, .int .i64 300, .int .i64 10, .int .i64 30, .int .i64 (-5), .int .i64 200] 41)) (.slice (some ⟨w.heap.size, 0, none⟩) 2 2) 4 (exP.map sgC) :=
  grid_fresh w _ rfl (by intro r hr; obtain ⟨s, _, rfl⟩ := List.mem_map.1 hr; rfl) rfl (by unfold maxLen; decide)
theorem exc_grid (w : World) : Grid (In (w.alloc (.cells #[.int .i64 5, .int .i64 10, .int .i64 5, .int .i64 300, .int .i64 10, .int .i64 12, .int .i64 (-5), .int .i64 200] 41))) (w.alloc (.cells #[.int .i64 5, .int .i64 10, .int .i64 5, .int .i64 300, .int .i64 10, .int .i64 12, .int .i64 (-5), .int .i64 200] 41)) (.slice (some ⟨w.heap.size, 0, none⟩) 2 2) 4 (exC.map sgC) :=
  grid_fresh w _ rfl (by intro r hr; obtain ⟨s, _, rfl⟩ := List.mem_map.1 hr; rfl) rfl (by unfold maxLen; decide)

set_option maxRecDepth 100000 in
set_option maxHeartbeats 6400000 in
theorem alive_any (w : World) : Calls Tryd.prog 6 #[] w (BoolOut true w) := by
  obtain ⟨w1, hw1⟩ : ∃ w1, w.alloc (.cells #[.int .i64 0, .int .i64 10, .int .i64 5, .int .i64 300, .int .i64 10, .int .i64 30, .int .i64 (-5), .int .i64 200] 41) = w1 := ⟨_, rfl⟩
  have b1 : Below w.heap.size w w1 := by rw [← hw1]; exact (Below.refl _ _).alloc (Nat.le_refl _) _
  have hl1 : w.heap.size < w1.heap.size := by rw [← hw1]; simp
  have hr1 : w1.heap[w.heap.size]? = some (.cells #[.int .i64 0, .int .i64 10, .int .i64 5, .int .i64 300, .int .i64 10, .int .i64 30, .int .i64 (-5), .int .i64 200] 41 (0, 0)) := by rw [← hw1]; exact heap_alloc_new w _
  have hg1 : Grid (In w1) w1 (.slice (some ⟨w.heap.size, 0, none⟩) 2 2) 4 (exP.map sgC) := by rw [← hw1]; exact ex_grid w
  have HX := Lib.hid (example_any w)
  rw [hw1] at HX
  have HA := Lib.hid (at_any 10 hg1)
  rw [ex_at] at HA
  have B1 := Lib.hid b1
  have HL1 := Lib.hid hl1
  have HR1 := Lib.hid hr1
  have HG1 := Lib.hid hg1
  clear hw1 b1 hl1 hr1 hg1
  go_enter Tryd.func6, Tryd.ntmps6
  go_wp2_with fail
  refine HX.out.mono ?_
  rintro e w1' ⟨rfl, rfl⟩
  go_wp2_with fail
  refine HA.out.mono ?_
  rintro e w2 ⟨rfl, hb2⟩
  unfold sgV
  obtain ⟨W, hW, bV, lV, v0, v1, v2, v3, -⟩ := box_new w2 10 30 (-5) 200 41
  have b2 := bel_next hb2 bV
  have HG := Lib.hid (fun w' (b : Below W.heap.size W w') => grid_next HG1.out (bel_next b2 b))
  have hr2 := (b2.block _ HL1.out).trans HR1.out
  have hlw : w.heap.size < W.heap.size := Nat.lt_of_lt_of_le HL1.out b2.size
  have HK : Hid (∀ w', Below W.heap.size W w' → w'.cell? ⟨w2.heap.size, 0, none⟩ = some (.int .i64 10) ∧ w'.cell? ⟨w2.heap.size, 1, none⟩ = some (.int .i64 30) ∧ w'.cell? ⟨w2.heap.size, 2, none⟩ = some (.int .i64 (-5)) ∧ w'.cell? ⟨w2.heap.size, 3, none⟩ = some (.int .i64 200) ∧ w'.cell? ⟨w.heap.size, 4, none⟩ = some (.int .i64 10) ∧ w'.cell? ⟨w.heap.size, 5, none⟩ = some (.int .i64 30) ∧ w'.cell? ⟨w.heap.size, 6, none⟩ = some (.int .i64 (-5)) ∧ w'.cell? ⟨w.heap.size, 7, none⟩ = some (.int .i64 200)) := by
    refine Lib.hid (fun w' b => ⟨(b.cell lV).trans v0, (b.cell lV).trans v1, (b.cell lV).trans v2, (b.cell lV).trans v3, (b.cell hlw).trans ?_, (b.cell hlw).trans ?_, (b.cell hlw).trans ?_, (b.cell hlw).trans ?_⟩)
    all_goals
      rw [cell_of_row _ _ _ _ _ _ hr2]
      rfl
  have BW := Lib.hid (bel_next B1.out b2)
  have HW := Lib.hid hW
  have C1 := Lib.hid (fun w' (b : Below W.heap.size W w') => pvalid_any (HG.out w' b))
  have C2 := Lib.hid (fun w' (b : Below W.heap.size W w') => slow_any 0 9 (HG.out w' b))
  have C3 := Lib.hid (fun w' (b : Below W.heap.size W w') => slow_any 0 10 (HG.out w' b))
  have C4 := Lib.hid (fun w' (b : Below W.heap.size W w') => steep_any 10 10 (HG.out w' b))
  have C5 := Lib.hid (fun w' (b : Below W.heap.size W w') => cut_any 5 12 (HG.out w' b))
  rw [ex_valid] at C1
  rw [ex_slow9] at C2
  rw [ex_slow10] at C3
  rw [ex_steep] at C4
  rw [ex_cut] at C5
  have LW := Lib.hid lV
  obtain ⟨x0, x1, x2, x3, x4, x5, x6, x7⟩ := HK.out W (Below.refl _ _)
  clear hW bV lV b2 hb2 v0 v1 v2 v3 hr2 hlw
  go_wp2_with fail
  rw [HW.out]
  go_region_held3 (fun w' => w'.cell? ⟨w2.heap.size, 0, none⟩ = some (.int .i64 10) ∧ w'.cell? ⟨w2.heap.size, 1, none⟩ = some (.int .i64 30) ∧ w'.cell? ⟨w2.heap.size, 2, none⟩ = some (.int .i64 (-5)) ∧ w'.cell? ⟨w2.heap.size, 3, none⟩ = some (.int .i64 200) ∧ w'.cell? ⟨w.heap.size, 4, none⟩ = some (.int .i64 10) ∧ w'.cell? ⟨w.heap.size, 5, none⟩ = some (.int .i64 30) ∧ w'.cell? ⟨w.heap.size, 6, none⟩ = some (.int .i64 (-5)) ∧ w'.cell? ⟨w.heap.size, 7, none⟩ = some (.int .i64 200))
    (first
      | with_reducible exact HK.out _ E9.out
      | with_reducible exact HK.out _ E7.out
      | with_reducible exact HK.out _ (E7.out.alloc E7.out.size _)
      | with_reducible exact HK.out _ E6.out
      | with_reducible exact HK.out _ (E6.out.alloc E6.out.size _)
      | with_reducible exact HK.out _ E5.out
      | with_reducible exact HK.out _ E4.out
      | with_reducible exact HK.out _ E3.out
      | go_keep)
    (first
      | (go_at_call 10; (with_reducible refine (C1.out _ (Below.refl W.heap.size W).drew).mono ?_); rintro e w3 ⟨rfl, b3⟩; have E3 := Lib.hid ((Below.refl W.heap.size W).drew.trans (b3.mono (Below.refl W.heap.size W).drew.size)); clear b3)
      | (go_at_call 17; (with_reducible refine (C2.out _ E3.out).mono ?_); rintro e w4 ⟨rfl, b4⟩; have E4 := Lib.hid (bel_next E3.out b4); clear b4)
      | (go_at_call 17; (with_reducible refine (C3.out _ E4.out).mono ?_); rintro e w5 ⟨rfl, b5⟩; have E5 := Lib.hid (bel_next E4.out b5); clear b5)
      | (go_at_call 18; (with_reducible refine (C4.out _ E5.out).mono ?_); rintro e w6 ⟨rfl, b6⟩; have E6 := Lib.hid (bel_next E5.out b6); clear b6)
      | (go_at_call 19; (with_reducible refine (C5.out _ E6.out).mono ?_); rintro e w7 ⟨v7, rfl, o7, b7⟩; have E7 := Lib.hid (bel_next E6.out b7); have GA := Lib.hid (grid_next (grid_in (grid_of_own o7)) ((Below.refl _ _).alloc (Nat.le_refl _) (.cells #[.int .i64 5, .int .i64 10, .int .i64 5, .int .i64 300, .int .i64 10, .int .i64 12, .int .i64 (-5), .int .i64 200] 41))); have GB := Lib.hid (exc_grid w7); clear o7 b7)
      | (go_at_call 19; (with_reducible refine (C5.out _ (E6.out.alloc E6.out.size _)).mono ?_); rintro e w7 ⟨v7, rfl, o7, b7⟩; have E7 := Lib.hid (bel_next (E6.out.alloc E6.out.size _) b7); have GA := Lib.hid (grid_in (grid_of_own o7)); have GB := Lib.hid (grid_next (exc_grid w6) b7); clear o7 b7)
      | (go_at_call 8; (with_reducible refine (same_any GA.out GB.out).mono ?_); rintro e w9 ⟨rfl, b9⟩; have E9 := Lib.hid (bel_next (E7.out.alloc E7.out.size _) b9); clear b9)
      | (go_at_call 8; (with_reducible refine (same_any GA.out GB.out).mono ?_); rintro e w9 ⟨rfl, b9⟩; have E9 := Lib.hid (bel_next E7.out b9); clear b9))
  all_goals
    go_wp2_with fail
    go_ret
    exact ⟨by simp, bel_next BW.out E9.out⟩

end Go.Proofs.YtkoldgammeojkaaDoor.Pal10
