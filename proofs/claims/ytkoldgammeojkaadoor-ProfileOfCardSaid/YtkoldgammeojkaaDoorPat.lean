/- The program's At, Slowest and Steepest (profile). -/
import Derived.Test.YtkoldgammeojkaaDoorPth
namespace Go.Proofs.YtkoldgammeojkaaDoor.Pat
open Go.RowKit Go.Lib Go.Proofs.YtkoldgammeojkaaDoor.Reads Go.Proofs.YtkoldgammeojkaaDoor.Rows2 Go.Proofs.YtkoldgammeojkaaDoor.Lay Go.Proofs.YtkoldgammeojkaaDoor.Segs Go.Proofs.YtkoldgammeojkaaDoor.Psg Go.Proofs.YtkoldgammeojkaaDoor.Pvd Go.Proofs.YtkoldgammeojkaaDoor.Phv Go.Proofs.YtkoldgammeojkaaDoor.Pth

theorem byTouch : ByVal 37 := fun args w => by kernel_rfl
theorem byOver : ByVal 40 := fun args w => by kernel_rfl
theorem tells_in (f t : Int) : Tells 35 #[stV f t] (insideB f t) := fun W x => inside_any f t x W
theorem tells_touch (f t : Int) : Tells 37 #[stV f t] (touchB f t) := fun W x => touches_any f t x W
theorem tells_over (f t : Int) : Tells 40 #[stV f t] (overB f t) := fun W x => overlaps_any f t x W

set_option maxRecDepth 100000 in
set_option maxHeartbeats 1600000 in
theorem slow_any (f t : Int) {p : List Sg} {v : Value} {w : World} (h : Grid (In w) w v 4 (p.map sgC)) :
    Calls Tryd.prog 17 #[v, .int .i64 f, .int .i64 t] w (NumOut (slowF p f t) w) := by
  have HT := Lib.hid (those_any byTouch (tells_touch f t) h)
  obtain ⟨l, hl⟩ : ∃ l, thoseF (touchB f t) p = l := ⟨_, rfl⟩
  have HS : Hid (slowF p f t = leastF spV l) := by
    show _ = _
    rw [slowF, hl]
  rw [hl] at HT
  unfold stV at HT
  rw [HS.out]
  obtain ⟨r, hr⟩ : ∃ r, leastF spV l = r := ⟨_, rfl⟩
  rw [hr]
  have HR := Lib.hid hr
  obtain ⟨a, cap, rfl, hm, _, _, _⟩ := segs h
  have hmf : ∀ fn first cap w, (Instr.makeFunc fn first cap).run Tryd.prog w = .ok (.func fn first cap) w := fun _ _ _ _ => rfl
  clear h hl HS hr
  go_enter Tryd.func17, Tryd.ntmps17
  go_wp2_with fail
  refine HT.out.mono ?_
  rintro e w1 h1
  obtain ⟨A1, M1, C1, rfl, HM1, HO1, HB1⟩ := seg_open h1
  clear h1
  have HL := Lib.hid (least_any byval_sp gives_sp (grid_in (grid_of_own HO1.out)))
  rw [HR.out] at HL
  go_wp2_with fail
  refine HL.out.mono ?_
  rintro e w2 ⟨rfl, hb2⟩
  have HB2 := Lib.hid (bel_next HB1.out hb2)
  clear hb2
  go_wp2_with fail
  go_ret
  exact ⟨rfl, HB2.out⟩

set_option maxRecDepth 100000 in
set_option maxHeartbeats 1600000 in
theorem steep_any (f t : Int) {p : List Sg} {v : Value} {w : World} (h : Grid (In w) w v 4 (p.map sgC)) :
    Calls Tryd.prog 18 #[v, .int .i64 f, .int .i64 t] w (NumOut (steepF p f t) w) := by
  have HT := Lib.hid (those_any byTouch (tells_touch f t) h)
  obtain ⟨l, hl⟩ : ∃ l, thoseF (touchB f t) p = l := ⟨_, rfl⟩
  have HS : Hid (steepF p f t = leastF grV l) := by
    show _ = _
    rw [steepF, hl]
  rw [hl] at HT
  unfold stV at HT
  rw [HS.out]
  obtain ⟨r, hr⟩ : ∃ r, leastF grV l = r := ⟨_, rfl⟩
  rw [hr]
  have HR := Lib.hid hr
  obtain ⟨a, cap, rfl, hm, _, _, _⟩ := segs h
  have hmf : ∀ fn first cap w, (Instr.makeFunc fn first cap).run Tryd.prog w = .ok (.func fn first cap) w := fun _ _ _ _ => rfl
  clear h hl HS hr
  go_enter Tryd.func18, Tryd.ntmps18
  go_wp2_with fail
  refine HT.out.mono ?_
  rintro e w1 h1
  obtain ⟨A1, M1, C1, rfl, HM1, HO1, HB1⟩ := seg_open h1
  clear h1
  have HL := Lib.hid (least_any byval_gr gives_gr (grid_in (grid_of_own HO1.out)))
  rw [HR.out] at HL
  go_wp2_with fail
  refine HL.out.mono ?_
  rintro e w2 ⟨rfl, hb2⟩
  have HB2 := Lib.hid (bel_next HB1.out hb2)
  clear hb2
  go_wp2_with fail
  go_ret
  exact ⟨rfl, HB2.out⟩

theorem results_duo {fn : Func} {p u : Tmp} {ty : TypeId} (P : Program) {tmps : Array Value} {w : World} {g : Nat} {x : Value} (h : fn.results = #[.cell p ty, .tmp u]) (hp : tmps.getD p undef = .pointer (some ⟨g, 0, none⟩))
    (e : (loadVar ty ⟨g, 0, none⟩).run P w = .ok x w) : (results fn tmps).run P w = .ok (.tuple #[x, tmps.getD u undef]) w := by
  simp only [results, h]
  simp only [Array.getD_eq_getD_getElem?] at hp ⊢
  simp [Result.andThen, hp, asAddr, e]
theorem load_seg {w : World} {g : Nat} {T : TypeId} {c0 c1 c2 c3 : Value} (h : w.heap[g]? = some (.cells #[c0, c1, c2, c3] T (0, 0))) : (loadVar 41 ⟨g, 0, none⟩).run Tryd.prog w = .ok (.agg #[c0, c1, c2, c3]) w :=
  run_loadVar_row w g T 41 _ (0, 0) _ h Tryd.underlying41 rfl (by kernel_rfl)

/-- What a call gives that returns a segment and whether there is one. -/
def AtOut (r : Sg × Bool) (w : World) (e : Ending) (w' : World) : Prop := e = .returned (.tuple #[sgV r.1, .bool r.2]) ∧ Below w.heap.size w w'

set_option maxRecDepth 100000 in
set_option maxHeartbeats 1600000 in
theorem at_any (x : Int) {p : List Sg} {v : Value} {w : World} (h : Grid (In w) w v 4 (p.map sgC)) :
    Calls Tryd.prog 16 #[v, .int .i64 x] w (AtOut (atF p x) w) := by
  have hbel := (Below.refl w.heap.size w).alloc (Nat.le_refl _) (.cells #[.int .i64 0, .int .i64 0, .int .i64 0, .int .i64 0] 41)
  have hrow := heap_alloc_new w (.cells #[.int .i64 0, .int .i64 0, .int .i64 0, .int .i64 0] 41)
  obtain ⟨W, hW⟩ : ∃ W, w.alloc (.cells #[.int .i64 0, .int .i64 0, .int .i64 0, .int .i64 0] 41) = W := ⟨_, rfl⟩
  have hlt : w.heap.size < W.heap.size := by rw [← hW]; simp
  rw [hW] at hbel hrow
  have HT := Lib.hid (those_any byInside (tells_in x x) (grid_next h hbel))
  obtain ⟨l, hl⟩ : ∃ l, thoseF (insideB x x) p = l := ⟨_, rfl⟩
  have HS : Hid (atF p x = headF l) := by
    show _ = _
    rw [atF, hl]
  rw [hl] at HT
  unfold stV at HT
  obtain ⟨r, hr⟩ : ∃ r, atF p x = r := ⟨_, rfl⟩
  rw [hr] at HS ⊢
  obtain ⟨a, cap, rfl, hm, _, _, _⟩ := segs h
  have hmf : ∀ fn first cap w, (Instr.makeFunc fn first cap).run Tryd.prog w = .ok (.func fn first cap) w := fun _ _ _ _ => rfl
  have HW := Lib.hid hW
  have HBL := Lib.hid hbel
  have HRW := Lib.hid hrow
  have HLT := Lib.hid hlt
  clear h hl hW hbel hrow hlt hr
  go_enter Tryd.func16, Tryd.ntmps16
  go_wp2_with fail
  rw [HW.out]
  refine HT.out.mono ?_
  rintro e w1 h1
  obtain ⟨A1, M1, C1, rfl, HM1, HO1, HB1⟩ := seg_open h1
  clear h1
  have hrow1 := (HB1.out.block _ HLT.out).trans HRW.out
  have p0 := cell_of_row w1 w.heap.size 0 _ _ _ hrow1
  have p1 := cell_of_row w1 w.heap.size 1 _ _ _ hrow1
  have p2 := cell_of_row w1 w.heap.size 2 _ _ _ hrow1
  have p3 := cell_of_row w1 w.heap.size 3 _ _ _ hrow1
  have z0 := frozen_of_row w1 w.heap.size 0 _ _ hrow1
  have z1 := frozen_of_row w1 w.heap.size 1 _ _ hrow1
  have z2 := frozen_of_row w1 w.heap.size 2 _ _ hrow1
  have z3 := frozen_of_row w1 w.heap.size 3 _ _ hrow1
  have HR1 := Lib.hid hrow1
  have hlt1 := Nat.lt_of_lt_of_le HLT.out HB1.out.size
  have HB := Lib.hid (bel_next HBL.out HB1.out)
  clear hrow1
  rcases l with _ | ⟨s, l'⟩
  · have hM : M1 = 0 := HM1.out.symm
    subst hM
    go_wp2_with fail
    refine bodyPost_ret (v := .tuple #[sgV r.1, .bool r.2]) ?_ rfl ⟨rfl, ?_⟩
    · rw [HS.out]
      exact results_duo (p := 4) (u := 5) (ty := 41) _ rfl rfl (load_seg (set_four HR1.out).1)
    · exact (set_four HR1.out).2.2 _ _ HB.out (Nat.le_refl _)
  · obtain ⟨a1, c1', e', _, _, _, hc⟩ := segs (grid_in (grid_of_own HO1.out))
    obtain ⟨b, off, e2, hbl, d0, d1, d2, d3⟩ := hc w1 (Below.refl _ _) 0 s rfl
    subst e2
    cases e'
    simp only [Nat.zero_mul, Nat.add_zero] at d0 d1 d2 d3
    obtain ⟨M, hM⟩ : ∃ M, (s :: l').length = M := ⟨_, rfl⟩
    have hM0 : (0 : Int) < (M : Int) := by rw [← hM, List.length_cons]; omega
    have hM1 : ((M : Int) == 0) = false := beq_eq_false_iff_ne.2 (by omega)
    obtain ⟨s1, s2, s3, s4⟩ := s
    simp only at d0 d1 d2 d3
    rw [hM]
    clear hM HM1 hc
    go_wp2_with fail
    refine bodyPost_ret (v := .tuple #[sgV r.1, .bool r.2]) ?_ rfl ⟨rfl, ?_⟩
    · rw [HS.out]
      exact results_duo (p := 4) (u := 5) (ty := 41) _ rfl rfl (load_seg (set_four HR1.out).1)
    · exact (set_four HR1.out).2.2 _ _ HB.out (Nat.le_refl _)

end Go.Proofs.YtkoldgammeojkaaDoor.Pat
