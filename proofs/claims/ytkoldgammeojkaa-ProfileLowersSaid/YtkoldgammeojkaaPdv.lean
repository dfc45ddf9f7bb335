/- The program's divide (profile). -/
import Derived.Test.YtkoldgammeojkaaPct
import Derived.Test.YtkoldgammeojkaaDrw
namespace Go.Proofs.Ytkoldgammeojkaa.Pdv
open Go.RowKit Go.Lib Go.Proofs.Ytkoldgammeojkaa.Reads Go.Proofs.Ytkoldgammeojkaa.Rows2 Go.Proofs.Ytkoldgammeojkaa.Lay Go.Proofs.Ytkoldgammeojkaa.Segs Go.Proofs.Ytkoldgammeojkaa.Psg Go.Proofs.Ytkoldgammeojkaa.Pvd Go.Proofs.Ytkoldgammeojkaa.Phv Go.Proofs.Ytkoldgammeojkaa.Pth Go.Proofs.Ytkoldgammeojkaa.Pat Go.Proofs.Ytkoldgammeojkaa.Pct Go.Proofs.Ytkoldgammeojkaa.Drw

theorem any_eq {P : Program} {md : Region.Mode} {ops : Array Oper} {Q : Exit → Act → World → Prop} {S : World → Prop} {n n' : Nat} {l l' : Array Bool} {a a' : Act} {w : World} (hl : l = l') (hn : n = n') (ha : a = a') (h : wpAnyH P md ops Q S n' l' a' w) : wpAnyH P md ops Q S n l a w := by
  subst hl hn ha
  exact h
theorem op_of {P : Program} {ops : Array Oper} {Q : Exit → Act → World → Prop} {i : Nat} {K : Act → World → Prop} {a : Act} {w : World} {o : Oper} (hi : ops[i]? = some o) (hw : Region.wanted o (yielded ops a.tmps) = true) (h : o.wp P a w K Q) : wpOp P ops Q i K a w := by
  unfold wpOp
  rw [hi]
  simp only [hw, if_true]
  exact .inl h
theorem flat_cell {sz : Nat} : ∀ {rows : List (List Value)}, (∀ r ∈ rows, r.length = sz) → ∀ {i : Nat} {r : List Value}, rows[i]? = some r → ∀ {j : Nat} {x : Value}, r[j]? = some x → rows.flatten[i * sz + j]? = some x
  | [], _, i, r, hr, j, x, hx => by simp at hr
  | a :: l, hl, 0, r, hr, j, x, hx => by
    simp only [List.getElem?_cons_zero, Option.some.injEq] at hr
    subst hr
    rw [List.flatten_cons, Nat.zero_mul, Nat.zero_add, List.getElem?_append_left (List.getElem?_eq_some_iff.1 hx).1]
    exact hx
  | a :: l, hl, i + 1, r, hr, j, x, hx => by
    have ha := hl a List.mem_cons_self
    rw [List.flatten_cons, List.getElem?_append_right (by rw [ha, Nat.add_mul]; omega), ha, show (i + 1) * sz + j - sz = i * sz + j by rw [Nat.add_mul]; omega]
    exact flat_cell (fun r hr => hl r (List.mem_cons_of_mem _ hr)) (by simpa using hr) hx
theorem grid_fresh (w : World) (T : TypeId) {sz n : Nat} {rows : List (List Value)} {cs : Array Value} (hcs : cs = rows.flatten.toArray) (hl : ∀ r ∈ rows, r.length = sz) (hn : n = rows.length) (hm : n ≤ maxLen) : Grid (In (w.alloc (.cells cs T))) (w.alloc (.cells cs T)) (.slice (some ⟨w.heap.size, 0, none⟩) n n) sz rows := by
  subst hcs hn
  refine ⟨_, _, rfl, Nat.le_refl _, hm, .inr ⟨w.heap.size, 0, rfl, by simp [In], fun i r hr j x hx => ?_⟩⟩
  rw [World.cell?_alloc_at _ _ _ _ rfl]
  simpa using flat_cell hl hr hx
theorem tells_long : Tells 38 #[] longB := fun W x => long_any x W
/-- The frame between two operations. -/
def acts (f t v x1 x2 x3 x4 : Int) (g : Nat) (v7 v8 v9 v16 v19 v26 : Value) : Act :=
  { tmps := #[.agg #[.int .i64 f, .int .i64 t], .agg #[.int .i64 x1, .int .i64 x2, .int .i64 x3, .int .i64 x4], .int .i64 v, .pointer (some ⟨g, 0, none⟩), .pointer (some ⟨g + 1, 0, none⟩), undef, .slice none 0 0, v7, v8, v9,
      .pointer (some ⟨g + 1, 0, none⟩), .int .i64 x1, .pointer (some ⟨g, 0, none⟩), .int .i64 f, .agg #[.int .i64 x1, .int .i64 f], .agg #[.int .i64 x1, .int .i64 x2, .int .i64 x3, .int .i64 x4], v16,
      .agg #[.int .i64 f, .int .i64 t], .agg #[.int .i64 x1, .int .i64 x2, .int .i64 x3, .int .i64 x4], v19, .pointer (some ⟨g, 1, none⟩), .int .i64 t, .pointer (some ⟨g + 1, 1, none⟩), .int .i64 x2, .agg #[.int .i64 t, .int .i64 x2], .agg #[.int .i64 x1, .int .i64 x2, .int .i64 x3, .int .i64 x4], v26,
      undef, undef, undef, undef, undef, undef, undef, undef, undef, undef], defers := [] }

set_option maxRecDepth 100000 in
set_option maxHeartbeats 6400000 in
theorem divide_any (f t v : Int) (s : Sg) (w : World) :
    Calls Try.prog 36 #[stV f t, sgV s, .int .i64 v] w (SegOut (divideF f t v s) w) := by
  obtain ⟨r1, hr1⟩ : ∃ r, partF s.1 f s = r := ⟨_, rfl⟩
  obtain ⟨r2, hr2⟩ : ∃ r, partF f t s = r := ⟨_, rfl⟩
  obtain ⟨r3, hr3⟩ : ∃ r, partF t s.2.1 s = r := ⟨_, rfl⟩
  have HP1 := Lib.hid (fun w' => part_any s.1 f s w')
  have HP2 := Lib.hid (fun w' => part_any f t s w')
  have HP3 := Lib.hid (fun w' => part_any t s.2.1 s w')
  have HD : Hid (divideF f t v s = [r1, slowed v r2, r3].filter longB) := by
    show _ = _
    rw [divideF, hr1, hr2, hr3]
  rw [hr1] at HP1
  rw [hr2] at HP2
  rw [hr3] at HP3
  obtain ⟨x1, x2, x3, x4⟩ := s
  obtain ⟨a1, a2, a3, a4⟩ := r1
  obtain ⟨b1, b2, b3, b4⟩ := r2
  obtain ⟨c1, c2, c3, c4⟩ := r3
  unfold OneOut sgV stV at HP1 HP2 HP3
  simp only at HP1 HP2 HP3
  unfold sgV stV
  simp only
  obtain ⟨e1, e2, e3, e4⟩ := box_two w #[.int .i64 f, .int .i64 t] #[.int .i64 x1, .int .i64 x2, .int .i64 x3, .int .i64 x4] 46 25
  obtain ⟨W, hW⟩ : ∃ W, (w.alloc (.cells #[.int .i64 f, .int .i64 t] 46)).alloc (.cells #[.int .i64 x1, .int .i64 x2, .int .i64 x3, .int .i64 x4] 25) = W := ⟨_, rfl⟩
  have hWs : W.heap.size = w.heap.size + 1 + 1 := by rw [← hW]; simp
  rw [hW] at e2 e3 e4
  have p0 := cell_of_row W w.heap.size 0 _ _ _ e3
  have p1 := cell_of_row W w.heap.size 1 _ _ _ e3
  have q0 := cell_of_row W (w.heap.size + 1) 0 _ _ _ e4
  have q1 := cell_of_row W (w.heap.size + 1) 1 _ _ _ e4
  have q2 := cell_of_row W (w.heap.size + 1) 2 _ _ _ e4
  have q3 := cell_of_row W (w.heap.size + 1) 3 _ _ _ e4
  have hl0 : w.heap.size < W.heap.size := by omega
  have hl1 : w.heap.size + 1 < W.heap.size := by omega
  have HW := Lib.hid hW
  have HB0 := Lib.hid e2
  have HWS := Lib.hid hWs
  clear hr1 hr2 hr3 hW e1 e2 e3 e4 hWs
  have HK : Hid (∀ w', Below W.heap.size W w' → w'.cell? ⟨w.heap.size, 0, none⟩ = some (.int .i64 f) ∧ w'.cell? ⟨w.heap.size, 1, none⟩ = some (.int .i64 t) ∧ w'.cell? ⟨w.heap.size + 1, 0, none⟩ = some (.int .i64 x1) ∧ w'.cell? ⟨w.heap.size + 1, 1, none⟩ = some (.int .i64 x2) ∧ w'.cell? ⟨w.heap.size + 1, 2, none⟩ = some (.int .i64 x3) ∧ w'.cell? ⟨w.heap.size + 1, 3, none⟩ = some (.int .i64 x4) ∧ Below W.heap.size W w') := fun w' b => ⟨(b.cell hl0).trans p0, (b.cell hl0).trans p1, (b.cell hl1).trans q0, (b.cell hl1).trans q1, (b.cell hl1).trans q2, (b.cell hl1).trans q3, b⟩
  go_enter Try.func36, Try.ntmps36
  go_wp2_with fail
  rw [HW.out]
  have hS0 : (fun w' => w'.cell? ⟨w.heap.size, 0, none⟩ = some (.int .i64 f) ∧ w'.cell? ⟨w.heap.size, 1, none⟩ = some (.int .i64 t) ∧ w'.cell? ⟨w.heap.size + 1, 0, none⟩ = some (.int .i64 x1) ∧ w'.cell? ⟨w.heap.size + 1, 1, none⟩ = some (.int .i64 x2) ∧ w'.cell? ⟨w.heap.size + 1, 2, none⟩ = some (.int .i64 x3) ∧ w'.cell? ⟨w.heap.size + 1, 3, none⟩ = some (.int .i64 x4) ∧ Below W.heap.size W w') W.drew := HK.out _ (Below.refl _ W).drew
  refine wp_region_held (S := fun w' => w'.cell? ⟨w.heap.size, 0, none⟩ = some (.int .i64 f) ∧ w'.cell? ⟨w.heap.size, 1, none⟩ = some (.int .i64 t) ∧ w'.cell? ⟨w.heap.size + 1, 0, none⟩ = some (.int .i64 x1) ∧ w'.cell? ⟨w.heap.size + 1, 1, none⟩ = some (.int .i64 x2) ∧ w'.cell? ⟨w.heap.size + 1, 2, none⟩ = some (.int .i64 x3) ∧ w'.cell? ⟨w.heap.size + 1, 3, none⟩ = some (.int .i64 x4) ∧ Below W.heap.size W w') (by kernel_rfl) ?_
  refine wpAnyH_take (i := 0) (v := .pointer (some ⟨w.heap.size + 1, 0, none⟩)) rfl (by kernel_rfl) (by kernel_rfl) (by kernel_rfl) (fun _ _ _ h => h) (Or.inl ⟨by rfl, ?_⟩) hS0 ?_
  · rintro w' ⟨g1, g2, g3, g4, g5, g6, -⟩
    go_simp
  refine wpAnyH_take (i := 1) (v := .int .i64 x1) rfl (by kernel_rfl) (by kernel_rfl) (by kernel_rfl) (fun _ _ _ h => h) (Or.inl ⟨by rfl, ?_⟩) hS0 ?_
  · rintro w' ⟨g1, g2, g3, g4, g5, g6, -⟩
    go_simp
  refine wpAnyH_take (i := 2) (v := .pointer (some ⟨w.heap.size, 0, none⟩)) rfl (by kernel_rfl) (by kernel_rfl) (by kernel_rfl) (fun _ _ _ h => h) (Or.inl ⟨by rfl, ?_⟩) hS0 ?_
  · rintro w' ⟨g1, g2, g3, g4, g5, g6, -⟩
    go_simp
  refine wpAnyH_take (i := 3) (v := .int .i64 f) rfl (by kernel_rfl) (by kernel_rfl) (by kernel_rfl) (fun _ _ _ h => h) (Or.inl ⟨by rfl, ?_⟩) hS0 ?_
  · rintro w' ⟨g1, g2, g3, g4, g5, g6, -⟩
    go_simp
  refine wpAnyH_take (i := 4) (v := .agg #[.int .i64 x1, .int .i64 f]) rfl (by kernel_rfl) (by kernel_rfl) (by kernel_rfl) (fun _ _ _ h => h) (Or.inl ⟨by rfl, ?_⟩) hS0 ?_
  · rintro w' ⟨g1, g2, g3, g4, g5, g6, -⟩
    go_simp
  refine wpAnyH_take (i := 5) (v := .agg #[.int .i64 x1, .int .i64 x2, .int .i64 x3, .int .i64 x4]) rfl (by kernel_rfl) (by kernel_rfl) (by kernel_rfl) (fun _ _ _ h => h) (Or.inl ⟨by rfl, ?_⟩) hS0 ?_
  · rintro w' ⟨g1, g2, g3, g4, g5, g6, -⟩
    go_simp
  refine wpAnyH_take (i := 7) (v := .agg #[.int .i64 f, .int .i64 t]) rfl (by kernel_rfl) (by kernel_rfl) (by kernel_rfl) (fun _ _ _ h => h) (Or.inl ⟨by rfl, ?_⟩) hS0 ?_
  · rintro w' ⟨g1, g2, g3, g4, g5, g6, -⟩
    go_simp
  refine wpAnyH_take (i := 8) (v := .agg #[.int .i64 x1, .int .i64 x2, .int .i64 x3, .int .i64 x4]) rfl (by kernel_rfl) (by kernel_rfl) (by kernel_rfl) (fun _ _ _ h => h) (Or.inl ⟨by rfl, ?_⟩) hS0 ?_
  · rintro w' ⟨g1, g2, g3, g4, g5, g6, -⟩
    go_simp
  refine wpAnyH_take (i := 10) (v := .pointer (some ⟨w.heap.size, 1, none⟩)) rfl (by kernel_rfl) (by kernel_rfl) (by kernel_rfl) (fun _ _ _ h => h) (Or.inl ⟨by rfl, ?_⟩) hS0 ?_
  · rintro w' ⟨g1, g2, g3, g4, g5, g6, -⟩
    go_simp
  refine wpAnyH_take (i := 11) (v := .int .i64 t) rfl (by kernel_rfl) (by kernel_rfl) (by kernel_rfl) (fun _ _ _ h => h) (Or.inl ⟨by rfl, ?_⟩) hS0 ?_
  · rintro w' ⟨g1, g2, g3, g4, g5, g6, -⟩
    go_simp
  refine wpAnyH_take (i := 12) (v := .pointer (some ⟨w.heap.size + 1, 1, none⟩)) rfl (by kernel_rfl) (by kernel_rfl) (by kernel_rfl) (fun _ _ _ h => h) (Or.inl ⟨by rfl, ?_⟩) hS0 ?_
  · rintro w' ⟨g1, g2, g3, g4, g5, g6, -⟩
    go_simp
  refine wpAnyH_take (i := 13) (v := .int .i64 x2) rfl (by kernel_rfl) (by kernel_rfl) (by kernel_rfl) (fun _ _ _ h => h) (Or.inl ⟨by rfl, ?_⟩) hS0 ?_
  · rintro w' ⟨g1, g2, g3, g4, g5, g6, -⟩
    go_simp
  refine wpAnyH_take (i := 14) (v := .agg #[.int .i64 t, .int .i64 x2]) rfl (by kernel_rfl) (by kernel_rfl) (by kernel_rfl) (fun _ _ _ h => h) (Or.inl ⟨by rfl, ?_⟩) hS0 ?_
  · rintro w' ⟨g1, g2, g3, g4, g5, g6, -⟩
    go_simp
  refine wpAnyH_take (i := 15) (v := .agg #[.int .i64 x1, .int .i64 x2, .int .i64 x3, .int .i64 x4]) rfl (by kernel_rfl) (by kernel_rfl) (by kernel_rfl) (fun _ _ _ h => h) (Or.inl ⟨by rfl, ?_⟩) hS0 ?_
  · rintro w' ⟨g1, g2, g3, g4, g5, g6, -⟩
    go_simp
  refine any_eq (l' := lst false false false false false false false false false) (n' := 9) (a' := acts f t v x1 x2 x3 x4 w.heap.size undef undef undef undef undef undef) (by kernel_rfl) (by kernel_rfl) ?_ ?_
  · kernel_rfl
  refine drawn (W := W) (T := 25) (r1 := (a1, a2, a3, a4)) (r2 := (b1, b2, b3, b4)) (r3 := (c1, c2, c3, c4)) (acts f t v x1 x2 x3 x4 w.heap.size) HK.out (by decide +kernel) (by decide +kernel) ?_ ?_ ?_ ?_ ?_ ?_ ?_ ?_ ?_ ?_ 9 false false false false false false false false false rfl 0 0 0 undef undef undef undef undef undef _ ⟨(Below.refl _ W).drew, fun h => (by cases h), fun h => (by cases h), fun h => (by cases h), fun h => (by cases h), fun h => (by cases h), fun h => (by cases h), fun h => (by cases h), fun h => (by cases h), fun h => (by cases h), fun h => (by cases h), fun h => (by cases h), fun h => (by cases h)⟩
  · intro v7 v8 v9 v16 v19 v26 wr K hK
    refine op_of rfl rfl ?_
    unfold acts
    go_simp
    refine (HP1.out _).mono ?_
    rintro e w7 ⟨rfl, b7⟩
    exact hK _ b7
  · intro v7 v8 v9 v16 v19 v26 wr K hK
    refine op_of rfl rfl ?_
    unfold acts
    go_simp
    refine (HP2.out _).mono ?_
    rintro e w7 ⟨rfl, b7⟩
    exact hK _ b7
  · intro v7 v8 v9 v16 v19 v26 wr K hK
    refine op_of rfl rfl ?_
    unfold acts
    go_simp
    refine (HP3.out _).mono ?_
    rintro e w7 ⟨rfl, b7⟩
    exact hK _ b7
  iterate 3
    · intro v7 v8 v9 v16 v19 v26 wr K hK
      refine op_of rfl rfl ?_
      unfold acts
      go_simp
      exact hK
  · intro A v8 v9 v19 v26 wr K s hx hK
    have hr : wr.heap[A]? = some (.cells #[.int .i64 s.1, .int .i64 s.2.1, .int .i64 s.2.2.1, .int .i64 s.2.2.2] 25 (0, 0)) := hx.row
    have y0 := cell_of_row wr A 0 _ _ _ hr
    have y1 := cell_of_row wr A 1 _ _ _ hr
    have y2 := cell_of_row wr A 2 _ _ _ hr
    have y3 := cell_of_row wr A 3 _ _ _ hr
    have z0 := frozen_of_row wr A 0 _ _ hr
    have z1 := frozen_of_row wr A 1 _ _ hr
    have z2 := frozen_of_row wr A 2 _ _ hr
    have z3 := frozen_of_row wr A 3 _ _ hr
    have hlt := hx.lt
    clear hr hx
    refine op_of rfl rfl ?_
    unfold acts sgV
    go_simp
    exact hK
  · intro A v7 v9 v16 v26 wr K s hx hK
    have hr : wr.heap[A]? = some (.cells #[.int .i64 s.1, .int .i64 s.2.1, .int .i64 s.2.2.1, .int .i64 s.2.2.2] 25 (0, 0)) := hx.row
    have y0 := cell_of_row wr A 0 _ _ _ hr
    have y1 := cell_of_row wr A 1 _ _ _ hr
    have y2 := cell_of_row wr A 2 _ _ _ hr
    have y3 := cell_of_row wr A 3 _ _ _ hr
    have z0 := frozen_of_row wr A 0 _ _ hr
    have z1 := frozen_of_row wr A 1 _ _ hr
    have z2 := frozen_of_row wr A 2 _ _ hr
    have z3 := frozen_of_row wr A 3 _ _ hr
    have hlt := hx.lt
    clear hr hx
    refine op_of rfl rfl ?_
    unfold acts sgV
    go_simp
    exact hK
  · intro A v7 v8 v16 v19 wr K s hx hK
    have hr : wr.heap[A]? = some (.cells #[.int .i64 s.1, .int .i64 s.2.1, .int .i64 s.2.2.1, .int .i64 s.2.2.2] 25 (0, 0)) := hx.row
    have y0 := cell_of_row wr A 0 _ _ _ hr
    have y1 := cell_of_row wr A 1 _ _ _ hr
    have y2 := cell_of_row wr A 2 _ _ _ hr
    have y3 := cell_of_row wr A 3 _ _ _ hr
    have z0 := frozen_of_row wr A 0 _ _ hr
    have z1 := frozen_of_row wr A 1 _ _ hr
    have z2 := frozen_of_row wr A 2 _ _ hr
    have z3 := frozen_of_row wr A 3 _ _ hr
    have hlt := hx.lt
    clear hr hx
    refine op_of rfl rfl ?_
    unfold acts sgV
    go_simp
    exact hK
  · intro A7 A8 A9 w6 n78 n79 n89 h7 h8 h9 hB6
    have k7 : w6.heap[A7]? = some (.cells #[.int .i64 a1, .int .i64 a2, .int .i64 a3, .int .i64 a4] 25 (0, 0)) := h7.row
    have k8 : w6.heap[A8]? = some (.cells #[.int .i64 b1, .int .i64 b2, .int .i64 b3, .int .i64 b4] 25 (0, 0)) := h8.row
    have k9 : w6.heap[A9]? = some (.cells #[.int .i64 c1, .int .i64 c2, .int .i64 c3, .int .i64 c4] 25 (0, 0)) := h9.row
    have d0 := cell_of_row w6 A7 0 _ _ _ k7
    have d1 := cell_of_row w6 A7 1 _ _ _ k7
    have d2 := cell_of_row w6 A7 2 _ _ _ k7
    have d3 := cell_of_row w6 A7 3 _ _ _ k7
    have e0 := cell_of_row w6 A8 0 _ _ _ k8
    have e1 := cell_of_row w6 A8 1 _ _ _ k8
    have e2 := cell_of_row w6 A8 2 _ _ _ k8
    have e3 := cell_of_row w6 A8 3 _ _ _ k8
    have z3 := frozen_of_row w6 A8 3 _ _ k8
    have f0 := cell_of_row w6 A9 0 _ _ _ k9
    have f1 := cell_of_row w6 A9 1 _ _ _ k9
    have f2 := cell_of_row w6 A9 2 _ _ _ k9
    have f3 := cell_of_row w6 A9 3 _ _ _ k9
    have l7 := h7.lt
    have l8 := h8.lt
    have l9 := h9.lt
    have L8 := Lib.hid h8.low
    have HB6 := Lib.hid (bel_next HB0.out hB6)
    have HLH := Lib.hid (fun (g : FuncId) (hg : g = 38) => (show ByVal g by subst hg; exact fun args w => by kernel_rfl))
    clear k7 k8 k9 h7 h8 h9 hB6
    have hmin : (v < b4 ∧ min b4 v = v) ∨ (¬ v < b4 ∧ min b4 v = b4) := by omega
    rcases hmin with ⟨hv, hm⟩ | ⟨hv, hm⟩
    · have HS : Hid ([(a1, a2, a3, a4), slowed v (b1, b2, b3, b4), (c1, c2, c3, c4)] = [((a1, a2, a3, a4) : Sg), (b1, b2, b3, v), (c1, c2, c3, c4)]) := by
        show _ = _
        simp only [slowed, hm]
      have hsz : (w6.setCell ⟨A8, 3, none⟩ (.int .i64 v)).heap.size = w6.heap.size := by simp [World.setCell]
      have hg := grid_fresh (w6.setCell ⟨A8, 3, none⟩ (.int .i64 v)) 25 (sz := 4) (n := 3) (rows := ([((a1, a2, a3, a4) : Sg), (b1, b2, b3, v), (c1, c2, c3, c4)]).map sgC) (cs := #[.int .i64 a1, .int .i64 a2, .int .i64 a3, .int .i64 a4, .int .i64 b1, .int .i64 b2, .int .i64 b3, .int .i64 v, .int .i64 c1, .int .i64 c2, .int .i64 c3, .int .i64 c4]) rfl (by intro r hr; obtain ⟨s, _, rfl⟩ := List.mem_map.1 hr; rfl) rfl (by unfold maxLen; decide)
      rw [hsz] at hg
      have HGR := Lib.hid hg
      have HBX : Hid (Below w.heap.size w ((w6.setCell ⟨A8, 3, none⟩ (.int .i64 v)).alloc (.cells #[.int .i64 a1, .int .i64 a2, .int .i64 a3, .int .i64 a4, .int .i64 b1, .int .i64 b2, .int .i64 b3, .int .i64 v, .int .i64 c1, .int .i64 c2, .int .i64 c3, .int .i64 c4] 25))) := by
        have h1 := HB6.out.setCell (p := ⟨A8, 3, none⟩) (Nat.le_trans HB0.out.size L8.out) (.int .i64 v)
        exact Lib.hid (h1.alloc h1.size _)
      clear hm hsz hg
      unfold acts
      go_wp2_with fail
      refine (having_plain (HLH.out _ rfl) tells_long HGR.out (by simp)).mono ?_
      rintro e w8 h8
      obtain ⟨A1, M1, C1, rfl, HM1, HO1, HB1⟩ := seg_open h8
      clear h8
      go_wp2_with fail
      go_ret
      rw [HD.out, HS.out]
      exact seg_close HBX.out HO1.out HB1.out
    · have HS : Hid ([(a1, a2, a3, a4), slowed v (b1, b2, b3, b4), (c1, c2, c3, c4)] = [((a1, a2, a3, a4) : Sg), (b1, b2, b3, b4), (c1, c2, c3, c4)]) := by
        show _ = _
        simp only [slowed, hm]
      have hsz : (w6.setCell ⟨A8, 3, none⟩ (.int .i64 b4)).heap.size = w6.heap.size := by simp [World.setCell]
      have hg := grid_fresh (w6.setCell ⟨A8, 3, none⟩ (.int .i64 b4)) 25 (sz := 4) (n := 3) (rows := ([((a1, a2, a3, a4) : Sg), (b1, b2, b3, b4), (c1, c2, c3, c4)]).map sgC) (cs := #[.int .i64 a1, .int .i64 a2, .int .i64 a3, .int .i64 a4, .int .i64 b1, .int .i64 b2, .int .i64 b3, .int .i64 b4, .int .i64 c1, .int .i64 c2, .int .i64 c3, .int .i64 c4]) rfl (by intro r hr; obtain ⟨s, _, rfl⟩ := List.mem_map.1 hr; rfl) rfl (by unfold maxLen; decide)
      rw [hsz] at hg
      have HGR := Lib.hid hg
      have HBX : Hid (Below w.heap.size w ((w6.setCell ⟨A8, 3, none⟩ (.int .i64 b4)).alloc (.cells #[.int .i64 a1, .int .i64 a2, .int .i64 a3, .int .i64 a4, .int .i64 b1, .int .i64 b2, .int .i64 b3, .int .i64 b4, .int .i64 c1, .int .i64 c2, .int .i64 c3, .int .i64 c4] 25))) := by
        have h1 := HB6.out.setCell (p := ⟨A8, 3, none⟩) (Nat.le_trans HB0.out.size L8.out) (.int .i64 b4)
        exact Lib.hid (h1.alloc h1.size _)
      clear hm hsz hg
      unfold acts
      go_wp2_with fail
      refine (having_plain (HLH.out _ rfl) tells_long HGR.out (by simp)).mono ?_
      rintro e w8 h8
      obtain ⟨A1, M1, C1, rfl, HM1, HO1, HB1⟩ := seg_open h8
      clear h8
      go_wp2_with fail
      go_ret
      rw [HD.out, HS.out]
      exact seg_close HBX.out HO1.out HB1.out

end Go.Proofs.Ytkoldgammeojkaa.Pdv
