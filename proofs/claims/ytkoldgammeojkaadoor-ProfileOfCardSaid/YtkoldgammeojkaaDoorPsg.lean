/- The program's small functions of segments (profile): hasLength, part, overlaps, isInside, touches, isSegment. -/
import Derived.Test.YtkoldgammeojkaaDoorSegs
import Derived.BigRegion
namespace Go.Proofs.YtkoldgammeojkaaDoor.Psg
open Go.RowKit Go.Lib Go.Proofs.YtkoldgammeojkaaDoor.Reads Go.Proofs.YtkoldgammeojkaaDoor.Rows2 Go.Proofs.YtkoldgammeojkaaDoor.Lay Go.Proofs.YtkoldgammeojkaaDoor.Segs

def stV (f t : Int) : Value := .agg #[.int .i64 f, .int .i64 t]

set_option maxRecDepth 100000 in
theorem long_any (s : Sg) (w : World) : Calls Tryd.prog 45 #[sgV s] w (BoolOut (longB s) w) := by
  obtain ⟨q, hq⟩ : ∃ q, longB s = q := ⟨_, rfl⟩
  rw [hq]
  have HQ := Lib.hid hq
  obtain ⟨x1, x2, x3, x4⟩ := s
  unfold sgV
  simp only
  clear hq
  go_enter Tryd.func45, Tryd.ntmps45
  go_wp2_with fail
  go_ret
  exact ⟨by rw [← HQ.out]; rfl, (Below.refl _ _).alloc (Nat.le_refl _) _⟩

set_option maxRecDepth 100000 in
set_option maxHeartbeats 800000 in
theorem inside_any (f t : Int) (s : Sg) (w : World) : Calls Tryd.prog 35 #[stV f t, sgV s] w (BoolOut (insideB f t s) w) := by
  obtain ⟨q, hq⟩ : ∃ q, insideB f t s = q := ⟨_, rfl⟩
  rw [hq]
  have HQ := Lib.hid hq
  obtain ⟨x1, x2, x3, x4⟩ := s
  unfold sgV stV
  simp only
  clear hq
  go_enter Tryd.func35, Tryd.ntmps35
  go_wp2_with fail
  all_goals
    go_ret
    refine ⟨?_, ((Below.refl _ _).alloc (Nat.le_refl _) _).alloc (by simp) _⟩
    rw [← HQ.out]
    simp [insideB]
    try omega

set_option maxRecDepth 100000 in
set_option maxHeartbeats 800000 in
theorem touches_any (f t : Int) (s : Sg) (w : World) : Calls Tryd.prog 37 #[stV f t, sgV s] w (BoolOut (touchB f t s) w) := by
  obtain ⟨q, hq⟩ : ∃ q, touchB f t s = q := ⟨_, rfl⟩
  rw [hq]
  have HQ := Lib.hid hq
  obtain ⟨x1, x2, x3, x4⟩ := s
  unfold sgV stV
  simp only
  clear hq
  go_enter Tryd.func37, Tryd.ntmps37
  go_wp2_with fail
  all_goals
    go_ret
    refine ⟨?_, ((Below.refl _ _).alloc (Nat.le_refl _) _).alloc (by simp) _⟩
    rw [← HQ.out]
    simp [touchB]
    try omega

set_option maxRecDepth 100000 in
set_option maxHeartbeats 800000 in
theorem segment_any (s : Sg) (w : World) : Calls Tryd.prog 24 #[sgV s] w (BoolOut (okS s) w) := by
  have HL := Lib.hid (fun w' => long_any s w')
  obtain ⟨q, hq⟩ : ∃ q, okS s = q := ⟨_, rfl⟩
  rw [hq]
  have HQ := Lib.hid hq
  obtain ⟨b, hb⟩ : ∃ b, longB s = b := ⟨_, rfl⟩
  rw [hb] at HL
  have HB := Lib.hid hb
  obtain ⟨x1, x2, x3, x4⟩ := s
  unfold sgV at HL ⊢
  simp only at HL ⊢
  have hb0 : Below w.heap.size w (w.alloc (.cells #[.int .i64 x1, .int .i64 x2, .int .i64 x3, .int .i64 x4] 41)) := (Below.refl _ _).alloc (Nat.le_refl _) _
  have HB0 := Lib.hid hb0
  clear hq hb hb0
  go_enter Tryd.func24, Tryd.ntmps24
  go_wp2_with fail
  refine (HL.out _).mono ?_
  rintro e w' ⟨rfl, hb⟩
  have y0 : w'.cell? ⟨w.heap.size, 0, none⟩ = some (.int .i64 x1) := by rw [hb.cell (by simp), World.cell?_alloc_at _ _ _ _ rfl]; rfl
  have y1 : w'.cell? ⟨w.heap.size, 1, none⟩ = some (.int .i64 x2) := by rw [hb.cell (by simp), World.cell?_alloc_at _ _ _ _ rfl]; rfl
  have y2 : w'.cell? ⟨w.heap.size, 2, none⟩ = some (.int .i64 x3) := by rw [hb.cell (by simp), World.cell?_alloc_at _ _ _ _ rfl]; rfl
  have y3 : w'.cell? ⟨w.heap.size, 3, none⟩ = some (.int .i64 x4) := by rw [hb.cell (by simp), World.cell?_alloc_at _ _ _ _ rfl]; rfl
  have HX := Lib.hid (bel_next HB0.out hb)
  clear hb
  cases b
  all_goals
    go_wp2_with fail
    all_goals
      go_ret
      refine ⟨?_, HX.out⟩
      rw [← HQ.out]
      have hl := HB.out
      simp [longB] at hl
      first
        | (simp [okS]; done)
        | (simp [okS]; omega)
        | (refine congrArg (fun b => Ending.returned (Value.bool b)) ?_
           rw [Bool.eq_iff_iff]
           simp only [okS, decide_eq_true_eq]
           omega)

/-- Two boxes in a row. -/
theorem box_two (w : World) (c d : Array Value) (T U : TypeId) :
    (w.alloc (.cells c T)).heap.size = w.heap.size + 1 ∧ Below w.heap.size w ((w.alloc (.cells c T)).alloc (.cells d U)) ∧ ((w.alloc (.cells c T)).alloc (.cells d U)).heap[w.heap.size]? = some (.cells c T (0, 0)) ∧ ((w.alloc (.cells c T)).alloc (.cells d U)).heap[w.heap.size + 1]? = some (.cells d U (0, 0)) := by
  refine ⟨by simp, ((Below.refl _ _).alloc (Nat.le_refl _) _).alloc (by simp) _, ?_, ?_⟩
  · rw [Below.heap_alloc _ _ _ (by simp)]
    exact heap_alloc_new w _
  · have := heap_alloc_new (w.alloc (.cells c T)) (.cells d U)
    rwa [show (w.alloc (.cells c T)).heap.size = w.heap.size + 1 by simp] at this

/-- Cells of a row of four are set. -/
theorem set_two {r : Nat} {wx : World} {T : TypeId} {c0 c1 c2 c3 d0 d1 : Value} (h : wx.heap[r]? = some (.cells #[c0, c1, c2, c3] T (0, 0))) :
    (((wx.setCell ⟨r, 0, none⟩ d0).setCell ⟨r, 1, none⟩ d1).heap[r]? = some (.cells #[d0, d1, c2, c3] T (0, 0))) ∧
    (∀ k, k ≠ r → ((wx.setCell ⟨r, 0, none⟩ d0).setCell ⟨r, 1, none⟩ d1).heap[k]? = wx.heap[k]?) ∧
    (∀ (B : Nat) (w : World), Below B w wx → B ≤ r → Below B w ((wx.setCell ⟨r, 0, none⟩ d0).setCell ⟨r, 1, none⟩ d1)) := by
  have h0 := heap_setCell_same wx r 0 _ _ d0 h
  have h1 := heap_setCell_same _ r 1 _ _ d1 h0
  refine ⟨h1, fun k hk => ?_, fun B w hb hr => (hb.setCell (by simpa using hr) _).setCell (by simpa using hr) _⟩
  rw [heap_setCell_other _ _ _ _ (by simpa using hk), heap_setCell_other _ _ _ _ (by simpa using hk)]
theorem set_four {r : Nat} {wx : World} {T : TypeId} {c0 c1 c2 c3 d0 d1 d2 d3 : Value} (h : wx.heap[r]? = some (.cells #[c0, c1, c2, c3] T (0, 0))) :
    (((((wx.setCell ⟨r, 0, none⟩ d0).setCell ⟨r, 1, none⟩ d1).setCell ⟨r, 2, none⟩ d2).setCell ⟨r, 3, none⟩ d3).heap[r]? = some (.cells #[d0, d1, d2, d3] T (0, 0))) ∧
    (∀ k, k ≠ r → ((((wx.setCell ⟨r, 0, none⟩ d0).setCell ⟨r, 1, none⟩ d1).setCell ⟨r, 2, none⟩ d2).setCell ⟨r, 3, none⟩ d3).heap[k]? = wx.heap[k]?) ∧
    (∀ (B : Nat) (w : World), Below B w wx → B ≤ r → Below B w ((((wx.setCell ⟨r, 0, none⟩ d0).setCell ⟨r, 1, none⟩ d1).setCell ⟨r, 2, none⟩ d2).setCell ⟨r, 3, none⟩ d3)) := by
  have h0 := heap_setCell_same wx r 0 _ _ d0 h
  have h1 := heap_setCell_same _ r 1 _ _ d1 h0
  have h2 := heap_setCell_same _ r 2 _ _ d2 h1
  have h3 := heap_setCell_same _ r 3 _ _ d3 h2
  refine ⟨h3, fun k hk => ?_, fun B w hb hr => (((hb.setCell (by simpa using hr) _).setCell (by simpa using hr) _).setCell (by simpa using hr) _).setCell (by simpa using hr) _⟩
  rw [heap_setCell_other _ _ _ _ (by simpa using hk), heap_setCell_other _ _ _ _ (by simpa using hk), heap_setCell_other _ _ _ _ (by simpa using hk), heap_setCell_other _ _ _ _ (by simpa using hk)]

set_option maxRecDepth 100000 in
set_option maxHeartbeats 1600000 in
theorem part_any (f t : Int) (s : Sg) (w : World) : Calls Tryd.prog 41 #[stV f t, sgV s] w (OneOut (partF f t s) w) := by
  obtain ⟨m1, hm1⟩ : ∃ m, max s.1 f = m := ⟨_, rfl⟩
  obtain ⟨m2, hm2⟩ : ∃ m, min s.2.1 t = m := ⟨_, rfl⟩
  have HR : Hid (partF f t s = (m1, m2, s.2.2.1, s.2.2.2)) := by
    show _ = _
    rw [partF, hm1, hm2]
  have HM1 := Lib.hid hm1
  have HM2 := Lib.hid hm2
  obtain ⟨x1, x2, x3, x4⟩ := s
  unfold sgV stV
  simp only at HR HM1 HM2 ⊢
  clear hm1 hm2
  obtain ⟨W, hW⟩ : ∃ W, ((w.alloc (.cells #[.int .i64 f, .int .i64 t] 78)).alloc (.cells #[.int .i64 x1, .int .i64 x2, .int .i64 x3, .int .i64 x4] 41)).alloc (.cells #[.int .i64 0, .int .i64 0, .int .i64 0, .int .i64 0] 41) = W := ⟨_, rfl⟩
  have hb3 : Below w.heap.size w W := by
    rw [← hW]
    exact (((Below.refl _ _).alloc (Nat.le_refl _) _).alloc (by simp) _).alloc (by simp; omega) _
  obtain ⟨e1, e2, e3, e4⟩ := box_two w #[.int .i64 f, .int .i64 t] #[.int .i64 x1, .int .i64 x2, .int .i64 x3, .int .i64 x4] 78 41
  have hA : W.heap[w.heap.size]? = some (.cells #[.int .i64 f, .int .i64 t] 78 (0, 0)) := by
    rw [← hW, Below.heap_alloc _ _ _ (by simp; omega)]
    exact e3
  have hB : W.heap[w.heap.size + 1]? = some (.cells #[.int .i64 x1, .int .i64 x2, .int .i64 x3, .int .i64 x4] 41 (0, 0)) := by
    rw [← hW, Below.heap_alloc _ _ _ (by simp)]
    exact e4
  have hC : W.heap[w.heap.size + 1 + 1]? = some (.cells #[.int .i64 0, .int .i64 0, .int .i64 0, .int .i64 0] 41 (0, 0)) := by
    rw [← hW]
    have := heap_alloc_new ((w.alloc (.cells #[.int .i64 f, .int .i64 t] 78)).alloc (.cells #[.int .i64 x1, .int .i64 x2, .int .i64 x3, .int .i64 x4] 41)) (.cells #[.int .i64 0, .int .i64 0, .int .i64 0, .int .i64 0] 41)
    rwa [show ((w.alloc (.cells #[.int .i64 f, .int .i64 t] 78)).alloc (.cells #[.int .i64 x1, .int .i64 x2, .int .i64 x3, .int .i64 x4] 41)).heap.size = w.heap.size + 1 + 1 by simp] at this
  have a0 := cell_of_row W w.heap.size 0 _ _ _ hA
  have a1 := cell_of_row W w.heap.size 1 _ _ _ hA
  have b0 := cell_of_row W (w.heap.size + 1) 0 _ _ _ hB
  have b1 := cell_of_row W (w.heap.size + 1) 1 _ _ _ hB
  have fb0 := frozen_of_row W (w.heap.size + 1) 0 _ _ hB
  have fb1 := frozen_of_row W (w.heap.size + 1) 1 _ _ hB
  have HA := Lib.hid hA
  have HB := Lib.hid hB
  have HC := Lib.hid hC
  have HB3 := Lib.hid hb3
  have HW := Lib.hid hW
  clear hb3 hW hA hB hC e1 e2 e3 e4
  go_enter Tryd.func41, Tryd.ntmps41
  go_wp2_with fail
  rw [HW.out]
  go_region
  have HQ1 : Hid ((if x1 < f then f else x1) = m1) := by
    show _ = _
    rw [← HM1.out]
    split <;> omega
  have HQ2 : Hid ((if t < x2 then t else x2) = m2) := by
    show _ = _
    rw [← HM2.out]
    split <;> omega
  rw [HQ1.out, HQ2.out]
  obtain ⟨s1, s2, s3⟩ := set_two (d0 := .int .i64 m1) (d1 := .int .i64 m2) HB.out
  have s4 := s3 w.heap.size w HB3.out (by omega)
  have s5 := (s2 (w.heap.size + 1 + 1) (by omega)).trans HC.out
  obtain ⟨W2, hW2⟩ : ∃ W2, ((W.setCell ⟨w.heap.size + 1, 0, none⟩ (.int .i64 m1)).setCell ⟨w.heap.size + 1, 1, none⟩ (.int .i64 m2)).drew = W2 := ⟨_, rfl⟩
  have t1 : W2.heap[w.heap.size + 1]? = some (.cells #[.int .i64 m1, .int .i64 m2, .int .i64 x3, .int .i64 x4] 41 (0, 0)) := by rw [← hW2]; exact s1
  have t2 : W2.heap[w.heap.size + 1 + 1]? = some (.cells #[.int .i64 0, .int .i64 0, .int .i64 0, .int .i64 0] 41 (0, 0)) := by rw [← hW2]; exact s5
  have t3 : Below w.heap.size w W2 := by rw [← hW2]; exact s4.drew
  rw [hW2]
  have q0 := cell_of_row W2 (w.heap.size + 1) 0 _ _ _ t1
  have q1 := cell_of_row W2 (w.heap.size + 1) 1 _ _ _ t1
  have q2 := cell_of_row W2 (w.heap.size + 1) 2 _ _ _ t1
  have q3 := cell_of_row W2 (w.heap.size + 1) 3 _ _ _ t1
  have p0 := cell_of_row W2 (w.heap.size + 1 + 1) 0 _ _ _ t2
  have p1 := cell_of_row W2 (w.heap.size + 1 + 1) 1 _ _ _ t2
  have p2 := cell_of_row W2 (w.heap.size + 1 + 1) 2 _ _ _ t2
  have p3 := cell_of_row W2 (w.heap.size + 1 + 1) 3 _ _ _ t2
  have z0 := frozen_of_row W2 (w.heap.size + 1 + 1) 0 _ _ t2
  have z1 := frozen_of_row W2 (w.heap.size + 1 + 1) 1 _ _ t2
  have z2 := frozen_of_row W2 (w.heap.size + 1 + 1) 2 _ _ t2
  have z3 := frozen_of_row W2 (w.heap.size + 1 + 1) 3 _ _ t2
  have T2 := Lib.hid t2
  have T3 := Lib.hid t3
  clear s1 s2 s3 s4 s5 hW2 t1 t2 t3 a0 a1 b0 b1 fb0 fb1
  go_wp2_with fail
  refine bodyPost_ret (v := .agg #[.int .i64 m1, .int .i64 m2, .int .i64 x3, .int .i64 x4]) ?_ rfl ⟨?_, ?_⟩
  · exact results_cell_row rfl _ _ (w.heap.size + 1 + 1) 41 _ (0, 0) _ rfl (set_four T2.out).1 Tryd.underlying41 rfl (by kernel_rfl)
  · rw [HR.out]; rfl
  · exact (set_four T2.out).2.2 _ _ T3.out (by omega)

set_option maxRecDepth 100000 in
set_option maxHeartbeats 800000 in
theorem overlaps_any (f t : Int) (s : Sg) (w : World) : Calls Tryd.prog 40 #[stV f t, sgV s] w (BoolOut (overB f t s) w) := by
  have HP := Lib.hid (fun w' => part_any f t s w')
  have HL := Lib.hid (fun w' => long_any (partF f t s) w')
  obtain ⟨q, hq⟩ : ∃ q, longB (partF f t s) = q := ⟨_, rfl⟩
  rw [hq] at HL
  obtain ⟨r, hr⟩ : ∃ r, partF f t s = r := ⟨_, rfl⟩
  rw [hr] at HL HP
  have hov : overB f t s = q := hq
  rw [hov]
  obtain ⟨x1, x2, x3, x4⟩ := s
  obtain ⟨r1, r2, r3, r4⟩ := r
  unfold sgV stV OneOut at *
  simp only at *
  clear hq hr hov
  have HB0 := Lib.hid (box_two w #[.int .i64 f, .int .i64 t] #[.int .i64 x1, .int .i64 x2, .int .i64 x3, .int .i64 x4] 78 41).2.1
  go_enter Tryd.func40, Tryd.ntmps40
  go_wp2_with fail
  refine (HP.out _).mono ?_
  rintro e w1 ⟨rfl, hb1⟩
  have HB1 := Lib.hid (bel_next HB0.out hb1)
  clear hb1
  go_wp2_with fail
  refine (HL.out _).mono ?_
  rintro e w2 ⟨rfl, hb2⟩
  have HB2 := Lib.hid (bel_next HB1.out hb2)
  clear hb2
  go_wp2_with fail
  go_ret
  exact ⟨rfl, HB2.out⟩

end Go.Proofs.YtkoldgammeojkaaDoor.Psg
