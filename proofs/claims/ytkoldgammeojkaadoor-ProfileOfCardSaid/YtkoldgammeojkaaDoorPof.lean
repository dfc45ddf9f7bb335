/- The program's segment, gradient, speed and isPossible (profile). -/
import Derived.Test.YtkoldgammeojkaaDoorPat
import Derived.Test.YtkoldgammeojkaaDoorRned
import Derived.Test.YtkoldgammeojkaaDoorWay
import Derived.Test.YtkoldgammeojkaaDoorLcon
import Derived.Deep.RegionHeld3
import Derived.Lib.QuietBelow
namespace Go.Proofs.YtkoldgammeojkaaDoor.Pof
open Go.RowKit Go.Lib Go.Proofs.YtkoldgammeojkaaDoor.Reads Go.Proofs.YtkoldgammeojkaaDoor.Rows2 Go.Proofs.YtkoldgammeojkaaDoor.Lay Go.Proofs.YtkoldgammeojkaaDoor.Segs Go.Proofs.YtkoldgammeojkaaDoor.Psg Go.Proofs.YtkoldgammeojkaaDoor.Pvd Go.Proofs.YtkoldgammeojkaaDoor.Pat
open Go.Proofs.YtkoldgammeojkaaDoor.Way (Stp stCells inB elOf el_none el_some needS need_none need_some)
open Go.Proofs.YtkoldgammeojkaaDoor.Rail (needF)
open Go.Proofs.YtkoldgammeojkaaDoor.Rtab (RTab rtab_next)
open Go.Proofs.YtkoldgammeojkaaDoor.Rout (need_any)
open Go.Proofs.YtkoldgammeojkaaDoor.Text (bs)

def elV (x : Elem) : Value := .agg #[.string (bs x.name), .int .i64 x.kind, .int .i64 x.len, .int .i64 x.grade, .int .i64 x.speed, .int .i64 x.slow, .int .i64 x.sec]
def wyV (s : Stp) : Value := .agg #[.int .i64 s.1, .int .i64 s.2.1, .int .i64 s.2.2]
def gradeF (x : Elem) (s : Stp) : Int := if s.2.1 = 0 ∨ (s.2.1 = 2 ∧ x.kind = 3) then x.grade else IntKind.i64.wrap (-x.grade)
def speedF (x : Elem) (s : Stp) : Int := if x.kind = 2 ∧ (s.2.1 = 2 ∨ s.2.2 = 2) then x.slow else x.speed
def segF (x : Elem) (s : Stp) (at_ : Int) : Sg := (at_, IntKind.i64.wrap (at_ + x.len), gradeF x s, speedF x s)

set_option maxRecDepth 100000 in
set_option maxHeartbeats 800000 in
theorem gradient_any (x : Elem) (s : Stp) (w : World) : Calls Tryd.prog 43 #[elV x, wyV s] w (NumOut (gradeF x s) w) := by
  obtain ⟨r, hr⟩ : ∃ r, gradeF x s = r := ⟨_, rfl⟩
  rw [hr]
  have HR := Lib.hid hr
  obtain ⟨nm, k, ln, gr, sp, sl, sc⟩ := x
  obtain ⟨s1, s2, s3⟩ := s
  unfold elV wyV
  simp only at HR ⊢
  obtain ⟨ng, hng⟩ : ∃ n, IntKind.i64.wrap (-gr) = n := ⟨_, rfl⟩
  have HNG := Lib.hid hng
  have HB := Lib.hid (box_two w #[.string (bs nm), .int .i64 k, .int .i64 ln, .int .i64 gr, .int .i64 sp, .int .i64 sl, .int .i64 sc] #[.int .i64 s1, .int .i64 s2, .int .i64 s3] 51 47).2.1
  clear hr
  have hcs : (s2 == 0) = true ∨ ((s2 == 0) = false ∧ (s2 == 2) = true ∧ (k == 3) = true) ∨ ((s2 == 0) = false ∧ (s2 == 2) = true ∧ (k == 3) = false) ∨ ((s2 == 0) = false ∧ (s2 == 2) = false) := by
    cases (s2 == 0) <;> cases (s2 == 2) <;> cases (k == 3) <;> simp
  rcases hcs with h1 | ⟨h1, h2, h3⟩ | ⟨h1, h2, h3⟩ | ⟨h1, h2⟩
  all_goals
    go_enter Tryd.func43, Tryd.ntmps43
    go_wp2_with fail
    go_ret
    refine ⟨?_, HB.out⟩
    rw [← HR.out, gradeF]
    simp only [beq_iff_eq, beq_eq_false_iff_ne, ne_eq] at h1
    try simp only [beq_iff_eq, beq_eq_false_iff_ne, ne_eq] at h2
    try simp only [beq_iff_eq, beq_eq_false_iff_ne, ne_eq] at h3
    first
      | (rw [if_pos (by simp [*])]; rfl)
      | (rw [if_neg (by simp [*])]; first | rfl | (rw [HNG.out]; rfl))

set_option maxRecDepth 100000 in
set_option maxHeartbeats 800000 in
theorem speed_any (x : Elem) (s : Stp) (w : World) : Calls Tryd.prog 44 #[elV x, wyV s] w (NumOut (speedF x s) w) := by
  obtain ⟨r, hr⟩ : ∃ r, speedF x s = r := ⟨_, rfl⟩
  rw [hr]
  have HR := Lib.hid hr
  obtain ⟨nm, k, ln, gr, sp, sl, sc⟩ := x
  obtain ⟨s1, s2, s3⟩ := s
  unfold elV wyV
  simp only at HR ⊢
  have HB := Lib.hid (box_two w #[.string (bs nm), .int .i64 k, .int .i64 ln, .int .i64 gr, .int .i64 sp, .int .i64 sl, .int .i64 sc] #[.int .i64 s1, .int .i64 s2, .int .i64 s3] 51 47).2.1
  clear hr
  have hcs : (k == 2) = false ∨ ((k == 2) = true ∧ (s2 == 2) = true) ∨ ((k == 2) = true ∧ (s2 == 2) = false ∧ (s3 == 2) = true) ∨ ((k == 2) = true ∧ (s2 == 2) = false ∧ (s3 == 2) = false) := by
    cases (k == 2) <;> cases (s2 == 2) <;> cases (s3 == 2) <;> simp
  rcases hcs with h1 | ⟨h1, h2⟩ | ⟨h1, h2, h3⟩ | ⟨h1, h2, h3⟩
  all_goals
    go_enter Tryd.func44, Tryd.ntmps44
    go_wp2_with fail
    go_ret
    refine ⟨?_, HB.out⟩
    rw [← HR.out, speedF]
    simp only [beq_iff_eq, beq_eq_false_iff_ne, ne_eq] at h1
    try simp only [beq_iff_eq, beq_eq_false_iff_ne, ne_eq] at h2
    try simp only [beq_iff_eq, beq_eq_false_iff_ne, ne_eq] at h3
    first
      | (rw [if_pos (by simp [*])]; rfl)
      | (rw [if_neg (by simp [*])]; rfl)

/-- The box of an element. -/
def ebox (x : Elem) : Array Value := #[.string (bs x.name), .int .i64 x.kind, .int .i64 x.len, .int .i64 x.grade, .int .i64 x.speed, .int .i64 x.slow, .int .i64 x.sec]
set_option maxRecDepth 100000 in
set_option maxHeartbeats 3200000 in
theorem segment_of (x : Elem) (s : Stp) (at_ : Int) (w : World) : Calls Tryd.prog 21 #[elV x, wyV s, .int .i64 at_] w (OneOut (segF x s at_) w) := by
  have HG := Lib.hid (fun w' => gradient_any x s w')
  have HS := Lib.hid (fun w' => speed_any x s w')
  obtain ⟨gv, hgv⟩ : ∃ r, gradeF x s = r := ⟨_, rfl⟩
  obtain ⟨sv, hsv⟩ : ∃ r, speedF x s = r := ⟨_, rfl⟩
  obtain ⟨zv, hzv⟩ : ∃ r, IntKind.i64.wrap (at_ + x.len) = r := ⟨_, rfl⟩
  have HR : Hid (segF x s at_ = (at_, zv, gv, sv)) := by
    show _ = _
    rw [segF, hgv, hsv, hzv]
  rw [hgv] at HG
  rw [hsv] at HS
  rw [show OneOut (segF x s at_) w = OneOut (at_, zv, gv, sv) w by rw [HR.out]]
  obtain ⟨nm, k, ln, gr, sp, sl, sc⟩ := x
  obtain ⟨s1, s2, s3⟩ := s
  unfold elV wyV at HG HS ⊢
  simp only at HG HS hzv ⊢
  obtain ⟨W, hW⟩ : ∃ W, ((w.alloc (.cells #[.string (bs nm), .int .i64 k, .int .i64 ln, .int .i64 gr, .int .i64 sp, .int .i64 sl, .int .i64 sc] 51)).alloc (.cells #[.int .i64 s1, .int .i64 s2, .int .i64 s3] 47)).alloc (.cells #[.int .i64 0, .int .i64 0, .int .i64 0, .int .i64 0] 41) = W := ⟨_, rfl⟩
  have hb3 : Below w.heap.size w W := by
    rw [← hW]
    exact (((Below.refl _ _).alloc (Nat.le_refl _) _).alloc (by simp) _).alloc (by simp; omega) _
  obtain ⟨e1, e2, e3, e4⟩ := box_two w #[.string (bs nm), .int .i64 k, .int .i64 ln, .int .i64 gr, .int .i64 sp, .int .i64 sl, .int .i64 sc] #[.int .i64 s1, .int .i64 s2, .int .i64 s3] 51 47
  have hA : W.heap[w.heap.size]? = some (.cells #[.string (bs nm), .int .i64 k, .int .i64 ln, .int .i64 gr, .int .i64 sp, .int .i64 sl, .int .i64 sc] 51 (0, 0)) := by
    rw [← hW, Below.heap_alloc _ _ _ (by simp; omega)]
    exact e3
  have hB : W.heap[w.heap.size + 1]? = some (.cells #[.int .i64 s1, .int .i64 s2, .int .i64 s3] 47 (0, 0)) := by
    rw [← hW, Below.heap_alloc _ _ _ (by simp)]
    exact e4
  have hC : W.heap[w.heap.size + 1 + 1]? = some (.cells #[.int .i64 0, .int .i64 0, .int .i64 0, .int .i64 0] 41 (0, 0)) := by
    rw [← hW]
    have := heap_alloc_new ((w.alloc (.cells #[.string (bs nm), .int .i64 k, .int .i64 ln, .int .i64 gr, .int .i64 sp, .int .i64 sl, .int .i64 sc] 51)).alloc (.cells #[.int .i64 s1, .int .i64 s2, .int .i64 s3] 47)) (.cells #[.int .i64 0, .int .i64 0, .int .i64 0, .int .i64 0] 41)
    rwa [show ((w.alloc (.cells #[.string (bs nm), .int .i64 k, .int .i64 ln, .int .i64 gr, .int .i64 sp, .int .i64 sl, .int .i64 sc] 51)).alloc (.cells #[.int .i64 s1, .int .i64 s2, .int .i64 s3] 47)).heap.size = w.heap.size + 1 + 1 by simp] at this
  have hl0 : w.heap.size < W.heap.size := (Array.getElem?_eq_some_iff.1 hA).1
  have hl1 : w.heap.size + 1 < W.heap.size := (Array.getElem?_eq_some_iff.1 hB).1
  have hl2 : w.heap.size + 1 + 1 < W.heap.size := (Array.getElem?_eq_some_iff.1 hC).1
  have HK : Hid (∀ w', Below W.heap.size W w' → w'.cell? ⟨w.heap.size, 0, none⟩ = some (.string (bs nm)) ∧ w'.cell? ⟨w.heap.size, 1, none⟩ = some (.int .i64 k) ∧ w'.cell? ⟨w.heap.size, 2, none⟩ = some (.int .i64 ln) ∧ w'.cell? ⟨w.heap.size, 3, none⟩ = some (.int .i64 gr) ∧ w'.cell? ⟨w.heap.size, 4, none⟩ = some (.int .i64 sp) ∧ w'.cell? ⟨w.heap.size, 5, none⟩ = some (.int .i64 sl) ∧ w'.cell? ⟨w.heap.size, 6, none⟩ = some (.int .i64 sc) ∧ w'.cell? ⟨w.heap.size + 1, 0, none⟩ = some (.int .i64 s1) ∧ w'.cell? ⟨w.heap.size + 1, 1, none⟩ = some (.int .i64 s2) ∧ w'.cell? ⟨w.heap.size + 1, 2, none⟩ = some (.int .i64 s3)) := by
    refine Lib.hid (fun w' b => ⟨?_, ?_, ?_, ?_, ?_, ?_, ?_, ?_, ?_, ?_⟩)
    all_goals first
      | (rw [cell_of_row _ _ _ _ _ _ ((b.block _ hl0).trans hA)]; rfl)
      | (rw [cell_of_row _ _ _ _ _ _ ((b.block _ hl1).trans hB)]; rfl)
  have HROW : Hid (∀ w', Below W.heap.size W w' → w'.heap[w.heap.size + 1 + 1]? = some (.cells #[.int .i64 0, .int .i64 0, .int .i64 0, .int .i64 0] 41 (0, 0))) := Lib.hid (fun w' b => (b.block _ hl2).trans hC)
  have HKS : Hid (∀ w', Below W.heap.size W w' → ∀ d0 d1 d2 d3 : Value, ((((w'.setCell ⟨w.heap.size + 1 + 1, 0, none⟩ d0).setCell ⟨w.heap.size + 1 + 1, 1, none⟩ d1).setCell ⟨w.heap.size + 1 + 1, 2, none⟩ d2).setCell ⟨w.heap.size + 1 + 1, 3, none⟩ d3).cell? ⟨w.heap.size, 0, none⟩ = some (.string (bs nm)) ∧ ((((w'.setCell ⟨w.heap.size + 1 + 1, 0, none⟩ d0).setCell ⟨w.heap.size + 1 + 1, 1, none⟩ d1).setCell ⟨w.heap.size + 1 + 1, 2, none⟩ d2).setCell ⟨w.heap.size + 1 + 1, 3, none⟩ d3).cell? ⟨w.heap.size, 1, none⟩ = some (.int .i64 k) ∧ ((((w'.setCell ⟨w.heap.size + 1 + 1, 0, none⟩ d0).setCell ⟨w.heap.size + 1 + 1, 1, none⟩ d1).setCell ⟨w.heap.size + 1 + 1, 2, none⟩ d2).setCell ⟨w.heap.size + 1 + 1, 3, none⟩ d3).cell? ⟨w.heap.size, 2, none⟩ = some (.int .i64 ln) ∧ ((((w'.setCell ⟨w.heap.size + 1 + 1, 0, none⟩ d0).setCell ⟨w.heap.size + 1 + 1, 1, none⟩ d1).setCell ⟨w.heap.size + 1 + 1, 2, none⟩ d2).setCell ⟨w.heap.size + 1 + 1, 3, none⟩ d3).cell? ⟨w.heap.size, 3, none⟩ = some (.int .i64 gr) ∧ ((((w'.setCell ⟨w.heap.size + 1 + 1, 0, none⟩ d0).setCell ⟨w.heap.size + 1 + 1, 1, none⟩ d1).setCell ⟨w.heap.size + 1 + 1, 2, none⟩ d2).setCell ⟨w.heap.size + 1 + 1, 3, none⟩ d3).cell? ⟨w.heap.size, 4, none⟩ = some (.int .i64 sp) ∧ ((((w'.setCell ⟨w.heap.size + 1 + 1, 0, none⟩ d0).setCell ⟨w.heap.size + 1 + 1, 1, none⟩ d1).setCell ⟨w.heap.size + 1 + 1, 2, none⟩ d2).setCell ⟨w.heap.size + 1 + 1, 3, none⟩ d3).cell? ⟨w.heap.size, 5, none⟩ = some (.int .i64 sl) ∧ ((((w'.setCell ⟨w.heap.size + 1 + 1, 0, none⟩ d0).setCell ⟨w.heap.size + 1 + 1, 1, none⟩ d1).setCell ⟨w.heap.size + 1 + 1, 2, none⟩ d2).setCell ⟨w.heap.size + 1 + 1, 3, none⟩ d3).cell? ⟨w.heap.size, 6, none⟩ = some (.int .i64 sc) ∧ ((((w'.setCell ⟨w.heap.size + 1 + 1, 0, none⟩ d0).setCell ⟨w.heap.size + 1 + 1, 1, none⟩ d1).setCell ⟨w.heap.size + 1 + 1, 2, none⟩ d2).setCell ⟨w.heap.size + 1 + 1, 3, none⟩ d3).cell? ⟨w.heap.size + 1, 0, none⟩ = some (.int .i64 s1) ∧ ((((w'.setCell ⟨w.heap.size + 1 + 1, 0, none⟩ d0).setCell ⟨w.heap.size + 1 + 1, 1, none⟩ d1).setCell ⟨w.heap.size + 1 + 1, 2, none⟩ d2).setCell ⟨w.heap.size + 1 + 1, 3, none⟩ d3).cell? ⟨w.heap.size + 1, 1, none⟩ = some (.int .i64 s2) ∧ ((((w'.setCell ⟨w.heap.size + 1 + 1, 0, none⟩ d0).setCell ⟨w.heap.size + 1 + 1, 1, none⟩ d1).setCell ⟨w.heap.size + 1 + 1, 2, none⟩ d2).setCell ⟨w.heap.size + 1 + 1, 3, none⟩ d3).cell? ⟨w.heap.size + 1, 2, none⟩ = some (.int .i64 s3)) := by
    refine Lib.hid (fun w' b d0 d1 d2 d3 => ?_)
    have hs := (set_four (d0 := d0) (d1 := d1) (d2 := d2) (d3 := d3) (HROW.out w' b)).2.1
    have h0 := hs w.heap.size (by omega)
    have h1 := hs (w.heap.size + 1) (by omega)
    obtain ⟨t0, t1, t2, t3, t4, t5, t6, t7, t8, t9⟩ := HK.out w' b
    exact ⟨(cell_same (p := ⟨w.heap.size, 0, none⟩) h0).trans t0, (cell_same (p := ⟨w.heap.size, 1, none⟩) h0).trans t1, (cell_same (p := ⟨w.heap.size, 2, none⟩) h0).trans t2, (cell_same (p := ⟨w.heap.size, 3, none⟩) h0).trans t3, (cell_same (p := ⟨w.heap.size, 4, none⟩) h0).trans t4, (cell_same (p := ⟨w.heap.size, 5, none⟩) h0).trans t5, (cell_same (p := ⟨w.heap.size, 6, none⟩) h0).trans t6, (cell_same (p := ⟨w.heap.size + 1, 0, none⟩) h1).trans t7, (cell_same (p := ⟨w.heap.size + 1, 1, none⟩) h1).trans t8, (cell_same (p := ⟨w.heap.size + 1, 2, none⟩) h1).trans t9⟩
  have HLT2 := Lib.hid hl2
  have HB3 := Lib.hid hb3
  have HW := Lib.hid hW
  obtain ⟨p0, p1, p2, p3, p4, p5, p6, p7, p8, p9⟩ := HK.out W (Below.refl _ _)
  have r0 := frozen_of_row W (w.heap.size + 1 + 1) 0 _ _ hC
  have FR : Hid (∀ w', Below W.heap.size W w' → w'.cell? ⟨w.heap.size + 1 + 1, 0, none⟩ = some (.int .i64 0) ∧ w'.cell? ⟨w.heap.size + 1 + 1, 1, none⟩ = some (.int .i64 0) ∧ w'.cell? ⟨w.heap.size + 1 + 1, 2, none⟩ = some (.int .i64 0) ∧ w'.cell? ⟨w.heap.size + 1 + 1, 3, none⟩ = some (.int .i64 0) ∧ w'.frozen? ⟨w.heap.size + 1 + 1, 0, none⟩ = false ∧ w'.frozen? ⟨w.heap.size + 1 + 1, 1, none⟩ = false ∧ w'.frozen? ⟨w.heap.size + 1 + 1, 2, none⟩ = false ∧ w'.frozen? ⟨w.heap.size + 1 + 1, 3, none⟩ = false ∧ w.heap.size + 1 + 1 < w'.heap.size) := by
    refine Lib.hid (fun w' b => ?_)
    have hr := HROW.out w' b
    refine ⟨?_, ?_, ?_, ?_, frozen_of_row _ _ _ _ _ hr, frozen_of_row _ _ _ _ _ hr, frozen_of_row _ _ _ _ _ hr, frozen_of_row _ _ _ _ _ hr, Nat.lt_of_lt_of_le hl2 b.size⟩
    all_goals
      rw [cell_of_row _ _ _ _ _ _ hr]
      rfl
  clear hW hb3 e1 e2 e3 e4 hA hB hC r0 hgv hsv
  go_enter Tryd.func21, Tryd.ntmps21
  go_wp2_with fail
  rw [HW.out]
  go_region_held3 (fun w' => w'.cell? ⟨w.heap.size, 0, none⟩ = some (.string (bs nm)) ∧ w'.cell? ⟨w.heap.size, 1, none⟩ = some (.int .i64 k) ∧ w'.cell? ⟨w.heap.size, 2, none⟩ = some (.int .i64 ln) ∧ w'.cell? ⟨w.heap.size, 3, none⟩ = some (.int .i64 gr) ∧ w'.cell? ⟨w.heap.size, 4, none⟩ = some (.int .i64 sp) ∧ w'.cell? ⟨w.heap.size, 5, none⟩ = some (.int .i64 sl) ∧ w'.cell? ⟨w.heap.size, 6, none⟩ = some (.int .i64 sc) ∧ w'.cell? ⟨w.heap.size + 1, 0, none⟩ = some (.int .i64 s1) ∧ w'.cell? ⟨w.heap.size + 1, 1, none⟩ = some (.int .i64 s2) ∧ w'.cell? ⟨w.heap.size + 1, 2, none⟩ = some (.int .i64 s3))
    (first
      | with_reducible exact HKS.out _ E5.out _ _ _ _
      | with_reducible exact HK.out _ E5.out
      | with_reducible exact HK.out _ E4.out
      | go_keep)
    (first
      | (go_at_call 43; (with_reducible refine (HG.out _).mono ?_); rintro e w4 ⟨rfl, b4⟩; have E4 := Lib.hid ((Below.refl W.heap.size W).drew.trans (b4.mono (Below.refl W.heap.size W).drew.size)); clear b4)
      | (go_at_call 44; (with_reducible refine (HS.out _).mono ?_); rintro e w5 ⟨rfl, b5⟩; have E5 := Lib.hid (bel_next E4.out b5); clear b5; obtain ⟨m0, m1, m2, m3, m4, m5, m6, m7, m8⟩ := FR.out _ E5.out))
  go_wp2_with fail
  refine bodyPost_ret (v := sgV (at_, zv, gv, sv)) ?_ rfl ⟨rfl, ?_⟩
  · exact results_cell_row rfl _ _ (w.heap.size + 1 + 1) 41 _ (0, 0) _ rfl (set_four (HROW.out _ E5.out)).1 Tryd.underlying41 rfl (by kernel_rfl)
  · exact (set_four (HROW.out _ E5.out)).2.2 _ _ (HB3.out.trans (E5.out.mono HB3.out.size)) (by omega)

set_option maxRecDepth 100000 in
set_option maxHeartbeats 3200000 in
theorem possible_of (L : Lay) (s : Stp) {vs ve vj vg vb : Value} (w : World) (h : LayAt (In w) w L vs ve vj vg vb) (hd : RTab w) :
    Calls Tryd.prog 20 #[layV L vs ve vj vg vb, wyV s] w (BoolOut (needS L.els s).2 w) := by
  obtain ⟨a, cap, rfl, hm, hel⟩ := h.el
  have HE := Lib.hid hel
  obtain ⟨N, hN⟩ : ∃ N, L.els.length = N := ⟨_, rfl⟩
  have HN := Lib.hid hN
  obtain ⟨r, hr⟩ : ∃ r, (needS L.els s).2 = r := ⟨_, rfl⟩
  have HR := Lib.hid hr
  rw [hr]
  obtain ⟨s1, s2, s3⟩ := s
  unfold layV wyV
  simp only
  rw [hN] at hm ⊢
  obtain ⟨e1, e2, e3, e4⟩ := box_two w #[.string (bs L.name), vs, .slice a N cap, vj, vg, vb] #[.int .i64 s1, .int .i64 s2, .int .i64 s3] 28 47
  obtain ⟨W, hW⟩ : ∃ W, (w.alloc (.cells #[.string (bs L.name), vs, .slice a N cap, vj, vg, vb] 28)).alloc (.cells #[.int .i64 s1, .int .i64 s2, .int .i64 s3] 47) = W := ⟨_, rfl⟩
  rw [hW] at e2 e3 e4
  have HB := Lib.hid e2
  have p2 := cell_of_row W w.heap.size 2 _ _ _ e3
  have y0 := cell_of_row W (w.heap.size + 1) 0 _ _ _ e4
  have y1 := cell_of_row W (w.heap.size + 1) 1 _ _ _ e4
  have y2 := cell_of_row W (w.heap.size + 1) 2 _ _ _ e4
  have hl0 : w.heap.size < W.heap.size := (Array.getElem?_eq_some_iff.1 e3).1
  have hl1 : w.heap.size + 1 < W.heap.size := (Array.getElem?_eq_some_iff.1 e4).1
  have HD := Lib.hid (rtab_next hd e2)
  have HW := Lib.hid hW
  clear h hel hN hr hW e1 e2 e3 e4 hd
  by_cases hneg : s1 < 0
  · have HF : Hid (r = false) := by
      show _ = _
      rw [← HR.out, need_none]
      simp [inB]; omega
    rw [HF.out]
    go_enter Tryd.func20, Tryd.ntmps20
    go_wp2_with fail
    rw [HW.out]
    go_ret
    exact ⟨rfl, HB.out⟩
  by_cases hbig : (N : Int) ≤ s1
  · have HF : Hid (r = false) := by
      show _ = _
      rw [← HR.out, need_none]
      simp only [inB, HN.out, Bool.and_eq_false_iff, decide_eq_false_iff_not]
      omega
    rw [HF.out]
    go_enter Tryd.func20, Tryd.ntmps20
    go_wp2_with fail
    rw [HW.out]
    go_ret
    exact ⟨rfl, HB.out⟩
  obtain ⟨i, rfl⟩ := Int.eq_ofNat_of_zero_le (show 0 ≤ s1 by omega)
  have hi : i < N := by omega
  obtain ⟨x, hx⟩ := at_lt (l := L.els) (k := i) (by rw [HN.out]; exact hi)
  have ho : elOf L.els (i : Int) = some x := by
    rw [elOf, if_pos (by omega)]
    simpa using hx
  obtain ⟨b, off, rfl, c0, c1, -, -, -, -, -⟩ := HE.out W HB.out i x hx
  have HNS := Lib.hid (need_some (s := ((i : Int), s2, s3)) ho)
  obtain ⟨⟨r1, r2⟩, hnf⟩ : ∃ q, needF x.kind s2 s3 = q := ⟨_, rfl⟩
  have C1 := Lib.hid (fun d os => Calls.regrown_of (w := W) (d := d) (os := os) (need_any x.kind s2 s3 _ (rtab_next HD.out (below_regrown W d os))))
  rw [hnf] at C1 HNS
  have HF : Hid (r = r2) := by
    show _ = _
    rw [← HR.out, HNS.out]
  rw [HF.out]
  obtain ⟨kd, hkd⟩ : ∃ k, x.kind = k := ⟨_, rfl⟩
  rw [hkd] at c1 C1
  have hbl := World.block_lt_of_cell? W _ c0
  have k1 := cell_regrown c1
  have k2 := cell_regrown p2
  have k3 := cell_regrown y0
  have k4 := cell_regrown y1
  have k5 := cell_regrown y2
  have hiN : (i : Int) < (N : Int) := by omega
  have hi0 : (0 : Int) ≤ (i : Int) := by omega
  clear hx ho hnf hkd c0
  go_enter Tryd.func20, Tryd.ntmps20
  go_wp2_with fail
  rw [HW.out]
  refine wp_region_quiet_below (by kernel_rfl) (by kernel_rfl) ?_
  repeat (go_big_quiet_step (with_reducible exact C1.out _ _))
  refine wpQuiet_nil ?_
  intro w6 hw'
  obtain ⟨⟨dq, osq⟩, hw''⟩ := hw'
  have B6 := Lib.hid (show Below w.heap.size w w6 by rw [hw'']; exact bel_next HB.out (below_regrown W dq osq))
  clear hw''
  go_wp2_with fail
  go_ret
  exact ⟨rfl, B6.out⟩

end Go.Proofs.YtkoldgammeojkaaDoor.Pof
