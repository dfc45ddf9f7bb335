/- The reference's At, touched, Slowest and Steepest (profile). -/
import Derived.Test.YtkoldgammeojkaaRvd
import Derived.Test.YtkoldgammeojkaaPat
namespace Go.Proofs.Ytkoldgammeojkaa.Rat
open Go.RowKit Go.Lib Go.Proofs.Ytkoldgammeojkaa.Reads Go.Proofs.Ytkoldgammeojkaa.Rows2 Go.Proofs.Ytkoldgammeojkaa.Lay Go.Proofs.Ytkoldgammeojkaa.Segs Go.Proofs.Ytkoldgammeojkaa.Psg Go.Proofs.Ytkoldgammeojkaa.Pvd Go.Proofs.Ytkoldgammeojkaa.Phv Go.Proofs.Ytkoldgammeojkaa.Pth Go.Proofs.Ytkoldgammeojkaa.Pat Go.Proofs.Ytkoldgammeojkaa.Rvd

theorem filter_ok {c : Sg → Bool} {x : Sg} {r : List Sg} (h : c x = true) : headF ((x :: r).filter c) = (x, true) := by rw [List.filter_cons_of_pos h]; rfl
theorem filter_off {c : Sg → Bool} {x : Sg} {r : List Sg} (h : c x = false) : (x :: r).filter c = r.filter c := List.filter_cons_of_neg (by simp [h])

/-- What holds at the head of the loop of At. -/
def ARel (x : Int) (p : List Sg) (r : Sg × Bool) (W : World) (vj : Value) (wr : World) : Prop :=
  ∃ j : Nat, vj = .int .i64 (j : Int) ∧ j ≤ p.length ∧ r = headF ((p.drop j).filter (insideB x x)) ∧ Below W.heap.size W wr

set_option maxRecDepth 100000 in
set_option maxHeartbeats 1600000 in
theorem rat_any (x : Int) {p : List Sg} {v : Value} {w : World} (h : Grid (In w) w v 4 (p.map sgC)) :
    Calls Try.prog 10 #[v, .int .i64 x] w (AtOut (atF p x) w) := by
  have hbel := (Below.refl w.heap.size w).alloc (Nat.le_refl _) (.cells #[.int .i64 0, .int .i64 0, .int .i64 0, .int .i64 0] 25)
  have hrow := heap_alloc_new w (.cells #[.int .i64 0, .int .i64 0, .int .i64 0, .int .i64 0] 25)
  obtain ⟨W, hW⟩ : ∃ W, w.alloc (.cells #[.int .i64 0, .int .i64 0, .int .i64 0, .int .i64 0] 25) = W := ⟨_, rfl⟩
  have hlt : w.heap.size < W.heap.size := by rw [← hW]; simp
  rw [hW] at hbel hrow
  have HV := Lib.hid (rvalid_any (grid_next h hbel))
  obtain ⟨q, hq⟩ : ∃ q, validF p = q := ⟨_, rfl⟩
  rw [hq] at HV
  have HQ := Lib.hid hq
  obtain ⟨r, hr⟩ : ∃ r, atF p x = r := ⟨_, rfl⟩
  have HR := Lib.hid hr
  rw [hr]
  obtain ⟨a, cap, rfl, hm, _, _, hel⟩ := segs (grid_next h hbel)
  have HE := Lib.hid hel
  obtain ⟨N, hN⟩ : ∃ N, p.length = N := ⟨_, rfl⟩
  have HN := Lib.hid hN
  rw [hN] at hm HV ⊢
  have HW := Lib.hid hW
  have HBL := Lib.hid hbel
  have HRW := Lib.hid hrow
  have HLT := Lib.hid hlt
  clear h hW hbel hrow hlt hr hq hel hN
  go_enter Try.func10, Try.ntmps10
  go_wp2_with fail
  rw [HW.out]
  refine HV.out.mono ?_
  rintro e w1 ⟨rfl, hb1⟩
  have HB1 := Lib.hid hb1
  clear hb1
  cases q with
  | false =>
    have hrow1 := (HB1.out.block _ HLT.out).trans HRW.out
    have p0 := cell_of_row w1 w.heap.size 0 _ _ _ hrow1
    have p1 := cell_of_row w1 w.heap.size 1 _ _ _ hrow1
    have p2 := cell_of_row w1 w.heap.size 2 _ _ _ hrow1
    have p3 := cell_of_row w1 w.heap.size 3 _ _ _ hrow1
    have z0 := frozen_of_row w1 w.heap.size 0 _ _ hrow1
    have z1 := frozen_of_row w1 w.heap.size 1 _ _ hrow1
    have z2 := frozen_of_row w1 w.heap.size 2 _ _ hrow1
    have z3 := frozen_of_row w1 w.heap.size 3 _ _ hrow1
    have HR1 := Lib.hid hrow1
    have hlt1 := Nat.lt_of_lt_of_le HLT.out HB1.out.size
    have HB := Lib.hid (bel_next HBL.out HB1.out)
    have HS : Hid (r = ((0, 0, 0, 0), false)) := by
      show _ = _
      rw [← HR.out, atF, those_no HQ.out]
      rfl
    clear hrow1
    go_wp2_with fail
    refine bodyPost_ret (v := .tuple #[sgV r.1, .bool r.2]) ?_ rfl ⟨rfl, ?_⟩
    · rw [HS.out]
      exact results_duo (p := 4) (u := 5) (ty := 25) _ rfl rfl (load_seg (set_four HR1.out).1)
    · exact (set_four HR1.out).2.2 _ _ HB.out (Nat.le_refl _)
  | true =>
    have HS : Hid (r = headF ((p.drop 0).filter (insideB x x))) := by
      show _ = _
      rw [← HR.out, atF, those_yes HQ.out, List.drop_zero]
    go_wp2_with fail
    go_loopw [14] (fun vj wr => ARel x p r W vj wr) (fun vj _ => N - (RowKit.intOf vj).toNat)
    case atStart => exact ⟨0, rfl, Nat.zero_le _, HS.out, HB1.out⟩
    case round =>
      obtain ⟨j, rfl, hj, hrj, hb⟩ := hrel
      rw [HN.out] at hj
      have HB := Lib.hid hb
      have HJ := Lib.hid hrj
      clear hb hrj
      by_cases hl : j < N
      · obtain ⟨y, hy⟩ := at_lt (l := p) (k := j) (by rw [HN.out]; exact hl)
        obtain ⟨b, off, rfl, hbl, c0, c1, c2, c3⟩ := HE.out wr HB.out j y hy
        have HD := Lib.hid (drop_at hy)
        obtain ⟨V, hV, bV, lV, v0, v1, v2, v3, -⟩ := box_new wr y.1 y.2.1 y.2.2.1 y.2.2.2 25
        have HVV := Lib.hid hV
        have HBV := Lib.hid (bel_next HB.out bV)
        have hrow1 := (HB.out.block _ HLT.out).trans HRW.out
        have p0 := cell_of_row wr w.heap.size 0 _ _ _ hrow1
        have p1 := cell_of_row wr w.heap.size 1 _ _ _ hrow1
        have p2 := cell_of_row wr w.heap.size 2 _ _ _ hrow1
        have p3 := cell_of_row wr w.heap.size 3 _ _ _ hrow1
        have z0 := frozen_of_row wr w.heap.size 0 _ _ hrow1
        have z1 := frozen_of_row wr w.heap.size 1 _ _ hrow1
        have z2 := frozen_of_row wr w.heap.size 2 _ _ hrow1
        have z3 := frozen_of_row wr w.heap.size 3 _ _ hrow1
        have HR1 := Lib.hid hrow1
        have HLR := Lib.hid (Nat.lt_of_lt_of_le HLT.out HB.out.size)
        have hlt1 := Nat.lt_of_lt_of_le HLT.out HB.out.size
        have HBW := Lib.hid (bel_next HBL.out HB.out)
        obtain ⟨i, hi⟩ : ∃ i, insideB x x y = i := ⟨_, rfl⟩
        obtain ⟨y1, y2, y3, y4⟩ := y
        simp only at c0 c1 c2 c3 v0 v1 v2 v3 HVV
        have hI := hi
        clear hy hV bV hrow1
        cases i with
        | true =>
          have HF : Hid (r = ((y1, y2, y3, y4), true)) := by
            show _ = _
            rw [HJ.out, HD.out, filter_ok hI]
          simp only [insideB, decide_eq_true_eq] at hi
          obtain ⟨hi1, hi2⟩ := hi
          clear hI
          go_wp2_with fail
          refine bodyPost_ret (v := .tuple #[sgV r.1, .bool r.2]) ?_ rfl ⟨rfl, ?_⟩
          · rw [HF.out]
            exact results_duo (p := 4) (u := 5) (ty := 25) _ rfl rfl (load_seg (by rw [Below.heap_alloc _ _ _ (by simpa [World.setCell] using HLR.out)]; exact (set_four HR1.out).1))
          · have h9 := (set_four (d0 := .int .i64 y1) (d1 := .int .i64 y2) (d2 := .int .i64 y3) (d3 := .int .i64 y4) HR1.out).2.2 _ _ HBW.out (Nat.le_refl _)
            exact h9.alloc h9.size _
        | false =>
          have HF : Hid (r = headF ((p.drop (j + 1)).filter (insideB x x))) := by
            show _ = _
            rw [HJ.out, HD.out, filter_off hI]
          simp only [insideB, decide_eq_false_iff_not] at hi
          have hi' : ¬ y1 ≤ x ∨ (y1 ≤ x ∧ ¬ x < y2) := by omega
          clear hI hi
          rcases hi' with hi1 | ⟨hi1, hi2⟩
          all_goals
            go_wp2_with fail
            go_roundw
            case rel => exact ⟨j + 1, by simp, by rw [HN.out]; omega, HF.out, by rw [HVV.out]; exact HBV.out⟩
            case measure => simp [RowKit.intOf]; omega
      · have he : j = N := by omega
        subst he
        have HF : Hid (r = ((0, 0, 0, 0), false)) := by
          show _ = _
          rw [HJ.out, List.drop_of_length_le (by rw [HN.out]; exact Nat.le_refl _)]
          rfl
        have hrow1 := (HB.out.block _ HLT.out).trans HRW.out
        have p0 := cell_of_row wr w.heap.size 0 _ _ _ hrow1
        have p1 := cell_of_row wr w.heap.size 1 _ _ _ hrow1
        have p2 := cell_of_row wr w.heap.size 2 _ _ _ hrow1
        have p3 := cell_of_row wr w.heap.size 3 _ _ _ hrow1
        have z0 := frozen_of_row wr w.heap.size 0 _ _ hrow1
        have z1 := frozen_of_row wr w.heap.size 1 _ _ hrow1
        have z2 := frozen_of_row wr w.heap.size 2 _ _ hrow1
        have z3 := frozen_of_row wr w.heap.size 3 _ _ hrow1
        have HR1 := Lib.hid hrow1
        have hlt1 := Nat.lt_of_lt_of_le HLT.out HB.out.size
        have HBW := Lib.hid (bel_next HBL.out HB.out)
        clear hrow1
        go_wp2_with fail
        refine bodyPost_ret (v := .tuple #[sgV r.1, .bool r.2]) ?_ rfl ⟨rfl, ?_⟩
        · rw [HF.out]
          exact results_duo (p := 4) (u := 5) (ty := 25) _ rfl rfl (load_seg (set_four HR1.out).1)
        · exact (set_four HR1.out).2.2 _ _ HBW.out (Nat.le_refl _)

end Go.Proofs.Ytkoldgammeojkaa.Rat
