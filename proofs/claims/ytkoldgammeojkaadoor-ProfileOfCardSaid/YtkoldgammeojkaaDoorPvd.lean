/- The program's Valid (profile). -/
import Derived.Test.YtkoldgammeojkaaDoorPsg
namespace Go.Proofs.YtkoldgammeojkaaDoor.Pvd
open Go.RowKit Go.Lib Go.Proofs.YtkoldgammeojkaaDoor.Reads Go.Proofs.YtkoldgammeojkaaDoor.Rows2 Go.Proofs.YtkoldgammeojkaaDoor.Lay Go.Proofs.YtkoldgammeojkaaDoor.Segs Go.Proofs.YtkoldgammeojkaaDoor.Psg

/-- A new box of a segment. -/
theorem box_new (w : World) (x1 x2 x3 x4 : Int) (T : TypeId) : ∃ V, w.alloc (.cells #[.int .i64 x1, .int .i64 x2, .int .i64 x3, .int .i64 x4] T) = V ∧ Below w.heap.size w V ∧ w.heap.size < V.heap.size ∧
    V.cell? ⟨w.heap.size, 0, none⟩ = some (.int .i64 x1) ∧ V.cell? ⟨w.heap.size, 1, none⟩ = some (.int .i64 x2) ∧ V.cell? ⟨w.heap.size, 2, none⟩ = some (.int .i64 x3) ∧ V.cell? ⟨w.heap.size, 3, none⟩ = some (.int .i64 x4) ∧ V.heap[w.heap.size]? = some (.cells #[.int .i64 x1, .int .i64 x2, .int .i64 x3, .int .i64 x4] T (0, 0)) := by
  have h := heap_alloc_new w (.cells #[.int .i64 x1, .int .i64 x2, .int .i64 x3, .int .i64 x4] T)
  refine ⟨_, rfl, (Below.refl _ _).alloc (Nat.le_refl _) _, by simp, ?_, ?_, ?_, ?_, h⟩
  all_goals
    rw [cell_of_row _ _ _ _ _ _ h]
    rfl

/-- What holds at the head of the loop. -/
def VRel (p : List Sg) (r : Bool) (w : World) (vj : Value) (wr : World) : Prop :=
  ∃ j : Nat, vj = .int .i64 (j : Int) ∧ j ≤ p.length ∧ r = linkR (prev p j) (p.drop j) ∧ Below w.heap.size w wr
theorem vstop {p : List Sg} {r : Bool} {j : Nat} {x : Sg} (hr : r = linkR (prev p j) (p.drop j)) (hx : p[j]? = some x) (h : okS x = false ∨ goesOn (prev p j) x = false) : r = false := by
  rw [hr, drop_at hx]
  rcases h with h | h
  · exact link_no h
  · exact link_off h
theorem vnext {p : List Sg} {r : Bool} {j : Nat} {x : Sg} (hr : r = linkR (prev p j) (p.drop j)) (hx : p[j]? = some x) (h : okS x = true) (h2 : goesOn (prev p j) x = true) : r = linkR (prev p (j + 1)) (p.drop (j + 1)) := by
  rw [hr, drop_at hx, link_yes h h2, prev, hx]

set_option maxRecDepth 100000 in
set_option maxHeartbeats 1600000 in
theorem pvalid_any {p : List Sg} {v : Value} {w : World} (h : Grid (In w) w v 4 (p.map sgC)) :
    Calls Tryd.prog 10 #[v] w (BoolOut (validF p) w) := by
  obtain ⟨a, cap, rfl, hm, _, _, hel⟩ := segs h
  have HE := Lib.hid hel
  obtain ⟨N, hN⟩ : ∃ N, p.length = N := ⟨_, rfl⟩
  have HN := Lib.hid hN
  by_cases hlong : 128 < p.length
  · have hv : validF p = false := by rw [validF, decide_eq_false (by omega), Bool.false_and]
    rw [hv]
    have h1 : (128 : Int) < (N : Int) := by omega
    rw [hN]
    rw [hN] at hm
    clear hel h hv hN hlong
    go_enter Tryd.func10, Tryd.ntmps10
    go_wp2_with fail
    go_ret
    exact ⟨rfl, Below.refl _ _⟩
  have hv : validF p = linkR none p := by rw [validF, decide_eq_true (by omega), Bool.true_and]
  rw [hv]
  have h1 : ¬ (128 : Int) < (N : Int) := by omega
  obtain ⟨r, hr⟩ : ∃ r, linkR none p = r := ⟨_, rfl⟩
  rw [hr, hN]
  rw [hN] at hm
  have HR := Lib.hid hr
  clear hel h hv hN hlong hr
  go_enter Tryd.func10, Tryd.ntmps10
  go_wp2_with fail
  go_loopw [10] (fun vj wr => VRel p r w vj wr) (fun vj _ => N - (RowKit.intOf vj).toNat)
  case atStart => exact ⟨0, rfl, Nat.zero_le _, by rw [← HR.out]; rfl, Below.refl _ _⟩
  case round =>
    obtain ⟨j, rfl, hj, hrj, hb⟩ := hrel
    rw [HN.out] at hj
    have HB := Lib.hid hb
    have HJ := Lib.hid hrj
    clear hb hrj
    by_cases hl : j < N
    · obtain ⟨x, hx⟩ := at_lt (l := p) (k := j) (by rw [HN.out]; exact hl)
      obtain ⟨b, off, rfl, hbl, c0, c1, c2, c3⟩ := HE.out wr HB.out j x hx
      have HST := Lib.hid (vstop HJ.out hx)
      have HNX := Lib.hid (vnext HJ.out hx)
      have HS := Lib.hid (fun w' => segment_any x w')
      obtain ⟨q, hq⟩ : ∃ q, okS x = q := ⟨_, rfl⟩
      rw [hq] at HST HNX HS
      have HG := Lib.hid (show goesOn (prev p j) x = goesOn (prev p j) x from rfl)
      obtain ⟨x1, x2, x3, x4⟩ := x
      simp only at c0 c1 c2 c3
      unfold sgV at HS
      simp only at HS
      obtain ⟨V, hV, bV, lV, v0, v1, v2, v3, -⟩ := box_new wr x1 x2 x3 x4 41
      have HV := Lib.hid hV
      have BV := Lib.hid (HB.out.trans (bV.mono HB.out.size))
      clear hx hq hV bV
      cases q with
      | false =>
        have HF := Lib.hid (HST.out (.inl rfl))
        have C1 := Lib.hid (fun d os => Calls.regrown_of (w := V) (d := d) (os := os) (HS.out _))
        have k0 := cell_regrown v0
        have k1 := cell_regrown v1
        have k2 := cell_regrown v2
        have k3 := cell_regrown v3
        clear v0 v1 v2 v3
        go_wp2_with fail
        rw [HV.out]
        refine wp_region_quiet_below (by kernel_rfl) (by kernel_rfl) ?_
        repeat (go_big_quiet_step (with_reducible exact C1.out _ _))
        refine wpQuiet_nil ?_
        intro w6 hw'
        obtain ⟨⟨dq, osq⟩, hw''⟩ := hw'
        have B6 := Lib.hid (show Below w.heap.size w w6 by rw [hw'']; exact BV.out.trans ((below_regrown V dq osq).mono BV.out.size))
        clear hw''
        go_wp2_with fail
        go_ret
        exact ⟨by rw [HF.out]; rfl, B6.out⟩
      | true =>
        have C1 := Lib.hid (fun d os => Calls.regrown_of (w := V) (d := d) (os := os) (HS.out _))
        have k0 := cell_regrown v0
        have k1 := cell_regrown v1
        have k2 := cell_regrown v2
        have k3 := cell_regrown v3
        rcases j with _ | j
        · have HF := Lib.hid (HNX.out rfl rfl)
          simp only [Nat.zero_mul, Nat.add_zero] at c0 c1 c2 c3
          clear v0 v1 v2 v3
          go_wp2_with fail
          rw [HV.out]
          refine wp_region_quiet_below (by kernel_rfl) (by kernel_rfl) ?_
          repeat (go_big_quiet_step (with_reducible exact C1.out _ _))
          refine wpQuiet_nil ?_
          intro w6 hw'
          obtain ⟨⟨dq, osq⟩, hw''⟩ := hw'
          have B6 := Lib.hid (show Below w.heap.size w w6 by rw [hw'']; exact BV.out.trans ((below_regrown V dq osq).mono BV.out.size))
          clear hw''
          go_wp2_with fail
          go_roundw
          case rel => exact ⟨1, by simp, by rw [HN.out]; omega, HF.out, B6.out⟩
          case measure => simp [RowKit.intOf]; omega
        · obtain ⟨y, hy⟩ := at_lt (l := p) (k := j) (by rw [HN.out]; omega)
          obtain ⟨_, _, e', _, d0, d1, d2, d3⟩ := HE.out V BV.out j y hy
          cases e'
          have HP : Hid (prev p (j + 1) = some y) := by
            show _ = _
            rw [prev, hy]
          rw [HP.out] at HST HNX
          obtain ⟨y1, y2, y3, y4⟩ := y
          simp only at d0 d1 d2 d3
          have k4 := cell_regrown d1
          have hbV := Nat.lt_of_lt_of_le hbl BV.out.size
          have hi0 : (0 : Int) ≤ (j : Int) := by omega
          have hi1 : (j : Int) < (N : Int) := by omega
          have hi2 : IntKind.i64.wrap (j : Int) = (j : Int) := by simp [IntKind.wrap, IntKind.bits, IntKind.signed]; omega
          have hg0 : decide ((0 : Int) < (j : Int) + 1) = true := decide_eq_true (by omega)
          clear hy v0 v1 v2 v3 d0 d1 d2 d3
          by_cases hxy : x1 = y2
          · subst hxy
            have HF := Lib.hid (HNX.out rfl (by simp [goesOn]))
            have e1 : (x1 != x1) = false := by simp
            go_wp2_with fail
            rw [HV.out]
            refine wp_region_quiet_below (by kernel_rfl) (by kernel_rfl) ?_
            repeat (go_big_quiet_step (with_reducible exact C1.out _ _))
            refine wpQuiet_nil ?_
            intro w6 hw'
            obtain ⟨⟨dq, osq⟩, hw''⟩ := hw'
            have B6 := Lib.hid (show Below w.heap.size w w6 by rw [hw'']; exact BV.out.trans ((below_regrown V dq osq).mono BV.out.size))
            clear hw''
            go_wp2_with fail
            go_roundw
            case rel => exact ⟨j + 1 + 1, by simp, by rw [HN.out]; omega, HF.out, B6.out⟩
            case measure => simp [RowKit.intOf]; omega
          · have HF := Lib.hid (HST.out (.inr (by simp [goesOn]; exact hxy)))
            have e1 : (x1 != y2) = true := by simpa using hxy
            clear hxy
            go_wp2_with fail
            rw [HV.out]
            refine wp_region_quiet_below (by kernel_rfl) (by kernel_rfl) ?_
            repeat (go_big_quiet_step (with_reducible exact C1.out _ _))
            refine wpQuiet_nil ?_
            intro w6 hw'
            obtain ⟨⟨dq, osq⟩, hw''⟩ := hw'
            have B6 := Lib.hid (show Below w.heap.size w w6 by rw [hw'']; exact BV.out.trans ((below_regrown V dq osq).mono BV.out.size))
            clear hw''
            go_wp2_with fail
            go_ret
            exact ⟨by rw [HF.out]; rfl, B6.out⟩
    · have he : j = N := by omega
      subst he
      have HF : Hid (r = true) := by
        show _ = _
        rw [HJ.out, List.drop_of_length_le (by rw [HN.out]; exact Nat.le_refl _)]
        rfl
      go_wp2_with fail
      go_ret
      exact ⟨by rw [HF.out]; rfl, HB.out⟩

end Go.Proofs.YtkoldgammeojkaaDoor.Pvd
