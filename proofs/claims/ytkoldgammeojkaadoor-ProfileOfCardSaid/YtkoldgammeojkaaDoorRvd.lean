/- The reference's Valid (profile). -/
import Derived.Test.YtkoldgammeojkaaDoorSegs
namespace Go.Proofs.YtkoldgammeojkaaDoor.Rvd
open Go.RowKit Go.Lib Go.Proofs.YtkoldgammeojkaaDoor.Reads Go.Proofs.YtkoldgammeojkaaDoor.Rows2 Go.Proofs.YtkoldgammeojkaaDoor.Lay Go.Proofs.YtkoldgammeojkaaDoor.Segs

/-- What holds at the head of the loop. -/
def WRel (p : List Sg) (r : Bool) (w : World) (vj : Value) (wr : World) : Prop :=
  ∃ j : Nat, vj = .int .i64 (j : Int) ∧ j ≤ p.length ∧ r = linkR (prev p j) (p.drop j) ∧ Below w.heap.size w wr
theorem wstop {p : List Sg} {r : Bool} {j : Nat} {x : Sg} (hr : r = linkR (prev p j) (p.drop j)) (hx : p[j]? = some x) (h : okS x = false ∨ goesOn (prev p j) x = false) : r = false := by
  rw [hr, drop_at hx]
  rcases h with h | h
  · exact link_no h
  · exact link_off h
theorem wnext {p : List Sg} {r : Bool} {j : Nat} {x : Sg} (hr : r = linkR (prev p j) (p.drop j)) (hx : p[j]? = some x) (h : okS x = true) (h2 : goesOn (prev p j) x = true) : r = linkR (prev p (j + 1)) (p.drop (j + 1)) := by
  rw [hr, drop_at hx, link_yes h h2, prev, hx]
/-- A new box of a segment. -/
theorem wbox (w : World) (x1 x2 x3 x4 : Int) (T : TypeId) : ∃ V, w.alloc (.cells #[.int .i64 x1, .int .i64 x2, .int .i64 x3, .int .i64 x4] T) = V ∧ Below w.heap.size w V ∧ w.heap.size < V.heap.size ∧
    V.cell? ⟨w.heap.size, 0, none⟩ = some (.int .i64 x1) ∧ V.cell? ⟨w.heap.size, 1, none⟩ = some (.int .i64 x2) ∧ V.cell? ⟨w.heap.size, 2, none⟩ = some (.int .i64 x3) ∧ V.cell? ⟨w.heap.size, 3, none⟩ = some (.int .i64 x4) := by
  have h := heap_alloc_new w (.cells #[.int .i64 x1, .int .i64 x2, .int .i64 x3, .int .i64 x4] T)
  refine ⟨_, rfl, (Below.refl _ _).alloc (Nat.le_refl _) _, by simp, ?_, ?_, ?_, ?_⟩
  all_goals
    rw [cell_of_row _ _ _ _ _ _ h]
    rfl
/-- The first reason why a segment may not stand in a profile. -/
theorem reasons (x1 x2 x3 x4 : Int) :
    (okS (x1, x2, x3, x4) = false ∧ decide (x1 < -1073741824) = true) ∨
    (okS (x1, x2, x3, x4) = false ∧ decide (x1 < -1073741824) = false ∧ decide (x2 ≤ x1) = true) ∨
    (okS (x1, x2, x3, x4) = false ∧ decide (x1 < -1073741824) = false ∧ decide (x2 ≤ x1) = false ∧ decide (1073741824 < x2) = true) ∨
    (okS (x1, x2, x3, x4) = false ∧ decide (x1 < -1073741824) = false ∧ decide (x2 ≤ x1) = false ∧ decide (1073741824 < x2) = false ∧ decide (x3 < -50) = true) ∨
    (okS (x1, x2, x3, x4) = false ∧ decide (x1 < -1073741824) = false ∧ decide (x2 ≤ x1) = false ∧ decide (1073741824 < x2) = false ∧ decide (x3 < -50) = false ∧ decide (50 < x3) = true) ∨
    (okS (x1, x2, x3, x4) = false ∧ decide (x1 < -1073741824) = false ∧ decide (x2 ≤ x1) = false ∧ decide (1073741824 < x2) = false ∧ decide (x3 < -50) = false ∧ decide (50 < x3) = false ∧ decide (x4 < 1) = true) ∨
    (okS (x1, x2, x3, x4) = false ∧ decide (x1 < -1073741824) = false ∧ decide (x2 ≤ x1) = false ∧ decide (1073741824 < x2) = false ∧ decide (x3 < -50) = false ∧ decide (50 < x3) = false ∧ decide (x4 < 1) = false ∧ decide (10000 < x4) = true) ∨
    (okS (x1, x2, x3, x4) = true ∧ decide (x1 < -1073741824) = false ∧ decide (x2 ≤ x1) = false ∧ decide (1073741824 < x2) = false ∧ decide (x3 < -50) = false ∧ decide (50 < x3) = false ∧ decide (x4 < 1) = false ∧ decide (10000 < x4) = false) := by
  by_cases h1 : x1 < -1073741824
  · exact .inl ⟨by simp [okS]; omega, decide_eq_true h1⟩
  refine .inr ?_
  by_cases h2 : x2 ≤ x1
  · exact .inl ⟨by simp [okS]; omega, decide_eq_false h1, decide_eq_true h2⟩
  refine .inr ?_
  by_cases h3 : 1073741824 < x2
  · exact .inl ⟨by simp [okS]; omega, decide_eq_false h1, decide_eq_false h2, decide_eq_true h3⟩
  refine .inr ?_
  by_cases h4 : x3 < -50
  · exact .inl ⟨by simp [okS]; omega, decide_eq_false h1, decide_eq_false h2, decide_eq_false h3, decide_eq_true h4⟩
  refine .inr ?_
  by_cases h5 : 50 < x3
  · exact .inl ⟨by simp [okS]; omega, decide_eq_false h1, decide_eq_false h2, decide_eq_false h3, decide_eq_false h4, decide_eq_true h5⟩
  refine .inr ?_
  by_cases h6 : x4 < 1
  · exact .inl ⟨by simp [okS]; omega, decide_eq_false h1, decide_eq_false h2, decide_eq_false h3, decide_eq_false h4, decide_eq_false h5, decide_eq_true h6⟩
  refine .inr ?_
  by_cases h7 : 10000 < x4
  · exact .inl ⟨by simp [okS]; omega, decide_eq_false h1, decide_eq_false h2, decide_eq_false h3, decide_eq_false h4, decide_eq_false h5, decide_eq_false h6, decide_eq_true h7⟩
  exact .inr ⟨by simp [okS]; omega, decide_eq_false h1, decide_eq_false h2, decide_eq_false h3, decide_eq_false h4, decide_eq_false h5, decide_eq_false h6, decide_eq_false h7⟩

set_option maxRecDepth 100000 in
set_option maxHeartbeats 3200000 in
theorem rvalid_any {p : List Sg} {v : Value} {w : World} (h : Grid (In w) w v 4 (p.map sgC)) :
    Calls Tryd.prog 23 #[v] w (BoolOut (validF p) w) := by
  obtain ⟨a, cap, rfl, hm, _, _, hel⟩ := segs h
  have HE := Lib.hid hel
  obtain ⟨N, hN⟩ : ∃ N, p.length = N := ⟨_, rfl⟩
  have HN := Lib.hid hN
  obtain ⟨r, hr⟩ : ∃ r, linkR none p = r := ⟨_, rfl⟩
  have HV : Hid (validF p = (decide (N ≤ 128) && r)) := by
    show _ = _
    rw [validF, hr, hN]
  obtain ⟨q, hq⟩ : ∃ q, (decide (N ≤ 128) && r) = q := ⟨_, rfl⟩
  rw [HV.out, hq, hN]
  rw [hN] at hm
  have HR := Lib.hid hr
  have HQ := Lib.hid hq
  clear hel h hN hr HV hq
  go_enter Tryd.func23, Tryd.ntmps23
  go_wp2_with fail
  go_loopw [7] (fun vj wr => WRel p r w vj wr) (fun vj _ => N - (RowKit.intOf vj).toNat)
  case atStart => exact ⟨0, rfl, Nat.zero_le _, by rw [← HR.out]; rfl, Below.refl _ _⟩
  case round =>
    obtain ⟨j, rfl, hj, hrj, hb⟩ := hrel
    rw [HN.out] at hj
    have HB := Lib.hid hb
    have HJ := Lib.hid hrj
    clear hb hrj
    by_cases hl : j < N
    · obtain ⟨x, hx⟩ := at_lt (l := p) (k := j) (by rw [HN.out]; exact hl)
      obtain ⟨b, off, rfl, hbl, c0, c1, c2, c3⟩ := HE.out wr HB.out j x hx
      have HST := Lib.hid (wstop HJ.out hx)
      have HNX := Lib.hid (wnext HJ.out hx)
      obtain ⟨x1, x2, x3, x4⟩ := x
      simp only at c0 c1 c2 c3
      obtain ⟨V, hV, bV, lV, v0, v1, v2, v3⟩ := wbox wr x1 x2 x3 x4 41
      have HV := Lib.hid hV
      have BV := Lib.hid (HB.out.trans (bV.mono HB.out.size))
      clear hx hV bV
      rcases reasons x1 x2 x3 x4 with ⟨hk, h1⟩ | ⟨hk, h1, h2⟩ | ⟨hk, h1, h2, h3⟩ | ⟨hk, h1, h2, h3, h4⟩ | ⟨hk, h1, h2, h3, h4, h5⟩ | ⟨hk, h1, h2, h3, h4, h5, h6⟩ | ⟨hk, h1, h2, h3, h4, h5, h6, h7⟩ | ⟨hk, h1, h2, h3, h4, h5, h6, h7⟩
      iterate 7
        · have HF := Lib.hid (HST.out (.inl hk))
          clear hk
          go_wp2_with fail
          rw [HV.out]
          go_quiet (fail)
          go_wp2_with fail
          go_ret
          exact ⟨by rw [← HQ.out, HF.out, Bool.and_false]; rfl, below_drewN BV.out _⟩
      rw [hk] at HNX
      clear hk
      rcases j with _ | j
      · have HF := Lib.hid (HNX.out rfl rfl)
        simp only [Nat.zero_mul, Nat.add_zero] at c0 c1 c2 c3
        go_wp2_with fail
        rw [HV.out]
        go_quiet (fail)
        go_wp2_with fail
        go_roundw
        case rel => exact ⟨1, by simp, by rw [HN.out]; omega, HF.out, below_drewN BV.out _⟩
        case measure => simp [RowKit.intOf]; omega
      · obtain ⟨y, hy⟩ := at_lt (l := p) (k := j) (by rw [HN.out]; omega)
        obtain ⟨_, _, e', _, d0, d1, d2, d3⟩ := HE.out V BV.out j y hy
        cases e'
        have HP : Hid (prev p (j + 1) = some y) := by
          show _ = _
          rw [prev, hy]
        rw [HP.out] at HST HNX
        obtain ⟨y1, y2, y3, y4⟩ := y
        simp only at d0 d1 d2 d3
        have hbV := Nat.lt_of_lt_of_le hbl BV.out.size
        have hi0 : (0 : Int) ≤ (j : Int) := by omega
        have hi1 : (j : Int) < (N : Int) := by omega
        have hi2 : IntKind.i64.wrap (j : Int) = (j : Int) := by simp [IntKind.wrap, IntKind.bits, IntKind.signed]; omega
        have hg0 : decide ((0 : Int) < (j : Int) + 1) = true := decide_eq_true (by omega)
        clear hy
        by_cases hxy : y2 = x1
        · subst hxy
          have HF := Lib.hid (HNX.out rfl (by simp [goesOn]))
          have e1 : (y2 != y2) = false := by simp
          go_wp2_with fail
          rw [HV.out]
          go_quiet (fail)
          go_wp2_with fail
          go_roundw
          case rel => exact ⟨j + 1 + 1, by simp, by rw [HN.out]; omega, HF.out, below_drewN BV.out _⟩
          case measure => simp [RowKit.intOf]; omega
        · have HF := Lib.hid (HST.out (.inr (by simp [goesOn]; exact fun e => hxy e.symm)))
          have e1 : (y2 != x1) = true := by simpa using hxy
          clear hxy
          go_wp2_with fail
          rw [HV.out]
          go_quiet (fail)
          go_wp2_with fail
          go_ret
          exact ⟨by rw [← HQ.out, HF.out, Bool.and_false]; rfl, below_drewN BV.out _⟩
    · have he : j = N := by omega
      subst he
      have HF : Hid (r = true) := by
        show _ = _
        rw [HJ.out, List.drop_of_length_le (by rw [HN.out]; exact Nat.le_refl _)]
        rfl
      by_cases h128 : j ≤ 128
      · have h128' : (j : Int) ≤ 128 := by omega
        go_wp2_with fail
        go_ret
        exact ⟨by rw [← HQ.out, HF.out, decide_eq_true h128]; first | rfl | simp [h128'], HB.out⟩
      · have h128' : ¬ (j : Int) ≤ 128 := by omega
        go_wp2_with fail
        go_ret
        exact ⟨by rw [← HQ.out, HF.out, decide_eq_false h128]; first | rfl | simp [h128'], HB.out⟩

end Go.Proofs.YtkoldgammeojkaaDoor.Rvd
