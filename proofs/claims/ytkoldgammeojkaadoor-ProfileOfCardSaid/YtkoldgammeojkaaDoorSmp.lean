/- The reference's Same (profile). -/
import Derived.Test.YtkoldgammeojkaaDoorSegs
namespace Go.Proofs.YtkoldgammeojkaaDoor.Smp
open Go.RowKit Go.Lib Go.Proofs.YtkoldgammeojkaaDoor.Reads Go.Proofs.YtkoldgammeojkaaDoor.Rows2 Go.Proofs.YtkoldgammeojkaaDoor.Lay Go.Proofs.YtkoldgammeojkaaDoor.Segs

theorem same_next {α : Type} {xs ys : List α} {k : Nat} {x : α} (h : xs.take k = ys.take k) (hx : xs[k]? = some x) (hy : ys[k]? = some x) : xs.take (k + 1) = ys.take (k + 1) := by
  rw [List.take_add_one, List.take_add_one, h, hx, hy]
theorem same_not {α : Type} {xs ys : List α} {k : Nat} {x y : α} (hx : xs[k]? = some x) (hy : ys[k]? = some y) (h : x ≠ y) : xs ≠ ys := by
  rintro rfl
  rw [hx] at hy
  exact h (Option.some.inj hy)
theorem same_all {α : Type} {xs ys : List α} {n : Nat} (h : xs.take n = ys.take n) (hx : xs.length = n) (hy : ys.length = n) : xs = ys := by
  rwa [List.take_of_length_le (Nat.le_of_eq hx), List.take_of_length_le (Nat.le_of_eq hy)] at h
theorem ne4 {x1 x2 x3 x4 y1 y2 y3 y4 : Int} (h : ¬ (x1, x2, x3, x4) = (y1, y2, y3, y4)) : (x1 == y1) = false ∨ ((x1 == y1) = true ∧ (x2 == y2) = false) ∨ ((x1 == y1) = true ∧ (x2 == y2) = true ∧ (x3 == y3) = false) ∨ ((x1 == y1) = true ∧ (x2 == y2) = true ∧ (x3 == y3) = true ∧ (x4 == y4) = false) := by
  simp only [beq_eq_false_iff_ne, beq_iff_eq]
  simp only [Prod.mk.injEq] at h
  omega

set_option maxRecDepth 100000 in
set_option maxHeartbeats 800000 in
theorem same_any {va vb : Value} {xs ys : List Sg} {w : World} (h : Grid (In w) w va 4 (xs.map sgC)) (hy : Grid (In w) w vb 4 (ys.map sgC)) :
    Calls Tryd.prog 8 #[va, vb] w (BoolOut (decide (xs = ys)) w) := by
  obtain ⟨a, cap, rfl, hm, _, _, hc⟩ := segs h
  obtain ⟨a2, cap2, rfl, hm2, _, _, hc2⟩ := segs hy
  have HC := Lib.hid hc
  have HC2 := Lib.hid hc2
  clear h hy hc hc2
  by_cases hlen : xs.length = ys.length
  · have HLEN := Lib.hid hlen
    rw [hlen] at hm ⊢
    clear hlen
    obtain ⟨N, hN⟩ : ∃ N, ys.length = N := ⟨_, rfl⟩
    have HN := Lib.hid hN
    rw [hN] at hm hm2 HLEN ⊢
    clear hN
    have hq : ((N : Int) != (N : Int)) = false := by simp
    go_enter Tryd.func8, Tryd.ntmps8
    go_wp2_with fail
    go_loopw [13] (fun vi wr => ∃ k : Nat, k ≤ N ∧ vi = .int .i64 (k : Int) ∧ xs.take k = ys.take k ∧ Below w.heap.size w wr) (fun vi _ => N - (RowKit.intOf vi).toNat)
    case atStart => exact ⟨0, Nat.zero_le _, rfl, rfl, Below.refl _ _⟩
    case round =>
      obtain ⟨k, hk, rfl, ht, hbel⟩ := hrel
      have HT := Lib.hid ht
      have HB := Lib.hid hbel
      clear ht hbel
      by_cases hlt : k < N
      · obtain ⟨x, hx⟩ := at_lt (l := xs) (k := k) (by rw [HLEN.out]; exact hlt)
        obtain ⟨y, hy⟩ := at_lt (l := ys) (k := k) (by rw [HN.out]; exact hlt)
        obtain ⟨b, off, rfl, hb, g0, g1, g2, g3⟩ := HC.out wr HB.out k x hx
        obtain ⟨b2, off2, rfl, hb2, f0, f1, f2, f3⟩ := HC2.out wr HB.out k y hy
        have HX := Lib.hid hx
        have HY := Lib.hid hy
        obtain ⟨x1, x2, x3, x4⟩ := x
        obtain ⟨y1, y2, y3, y4⟩ := y
        simp only at g0 f0 g1 f1 g2 f2 g3 f3
        clear hx hy hb hb2
        by_cases hxy : (x1, x2, x3, x4) = (y1, y2, y3, y4)
        · cases hxy
          have HS := Lib.hid (same_next HT.out HX.out HY.out)
          go_wp2_with fail
          go_quiet (fail)
          go_wp2_with fail
          go_roundw
          case rel => exact ⟨k + 1, by omega, by simp, HS.out, below_drewN HB.out _⟩
          case measure => simp [RowKit.intOf]; omega
        · have HS := Lib.hid (same_not HX.out HY.out hxy)
          have hc := ne4 hxy
          clear hxy
          rcases hc with hc | ⟨hc, hc2⟩ | ⟨hc, hc2, hc3⟩ | ⟨hc, hc2, hc3, hc4⟩
          all_goals
            go_wp2_with fail
            go_quiet (fail)
            go_wp2_with fail
            go_ret
            exact ⟨by rw [decide_eq_false HS.out]; rfl, below_drewN HB.out _⟩
      · obtain rfl : k = N := by omega
        have HS := Lib.hid (show xs = ys from same_all HT.out HLEN.out HN.out)
        go_wp2_with fail
        go_ret
        exact ⟨by rw [decide_eq_true HS.out]; rfl, HB.out⟩
  · have HS := Lib.hid (show xs ≠ ys from fun e => hlen (by rw [e]))
    have hq : ((xs.length : Int) != (ys.length : Int)) = true := by simp; omega
    clear hlen
    go_enter Tryd.func8, Tryd.ntmps8
    go_wp2_with fail
    go_ret
    exact ⟨by rw [decide_eq_false HS.out]; rfl, Below.refl _ _⟩

end Go.Proofs.YtkoldgammeojkaaDoor.Smp
