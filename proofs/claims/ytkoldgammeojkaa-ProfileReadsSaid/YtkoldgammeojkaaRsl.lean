/- The reference's Slowest and Steepest (profile). -/
import Derived.Test.YtkoldgammeojkaaRtc
namespace Go.Proofs.Ytkoldgammeojkaa.Rsl
open Go.RowKit Go.Lib Go.Proofs.Ytkoldgammeojkaa.Reads Go.Proofs.Ytkoldgammeojkaa.Rows2 Go.Proofs.Ytkoldgammeojkaa.Lay Go.Proofs.Ytkoldgammeojkaa.Segs Go.Proofs.Ytkoldgammeojkaa.Psg Go.Proofs.Ytkoldgammeojkaa.Pvd Go.Proofs.Ytkoldgammeojkaa.Phv Go.Proofs.Ytkoldgammeojkaa.Pth Go.Proofs.Ytkoldgammeojkaa.Pat Go.Proofs.Ytkoldgammeojkaa.Rvd Go.Proofs.Ytkoldgammeojkaa.Rtc

/-- The least so far, and what follows. -/
def lstF (val : Sg → Int) (l : List Sg) : Nat → Int → Int
  | 0, _ => leastF val l
  | j + 1, m => leastR val m (l.drop (j + 1))
theorem lst_new {val : Sg → Int} {l : List Sg} {x : Sg} {m : Int} (hx : l[0]? = some x) : lstF val l 0 m = lstF val l 1 (val x) := by
  rcases l with _ | ⟨y, r⟩
  · simp at hx
  · simp only [List.getElem?_cons_zero, Option.some.injEq] at hx
    subst hx
    simp only [lstF, leastF, leastR, List.drop_succ_cons, List.drop_zero, Int.min_self]
theorem lst_low {val : Sg → Int} {l : List Sg} {j : Nat} {x : Sg} {m : Int} (hx : l[j + 1]? = some x) (h : val x < m) : lstF val l (j + 1) m = lstF val l (j + 1 + 1) (val x) := by
  simp only [lstF]
  rw [drop_at hx, leastR, show min m (val x) = val x by omega]
theorem lst_keep {val : Sg → Int} {l : List Sg} {j : Nat} {x : Sg} {m : Int} (hx : l[j + 1]? = some x) (h : ¬ val x < m) : lstF val l (j + 1) m = lstF val l (j + 1 + 1) m := by
  simp only [lstF]
  rw [drop_at hx, leastR, show min m (val x) = m by omega]
theorem lst_end {val : Sg → Int} {l : List Sg} {n : Nat} {m : Int} (h : l.length = n) (h0 : n = 0 → m = 0) : lstF val l n m = m := by
  rcases n with _ | n
  · rw [List.length_eq_zero_iff.1 h, h0 rfl]; rfl
  · simp only [lstF]
    rw [List.drop_of_length_le (Nat.le_of_eq h)]; rfl
/-- What holds at the head of the loop. -/
def LRel (val : Sg → Int) (l : List Sg) (r : Int) (w : World) (vm vj : Value) (wr : World) : Prop :=
  ∃ (j : Nat) (m : Int), vj = .int .i64 (j : Int) ∧ j ≤ l.length ∧ vm = .int .i64 m ∧ r = lstF val l j m ∧ (j = 0 → m = 0) ∧ Below w.heap.size w wr

set_option maxRecDepth 100000 in
set_option maxHeartbeats 3200000 in
theorem rslow_any (f t : Int) {p : List Sg} {v : Value} {w : World} (h : Grid (In w) w v 4 (p.map sgC)) (hlen : p.length ≤ 1000) :
    Calls Try.prog 14 #[v, .int .i64 f, .int .i64 t] w (NumOut (slowF p f t) w) := by
  have HT := Lib.hid (touched_any f t h hlen)
  obtain ⟨l, hl⟩ : ∃ l, thoseF (touchB f t) p = l := ⟨_, rfl⟩
  obtain ⟨r, hr⟩ : ∃ r, slowF p f t = r := ⟨_, rfl⟩
  have HS : Hid (r = lstF spV l 0 0) := by
    show _ = _
    rw [← hr, slowF, hl]
    rfl
  rw [hl] at HT
  rw [hr]
  obtain ⟨a, cap, rfl, hm, _, _, _⟩ := segs h
  clear h hl hr hlen
  go_enter Try.func14, Try.ntmps14
  go_wp2_with fail
  refine HT.out.mono ?_
  rintro e w1 h1
  obtain ⟨A1, M1, C1, rfl, HM1, HO1, HB1⟩ := seg_open h1
  clear h1
  have hgr := grid_in (grid_of_own HO1.out)
  have HG := Lib.hid hgr
  have hM1 : (M1 : Int) ≤ 9223372036854775807 := by
    obtain ⟨_, _, e', h2, _⟩ := segs hgr
    rw [HM1.out] at h2
    exact h2
  clear hgr
  go_wp2_with fail
  go_loopw [7, 15] (fun vm vj wr => LRel spV l r w1 vm vj wr) (fun _ vj _ => M1 - (RowKit.intOf vj).toNat)
  case atStart => exact ⟨0, 0, rfl, Nat.zero_le _, rfl, HS.out, fun _ => rfl, Below.refl _ _⟩
  case round =>
    obtain ⟨j, m, rfl, hj, rfl, hrj, hz, hb⟩ := hrel
    rw [HM1.out] at hj
    have HB := Lib.hid hb
    have HJ := Lib.hid hrj
    have HZ := Lib.hid hz
    clear hb hrj hz
    by_cases hl : j < M1
    · obtain ⟨x, hx⟩ := at_lt (l := l) (k := j) (by rw [HM1.out]; exact hl)
      obtain ⟨a1, c1', e', _, _, _, hc⟩ := segs HG.out
      injection e' with eA eM eC
      subst eA
      clear eM eC
      obtain ⟨b, off, rfl, hbl, c0, c1, c2, c3⟩ := hc wr HB.out j x hx
      have HX := Lib.hid hx
      obtain ⟨x1, x2, x3, x4⟩ := x
      simp only at c0 c1 c2 c3
      have HBX := Lib.hid (HB.out.alloc HB.out.size (.cells #[.int .i64 x1, .int .i64 x2, .int .i64 x3, .int .i64 x4] 25))
      have hjl : (j : Int) < (M1 : Int) := by omega
      clear hx hc
      rcases j with _ | j
      · have HF := Lib.hid (lst_new (val := spV) (m := m) HX.out)
        simp only [Nat.zero_mul, Nat.add_zero] at c0 c1 c2 c3
        go_wp2_with fail
        go_roundw
        case rel => exact ⟨1, x4, by simp, by rw [HM1.out]; omega, rfl, by rw [HJ.out]; exact HF.out, fun e => absurd e (by omega), HBX.out⟩
        case measure => simp [RowKit.intOf]; omega
      · have hne : (((j : Int) + 1) == 0) = false := beq_eq_false_iff_ne.2 (by omega)
        by_cases hlow : x4 < m
        · have HF := Lib.hid (lst_low (val := spV) HX.out hlow)
          go_wp2_with fail
          go_roundw
          case rel => exact ⟨j + 1 + 1, x4, by simp, by rw [HM1.out]; omega, rfl, by rw [HJ.out]; exact HF.out, fun e => absurd e (by omega), HBX.out⟩
          case measure => simp [RowKit.intOf]; omega
        · have HF := Lib.hid (lst_keep (val := spV) HX.out hlow)
          go_wp2_with fail
          go_roundw
          case rel => exact ⟨j + 1 + 1, m, by simp, by rw [HM1.out]; omega, rfl, by rw [HJ.out]; exact HF.out, fun e => absurd e (by omega), HBX.out⟩
          case measure => simp [RowKit.intOf]; omega
    · have he : j = M1 := by omega
      subst he
      have HF : Hid (r = m) := by
        show _ = _
        rw [HJ.out]
        exact lst_end HM1.out HZ.out
      go_wp2_with fail
      go_ret
      exact ⟨by rw [HF.out]; rfl, bel_next HB1.out HB.out⟩

set_option maxRecDepth 100000 in
set_option maxHeartbeats 3200000 in
theorem rsteep_any (f t : Int) {p : List Sg} {v : Value} {w : World} (h : Grid (In w) w v 4 (p.map sgC)) (hlen : p.length ≤ 1000) :
    Calls Try.prog 16 #[v, .int .i64 f, .int .i64 t] w (NumOut (steepF p f t) w) := by
  have HT := Lib.hid (touched_any f t h hlen)
  obtain ⟨l, hl⟩ : ∃ l, thoseF (touchB f t) p = l := ⟨_, rfl⟩
  obtain ⟨r, hr⟩ : ∃ r, steepF p f t = r := ⟨_, rfl⟩
  have HS : Hid (r = lstF grV l 0 0) := by
    show _ = _
    rw [← hr, steepF, hl]
    rfl
  rw [hl] at HT
  rw [hr]
  obtain ⟨a, cap, rfl, hm, _, _, _⟩ := segs h
  clear h hl hr hlen
  go_enter Try.func16, Try.ntmps16
  go_wp2_with fail
  refine HT.out.mono ?_
  rintro e w1 h1
  obtain ⟨A1, M1, C1, rfl, HM1, HO1, HB1⟩ := seg_open h1
  clear h1
  have hgr := grid_in (grid_of_own HO1.out)
  have HG := Lib.hid hgr
  have hM1 : (M1 : Int) ≤ 9223372036854775807 := by
    obtain ⟨_, _, e', h2, _⟩ := segs hgr
    rw [HM1.out] at h2
    exact h2
  clear hgr
  go_wp2_with fail
  go_loopw [7, 15] (fun vm vj wr => LRel grV l r w1 vm vj wr) (fun _ vj _ => M1 - (RowKit.intOf vj).toNat)
  case atStart => exact ⟨0, 0, rfl, Nat.zero_le _, rfl, HS.out, fun _ => rfl, Below.refl _ _⟩
  case round =>
    obtain ⟨j, m, rfl, hj, rfl, hrj, hz, hb⟩ := hrel
    rw [HM1.out] at hj
    have HB := Lib.hid hb
    have HJ := Lib.hid hrj
    have HZ := Lib.hid hz
    clear hb hrj hz
    by_cases hl : j < M1
    · obtain ⟨x, hx⟩ := at_lt (l := l) (k := j) (by rw [HM1.out]; exact hl)
      obtain ⟨a1, c1', e', _, _, _, hc⟩ := segs HG.out
      injection e' with eA eM eC
      subst eA
      clear eM eC
      obtain ⟨b, off, rfl, hbl, c0, c1, c2, c3⟩ := hc wr HB.out j x hx
      have HX := Lib.hid hx
      obtain ⟨x1, x2, x3, x4⟩ := x
      simp only at c0 c1 c2 c3
      have HBX := Lib.hid (HB.out.alloc HB.out.size (.cells #[.int .i64 x1, .int .i64 x2, .int .i64 x3, .int .i64 x4] 25))
      have hjl : (j : Int) < (M1 : Int) := by omega
      clear hx hc
      rcases j with _ | j
      · have HF := Lib.hid (lst_new (val := grV) (m := m) HX.out)
        simp only [Nat.zero_mul, Nat.add_zero] at c0 c1 c2 c3
        go_wp2_with fail
        go_roundw
        case rel => exact ⟨1, x3, by simp, by rw [HM1.out]; omega, rfl, by rw [HJ.out]; exact HF.out, fun e => absurd e (by omega), HBX.out⟩
        case measure => simp [RowKit.intOf]; omega
      · have hne : (((j : Int) + 1) == 0) = false := beq_eq_false_iff_ne.2 (by omega)
        by_cases hlow : x3 < m
        · have HF := Lib.hid (lst_low (val := grV) HX.out hlow)
          go_wp2_with fail
          go_roundw
          case rel => exact ⟨j + 1 + 1, x3, by simp, by rw [HM1.out]; omega, rfl, by rw [HJ.out]; exact HF.out, fun e => absurd e (by omega), HBX.out⟩
          case measure => simp [RowKit.intOf]; omega
        · have HF := Lib.hid (lst_keep (val := grV) HX.out hlow)
          go_wp2_with fail
          go_roundw
          case rel => exact ⟨j + 1 + 1, m, by simp, by rw [HM1.out]; omega, rfl, by rw [HJ.out]; exact HF.out, fun e => absurd e (by omega), HBX.out⟩
          case measure => simp [RowKit.intOf]; omega
    · have he : j = M1 := by omega
      subst he
      have HF : Hid (r = m) := by
        show _ = _
        rw [HJ.out]
        exact lst_end HM1.out HZ.out
      go_wp2_with fail
      go_ret
      exact ⟨by rw [HF.out]; rfl, bel_next HB1.out HB.out⟩

end Go.Proofs.Ytkoldgammeojkaa.Rsl
