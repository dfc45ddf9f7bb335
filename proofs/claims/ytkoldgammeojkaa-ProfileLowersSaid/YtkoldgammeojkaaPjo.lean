/- The program's Join (profile). -/
import Derived.Test.YtkoldgammeojkaaPcc
import Derived.Test.YtkoldgammeojkaaPvd
namespace Go.Proofs.Ytkoldgammeojkaa.Pjo
open Go.RowKit Go.Lib Go.Proofs.Ytkoldgammeojkaa.Reads Go.Proofs.Ytkoldgammeojkaa.Rows2 Go.Proofs.Ytkoldgammeojkaa.Lay Go.Proofs.Ytkoldgammeojkaa.Segs Go.Proofs.Ytkoldgammeojkaa.Psg Go.Proofs.Ytkoldgammeojkaa.Pvd Go.Proofs.Ytkoldgammeojkaa.Pcc

/-- What a call gives that returns segments and an error. -/
def JoinOut (r : List Sg × Int) (w : World) (e : Ending) (w' : World) : Prop :=
  ∃ v, e = .returned (.tuple #[v, .int .i64 r.2]) ∧ w'.ownsRow w.heap.size 25 4 v r.1.length (r.1.flatMap sgC) ∧ Below w.heap.size w w'
theorem join_nil {n : Int} {w w' : World} (hb : Below w.heap.size w w') : JoinOut ([], n) w (.returned (.tuple #[.slice none 0 0, .int .i64 n])) w' := ⟨_, rfl, World.ownsRow_nil _ _ _ _, hb⟩

theorem apart_l (b : List Sg) : apart [] b = false := rfl
theorem apart_r (a : List Sg) : apart a [] = false := by
  unfold apart
  cases a.getLast? <;> rfl
theorem apart_some {a b : List Sg} {K : Nat} {y z : Sg} (hl : a.length = K + 1) (hy : a[K]? = some y) (hz : b[0]? = some z) : apart a b = decide (y.2.1 ≠ z.1) := by
  have e1 : a.getLast? = some y := by rw [List.getLast?_eq_getElem?, hl]; exact hy
  have e2 : b.head? = some z := by rw [List.head?_eq_getElem?]; exact hz
  unfold apart
  rw [e1, e2]
/-- The ways of Join. -/
theorem join_bad {a b : List Sg} (h : validF a = false ∨ validF b = false) : joinF a b = ([], 1) := by rw [joinF, if_pos h]
theorem join_apart {a b : List Sg} (ha : validF a = true) (hb : validF b = true) (h : apart a b = true) : joinF a b = ([], 10) := by rw [joinF, if_neg (by simp [ha, hb]), if_pos h]
theorem join_long {a b : List Sg} (ha : validF a = true) (hb : validF b = true) (h : apart a b = false) (hl : 128 < a.length + b.length) : joinF a b = ([], 2) := by rw [joinF, if_neg (by simp [ha, hb]), if_neg (by simp [h]), if_pos hl]
theorem join_ok {a b : List Sg} (ha : validF a = true) (hb : validF b = true) (h : apart a b = false) (hl : ¬ 128 < a.length + b.length) : joinF a b = (a ++ b, 0) := by rw [joinF, if_neg (by simp [ha, hb]), if_neg (by simp [h]), if_neg hl]
theorem valid_len {p : List Sg} (h : validF p = true) : p.length ≤ 128 := by
  simp only [validF, Bool.and_eq_true, decide_eq_true_eq] at h
  exact h.1

set_option maxRecDepth 100000 in
set_option maxHeartbeats 3200000 in
theorem join_any {a b : List Sg} {va vb : Value} {w : World} (ha : SegIn w va a) (hb : SegIn w vb b) :
    Calls Try.prog 20 #[va, vb] w (JoinOut (joinF a b) w) := by
  obtain ⟨A1, C1, rfl, hm1, -, -, hc1⟩ := segs ha.1
  obtain ⟨A2, C2, rfl, hm2, -, -, hc2⟩ := segs hb.1
  have HA := Lib.hid ha
  have HB := Lib.hid hb
  have HC1 := Lib.hid hc1
  have HC2 := Lib.hid hc2
  have HV1 := Lib.hid (pvalid_any ha.1)
  have HV2 := Lib.hid (fun w' (h : Below w.heap.size w w') => pvalid_any (grid_next hb.1 h))
  obtain ⟨r, hr⟩ : ∃ r, joinF a b = r := ⟨_, rfl⟩
  have HR := Lib.hid hr
  rw [hr]
  obtain ⟨q1, hq1⟩ : ∃ q, validF a = q := ⟨_, rfl⟩
  obtain ⟨q2, hq2⟩ : ∃ q, validF b = q := ⟨_, rfl⟩
  rw [hq1] at HV1
  rw [hq2] at HV2
  have HQ1 := Lib.hid hq1
  have HQ2 := Lib.hid hq2
  obtain ⟨N1, e1⟩ : ∃ N, a.length = N := ⟨_, rfl⟩
  obtain ⟨N2, e2⟩ : ∃ N, b.length = N := ⟨_, rfl⟩
  have E1 := Lib.hid e1
  have E2 := Lib.hid e2
  rw [e1] at hm1 HA HV1 ⊢
  rw [e2] at hm2 HB HV2 ⊢
  clear ha hb hc1 hc2 hr hq1 hq2 e1 e2
  go_enter Try.func20, Try.ntmps20
  go_wp2_with fail
  refine HV1.out.mono ?_
  rintro e w1 ⟨rfl, hb1⟩
  have HB1 := Lib.hid hb1
  clear hb1
  cases q1 with
  | false =>
    have HF := Lib.hid (join_bad (a := a) (b := b) (.inl HQ1.out))
    go_wp2_with fail
    go_ret2
    rw [← HR.out, HF.out]
    exact join_nil HB1.out
  | true =>
  have HVX := Lib.hid (HV2.out _ HB1.out)
  go_wp2_with fail
  refine HVX.out.mono ?_
  rintro e w2 ⟨rfl, hb2⟩
  have HB2 := Lib.hid (bel_next HB1.out hb2)
  clear hb2
  cases q2 with
  | false =>
    have HF := Lib.hid (join_bad (a := a) (b := b) (.inr HQ2.out))
    go_wp2_with fail
    go_ret2
    rw [← HR.out, HF.out]
    exact join_nil HB2.out
  | true =>
  have hn1 : N1 ≤ 128 := by have := valid_len HQ1.out; rwa [E1.out] at this
  have hn2 : N2 ≤ 128 := by have := valid_len HQ2.out; rwa [E2.out] at this
  have hwr : IntKind.i64.wrap ((N1 : Int) + (N2 : Int)) = (N1 : Int) + (N2 : Int) := by rw [IntKind.wrap_i64]; omega
  have HJ := Lib.hid (fun (w' : World) (h : Below w.heap.size w w') => concat_any (va := .slice A1 N1 C1) (vb := .slice A2 N2 C2) (a := a) (b := b) (B := w'.heap.size) (w'.alloc (.cells #[.slice A1 N1 C1, .slice A2 N2 C2] 22)) (by rw [World.cell?_alloc_at _ _ _ _ rfl]; rfl) (by rw [World.cell?_alloc_at _ _ _ _ rfl]; rfl) (HA.out.next (h.alloc h.size _)) (HB.out.next (h.alloc h.size _)) (by rw [E1.out, E2.out]; omega))
  have hparts : (apart a b = false ∧ (N1 = 0 ∨ (decide (0 < N1) = true ∧ N2 = 0))) ∨
      (decide (0 < N1) = true ∧ decide (0 < N2) = true ∧ ∃ (K : Nat) (y z : Sg), N1 = K + 1 ∧ a[K]? = some y ∧ b[0]? = some z ∧ apart a b = decide (y.2.1 ≠ z.1)) := by
    rcases a with _ | ⟨s, a'⟩
    · left
      have h0 : N1 = 0 := E1.out.symm
      exact ⟨apart_l _, .inl h0⟩
    · have h1 : N1 = a'.length + 1 := E1.out.symm
      rcases b with _ | ⟨z, b'⟩
      · left
        have h0 : N2 = 0 := E2.out.symm
        exact ⟨apart_r _, .inr ⟨decide_eq_true (by omega), h0⟩⟩
      · right
        have h2 : N2 = b'.length + 1 := E2.out.symm
        obtain ⟨y, hy⟩ := at_lt (l := s :: a') (k := a'.length) (by simp)
        exact ⟨decide_eq_true (by omega), decide_eq_true (by omega), a'.length, y, z, h1, hy, rfl, apart_some (by simp) hy rfl⟩
  have HFL := Lib.hid (fun (h : apart a b = false) (hl : 128 < N1 + N2) => HR.out.symm.trans (join_long HQ1.out HQ2.out h (by rw [E1.out, E2.out]; exact hl)))
  have HFO := Lib.hid (fun (h : apart a b = false) (hl : ¬ 128 < N1 + N2) => HR.out.symm.trans (join_ok HQ1.out HQ2.out h (by rw [E1.out, E2.out]; exact hl)))
  have HFA := Lib.hid (fun (h : apart a b = true) => HR.out.symm.trans (join_apart HQ1.out HQ2.out h))
  rcases hparts with ⟨hap, hg⟩ | ⟨g1, g2, K, y, z, hK, hy, hz, hap⟩
  · have HAP := Lib.hid hap
    clear hap
    by_cases hlong : 128 < N1 + N2
    · have hl : (128 : Int) < (N1 : Int) + (N2 : Int) := by omega
      have HF := Lib.hid (HFL.out HAP.out hlong)
      clear hlong
      rcases hg with rfl | ⟨g1, rfl⟩
      all_goals
        simp only [Int.natCast_zero, Int.zero_add, Int.add_zero] at hl hwr
        go_wp2_with fail
        go_quiet (fail)
        go_wp2_with fail
        go_ret2
        rw [HF.out]
        exact join_nil (below_drewN HB2.out _)
    · have hl : ¬ (128 : Int) < (N1 : Int) + (N2 : Int) := by omega
      have HF := Lib.hid (HFO.out HAP.out hlong)
      clear hlong
      rcases hg with rfl | ⟨g1, rfl⟩
      all_goals
        simp only [Int.natCast_zero, Int.zero_add, Int.add_zero] at hl hwr
        go_wp2_with fail
        go_quiet (fail)
        go_wp2_with fail
        refine (HJ.out _ (below_drewN HB2.out _)).mono ?_
        rintro e w5 h5
        obtain ⟨A5, M5, C5, rfl, HM5, HO5, HB5⟩ := seg_open h5
        clear h5
        go_wp2_with fail
        go_ret2
        rw [HF.out]
        exact ⟨_, rfl, own_mono HO5.out (Nat.le_trans HB2.out.size (by simp)), bel_next ((below_drewN HB2.out _).alloc (by simpa using HB2.out.size) _) HB5.out⟩
  · obtain ⟨b1, off1, rfl, hbl1, c0, c1, c2, c3⟩ := HC1.out w2 HB2.out K y hy
    obtain ⟨b2, off2, rfl, hbl2, d0, d1, d2, d3⟩ := HC2.out w2 HB2.out 0 z hz
    simp only [Nat.zero_mul, Nat.add_zero] at d0 d1 d2 d3
    have hwk : IntKind.i64.wrap ((N1 : Int) - 1) = (K : Int) := by rw [IntKind.wrap_i64]; omega
    have hk0 : (0 : Int) ≤ (K : Int) := by omega
    have hk1 : (K : Int) < (N1 : Int) := by omega
    have hz0 : (0 : Int) < (N2 : Int) := by simpa using g2
    obtain ⟨y1, y2, y3, y4⟩ := y
    obtain ⟨z1, z2, z3, z4⟩ := z
    simp only at c0 c1 c2 c3 d0 d1 d2 d3 hap
    clear hy hz hK
    by_cases hyz : y2 = z1
    · subst hyz
      have HAP : Hid (apart a b = false) := by
        show _ = _
        rw [hap]; simp
      have e1 : (y2 != y2) = false := by simp
      clear hap
      by_cases hlong : 128 < N1 + N2
      · have hl : (128 : Int) < (N1 : Int) + (N2 : Int) := by omega
        have HF := Lib.hid (HFL.out HAP.out hlong)
        clear hlong
        go_wp2_with fail
        go_quiet (fail)
        go_wp2_with fail
        go_ret2
        rw [HF.out]
        exact join_nil (below_drewN HB2.out _)
      · have hl : ¬ (128 : Int) < (N1 : Int) + (N2 : Int) := by omega
        have HF := Lib.hid (HFO.out HAP.out hlong)
        clear hlong
        go_wp2_with fail
        go_quiet (fail)
        go_wp2_with fail
        refine (HJ.out _ (below_drewN HB2.out _)).mono ?_
        rintro e w5 h5
        obtain ⟨A5, M5, C5, rfl, HM5, HO5, HB5⟩ := seg_open h5
        clear h5
        go_wp2_with fail
        go_ret2
        rw [HF.out]
        exact ⟨_, rfl, own_mono HO5.out (Nat.le_trans HB2.out.size (by simp)), bel_next ((below_drewN HB2.out _).alloc (by simpa using HB2.out.size) _) HB5.out⟩
    · have HAP : Hid (apart a b = true) := by
        show _ = _
        rw [hap]; simpa using hyz
      have e1 : (y2 != z1) = true := by simpa using hyz
      have HF := Lib.hid (HFA.out HAP.out)
      clear hap hyz
      go_wp2_with fail
      go_quiet (fail)
      go_wp2_with fail
      go_ret2
      rw [HF.out]
      exact join_nil (below_drewN HB2.out _)

end Go.Proofs.Ytkoldgammeojkaa.Pjo
