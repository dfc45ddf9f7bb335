/- The program's those and least (profile). -/
import Derived.Test.YtkoldgammeojkaaDoorPhv
namespace Go.Proofs.YtkoldgammeojkaaDoor.Pth
open Go.RowKit Go.Lib Go.Proofs.YtkoldgammeojkaaDoor.Reads Go.Proofs.YtkoldgammeojkaaDoor.Rows2 Go.Proofs.YtkoldgammeojkaaDoor.Lay Go.Proofs.YtkoldgammeojkaaDoor.Segs Go.Proofs.YtkoldgammeojkaaDoor.Psg Go.Proofs.YtkoldgammeojkaaDoor.Pvd Go.Proofs.YtkoldgammeojkaaDoor.Phv

/-- What is listed of a list that is no profile is nothing. -/
theorem those_no {c : Sg → Bool} {p : List Sg} (h : validF p = false) : thoseF c p = [] := by rw [thoseF, h, if_neg (by decide)]
theorem those_yes {c : Sg → Bool} {p : List Sg} (h : validF p = true) : thoseF c p = p.filter c := by rw [thoseF, h, if_pos rfl]
theorem valid_len {p : List Sg} (h : validF p = true) : p.length ≤ 128 := by
  simp only [validF, Bool.and_eq_true, decide_eq_true_eq] at h
  exact h.1

set_option maxRecDepth 100000 in
set_option maxHeartbeats 1600000 in
theorem those_any {g : FuncId} {b1 : Value} {c : Sg → Bool} (eg : ByVal g) (ht : Tells g #[b1] c) {p : List Sg} {v : Value} {w : World} (h : Grid (In w) w v 4 (p.map sgC)) :
    Calls Tryd.prog 34 #[v, .func (.func g) #[b1] #[]] w (SegOut (thoseF c p) w) := by
  obtain ⟨a, cap, rfl, hm, _, _, hel⟩ := segs h
  have HV := Lib.hid (pvalid_any h)
  have HG := Lib.hid h
  have EG := Lib.hid eg
  have HT := Lib.hid ht
  obtain ⟨q, hq⟩ : ∃ q, validF p = q := ⟨_, rfl⟩
  have HQ := Lib.hid hq
  rw [hq] at HV
  clear hel h hq eg ht
  go_enter Tryd.func34, Tryd.ntmps34
  go_wp2_with fail
  refine HV.out.mono ?_
  rintro e w1 ⟨rfl, hb1⟩
  have HB1 := Lib.hid hb1
  clear hb1
  cases q with
  | false =>
    have HE := Lib.hid (those_no (c := c) HQ.out)
    go_wp2_with fail
    go_ret
    exact ⟨_, rfl, by rw [HE.out]; exact World.ownsRow_nil _ _ _ _, HB1.out⟩
  | true =>
    have HE := Lib.hid (those_yes (c := c) HQ.out)
    have HH := Lib.hid (having_bound EG.out HT.out (grid_next HG.out HB1.out) (by have := valid_len HQ.out; omega))
    go_wp2_with fail
    refine HH.out.mono ?_
    rintro e w2 h2
    obtain ⟨A1, M1, C1, rfl, HM1, HO2, HB2⟩ := seg_open h2
    clear h2
    go_wp2_with fail
    go_ret
    rw [HE.out]
    exact seg_close HB1.out HO2.out HB2.out

/-- A function value that gives a number of a segment. -/
def Gives (g : FuncId) (val : Sg → Int) : Prop := ∀ (W : World) (x : Sg), Calls Tryd.prog g #[sgV x] W (NumOut (val x) W)
set_option maxRecDepth 100000 in
theorem gives_sp : Gives 38 spV := fun W x => by
  obtain ⟨x1, x2, x3, x4⟩ := x
  unfold sgV spV
  simp only
  have HB := Lib.hid ((Below.refl W.heap.size W).alloc (Nat.le_refl _) (.cells #[.int .i64 x1, .int .i64 x2, .int .i64 x3, .int .i64 x4] 41))
  go_enter Tryd.func38, Tryd.ntmps38
  go_wp2_with fail
  go_ret
  exact ⟨rfl, HB.out⟩
set_option maxRecDepth 100000 in
theorem gives_gr : Gives 39 grV := fun W x => by
  obtain ⟨x1, x2, x3, x4⟩ := x
  unfold sgV grV
  simp only
  have HB := Lib.hid ((Below.refl W.heap.size W).alloc (Nat.le_refl _) (.cells #[.int .i64 x1, .int .i64 x2, .int .i64 x3, .int .i64 x4] 41))
  go_enter Tryd.func39, Tryd.ntmps39
  go_wp2_with fail
  go_ret
  exact ⟨rfl, HB.out⟩
theorem byval_sp : ByVal 38 := fun args w => by kernel_rfl
theorem byval_gr : ByVal 39 := fun args w => by kernel_rfl

/-- What holds at the head of the loop of least. -/
def MRel (val : Sg → Int) (p : List Sg) (r : Int) (w : World) (vm vj : Value) (wr : World) : Prop :=
  ∃ (j : Nat) (m : Int), vj = .int .i64 (j : Int) ∧ j ≤ p.length ∧ vm = .int .i64 m ∧ r = leastR val m (p.drop j) ∧ Below w.heap.size w wr

set_option maxRecDepth 100000 in
set_option maxHeartbeats 1600000 in
theorem least_any {g : FuncId} {val : Sg → Int} (eg : ByVal g) (ht : Gives g val) {p : List Sg} {v : Value} {w : World} (h : Grid (In w) w v 4 (p.map sgC)) :
    Calls Tryd.prog 36 #[v, .func (.func g) #[] #[]] w (NumOut (leastF val p) w) := by
  obtain ⟨a, cap, rfl, hm, _, _, hel⟩ := segs h
  have HE := Lib.hid hel
  have HT := Lib.hid ht
  unfold ByVal at eg
  obtain ⟨r, hr⟩ : ∃ r, leastF val p = r := ⟨_, rfl⟩
  have HR := Lib.hid hr
  rw [hr]
  clear hel h ht hr
  rcases p with _ | ⟨x, p'⟩
  · go_enter Tryd.func36, Tryd.ntmps36
    go_wp2_with fail
    go_ret
    exact ⟨by rw [← HR.out]; rfl, Below.refl _ _⟩
  · obtain ⟨p, hp⟩ : ∃ p, x :: p' = p := ⟨_, rfl⟩
    have hx : p[0]? = some x := by rw [← hp]; rfl
    have hrv : r = leastR val (val x) (p.drop 0) := by rw [← HR.out, ← hp]; rfl
    rw [hp] at hm HE HR ⊢
    obtain ⟨N, hN⟩ : ∃ N, p.length = N := ⟨_, rfl⟩
    have HN := Lib.hid hN
    rw [hN] at hm ⊢
    have hN0 : (0 : Int) < (N : Int) := by rw [← hN, ← hp, List.length_cons]; omega
    have hN1 : ((N : Int) == 0) = false := beq_eq_false_iff_ne.2 (by omega)
    obtain ⟨b, off, rfl, hbl, c0, c1, c2, c3⟩ := HE.out w (Below.refl _ _) 0 x hx
    simp only [Nat.zero_mul, Nat.add_zero] at c0 c1 c2 c3
    have HC := Lib.hid (fun w' => HT.out w' x)
    obtain ⟨m0, hm0⟩ : ∃ m0, val x = m0 := ⟨_, rfl⟩
    rw [hm0] at HC hrv
    have HRV := Lib.hid hrv
    obtain ⟨x1, x2, x3, x4⟩ := x
    simp only at c0 c1 c2 c3
    unfold sgV at HC
    simp only at HC
    clear hx hrv hp hN hm0 HR
    go_enter Tryd.func36, Tryd.ntmps36
    go_wp2_with fail
    refine (HC.out _).mono ?_
    rintro e w1 ⟨rfl, hb1⟩
    have HB1 := Lib.hid hb1
    clear hb1
    go_wp2_with fail
    go_loopw [5, 18] (fun vm vj wr => MRel val p r w vm vj wr) (fun _ vj _ => N - (RowKit.intOf vj).toNat)
    case atStart => exact ⟨0, m0, rfl, Nat.zero_le _, rfl, HRV.out, HB1.out⟩
    case round =>
      obtain ⟨j, m, rfl, hj, rfl, hrj, hb⟩ := hrel
      rw [HN.out] at hj
      have HB := Lib.hid hb
      have HJ := Lib.hid hrj
      clear hb hrj c0 c1 c2 c3
      by_cases hl : j < N
      · obtain ⟨y, hy⟩ := at_lt (l := p) (k := j) (by rw [HN.out]; exact hl)
        obtain ⟨_, _, e', _, c0, c1, c2, c3⟩ := HE.out wr HB.out j y hy
        cases e'
        have HNX : Hid (r = leastR val (min m (val y)) (p.drop (j + 1))) := by
          show _ = _
          rw [HJ.out, drop_at hy]
          rfl
        have HC2 := Lib.hid (fun w' => HT.out w' y)
        obtain ⟨m1, hm1⟩ : ∃ m1, val y = m1 := ⟨_, rfl⟩
        rw [hm1] at HC2 HNX
        obtain ⟨y1, y2, y3, y4⟩ := y
        simp only at c0 c1 c2 c3
        unfold sgV at HC2
        simp only at HC2
        obtain ⟨V, hV, bV, lV, v0, v1, v2, v3, -⟩ := box_new wr y1 y2 y3 y4 41
        have HBX := Lib.hid (show Below w.heap.size w V from HB.out.trans (bV.mono HB.out.size))
        have HVV := Lib.hid hV
        clear hy hm1 hV bV
        go_wp2_with fail
        rw [HVV.out]
        refine (HC2.out _).mono ?_
        rintro e w5 ⟨rfl, hb5⟩
        have HB5 := Lib.hid (bel_next HBX.out hb5)
        clear hb5
        have hmin : ∀ m1' : Int, (if m1 < m then m1 else m) = m1' → min m m1 = m1' := by
          intro m1' h
          rw [← h]
          split <;> omega
        have HMIN := Lib.hid hmin
        clear hmin
        go_wp2_with fail
        go_roundw
        case rel => exact ⟨j + 1, _, by simp, by rw [HN.out]; omega, rfl, by rw [← HMIN.out _ rfl]; exact HNX.out, HB5.out⟩
        case measure => simp [RowKit.intOf]; omega
      · have he : j = N := by omega
        subst he
        have HF : Hid (r = m) := by
          show _ = _
          rw [HJ.out, List.drop_of_length_le (by rw [HN.out]; exact Nat.le_refl _)]
          rfl
        go_wp2_with fail
        go_ret
        exact ⟨by rw [HF.out]; rfl, HB.out⟩

end Go.Proofs.YtkoldgammeojkaaDoor.Pth
