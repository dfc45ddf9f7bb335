/- The calls of the reference's right and exists. -/
import Derived.Test.YtkoldgammeojkaaDoorLsid
import Derived.Test.YtkoldgammeojkaaDoorLdup
namespace Go.Proofs.YtkoldgammeojkaaDoor.Lext
open Go.RowKit Go.Lib Go.Proofs.YtkoldgammeojkaaDoor.Text Go.Proofs.YtkoldgammeojkaaDoor.Reads Go.Proofs.YtkoldgammeojkaaDoor.Rows2 Go.Proofs.YtkoldgammeojkaaDoor.Lay Go.Proofs.YtkoldgammeojkaaDoor.Layf Go.Proofs.YtkoldgammeojkaaDoor.Lsid Go.Proofs.YtkoldgammeojkaaDoor.Ldup

def elV (x : Elem) : Value := .agg #[.string (bs x.name), .int .i64 x.kind, .int .i64 x.len, .int .i64 x.grade, .int .i64 x.speed, .int .i64 x.slow, .int .i64 x.sec]
def pV (p : Int × Int) : Value := .agg #[.int .i64 p.1, .int .i64 p.2]

theorem rleaf {n : Nat} {x : Elem} {r b : Bool} {w w' : World} (hr : rightB n x = r) (hb : Below w.heap.size w w') (h : b = rightB n x) : BoolOut r w (.returned (.bool b)) w' := by
  subst hr
  exact ⟨by rw [h], hb⟩

set_option maxRecDepth 100000 in
set_option maxHeartbeats 1600000 in
theorem right_any (L : Lay) (x : Elem) {vs ve vj vg vb : Value} (w : World) (h : LayAt (In w) w L vs ve vj vg vb) :
    Calls Tryd.prog 28 #[layV L vs ve vj vg vb, elV x] w (BoolOut (rightB L.secs.length x) w) := by
  obtain ⟨r, hr⟩ : ∃ r, rightB L.secs.length x = r := ⟨_, rfl⟩
  rw [hr]
  have HR := Lib.hid hr
  clear hr
  obtain ⟨a2, cap2, rfl, hm2, _⟩ := h.sn
  have HB := Lib.hid (((Below.refl w.heap.size w).alloc (Nat.le_refl _) (.cells #[.string (bs L.name), .slice a2 L.secs.length cap2, ve, vj, vg, vb] 28)).alloc (by simp) (.cells #[.string (bs x.name), .int .i64 x.kind, .int .i64 x.len, .int .i64 x.grade, .int .i64 x.speed, .int .i64 x.slow, .int .i64 x.sec] 51))
  clear h
  obtain ⟨nm, kd, ln, gr, sp, sl, sc⟩ := x
  unfold layV elV
  simp only at HB ⊢
  by_cases hk : kd = 2
  · subst hk
    go_enter Tryd.func28, Tryd.ntmps28
    go_wp2_with fail
    all_goals
      go_ret
      refine rleaf HR.out HB.out ?_
      simp only [rightB]
      symm
      first
        | exact decide_eq_true (by omega)
        | exact decide_eq_false (by omega)
        | (rw [Bool.eq_iff_iff]
           simp only [decide_eq_true_eq, true_or, and_true]
           omega)
  · have hq : (kd == 2) = false := by simp [hk]
    go_enter Tryd.func28, Tryd.ntmps28
    go_wp2_with fail
    all_goals
      go_ret
      refine rleaf HR.out HB.out ?_
      simp only [rightB]
      symm
      first
        | exact decide_eq_true (by omega)
        | exact decide_eq_false (by omega)
        | (rw [Bool.eq_iff_iff]
           simp only [decide_eq_true_eq, beq_iff_eq]
           omega)

set_option maxRecDepth 100000 in
set_option maxHeartbeats 1600000 in
theorem rexists_any (L : Lay) (p : Int × Int) {vs ve vj vg vb : Value} (w : World) (h : LayAt (In w) w L vs ve vj vg vb) :
    Calls Tryd.prog 30 #[layV L vs ve vj vg vb, pV p] w (BoolOut (existsB L.els p) w) := by
  obtain ⟨a, cap, rfl, hm, hel⟩ := h.el
  have HB := Lib.hid (((Below.refl w.heap.size w).alloc (Nat.le_refl _) (.cells #[.string (bs L.name), vs, .slice a L.els.length cap, vj, vg, vb] 28)).alloc (by simp) (.cells #[.int .i64 p.1, .int .i64 p.2] 64))
  have HE := Lib.hid (hel w (Below.refl _ _))
  clear h hel
  obtain ⟨p, q⟩ := p
  unfold layV pV
  simp only at HB ⊢
  by_cases h0 : 0 ≤ p
  · by_cases h1 : p < (L.els.length : Int)
    · by_cases h2 : 0 ≤ q
      · obtain ⟨i, rfl⟩ := Int.eq_ofNat_of_zero_le h0
        obtain ⟨x, hx⟩ := at_lt (l := L.els) (k := i) (by omega)
        obtain ⟨b, off, rfl, _, c1, _⟩ := HE.out i x hx
        have HV := Lib.hid (exists_yes (els := L.els) (p := ((i : Int), q)) (x := x) h0 h2 (by simpa using hx))
        obtain ⟨nm, kd, ln, gr, sp, sl, sc⟩ := x
        simp only at c1 HV
        have HS := Lib.hid (fun w => (rsides_any kd w).mono (fun _ _ ⟨he, hw⟩ => (⟨he, hw.symm⟩ : _ ∧ _ = w)))
        obtain ⟨s, hs⟩ : ∃ s, sidesN kd = s := ⟨_, rfl⟩
        rw [hs] at HS HV
        have hbl : b < w.heap.size := block_lt_of_cell c1
        clear hx hs
        go_enter Tryd.func30, Tryd.ntmps30
        go_wp2_with fail
        go_quiet ((go_at_call 46; exact Calls.quiet_of_same (HS.out _)))
        go_wp2_with fail
        go_ret
        exact ⟨by rw [HV.out]; rfl, below_drewN HB.out _⟩
      · have HV := Lib.hid (exists_neg (els := L.els) (p := (p, q)) (.inr (.inr (by simpa using h2))))
        have hd : decide (0 ≤ q) = false := by simpa using h2
        go_enter Tryd.func30, Tryd.ntmps30
        go_wp2_with fail
        go_quiet (fail)
        go_wp2_with fail
        go_ret
        exact ⟨by rw [HV.out]; rfl, below_drewN HB.out _⟩
    · have HV := Lib.hid (exists_neg (els := L.els) (p := (p, q)) (.inr (.inl (by simp only; omega))))
      have hd : decide (p < (L.els.length : Int)) = false := by simpa using h1
      go_enter Tryd.func30, Tryd.ntmps30
      go_wp2_with fail
      go_quiet (fail)
      go_wp2_with fail
      go_ret
      exact ⟨by rw [HV.out]; rfl, below_drewN HB.out _⟩
  · have HV := Lib.hid (exists_neg (els := L.els) (p := (p, q)) (.inl (by simp only; omega)))
    have hd : decide (0 ≤ p) = false := by simpa using h0
    go_enter Tryd.func30, Tryd.ntmps30
    go_wp2_with fail
    go_quiet (fail)
    go_wp2_with fail
    go_ret
    exact ⟨by rw [HV.out]; rfl, below_drewN HB.out _⟩

end Go.Proofs.YtkoldgammeojkaaDoor.Lext
