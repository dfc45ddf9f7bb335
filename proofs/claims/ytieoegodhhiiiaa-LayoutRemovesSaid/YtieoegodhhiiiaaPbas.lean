/- The program's small functions: between, isIndex, Sides, Section, exists. -/
import Derived.Test.YtieoegodhhiiiaaLcon
import Derived.Test.YtieoegodhhiiiaaLnmd
namespace Go.Proofs.Ytieoegodhhiiiaa.Pbas
open Go.RowKit Go.Lib Go.Proofs.Ytieoegodhhiiiaa.Reads Go.Proofs.Ytieoegodhhiiiaa.Rows2 Go.Proofs.Ytieoegodhhiiiaa.Lay Go.Proofs.Ytieoegodhhiiiaa.Layf Go.Proofs.Ytieoegodhhiiiaa.Lcon Go.Proofs.Ytieoegodhhiiiaa.Ldup Go.Proofs.Ytieoegodhhiiiaa.Lext Go.Proofs.Ytieoegodhhiiiaa.Lnmd Go.Proofs.Ytieoegodhhiiiaa.Lsid
open Go.Proofs.Ytieoegodhhiiiaa.Text hiding lineL joinR

theorem between_any (n lo hi : Int) (w : World) :
    Calls Try.prog 47 #[.int .i64 n, .int .i64 lo, .int .i64 hi] w fun e w' => e = .returned (.bool (decide (lo ≤ n ∧ n ≤ hi))) ∧ w' = w := by
  by_cases h1 : lo ≤ n
  · go_enter Try.func47, Try.ntmps47
    go_wp2
    go_ret
    refine ⟨?_, rfl⟩
    simp [h1]
  · have h2 : decide (lo ≤ n) = false := by simp; omega
    go_enter Try.func47, Try.ntmps47
    go_wp2
    go_ret
    exact ⟨rfl, rfl⟩
theorem index_any (i s : Int) (h0 : 0 ≤ s) (h1 : s ≤ 9223372036854775807) (w : World) :
    Calls Try.prog 41 #[.int .i64 i, .int .i64 s] w fun e w' => e = .returned (.bool (decide (0 ≤ i ∧ i < s))) ∧ w' = w := by
  have H := Lib.hid (fun w => between_any i 0 (s - 1) w)
  have h3 : (0 ≤ i ∧ i ≤ s - 1) ↔ (0 ≤ i ∧ i < s) := by omega
  rw [decide_eq_decide.2 h3] at H
  obtain ⟨q, hq⟩ : ∃ q, decide (0 ≤ i ∧ i < s) = q := ⟨_, rfl⟩
  rw [hq] at H ⊢
  clear h3 hq
  go_enter Try.func41, Try.ntmps41
  go_wp2_with fail
  refine (H.out _).mono ?_
  rintro e w' ⟨rfl, rfl⟩
  go_wp2_with fail
  go_ret
  exact ⟨rfl, rfl⟩
theorem sides_any (k : Int) (w : World) : Calls Try.prog 55 #[.int .i64 k] w fun e w' => e = .returned (.int .i64 (sidesN k)) ∧ w' = w := by
  rcases kinds k with rfl | rfl | rfl | ⟨h1, h2, h3⟩
  all_goals
    go_enter Try.func55, Try.ntmps55
    go_wp2_with fail
    go_ret
    first
      | exact ⟨rfl, rfl⟩
      | exact ⟨by simp [sidesN, h1, h2, h3], rfl⟩
theorem sides_le (k : Int) : 0 ≤ sidesN k ∧ sidesN k ≤ 4 := by
  unfold sidesN
  split
  · omega
  · split
    · omega
    · split <;> omega

set_option maxRecDepth 100000 in
set_option maxHeartbeats 800000 in
theorem section_any (L : Lay) (i : Int) {vs ve vj vg vb : Value} (w : World) (h : LayAt (In w) w L vs ve vj vg vb) :
    Calls Try.prog 14 #[layV L vs ve vj vg vb, .int .i64 i] w (NumOut (sectionF L i) w) := by
  obtain ⟨a, cap, rfl, hm, hel⟩ := h.el
  have HB := Lib.hid ((Below.refl w.heap.size w).alloc (Nat.le_refl _) (.cells #[.string (bs L.name), vs, .slice a L.els.length cap, vj, vg, vb] 28))
  have HE := Lib.hid (hel w (Below.refl _ _))
  have HI := Lib.hid (fun w => index_any i (L.els.length : Int) (by omega) hm w)
  clear h hel
  unfold layV
  by_cases h0 : 0 ≤ i ∧ i < (L.els.length : Int)
  · obtain ⟨j, rfl⟩ := Int.eq_ofNat_of_zero_le h0.1
    obtain ⟨x, hx⟩ := at_lt (l := L.els) (k := j) (by omega)
    obtain ⟨b, off, rfl, _, _, _, _, _, _, c6⟩ := HE.out j x hx
    have HV := Lib.hid (section_at hx)
    have hbl : b < w.heap.size := block_lt_of_cell c6
    rw [decide_eq_true h0] at HI
    obtain ⟨nm, kd, ln, gr, sp, sl, sc⟩ := x
    simp only at c6 HV
    have hlt := h0.2
    clear hx h0
    go_enter Try.func14, Try.ntmps14
    go_wp2_with fail
    refine (HI.out _).mono ?_
    rintro e w' ⟨rfl, rfl⟩
    go_wp2_with fail
    go_ret
    exact ⟨by rw [HV.out]; rfl, HB.out⟩
  · have HV := Lib.hid (show sectionF L i = -1 by unfold sectionF; rw [if_pos (by omega)])
    rw [decide_eq_false h0] at HI
    clear h0
    go_enter Try.func14, Try.ntmps14
    go_wp2_with fail
    refine (HI.out _).mono ?_
    rintro e w' ⟨rfl, rfl⟩
    go_wp2_with fail
    go_ret
    exact ⟨by rw [HV.out]; rfl, HB.out⟩

set_option maxRecDepth 100000 in
set_option maxHeartbeats 1600000 in
theorem exists_any (L : Lay) (p : Int × Int) {vs ve vj vg vb : Value} (w : World) (h : LayAt (In w) w L vs ve vj vg vb) :
    Calls Try.prog 59 #[layV L vs ve vj vg vb, pV p] w (BoolOut (existsB L.els p) w) := by
  obtain ⟨a, cap, rfl, hm, hel⟩ := h.el
  have HB := Lib.hid (((Below.refl w.heap.size w).alloc (Nat.le_refl _) (.cells #[.string (bs L.name), vs, .slice a L.els.length cap, vj, vg, vb] 28)).alloc (by simp) (.cells #[.int .i64 p.1, .int .i64 p.2] 37))
  have HE := Lib.hid (hel w (Below.refl _ _))
  clear h hel
  obtain ⟨p, q⟩ := p
  have HI := Lib.hid (fun w => index_any p (L.els.length : Int) (by omega) hm w)
  unfold layV pV
  simp only at HB ⊢
  by_cases h0 : 0 ≤ p ∧ p < (L.els.length : Int)
  · obtain ⟨i, rfl⟩ := Int.eq_ofNat_of_zero_le h0.1
    obtain ⟨x, hx⟩ := at_lt (l := L.els) (k := i) (by omega)
    obtain ⟨b, off, rfl, _, c1, _⟩ := HE.out i x hx
    have HS := Lib.hid (fun w => sides_any x.kind w)
    have HJ := Lib.hid (fun w => index_any q (sidesN x.kind) (sides_le _).1 (by have := (sides_le x.kind).2; omega) w)
    have HV : Hid (existsB L.els ((i : Int), q) = decide (0 ≤ q ∧ q < sidesN x.kind)) := by
      show existsB L.els ((i : Int), q) = _
      by_cases hq : 0 ≤ q
      · rw [exists_yes (p := ((i : Int), q)) (by simp) hq (by simpa using hx)]
        simp [hq]
      · rw [exists_neg (p := ((i : Int), q)) (.inr (.inr (by simpa using hq))), decide_eq_false (by omega)]
    obtain ⟨t, ht⟩ : ∃ t, decide (0 ≤ q ∧ q < sidesN x.kind) = t := ⟨_, rfl⟩
    rw [ht] at HJ HV
    obtain ⟨nm, kd, ln, gr, sp, sl, sc⟩ := x
    simp only at c1 HS HJ
    obtain ⟨s, hs⟩ : ∃ s, sidesN kd = s := ⟨_, rfl⟩
    rw [hs] at HS HJ
    rw [decide_eq_true h0] at HI
    have hbl : b < w.heap.size := block_lt_of_cell c1
    have hlt := h0.2
    clear hx hs h0 ht
    go_enter Try.func59, Try.ntmps59
    go_wp2_with fail
    go_quiet (first | (go_at_call 41; first | with_reducible exact Calls.quiet_of_same (HI.out _) | with_reducible exact Calls.quiet_of_same (HJ.out _)) | (go_at_call 55; exact Calls.quiet_of_same (HS.out _)))
    go_wp2_with fail
    go_ret
    exact ⟨by rw [HV.out]; rfl, below_drewN HB.out _⟩
  · have HV := Lib.hid (exists_neg (els := L.els) (p := (p, q)) (by simp only; omega))
    rw [decide_eq_false h0] at HI
    clear h0
    go_enter Try.func59, Try.ntmps59
    go_wp2_with fail
    go_quiet ((go_at_call 41; exact Calls.quiet_of_same (HI.out _)))
    go_wp2_with fail
    go_ret
    exact ⟨by rw [HV.out]; rfl, below_drewN HB.out _⟩

end Go.Proofs.Ytieoegodhhiiiaa.Pbas
