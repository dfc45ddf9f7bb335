/- ProfileOf: the walk. -/
import Derived.Test.YtkoldgammeojkaaDoorRof
import Derived.Test.YtkoldgammeojkaaDoorPal10
import Derived.Test.YtkoldgammeojkaaDoorLbal
import Derived.Test.YtkoldgammeojkaaDoorLown
namespace Go.Proofs.YtkoldgammeojkaaDoor.Ofw
open Go.RowKit Go.Lib Go.Proofs.YtkoldgammeojkaaDoor.Reads Go.Proofs.YtkoldgammeojkaaDoor.Rows2 Go.Proofs.YtkoldgammeojkaaDoor.Lay Go.Proofs.YtkoldgammeojkaaDoor.Segs Go.Proofs.YtkoldgammeojkaaDoor.Psg Go.Proofs.YtkoldgammeojkaaDoor.Pvd Go.Proofs.YtkoldgammeojkaaDoor.Smp Go.Proofs.YtkoldgammeojkaaDoor.Pal10 Go.Proofs.YtkoldgammeojkaaDoor.Pof Go.Proofs.YtkoldgammeojkaaDoor.Poo Go.Proofs.YtkoldgammeojkaaDoor.Rof
open Go.Proofs.YtkoldgammeojkaaDoor.Way (Stp stCells)
open Go.Proofs.YtkoldgammeojkaaDoor.Rtab (RTab rtab_next)
open Go.Proofs.YtkoldgammeojkaaDoor.Text (bs)
open Go.Proofs.YtkoldgammeojkaaDoor.Layf (checkF)
open Go.Proofs.YtkoldgammeojkaaDoor.Lbal (rcheck_any)

theorem of_valid (els : List Elem) (way : List Stp) (at_ : Int) : validF (ofF els way at_) = true := by
  unfold ofF
  split
  · decide
  · cases totR els [] at_ way with
    | none => decide
    | some p =>
      unfold endF
      simp only
      split
      · assumption
      · decide
def fewF (L : Lay) (way : List Stp) : Bool := decide (L.els.length ≤ 40 ∧ L.secs.length ≤ 40 ∧ L.joints.length ≤ 100 ∧ L.sigs.length ≤ 40 ∧ L.bals.length ≤ 40 ∧ way.length ≤ 300)

set_option maxRecDepth 100000 in
set_option maxHeartbeats 3200000 in
theorem few_any (L : Lay) {way : List Stp} {vs ve vj vg vb v : Value} (w : World) (h : LayAt (In w) w L vs ve vj vg vb) (hv : Grid (In w) w v 3 (way.map stCells)) :
    Calls Tryd.prog 4 #[layV L vs ve vj vg vb, v] w (BoolOut (fewF L way) w) := by
  obtain ⟨a1, c1, a2, c2, a3, c3, a4, c4, a5, c5, rfl, rfl, rfl, rfl, rfl⟩ := Go.Proofs.YtkoldgammeojkaaDoor.Lown.shapes h
  obtain ⟨a6, c6, rfl, -, -, -, -⟩ := hv.shape
  rw [List.length_map]
  obtain ⟨q, hq⟩ : ∃ q, fewF L way = q := ⟨_, rfl⟩
  rw [hq]
  have hq2 : q = decide (L.els.length ≤ 40 ∧ L.secs.length ≤ 40 ∧ L.joints.length ≤ 100 ∧ L.sigs.length ≤ 40 ∧ L.bals.length ≤ 40 ∧ way.length ≤ 300) := hq.symm
  unfold layV
  obtain ⟨n1, e1⟩ : ∃ n, L.secs.length = n := ⟨_, rfl⟩
  obtain ⟨n2, e2⟩ : ∃ n, L.els.length = n := ⟨_, rfl⟩
  obtain ⟨n3, e3⟩ : ∃ n, L.joints.length = n := ⟨_, rfl⟩
  obtain ⟨n4, e4⟩ : ∃ n, L.sigs.length = n := ⟨_, rfl⟩
  obtain ⟨n5, e5⟩ : ∃ n, L.bals.length = n := ⟨_, rfl⟩
  obtain ⟨n6, e6⟩ : ∃ n, way.length = n := ⟨_, rfl⟩
  rw [e1, e2, e3, e4, e5, e6] at hq2
  rw [e1, e2, e3, e4, e5, e6]
  have HB := Lib.hid ((Below.refl w.heap.size w).alloc (Nat.le_refl _) (.cells #[.string (bs L.name), .slice a1 n1 c1, .slice a2 n2 c2, .slice a3 n3 c3, .slice a4 n4 c4, .slice a5 n5 c5] 28))
  have HQ := Lib.hid hq2
  clear h hv hq hq2 e1 e2 e3 e4 e5 e6
  have hcs : ((n2 : Int) ≤ 40 ∧ (n1 : Int) ≤ 40 ∧ (n3 : Int) ≤ 100 ∧ (n4 : Int) ≤ 40 ∧ (n5 : Int) ≤ 40 ∧ (n6 : Int) ≤ 300 ∧ q = true) ∨ (¬ (n2 : Int) ≤ 40 ∧ q = false) ∨ ((n2 : Int) ≤ 40 ∧ ¬ (n1 : Int) ≤ 40 ∧ q = false) ∨ ((n2 : Int) ≤ 40 ∧ (n1 : Int) ≤ 40 ∧ ¬ (n3 : Int) ≤ 100 ∧ q = false) ∨ ((n2 : Int) ≤ 40 ∧ (n1 : Int) ≤ 40 ∧ (n3 : Int) ≤ 100 ∧ ¬ (n4 : Int) ≤ 40 ∧ q = false) ∨ ((n2 : Int) ≤ 40 ∧ (n1 : Int) ≤ 40 ∧ (n3 : Int) ≤ 100 ∧ (n4 : Int) ≤ 40 ∧ ¬ (n5 : Int) ≤ 40 ∧ q = false) ∨ ((n2 : Int) ≤ 40 ∧ (n1 : Int) ≤ 40 ∧ (n3 : Int) ≤ 100 ∧ (n4 : Int) ≤ 40 ∧ (n5 : Int) ≤ 40 ∧ ¬ (n6 : Int) ≤ 300 ∧ q = false) := by
    rw [HQ.out, decide_eq_true_eq, decide_eq_false_iff_not]
    omega
  rcases hcs with ⟨k1, k2, k3, k4, k5, k6, hq⟩ | ⟨k1, hq⟩ | ⟨k1, k2, hq⟩ | ⟨k1, k2, k3, hq⟩ | ⟨k1, k2, k3, k4, hq⟩ | ⟨k1, k2, k3, k4, k5, hq⟩ | ⟨k1, k2, k3, k4, k5, k6, hq⟩
  all_goals
    have HF := Lib.hid hq
    clear hq HQ
    go_enter Tryd.func4, Tryd.ntmps4
    go_wp2_with fail
    go_ret
    exact ⟨by rw [HF.out]; rfl, HB.out⟩

set_option maxRecDepth 100000 in
set_option maxHeartbeats 6400000 in
theorem of_law (L : Lay) {way : List Stp} {vs ve vj vg vb v : Value} (at_ : Int) (w : World) (h : LayAt (In w) w L vs ve vj vg vb) (hv : Grid (In w) w v 3 (way.map stCells)) (hd : RTab w) :
    Calls Tryd.prog 3 #[layV L vs ve vj vg vb, v, .int .i64 at_] w (BoolOut true w) := by
  have HAL := Lib.hid (fun w' => alive_any w')
  have hbel := (Below.refl w.heap.size w).alloc (Nat.le_refl _) (.cells #[.string (bs L.name), vs, ve, vj, vg, vb] 28)
  have hrow := heap_alloc_new w (.cells #[.string (bs L.name), vs, ve, vj, vg, vb] 28)
  obtain ⟨W, hW⟩ : ∃ W, w.alloc (.cells #[.string (bs L.name), vs, ve, vj, vg, vb] 28) = W := ⟨_, rfl⟩
  rw [hW] at hbel hrow
  have hlt : w.heap.size < W.heap.size := (Array.getElem?_eq_some_iff.1 hrow).1
  have HBOX : Hid (∀ w', Below W.heap.size W w' → w'.cell? ⟨w.heap.size, 0, none⟩ = some (.string (bs L.name)) ∧ w'.cell? ⟨w.heap.size, 1, none⟩ = some vs ∧ w'.cell? ⟨w.heap.size, 2, none⟩ = some ve ∧ w'.cell? ⟨w.heap.size, 3, none⟩ = some vj ∧ w'.cell? ⟨w.heap.size, 4, none⟩ = some vg ∧ w'.cell? ⟨w.heap.size, 5, none⟩ = some vb ∧ w.heap.size < w'.heap.size) := by
    refine Lib.hid (fun w' b => ⟨?_, ?_, ?_, ?_, ?_, ?_, Nat.lt_of_lt_of_le hlt b.size⟩)
    all_goals
      rw [cell_of_row _ _ _ _ _ _ ((b.block _ hlt).trans hrow)]
      rfl
  have HF := Lib.hid (few_any L W (h.next hbel) (hv.keep (keep_next hbel)))
  have HC := Lib.hid (fun w' (b : Below W.heap.size W w') (hn : fewF L way = true) => rcheck_any L w' (h.next (bel_next hbel b)) (by have := of_decide_eq_true hn; omega) (by have := of_decide_eq_true hn; omega) (by have := of_decide_eq_true hn; omega) (by have := of_decide_eq_true hn; omega) (by have := of_decide_eq_true hn; omega))
  have HO := Lib.hid (fun w' (b : Below W.heap.size W w') => of_any L at_ w' (h.next (bel_next hbel b)) (hv.keep (keep_next (bel_next hbel b))) (rtab_next hd (bel_next hbel b)))
  have HR := Lib.hid (fun w' (b : Below W.heap.size W w') => rof_any L at_ w' (h.next (bel_next hbel b)) (hv.keep (keep_next (bel_next hbel b))))
  obtain ⟨p, hp⟩ : ∃ p, ofF L.els way at_ = p := ⟨_, rfl⟩
  have HVP : Hid (validF p = true) := by
    show _ = _
    rw [← hp]
    exact of_valid _ _ _
  rw [hp] at HO HR
  obtain ⟨q, hq⟩ : ∃ q, fewF L way = q := ⟨_, rfl⟩
  rw [hq] at HF HC
  obtain ⟨c, hc⟩ : ∃ c, checkF L = c := ⟨_, rfl⟩
  rw [hc] at HC
  have HW := Lib.hid hW
  have HBL := Lib.hid hbel
  unfold layV at HF HC HO HR ⊢
  clear h hv hd hbel hrow hW hlt hp hq hc
  obtain ⟨x0, x1, x2, x3, x4, x5, x6⟩ := HBOX.out W (Below.refl _ _)
  go_enter Tryd.func3, Tryd.ntmps3
  go_wp2_with fail
  rw [HW.out]
  refine HF.out.mono ?_
  rintro e w1 ⟨rfl, b1⟩
  have B1 := Lib.hid b1
  obtain ⟨x0, x1, x2, x3, x4, x5, x6⟩ := HBOX.out w1 b1
  clear b1
  cases q with
  | false =>
    go_wp2_with fail
    refine (HAL.out _).mono ?_
    rintro e w2 ⟨rfl, b2⟩
    have B2 := Lib.hid (bel_next HBL.out (bel_next B1.out b2))
    clear b2
    go_wp2_with fail
    go_ret
    exact ⟨rfl, B2.out⟩
  | true =>
  have HC1 := Lib.hid (HC.out w1 B1.out rfl)
  go_wp2_with fail
  refine HC1.out.mono ?_
  rintro e w2 ⟨rfl, b2⟩
  have B2 := Lib.hid (bel_next B1.out b2)
  clear b2 x0 x1 x2 x3 x4 x5 x6
  obtain ⟨x0, x1, x2, x3, x4, x5, x6⟩ := HBOX.out w2 B2.out
  by_cases hc0 : c = 0
  · subst hc0
    go_wp2_with fail
    refine (HO.out w2 B2.out).mono ?_
    rintro e w3 h3
    obtain ⟨A3, M3, C3, rfl, HM3, HO3, HB3⟩ := seg_open h3
    clear h3
    have B3 := Lib.hid (bel_next B2.out HB3.out)
    obtain ⟨x0, x1, x2, x3, x4, x5, x6⟩ := HBOX.out w3 B3.out
    go_wp2_with fail
    refine (HR.out w3 B3.out).mono ?_
    rintro e w4 h4
    obtain ⟨A4, M4, C4, rfl, HM4, HO4, HB4⟩ := seg_open h4
    clear h4
    have B4 := Lib.hid (bel_next B3.out HB4.out)
    have HG := Lib.hid (grid_next (grid_in (grid_of_own HO3.out)) HB4.out)
    have HS := Lib.hid (same_any HG.out (grid_in (grid_of_own HO4.out)))
    rw [decide_eq_true rfl] at HS
    clear x0 x1 x2 x3 x4 x5 x6
    go_wp2_with fail
    refine HS.out.mono ?_
    rintro e w5 ⟨rfl, b5⟩
    have B5 := Lib.hid (bel_next B4.out b5)
    have HV := Lib.hid (pvalid_any (grid_next HG.out b5))
    rw [HVP.out] at HV
    clear b5
    go_wp2_with fail
    refine HV.out.mono ?_
    rintro e w6 ⟨rfl, b6⟩
    have B6 := Lib.hid (bel_next B5.out b6)
    clear b6
    go_wp2_with fail
    refine (HAL.out _).mono ?_
    rintro e w7 ⟨rfl, b7⟩
    have B7 := Lib.hid (bel_next HBL.out (bel_next B6.out b7))
    clear b7
    go_wp2_with fail
    go_ret
    exact ⟨rfl, B7.out⟩
  · have hcn : (c != 0) = true := by simpa using hc0
    go_wp2_with fail
    refine (HAL.out _).mono ?_
    rintro e w3 ⟨rfl, b3⟩
    have B3 := Lib.hid (bel_next HBL.out (bel_next B2.out b3))
    clear b3
    go_wp2_with fail
    go_ret
    exact ⟨rfl, B3.out⟩

end Go.Proofs.YtkoldgammeojkaaDoor.Ofw
