/- Texts of this proof, merged: Wmsr. -/
import Derived.Test.YtjhimekojiegjaaDoorG08
import Derived.Test.YtjhimekojiegjaaDoorG11
import Derived.Test.YtjhimekojiegjaaDoorG09

/- WalkMeasures: the walk. -/
namespace Go.Proofs.YtjhimekojiegjaaDoor.Wmsr
open Go.RowKit Go.Lib Go.Proofs.YtjhimekojiegjaaDoor.Reads Go.Proofs.YtjhimekojiegjaaDoor.Rows2 Go.Proofs.YtjhimekojiegjaaDoor.Lay Go.Proofs.YtjhimekojiegjaaDoor.Layf Go.Proofs.YtjhimekojiegjaaDoor.Ldup Go.Proofs.YtjhimekojiegjaaDoor.Lext Go.Proofs.YtjhimekojiegjaaDoor.Ljoi Go.Proofs.YtjhimekojiegjaaDoor.Lnmd Go.Proofs.YtjhimekojiegjaaDoor.Lcon Go.Proofs.YtjhimekojiegjaaDoor.Way Go.Proofs.YtjhimekojiegjaaDoor.Wrf Go.Proofs.YtjhimekojiegjaaDoor.Wlst Go.Proofs.YtjhimekojiegjaaDoor.Wbra Go.Proofs.YtjhimekojiegjaaDoor.Wmea Go.Proofs.YtjhimekojiegjaaDoor.Wsou Go.Proofs.YtjhimekojiegjaaDoor.Wali Go.Proofs.YtjhimekojiegjaaDoor.Wstp
open Go.Proofs.YtjhimekojiegjaaDoor.Rtab (RTab rtab_next)
open Go.Proofs.YtjhimekojiegjaaDoor.Text hiding lineL joinR

theorem sound_check {L : Lay} {n : Nat} (h : soundB L n = true) : n ≤ 200 ∧ checkF L = 0 := by
  simpa [soundB] using h
theorem els_len {L : Lay} (hc : checkF L = 0) : ∀ x ∈ L.els, 0 ≤ x.len ∧ x.len ≤ 1000000 := fun x hx => by
  have := right_at hc hx
  simp only [rightB, decide_eq_true_eq] at this
  omega
theorem els_sec {L : Lay} (hc : checkF L = 0) : ∀ x ∈ L.els, 0 ≤ x.sec := fun x hx => by
  have := right_at hc hx
  simp only [rightB, decide_eq_true_eq] at this
  omega
theorem grid_in {B : Nat} {w : World} {v : Value} {sz : Nat} {rows : List (List Value)} (h : Grid (fun b => B ≤ b ∧ b < w.heap.size) w v sz rows) : Grid (In w) w v sz rows := h.keep fun _ hb => ⟨hb.2, rfl⟩
theorem same_sets {va vb : Value} {xs : List (Int × Int)} {w : World} (h : Grid (In w) w va 2 (xs.map pCells)) (hy : Grid (In w) w vb 2 (xs.map pCells)) :
    Calls Tryd.prog 23 #[va, vb] w (BoolOut true w) := by
  have := Wsam.settings_any h hy
  rwa [decide_eq_true rfl] at this
theorem same_ints {va vb : Value} {xs : List Int} {w : World} (h : Reads w.heap.size w va xs) (hy : Reads w.heap.size w vb xs) :
    Calls Tryd.prog 20 #[va, vb] w (BoolOut true w) := by
  have := Ints.same_any h hy
  rwa [show Ints.sameB xs xs = true from decide_eq_true rfl] at this

set_option maxRecDepth 100000 in
set_option maxHeartbeats 12800000 in
theorem measures_law (L : Lay) {way : List Stp} {vs ve vj vg vb v : Value} (w : World) (h : LayAt (In w) w L vs ve vj vg vb) (hj : L.joints.length ≤ 4398046510976) (hv : Grid (In w) w v 3 (way.map stCells)) (hd : RTab w) :
    Calls Tryd.prog 4 #[layV L vs ve vj vg vb, v] w (BoolOut true w) := by
  obtain ⟨a2, cap2, rfl, hm2, _⟩ := way_cells hv
  have b0 := (Below.refl w.heap.size w).alloc (Nat.le_refl _) (.cells #[.string (bs L.name), vs, ve, vj, vg, vb] 28)
  have h0 := h.next b0
  have d0 := rtab_next hd b0
  have v0 := grid_next hv b0
  have HX := lbox_new w 28 L vs ve vj vg vb
  have hs0 : w.heap.size < (w.alloc (.cells #[.string (bs L.name), vs, ve, vj, vg, vb] 28)).heap.size := by simp
  clear h hd hv
  unfold layV
  go_enter Tryd.func4, Tryd.ntmps4
  go_wp2_with fail
  obtain ⟨W, hW⟩ : ∃ W, w.alloc (.cells #[.string (bs L.name), vs, ve, vj, vg, vb] 28) = W := ⟨_, rfl⟩
  rw [hW] at b0 h0 d0 v0 HX hs0 ⊢
  clear hW
  have B0 := Lib.hid b0
  have HLY := Lib.hid (fun w' (b : Below W.heap.size W w') => h0.next b)
  have HDY := Lib.hid (fun w' (b : Below W.heap.size W w') => rtab_next d0 b)
  have HVY := Lib.hid (fun w' (b : Below W.heap.size W w') => grid_next v0 b)
  have HK : Hid (∀ w', Below W.heap.size W w' → w'.cell? ⟨w.heap.size, 0, none⟩ = some (.string (bs L.name)) ∧ w'.cell? ⟨w.heap.size, 1, none⟩ = some vs ∧ w'.cell? ⟨w.heap.size, 2, none⟩ = some ve ∧ w'.cell? ⟨w.heap.size, 3, none⟩ = some vj ∧ w'.cell? ⟨w.heap.size, 4, none⟩ = some vg ∧ w'.cell? ⟨w.heap.size, 5, none⟩ = some vb) := fun w' b => HX.next b hs0
  have HLT := Lib.hid hs0
  have C1 := Lib.hid (sound_any L (n := way.length) (cap := cap2) (a := a2) W h0 hj hm2)
  unfold layV at C1
  clear HX h0 d0 v0 b0 hj
  obtain ⟨x0, x1, x2, x3, x4, x5⟩ := HK.out W (Below.refl _ _)
  obtain ⟨q, hq⟩ : ∃ q, soundB L way.length = q := ⟨_, rfl⟩
  rw [hq] at C1
  have HQ := Lib.hid hq
  clear hq
  go_wp2_with fail
  refine C1.out.mono ?_
  rintro e w1 ⟨rfl, b⟩
  have E0 := Lib.hid b
  clear b C1 x0 x1 x2 x3 x4 x5 hs0
  cases q with
  | false =>
    have HA := Lib.hid (alive_any w1 (HDY.out w1 E0.out))
    go_wp2_with fail
    refine HA.out.mono ?_
    rintro e w2 ⟨rfl, b⟩
    have B2 := Lib.hid (bel_next (bel_next B0.out E0.out) b)
    clear b
    go_wp2_with fail
    go_ret
    exact ⟨rfl, B2.out⟩
  | true =>
    obtain ⟨hn, hc⟩ := sound_check HQ.out
    have hle := els_len hc
    have hse := els_sec hc
    have CA := Lib.hid (fun w' (b : Below W.heap.size W w') => Wval.pvalid_any L w' (HLY.out w' b) (HVY.out w' b) (HDY.out w' b))
    have CB := Lib.hid (fun w' (b : Below W.heap.size W w') => Wrvl.wvalid_any L w' (HLY.out w' b) (HVY.out w' b))
    have CC := Lib.hid (fun w' (b : Below W.heap.size W w') => Wple.plength_any L w' (HLY.out w' b) (HVY.out w' b) (by omega) hle)
    have CD := Lib.hid (fun w' (b : Below W.heap.size W w') => wlength_any L w' (HLY.out w' b) (HVY.out w' b) (by omega) hle)
    have CE := Lib.hid (fun w' (b : Below W.heap.size W w') => Wpse.psections_any L w' (HLY.out w' b) (HVY.out w' b) (by omega) hse)
    have CF := Lib.hid (fun w' (b : Below W.heap.size W w') => Wsec.wsections_any L w' (HLY.out w' b) (HVY.out w' b) (by omega))
    have CG := Lib.hid (fun w' (b : Below W.heap.size W w') => Wpst.psettings_any L w' (HLY.out w' b) (HVY.out w' b) (HDY.out w' b) (by omega))
    have CH := Lib.hid (fun w' (b : Below W.heap.size W w') => Wrst.wsettings_any L w' (HLY.out w' b) (HVY.out w' b) (by omega))
    have CI := Lib.hid (fun w' (b : Below W.heap.size W w') => Wprv.preverse_any (HVY.out w' b) (by omega))
    have CJ := Lib.hid (fun w' (b : Below W.heap.size W w') => wreverse_any (HVY.out w' b) (by omega))
    rw [Wplm.pset_eq] at CG
    obtain ⟨qv, hqv⟩ : ∃ q, validF L way = q := ⟨_, rfl⟩
    obtain ⟨ql, hql⟩ : ∃ q, lengthF L.els way = q := ⟨_, rfl⟩
    obtain ⟨qs, hqs⟩ : ∃ q, sectionsF L.els way = q := ⟨_, rfl⟩
    obtain ⟨qt, hqt⟩ : ∃ q, settingsF L.els way = q := ⟨_, rfl⟩
    obtain ⟨qr, hqr⟩ : ∃ q, reverseF way = q := ⟨_, rfl⟩
    rw [hqv] at CA CB
    rw [hql] at CC CD
    rw [hqs] at CE CF
    rw [hqt] at CG CH
    rw [hqr] at CI CJ
    unfold layV at CA CB CC CD CE CF CG CH
    have hqq : (qv == qv) = true := by simp
    have HA := Lib.hid (fun w' (b : Below W.heap.size W w') => alive_any w' (HDY.out w' b))
    clear hn hc hle hse hqv hql hqs hqt hqr
    obtain ⟨x0, x1, x2, x3, x4, x5⟩ := HK.out w1 E0.out
    go_upto_region 3 with fail
    go_region_held3 (fun w' => w'.cell? ⟨w.heap.size, 0, none⟩ = some (.string (bs L.name)) ∧ w'.cell? ⟨w.heap.size, 1, none⟩ = some vs ∧ w'.cell? ⟨w.heap.size, 2, none⟩ = some ve ∧ w'.cell? ⟨w.heap.size, 3, none⟩ = some vj ∧ w'.cell? ⟨w.heap.size, 4, none⟩ = some vg ∧ w'.cell? ⟨w.heap.size, 5, none⟩ = some vb)
      (first
        | with_reducible exact HK.out _ E14.out
        | with_reducible exact HK.out _ E13.out
        | with_reducible exact HK.out _ E12.out
        | with_reducible exact HK.out _ E11.out
        | with_reducible exact HK.out _ E10.out
        | with_reducible exact HK.out _ E9.out
        | with_reducible exact HK.out _ E8.out
        | with_reducible exact HK.out _ E7.out
        | with_reducible exact HK.out _ E6.out
        | with_reducible exact HK.out _ E5.out
        | with_reducible exact HK.out _ E4.out
        | with_reducible exact HK.out _ E3.out
        | with_reducible exact HK.out _ E2.out
        | with_reducible exact HK.out _ E1.out
        | go_keep)
      (first
        | (go_at_call 16; (with_reducible refine (CA.out _ E0.out.drew).mono ?_); rintro e x1 ⟨rfl, b⟩; have E1 := Lib.hid (E0.out.drew.trans (b.mono E0.out.drew.size)); clear b)
        | (go_at_call 17; (with_reducible refine (CB.out _ E1.out).mono ?_); rintro e x2 ⟨rfl, b⟩; have E2 := Lib.hid (E1.out.trans (b.mono E1.out.size)); clear b)
        | (go_at_call 18; (with_reducible refine (CC.out _ E2.out).mono ?_); rintro e x3 ⟨rfl, b⟩; have E3 := Lib.hid (E2.out.trans (b.mono E2.out.size)); clear b)
        | (go_at_call 19; (with_reducible refine (CD.out _ E3.out).mono ?_); rintro e x4 ⟨rfl, b⟩; have E4 := Lib.hid (E3.out.trans (b.mono E3.out.size)); clear b)
        | (go_at_call 21; (with_reducible refine (CE.out _ E4.out).mono ?_); rintro e x5 ⟨v5, rfl, r5, b⟩; have E5 := Lib.hid (E4.out.trans (b.mono E4.out.size)); have R5 := Lib.hid r5; clear r5; clear b)
        | (go_at_call 22; (with_reducible refine (CF.out _ E5.out).mono ?_); rintro e x6 ⟨v6, rfl, r6, b⟩; have E6 := Lib.hid (E5.out.trans (b.mono E5.out.size)); have R6 := Lib.hid r6; have R5b := Lib.hid (Ints.next R5.out b); clear r6; clear b)
        | (go_at_call 20; (with_reducible refine (same_ints R5b.out R6.out).mono ?_); rintro e x7 ⟨rfl, b⟩; have E7 := Lib.hid (E6.out.trans (b.mono E6.out.size)); clear b)
        | (go_at_call 24; (with_reducible refine (CG.out _ E7.out).mono ?_); rintro e x8 ⟨v8, rfl, g8, b⟩; have E8 := Lib.hid (E7.out.trans (b.mono E7.out.size)); have G8 := Lib.hid (grid_in g8); clear g8; clear b)
        | (go_at_call 25; (with_reducible refine (CH.out _ E8.out).mono ?_); rintro e x9 ⟨v9, rfl, g9, b⟩; have E9 := Lib.hid (E8.out.trans (b.mono E8.out.size)); have G9 := Lib.hid (grid_in g9); have G8b := Lib.hid (grid_next G8.out b); clear g9; clear b)
        | (go_at_call 23; (with_reducible refine (same_sets G8b.out G9.out).mono ?_); rintro e x10 ⟨rfl, b⟩; have E10 := Lib.hid (E9.out.trans (b.mono E9.out.size)); clear b)
        | (go_at_call 26; (with_reducible refine (CI.out _ E10.out).mono ?_); rintro e x11 ⟨v11, rfl, g11, b⟩; have E11 := Lib.hid (E10.out.trans (b.mono E10.out.size)); have G11 := Lib.hid (grid_in g11); clear g11; clear b)
        | (go_at_call 27; (with_reducible refine (CJ.out _ E11.out).mono ?_); rintro e x12 ⟨v12, rfl, g12, b⟩; have E12 := Lib.hid (E11.out.trans (b.mono E11.out.size)); have G12 := Lib.hid (grid_in g12); have G11b := Lib.hid (grid_next G11.out b); clear g12; clear b)
        | (go_at_call 13; (with_reducible refine (same_self G11b.out G12.out).mono ?_); rintro e x13 ⟨rfl, b⟩; have E13 := Lib.hid (E12.out.trans (b.mono E12.out.size)); clear b)
        | (go_at_call 10; (with_reducible refine (HA.out _ E13.out).mono ?_); rintro e x14 ⟨rfl, b⟩; have E14 := Lib.hid (E13.out.trans (b.mono E13.out.size)); clear b))
    go_wp2_with fail
    go_ret
    exact ⟨rfl, bel_next B0.out E14.out⟩

end Go.Proofs.YtjhimekojiegjaaDoor.Wmsr
