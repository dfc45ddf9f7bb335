/- Texts of this proof, merged: Wrvs. -/
import Derived.Test.YtjhimekojiegjaaDoorG12
import Derived.Test.YtjhimekojiegjaaDoorG13

/- WalkReverses: the walk. -/
namespace Go.Proofs.YtjhimekojiegjaaDoor.Wrvs
open Go.RowKit Go.Lib Go.Proofs.YtjhimekojiegjaaDoor.Reads Go.Proofs.YtjhimekojiegjaaDoor.Rows2 Go.Proofs.YtjhimekojiegjaaDoor.Lay Go.Proofs.YtjhimekojiegjaaDoor.Layf Go.Proofs.YtjhimekojiegjaaDoor.Ldup Go.Proofs.YtjhimekojiegjaaDoor.Lext Go.Proofs.YtjhimekojiegjaaDoor.Ljoi Go.Proofs.YtjhimekojiegjaaDoor.Lnmd Go.Proofs.YtjhimekojiegjaaDoor.Lcon Go.Proofs.YtjhimekojiegjaaDoor.Way Go.Proofs.YtjhimekojiegjaaDoor.Wrf Go.Proofs.YtjhimekojiegjaaDoor.Wlst Go.Proofs.YtjhimekojiegjaaDoor.Wbra Go.Proofs.YtjhimekojiegjaaDoor.Wmea Go.Proofs.YtjhimekojiegjaaDoor.Wsou Go.Proofs.YtjhimekojiegjaaDoor.Wali Go.Proofs.YtjhimekojiegjaaDoor.Wstp Go.Proofs.YtjhimekojiegjaaDoor.Wmsr Go.Proofs.YtjhimekojiegjaaDoor.Wwit
open Go.Proofs.YtjhimekojiegjaaDoor.Rtab (RTab rtab_next)
open Go.Proofs.YtjhimekojiegjaaDoor.Text hiding lineL joinR

theorem wit_true {va vb : Value} {ls ms : List Int} {w : World} (hw : witB ls ms = true) (h : Reads w.heap.size w va ls) (hy : Reads w.heap.size w vb ms) :
    Calls Tryd.prog 28 #[va, vb] w (BoolOut true w) := by
  have := within_any h hy
  rwa [hw] at this
theorem back_len (way : List Stp) : (reverseF way).length = way.length := by simp [reverseF]

set_option maxRecDepth 100000 in
set_option maxHeartbeats 12800000 in
theorem reverses_law (L : Lay) {way : List Stp} {vs ve vj vg vb v : Value} (w : World) (h : LayAt (In w) w L vs ve vj vg vb) (hj : L.joints.length ≤ 4398046510976) (hv : Grid (In w) w v 3 (way.map stCells)) (hd : RTab w) :
    Calls Tryd.prog 5 #[layV L vs ve vj vg vb, v] w (BoolOut true w) := by
  obtain ⟨a2, cap2, rfl, hm2, _⟩ := way_cells hv
  have b0 := (Below.refl w.heap.size w).alloc (Nat.le_refl _) (.cells #[.string (bs L.name), vs, ve, vj, vg, vb] 28)
  have h0 := h.next b0
  have d0 := rtab_next hd b0
  have v0 := grid_next hv b0
  have HX := lbox_new w 28 L vs ve vj vg vb
  have hs0 : w.heap.size < (w.alloc (.cells #[.string (bs L.name), vs, ve, vj, vg, vb] 28)).heap.size := by simp
  clear h hd hv
  unfold layV
  go_enter Tryd.func5, Tryd.ntmps5
  go_wp2_with fail
  obtain ⟨W, hW⟩ : ∃ W, w.alloc (.cells #[.string (bs L.name), vs, ve, vj, vg, vb] 28) = W := ⟨_, rfl⟩
  rw [hW] at b0 h0 d0 v0 HX hs0 ⊢
  clear hW
  have B0 := Lib.hid b0
  have HLY := Lib.hid (fun w' (b : Below W.heap.size W w') => h0.next b)
  have HDY := Lib.hid (fun w' (b : Below W.heap.size W w') => rtab_next d0 b)
  have HVY := Lib.hid (fun w' (b : Below W.heap.size W w') => grid_next v0 b)
  have HK : Hid (∀ w', Below W.heap.size W w' → w'.cell? ⟨w.heap.size, 0, none⟩ = some (.string (bs L.name)) ∧ w'.cell? ⟨w.heap.size, 1, none⟩ = some vs ∧ w'.cell? ⟨w.heap.size, 2, none⟩ = some ve ∧ w'.cell? ⟨w.heap.size, 3, none⟩ = some vj ∧ w'.cell? ⟨w.heap.size, 4, none⟩ = some vg ∧ w'.cell? ⟨w.heap.size, 5, none⟩ = some vb) := fun w' b => HX.next b hs0
  have C1 := Lib.hid (sound_any L (n := way.length) (cap := cap2) (a := a2) W h0 hj hm2)
  unfold layV at C1
  clear HX h0 d0 v0 b0 hj
  obtain ⟨x0, x1, x2, x3, x4, x5⟩ := HK.out W (Below.refl _ _)
  obtain ⟨q, hq⟩ : ∃ q, soundB L way.length = q := ⟨_, rfl⟩
  rw [hq] at C1
  have HQ := Lib.hid hq
  clear hq
  go_wp2_with fail
  refine C1.out.mono ?_
  rintro e w1 ⟨rfl, b⟩
  have E0 := Lib.hid b
  clear b C1 x0 x1 x2 x3 x4 x5 hs0
  cases q with
  | false =>
    have HA := Lib.hid (alive_any w1 (HDY.out w1 E0.out))
    go_wp2_with fail
    refine HA.out.mono ?_
    rintro e w2 ⟨rfl, b⟩
    have B2 := Lib.hid (bel_next (bel_next B0.out E0.out) b)
    clear b
    go_wp2_with fail
    go_ret
    exact ⟨rfl, B2.out⟩
  | true =>
    obtain ⟨hn, hc⟩ := sound_check HQ.out
    have hle := els_len hc
    have hse := els_sec hc
    have HBV := Lib.hid (Wplr.valid_back hc way)
    have HBB := Lib.hid (Wplr.back_back way)
    have HBL := Lib.hid (Wplr.length_back L.els way)
    have HBS := Lib.hid (Wplr.sections_back L.els way)
    have HBT := Lib.hid (Wplr.settings_back L.els way)
    have CA := Lib.hid (Wprv.preverse_any (HVY.out w1 E0.out) (by omega))
    clear HQ
    go_wp2_with fail
    refine CA.out.mono ?_
    rintro e w2 ⟨v5, rfl, g5, b⟩
    have E1 := Lib.hid (E0.out.trans (b.mono E0.out.size))
    have g5' := grid_in g5
    obtain ⟨back, hback⟩ : ∃ back, reverseF way = back := ⟨_, rfl⟩
    have hbl := back_len way
    rw [hback] at g5' hbl HBV HBB HBL HBS HBT
    have HGY := Lib.hid (fun w' (b : Below w2.heap.size w2 w') => grid_next g5' b)
    have HR1 := Lib.hid (Below.refl w2.heap.size w2)
    have CB := Lib.hid (fun w' (b : Below W.heap.size W w') => Wpse.psections_any L w' (HLY.out w' b) (HVY.out w' b) (by omega) hse)
    have CC := Lib.hid (fun w' (b : Below W.heap.size W w') (b2 : Below w2.heap.size w2 w') => Wpse.psections_any L w' (HLY.out w' b) (HGY.out w' b2) (by omega) hse)
    have CD := Lib.hid (fun w' (b : Below W.heap.size W w') => Wval.pvalid_any L w' (HLY.out w' b) (HVY.out w' b) (HDY.out w' b))
    have CE := Lib.hid (fun w' (b : Below W.heap.size W w') (b2 : Below w2.heap.size w2 w') => Wval.pvalid_any L w' (HLY.out w' b) (HGY.out w' b2) (HDY.out w' b))
    have CF := Lib.hid (fun w' (b2 : Below w2.heap.size w2 w') => Wprv.preverse_any (HGY.out w' b2) (by omega))
    have CG := Lib.hid (fun w' (b : Below W.heap.size W w') => Wple.plength_any L w' (HLY.out w' b) (HVY.out w' b) (by omega) hle)
    have CH := Lib.hid (fun w' (b : Below W.heap.size W w') (b2 : Below w2.heap.size w2 w') => Wple.plength_any L w' (HLY.out w' b) (HGY.out w' b2) (by omega) hle)
    have CI := Lib.hid (fun w' (b : Below W.heap.size W w') => Wpst.psettings_any L w' (HLY.out w' b) (HVY.out w' b) (HDY.out w' b) (by omega))
    have CJ := Lib.hid (fun w' (b : Below W.heap.size W w') (b2 : Below w2.heap.size w2 w') => Wpst.psettings_any L w' (HLY.out w' b) (HGY.out w' b2) (HDY.out w' b) (by omega))
    have HA := Lib.hid (fun w' (b : Below W.heap.size W w') => alive_any w' (HDY.out w' b))
    rw [Wplm.pset_eq] at CI CJ
    rw [HBT.out] at CJ
    rw [HBL.out] at CH
    rw [HBV.out] at CE
    rw [HBB.out] at CF
    obtain ⟨qv, hqv⟩ : ∃ q, validF L way = q := ⟨_, rfl⟩
    obtain ⟨ql, hql⟩ : ∃ q, lengthF L.els way = q := ⟨_, rfl⟩
    obtain ⟨qs, hqs⟩ : ∃ q, sectionsF L.els way = q := ⟨_, rfl⟩
    obtain ⟨qb, hqb⟩ : ∃ q, sectionsF L.els back = q := ⟨_, rfl⟩
    obtain ⟨qt, hqt⟩ : ∃ q, settingsF L.els way = q := ⟨_, rfl⟩
    rw [hqs] at CB HBS
    rw [hqb] at CC HBS
    rw [hqv] at CD CE
    rw [hql] at CG CH
    rw [hqt] at CI CJ
    unfold layV at CB CC CD CE CG CH CI CJ
    have HW1 := Lib.hid (wit_all fun x hx => (HBS.out.1 x).2 hx)
    have HW2 := Lib.hid (wit_all fun x hx => (HBS.out.1 x).1 hx)
    have hlen : (((qs.length : Nat) : Int) == ((qb.length : Nat) : Int)) = true := by rw [HBS.out.2]; simp
    have hneq : (qv != qv) = false := by simp
    clear hn hc hle hse hqv hql hqs hqb hqt b g5 g5' hbl HBV HBB HBL HBT HBS CA
    have F1 := HR1
    obtain ⟨x0, x1, x2, x3, x4, x5⟩ := HK.out _ E1.out
    go_upto_region 4 with fail
    go_region_held3 (fun w' => w'.cell? ⟨w.heap.size, 0, none⟩ = some (.string (bs L.name)) ∧ w'.cell? ⟨w.heap.size, 1, none⟩ = some vs ∧ w'.cell? ⟨w.heap.size, 2, none⟩ = some ve ∧ w'.cell? ⟨w.heap.size, 3, none⟩ = some vj ∧ w'.cell? ⟨w.heap.size, 4, none⟩ = some vg ∧ w'.cell? ⟨w.heap.size, 5, none⟩ = some vb)
      (first
        | with_reducible exact HK.out _ E3.out
        | with_reducible exact HK.out _ E2.out
        | go_keep)
      (first
        | (go_at_call 21; (with_reducible refine (CB.out _ E1.out.drew).mono ?_); rintro e u2 ⟨v6, rfl, r6, b⟩; have E2 := Lib.hid (E1.out.drew.trans (b.mono E1.out.drew.size)); have F2 := Lib.hid (F1.out.drew.trans (b.mono F1.out.drew.size)); obtain ⟨A6, N6, rfl, _, _⟩ := ints_shape r6; have R6 := Lib.hid r6; clear r6; clear b)
        | (go_at_call 21; (with_reducible refine (CC.out _ E2.out F2.out).mono ?_); rintro e u3 ⟨v7, rfl, r7, b⟩; have E3 := Lib.hid (E2.out.trans (b.mono E2.out.size)); have F3 := Lib.hid (F2.out.trans (b.mono F2.out.size)); obtain ⟨A7, N7, rfl, _, _⟩ := ints_shape r7; have R7 := Lib.hid r7; have R6b := Lib.hid (Ints.next R6.out b); clear r7; clear b))
    clear x0 x1 x2 x3 x4 x5
    obtain ⟨x0, x1, x2, x3, x4, x5⟩ := HK.out _ E3.out
    go_upto_region 5 with fail
    go_region_held3 (fun w' => w'.cell? ⟨w.heap.size, 0, none⟩ = some (.string (bs L.name)) ∧ w'.cell? ⟨w.heap.size, 1, none⟩ = some vs ∧ w'.cell? ⟨w.heap.size, 2, none⟩ = some ve ∧ w'.cell? ⟨w.heap.size, 3, none⟩ = some vj ∧ w'.cell? ⟨w.heap.size, 4, none⟩ = some vg ∧ w'.cell? ⟨w.heap.size, 5, none⟩ = some vb)
      (first
        | with_reducible exact HK.out _ E7.out
        | with_reducible exact HK.out _ E6.out
        | with_reducible exact HK.out _ E5.out
        | with_reducible exact HK.out _ E4.out
        | go_keep)
      (first
        | (go_at_call 16; (with_reducible refine (CD.out _ E3.out.drew).mono ?_); rintro e u4 ⟨rfl, b⟩; have E4 := Lib.hid (E3.out.drew.trans (b.mono E3.out.drew.size)); have F4 := Lib.hid (F3.out.drew.trans (b.mono F3.out.drew.size)); have R7d := Lib.hid (Ints.next (Ints.next R7.out (Below.refl _ _).drew) b); have R6d := Lib.hid (Ints.next (Ints.next R6b.out (Below.refl _ _).drew) b); clear b)
        | (go_at_call 16; (with_reducible refine (CE.out _ E4.out F4.out).mono ?_); rintro e u5 ⟨rfl, b⟩; have E5 := Lib.hid (E4.out.trans (b.mono E4.out.size)); have F5 := Lib.hid (F4.out.trans (b.mono F4.out.size)); have R7e := Lib.hid (Ints.next R7d.out b); have R6e := Lib.hid (Ints.next R6d.out b); clear b)
        | (go_at_call 26; (with_reducible refine (CF.out _ F5.out).mono ?_); rintro e u6 ⟨v8, rfl, g8, b⟩; have E6 := Lib.hid (E5.out.trans (b.mono E5.out.size)); have F6 := Lib.hid (F5.out.trans (b.mono F5.out.size)); have G8 := Lib.hid (grid_in g8); have V8 := Lib.hid (HVY.out _ E6.out); have R7f := Lib.hid (Ints.next R7e.out b); have R6f := Lib.hid (Ints.next R6e.out b); clear g8; clear b)
        | (go_at_call 13; (with_reducible refine (same_self G8.out V8.out).mono ?_); rintro e u7 ⟨rfl, b⟩; have E7 := Lib.hid (E6.out.trans (b.mono E6.out.size)); have F7 := Lib.hid (F6.out.trans (b.mono F6.out.size)); have R7g := Lib.hid (Ints.next R7f.out b); have R6g := Lib.hid (Ints.next R6f.out b); clear b))
    clear x0 x1 x2 x3 x4 x5
    obtain ⟨x0, x1, x2, x3, x4, x5⟩ := HK.out _ E7.out
    go_upto_region 7 with fail
    go_region_held3 (fun w' => w'.cell? ⟨w.heap.size, 0, none⟩ = some (.string (bs L.name)) ∧ w'.cell? ⟨w.heap.size, 1, none⟩ = some vs ∧ w'.cell? ⟨w.heap.size, 2, none⟩ = some ve ∧ w'.cell? ⟨w.heap.size, 3, none⟩ = some vj ∧ w'.cell? ⟨w.heap.size, 4, none⟩ = some vg ∧ w'.cell? ⟨w.heap.size, 5, none⟩ = some vb)
      (first
        | with_reducible exact HK.out _ E15.out
        | with_reducible exact HK.out _ E14.out
        | with_reducible exact HK.out _ E13.out
        | with_reducible exact HK.out _ E12.out
        | with_reducible exact HK.out _ E11.out
        | with_reducible exact HK.out _ E10.out
        | with_reducible exact HK.out _ E9.out
        | with_reducible exact HK.out _ E8.out
        | go_keep)
      (first
        | (go_at_call 18; (with_reducible refine (CG.out _ E7.out.drew).mono ?_); rintro e u8 ⟨rfl, b⟩; have E8 := Lib.hid (E7.out.drew.trans (b.mono E7.out.drew.size)); have F8 := Lib.hid (F7.out.drew.trans (b.mono F7.out.drew.size)); have R7h := Lib.hid (Ints.next (Ints.next R7g.out (Below.refl _ _).drew) b); have R6h := Lib.hid (Ints.next (Ints.next R6g.out (Below.refl _ _).drew) b); clear b)
        | (go_at_call 18; (with_reducible refine (CH.out _ E8.out F8.out).mono ?_); rintro e u9 ⟨rfl, b⟩; have E9 := Lib.hid (E8.out.trans (b.mono E8.out.size)); have F9 := Lib.hid (F8.out.trans (b.mono F8.out.size)); have R7i := Lib.hid (Ints.next R7h.out b); have R6i := Lib.hid (Ints.next R6h.out b); clear b)
        | (go_at_call 28; (with_reducible refine (wit_true HW1.out R6i.out R7i.out).mono ?_); rintro e u10 ⟨rfl, b⟩; have E10 := Lib.hid (E9.out.trans (b.mono E9.out.size)); have F10 := Lib.hid (F9.out.trans (b.mono F9.out.size)); have R7j := Lib.hid (Ints.next R7i.out b); have R6j := Lib.hid (Ints.next R6i.out b); clear b)
        | (go_at_call 28; (with_reducible refine (wit_true HW2.out R7j.out R6j.out).mono ?_); rintro e u11 ⟨rfl, b⟩; have E11 := Lib.hid (E10.out.trans (b.mono E10.out.size)); have F11 := Lib.hid (F10.out.trans (b.mono F10.out.size)); clear b)
        | (go_at_call 24; (with_reducible refine (CI.out _ E11.out).mono ?_); rintro e u12 ⟨v9, rfl, g9, b⟩; have E12 := Lib.hid (E11.out.trans (b.mono E11.out.size)); have F12 := Lib.hid (F11.out.trans (b.mono F11.out.size)); have G9 := Lib.hid (grid_in g9); clear g9; clear b)
        | (go_at_call 24; (with_reducible refine (CJ.out _ E12.out F12.out).mono ?_); rintro e u13 ⟨v10, rfl, g10, b⟩; have E13 := Lib.hid (E12.out.trans (b.mono E12.out.size)); have F13 := Lib.hid (F12.out.trans (b.mono F12.out.size)); have G10 := Lib.hid (grid_in g10); have G9b := Lib.hid (grid_next G9.out b); clear g10; clear b)
        | (go_at_call 23; (with_reducible refine (same_sets G9b.out G10.out).mono ?_); rintro e u14 ⟨rfl, b⟩; have E14 := Lib.hid (E13.out.trans (b.mono E13.out.size)); have F14 := Lib.hid (F13.out.trans (b.mono F13.out.size)); clear b)
        | (go_at_call 10; (with_reducible refine (HA.out _ E14.out).mono ?_); rintro e u15 ⟨rfl, b⟩; have E15 := Lib.hid (E14.out.trans (b.mono E14.out.size)); have F15 := Lib.hid (F14.out.trans (b.mono F14.out.size)); clear b))
    clear x0 x1 x2 x3 x4 x5
    go_wp2_with fail
    go_ret
    exact ⟨rfl, bel_next B0.out E15.out⟩

end Go.Proofs.YtjhimekojiegjaaDoor.Wrvs
