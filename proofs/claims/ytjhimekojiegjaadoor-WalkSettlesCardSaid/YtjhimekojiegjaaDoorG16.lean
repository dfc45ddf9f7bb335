/- Texts of this proof, merged: Wset. -/
import Derived.Test.YtjhimekojiegjaaDoorG12
import Derived.Test.YtjhimekojiegjaaDoorG15

/- WalkSettles: the walk. -/
namespace Go.Proofs.YtjhimekojiegjaaDoor.Wset
open Go.RowKit Go.Lib Go.Proofs.YtjhimekojiegjaaDoor.Reads Go.Proofs.YtjhimekojiegjaaDoor.Rows2 Go.Proofs.YtjhimekojiegjaaDoor.Lay Go.Proofs.YtjhimekojiegjaaDoor.Layf Go.Proofs.YtjhimekojiegjaaDoor.Ldup Go.Proofs.YtjhimekojiegjaaDoor.Lext Go.Proofs.YtjhimekojiegjaaDoor.Ljoi Go.Proofs.YtjhimekojiegjaaDoor.Lnmd Go.Proofs.YtjhimekojiegjaaDoor.Lcon Go.Proofs.YtjhimekojiegjaaDoor.Way Go.Proofs.YtjhimekojiegjaaDoor.Wrf Go.Proofs.YtjhimekojiegjaaDoor.Wlst Go.Proofs.YtjhimekojiegjaaDoor.Wbra Go.Proofs.YtjhimekojiegjaaDoor.Wmea Go.Proofs.YtjhimekojiegjaaDoor.Wele Go.Proofs.YtjhimekojiegjaaDoor.Wsou Go.Proofs.YtjhimekojiegjaaDoor.Wali Go.Proofs.YtjhimekojiegjaaDoor.Wstp Go.Proofs.YtjhimekojiegjaaDoor.Wmsr Go.Proofs.YtjhimekojiegjaaDoor.Wpls
open Go.Proofs.YtjhimekojiegjaaDoor.Rtab (RTab rtab_next)
open Go.Proofs.YtjhimekojiegjaaDoor.Rail (outF)
open Go.Proofs.YtjhimekojiegjaaDoor.Text hiding lineL joinR

theorem set_cells {w : World} {v : Value} {xs : List (Int × Int)} (h : Grid (In w) w v 2 (xs.map pCells)) :
    ∃ a cap, v = .slice a xs.length cap ∧ (xs.length : Int) ≤ 9223372036854775807 ∧ ∀ (wr : World), Below w.heap.size w wr → ∀ (k : Nat) (x : Int × Int), xs[k]? = some x → ∃ b off, a = some ⟨b, off, none⟩ ∧ b < w.heap.size ∧ wr.cell? ⟨b, off + k * 2, none⟩ = some (.int .i64 x.1) ∧ wr.cell? ⟨b, off + k * 2 + 1, none⟩ = some (.int .i64 x.2) := by
  obtain ⟨a, cap, h1, h2, hc⟩ := pairs_shape h
  refine ⟨a, cap, h1, h2, fun wr hb k x hx => ?_⟩
  obtain ⟨b, off, e, hbl, c0, c1⟩ := hc k x hx
  exact ⟨b, off, e, hbl, (hb.cell (p := ⟨b, off + k * 2, none⟩) hbl).trans c0, (hb.cell (p := ⟨b, off + k * 2 + 1, none⟩) hbl).trans c1⟩

set_option maxRecDepth 100000 in
set_option maxHeartbeats 12800000 in
theorem settles_law (L : Lay) {way : List Stp} {vs ve vj vg vb v : Value} (w : World) (h : LayAt (In w) w L vs ve vj vg vb) (hj : L.joints.length ≤ 4398046510976) (hv : Grid (In w) w v 3 (way.map stCells)) (hd : RTab w) :
    Calls Tryd.prog 8 #[layV L vs ve vj vg vb, v] w (BoolOut true w) := by
  obtain ⟨a, cap, rfl, hm, _⟩ := h.el
  obtain ⟨a2, cap2, rfl, hm2, _⟩ := way_cells hv
  have b0 := (Below.refl w.heap.size w).alloc (Nat.le_refl _) (.cells #[.string (bs L.name), vs, .slice a L.els.length cap, vj, vg, vb] 28)
  have h0 := h.next b0
  have d0 := rtab_next hd b0
  have v0 := grid_next hv b0
  have HX := lbox_new w 28 L vs (.slice a L.els.length cap) vj vg vb
  have hs0 : w.heap.size < (w.alloc (.cells #[.string (bs L.name), vs, .slice a L.els.length cap, vj, vg, vb] 28)).heap.size := by simp
  clear h hd hv
  unfold layV
  go_enter Tryd.func8, Tryd.ntmps8
  go_wp2_with fail
  obtain ⟨W, hW⟩ : ∃ W, w.alloc (.cells #[.string (bs L.name), vs, .slice a L.els.length cap, vj, vg, vb] 28) = W := ⟨_, rfl⟩
  rw [hW] at b0 h0 d0 v0 HX hs0 ⊢
  clear hW
  have B0 := Lib.hid b0
  have HLY := Lib.hid (fun w' (b : Below W.heap.size W w') => h0.next b)
  have HDY := Lib.hid (fun w' (b : Below W.heap.size W w') => rtab_next d0 b)
  have HVY := Lib.hid (fun w' (b : Below W.heap.size W w') => grid_next v0 b)
  obtain ⟨_, _, he, _, hel⟩ := h0.el
  cases he
  have HE := Lib.hid hel
  obtain ⟨_, _, he, _, hcw⟩ := way_cells v0
  cases he
  have HC := Lib.hid hcw
  clear hel hcw
  have HK : Hid (∀ w', Below W.heap.size W w' → w'.cell? ⟨w.heap.size, 0, none⟩ = some (.string (bs L.name)) ∧ w'.cell? ⟨w.heap.size, 1, none⟩ = some vs ∧ w'.cell? ⟨w.heap.size, 2, none⟩ = some (.slice a L.els.length cap) ∧ w'.cell? ⟨w.heap.size, 3, none⟩ = some vj ∧ w'.cell? ⟨w.heap.size, 4, none⟩ = some vg ∧ w'.cell? ⟨w.heap.size, 5, none⟩ = some vb) := fun w' b => HX.next b hs0
  have HS0 := Lib.hid hs0
  have C1 := Lib.hid (sound_any L (n := way.length) (cap := cap2) (a := a2) W h0 hj hm2)
  unfold layV at C1
  clear HX h0 d0 v0 b0 hj
  obtain ⟨x0, x1, x2, x3, x4, x5⟩ := HK.out W (Below.refl _ _)
  obtain ⟨q, hq⟩ : ∃ q, soundB L way.length = q := ⟨_, rfl⟩
  rw [hq] at C1
  have HQ := Lib.hid hq
  clear hq
  go_wp2_with fail
  refine C1.out.mono ?_
  rintro e w1 ⟨rfl, b⟩
  have E0 := Lib.hid b
  clear b C1 x0 x1 x2 x3 x4 x5 hs0
  cases q with
  | false =>
    have HA := Lib.hid (alive_any w1 (HDY.out w1 E0.out))
    go_wp2_with fail
    refine HA.out.mono ?_
    rintro e w9 ⟨rfl, b⟩
    have B9 := Lib.hid (bel_next (bel_next B0.out E0.out) b)
    clear b
    go_wp2_with fail
    go_ret
    exact ⟨rfl, B9.out⟩
  | true =>
    obtain ⟨hn, hc⟩ := sound_check HQ.out
    have C2 := Lib.hid (Wval.pvalid_any L w1 (HLY.out w1 E0.out) (HVY.out w1 E0.out) (HDY.out w1 E0.out))
    obtain ⟨q, hq⟩ : ∃ q, validF L way = q := ⟨_, rfl⟩
    rw [hq] at C2
    have HQV := Lib.hid hq
    unfold layV at C2
    obtain ⟨x0, x1, x2, x3, x4, x5⟩ := HK.out w1 E0.out
    clear HQ hq hc
    go_wp2_with fail
    refine C2.out.mono ?_
    rintro e w2 ⟨rfl, b⟩
    have E1 := Lib.hid (E0.out.trans (b.mono E0.out.size))
    clear b C2 x0 x1 x2 x3 x4 x5
    cases q with
    | false =>
      have HA := Lib.hid (alive_any w2 (HDY.out w2 E1.out))
      go_wp2_with fail
      refine HA.out.mono ?_
      rintro e w9 ⟨rfl, b⟩
      have B9 := Lib.hid (bel_next (bel_next B0.out E1.out) b)
      clear b
      go_wp2_with fail
      go_ret
      exact ⟨rfl, B9.out⟩
    | true =>
      have C3 := Lib.hid (Wpst.psettings_any L w2 (HLY.out w2 E1.out) (HVY.out w2 E1.out) (HDY.out w2 E1.out) (by omega))
      rw [Wplm.pset_eq] at C3
      obtain ⟨hst, hnum⟩ := settles HQV.out
      have hpl := pts_le L.els way
      obtain ⟨sl, hsl⟩ : ∃ q, settingsF L.els way = q := ⟨_, rfl⟩
      rw [hsl] at C3 hst hnum
      have HST := Lib.hid hst
      unfold layV at C3
      obtain ⟨x0, x1, x2, x3, x4, x5⟩ := HK.out w2 E1.out
      clear hst hsl HQV
      go_wp2_with fail
      refine C3.out.mono ?_
      rintro e w3 ⟨v5, rfl, g5, b⟩
      have E2 := Lib.hid (E1.out.trans (b.mono E1.out.size))
      obtain ⟨a5, cap5, rfl, hm5, hc5⟩ := set_cells (grid_in g5)
      have HP := Lib.hid hc5
      clear b C3 x0 x1 x2 x3 x4 x5 g5 hc5
      have HNUM := Lib.hid hnum
      have hs200 : sl.length ≤ 200 := by omega
      go_wp2_with fail
      go_loopw [6, 30] (fun vp vj wr => ∃ j p : Nat, vp = .int .i64 (p : Int) ∧ vj = .int .i64 (j : Int) ∧ j ≤ way.length ∧ p + ptsR L.els (way.drop j) = sl.length ∧ Below w3.heap.size w3 wr) (fun _ vj _ => way.length - (RowKit.intOf vj).toNat)
      case atStart => exact ⟨0, 0, rfl, rfl, Nat.zero_le _, by rw [List.drop_zero, HNUM.out]; omega, Below.refl _ _⟩
      case round =>
        obtain ⟨j, p, rfl, rfl, hjl, hpj, hb⟩ := hrel
        have EB := Lib.hid (E2.out.trans (hb.mono E2.out.size))
        have B3 := Lib.hid hb
        have HPJ := Lib.hid hpj
        have hp200 : p ≤ 200 := by omega
        clear hb hpj
        by_cases hlt : j < way.length
        · obtain ⟨wo, hwo⟩ : ∃ W, W = wr := ⟨_, rfl⟩
          subst hwo
          obtain ⟨x, hx⟩ := at_lt hlt
          rw [Layf.drop_at hx, ptsR] at HPJ
          obtain ⟨hin, hout⟩ := HST.out x (List.mem_of_getElem? hx)
          obtain ⟨i, y, hxi, hil, hyi, hyo⟩ := el_some hin
          rw [elG_some hyo] at HPJ hout
          obtain ⟨b, off, rfl, hbl, c0, c1, c2⟩ := HC.out wo EB.out j x hx
          obtain ⟨s1, s2, s3⟩ := x
          simp only at c0 c1 c2 hxi hout
          subst hxi
          obtain ⟨P, hP⟩ : ∃ q, posR (i : Int) 0 sl = q := ⟨_, rfl⟩
          rw [hP] at hout
          have HO := Lib.hid hout
          have HPP := Lib.hid (show posR (i : Int) 0 (sl.drop 0) = P by rw [List.drop_zero]; exact hP)
          have HY := Lib.hid hyi
          have bS := (Below.refl wo.heap.size wo).alloc (Nat.le_refl _) (.cells #[.int .i64 (i : Int), .int .i64 s2, .int .i64 s3] 30)
          have BS := Lib.hid (bel_next B3.out bS)
          have BWS := Lib.hid bS
          have ES := Lib.hid (bel_next EB.out bS)
          have hz : wo.heap.size < (wo.alloc (.cells #[.int .i64 (i : Int), .int .i64 s2, .int .i64 s3] 30)).heap.size := by simp
          have y0 : (wo.alloc (.cells #[.int .i64 (i : Int), .int .i64 s2, .int .i64 s3] 30)).cell? ⟨wo.heap.size, 0, none⟩ = some (.int .i64 (i : Int)) := by rw [World.cell?_alloc_at _ _ _ _ rfl]; rfl
          have y1 : (wo.alloc (.cells #[.int .i64 (i : Int), .int .i64 s2, .int .i64 s3] 30)).cell? ⟨wo.heap.size, 1, none⟩ = some (.int .i64 s2) := by rw [World.cell?_alloc_at _ _ _ _ rfl]; rfl
          have y2 : (wo.alloc (.cells #[.int .i64 (i : Int), .int .i64 s2, .int .i64 s3] 30)).cell? ⟨wo.heap.size, 2, none⟩ = some (.int .i64 s3) := by rw [World.cell?_alloc_at _ _ _ _ rfl]; rfl
          have HN0 : Hid (decide ((i : Int) < 0) = false) := by
            show decide ((i : Int) < 0) = false
            rw [decide_eq_false_iff_not]
            omega
          have HN1 : Hid (decide ((L.els.length : Int) ≤ (i : Int)) = false) := by
            show decide ((L.els.length : Int) ≤ (i : Int)) = false
            rw [decide_eq_false_iff_not]
            omega
          have n0 := HN0.out
          have n1 := HN1.out
          obtain ⟨x0, x1, x2, x3, x4, x5⟩ := HK.out wo EB.out
          have hbl2 : b < wo.heap.size := Nat.lt_of_lt_of_le hbl EB.out.size
          have hwl : w.heap.size < wo.heap.size := Nat.lt_of_lt_of_le HS0.out EB.out.size
          clear hx hin hyo hP hyi hout bS
          go_wp2_with fail
          obtain ⟨wS, hwS⟩ : ∃ W, wo.alloc (.cells #[.int .i64 (i : Int), .int .i64 s2, .int .i64 s3] 30) = W := ⟨_, rfl⟩
          rw [hwS] at BS BWS ES hz y0 y1 y2 ⊢
          have HYC : Hid (∀ w', Below wS.heap.size wS w' → w'.cell? ⟨wo.heap.size, 0, none⟩ = some (.int .i64 (i : Int)) ∧ w'.cell? ⟨wo.heap.size, 1, none⟩ = some (.int .i64 s2) ∧ w'.cell? ⟨wo.heap.size, 2, none⟩ = some (.int .i64 s3)) := fun w' hb => ⟨(hb.cell (p := ⟨wo.heap.size, 0, none⟩) hz).trans y0, (hb.cell (p := ⟨wo.heap.size, 1, none⟩) hz).trans y1, (hb.cell (p := ⟨wo.heap.size, 2, none⟩) hz).trans y2⟩
          have HZ := Lib.hid hz
          clear hwS hz y0 y1 y2 x0 x1 x2 x3 x4 x5 c0 c1 c2 hbl2 n0 n1
          go_loopw [9, 47] (fun vq vk wr => ∃ (k : Nat) (q : Int), vq = .int .i64 q ∧ vk = .int .i64 (k : Int) ∧ k ≤ sl.length ∧ posR (i : Int) q (sl.drop k) = P ∧ Below wS.heap.size wS wr) (fun _ vk _ => sl.length - (RowKit.intOf vk).toNat)
          case atStart => exact ⟨0, 0, rfl, rfl, Nat.zero_le _, HPP.out, Below.refl _ _⟩
          case round =>
            obtain ⟨k, q, rfl, rfl, hkl, hpk, hb⟩ := hrel
            have BK := Lib.hid hb
            have EK := Lib.hid (bel_next ES.out hb)
            have HPK := Lib.hid hpk
            clear hb hpk
            by_cases hkt : k < sl.length
            · obtain ⟨z, hz⟩ := at_lt hkt
              rw [Layf.drop_at hz, posR] at HPK
              obtain ⟨b6, off6, rfl, hb6, d0, d1⟩ := HP.out _ (bel_next BS.out BK.out) k z hz
              obtain ⟨z1, z2⟩ := z
              simp only at d0 d1 HPK
              obtain ⟨y0, y1, y2⟩ := HYC.out _ BK.out
              have hzs : wo.heap.size < wr.heap.size := Nat.lt_of_lt_of_le HZ.out BK.out.size
              have hb7 : b6 < wr.heap.size := Nat.lt_of_lt_of_le hb6 (Nat.le_trans BS.out.size BK.out.size)
              have BK2 := Lib.hid (BK.out.alloc BK.out.size (.cells #[.int .i64 z1, .int .i64 z2] 52))
              clear hz
              by_cases hq : z1 = (i : Int)
              · subst hq
                rw [if_pos rfl] at HPK
                go_wp2_with fail
                go_roundw
                case rel => exact ⟨k + 1, z2, rfl, by simp, by omega, HPK.out, BK2.out⟩
                case measure => simp [RowKit.intOf]; omega
              · rw [if_neg hq] at HPK
                have hqf : (z1 == (i : Int)) = false := beq_eq_false_iff_ne.2 hq
                clear hq
                go_wp2_with fail
                go_roundw
                case rel => exact ⟨k + 1, q, rfl, by simp, by omega, HPK.out, BK2.out⟩
                case measure => simp [RowKit.intOf]; omega
            · have hke : k = sl.length := by omega
              subst hke
              rw [List.drop_length] at HPK
              obtain rfl : q = P := HPK.out
              obtain ⟨y0, y1, y2⟩ := HYC.out _ BK.out
              obtain ⟨x0, x1, x2, x3, x4, x5⟩ := HK.out _ EK.out
              obtain ⟨be, offe, rfl, _, ck, _⟩ := HE.out _ EK.out i y HY.out
              have hi0 : (0 : Int) ≤ (i : Int) := by omega
              have hi1 : (i : Int) < (L.els.length : Int) := by omega
              have C6 := Lib.hid (fun d os => Calls.regrown_of (w := wr) (d := d) (os := os) (Rout.out_any y.kind s2 q _ (HDY.out _ (bel_next EK.out (below_regrown wr d os)))))
              rw [HO.out] at C6
              try simp only at C6
              by_cases hk2 : y.kind = 2
              · rw [if_pos hk2] at HPJ
                have hkf : (y.kind == 2) = true := by simpa using hk2
                clear hk2
                have k0 := cell_regrown x2
                have k1 := cell_regrown y0
                have k2 := cell_regrown y1
                have k3 := cell_regrown ck
                go_wp2_with fail
                refine wp_region_quiet_below (by kernel_rfl) (by kernel_rfl) ?_
                repeat (go_big_quiet_step (with_reducible exact C6.out _ _))
                refine wpQuiet_nil ?_
                intro w6 hw'
                obtain ⟨⟨dq, osq⟩, hw''⟩ := hw'
                have b6 : Below wr.heap.size wr w6 := by
                  rw [hw'']
                  exact below_regrown wr dq osq
                have B6 := Lib.hid (bel_next B3.out (bel_next (show Below wo.heap.size wo wS from BWS.out) (bel_next BK.out b6)))
                obtain ⟨z0, z1, z2⟩ := HYC.out _ (bel_next BK.out b6)
                have hneq : (s3 != s3) = false := by simp
                clear hw'' b6 k0 k1 k2 k3 C6 y0 y1 y2
                go_wp2_with fail
                go_roundw
                case rel => exact ⟨j + 1, p + 1, by simp, by simp, by omega, by have := HPJ.out; omega, B6.out⟩
                case measure => simp [RowKit.intOf]; omega
              · rw [if_neg hk2] at HPJ
                have hkf : (y.kind == 2) = false := beq_eq_false_iff_ne.2 hk2
                clear hk2
                have k0 := cell_regrown x2
                have k1 := cell_regrown y0
                have k2 := cell_regrown y1
                have k3 := cell_regrown ck
                go_wp2_with fail
                refine wp_region_quiet_below (by kernel_rfl) (by kernel_rfl) ?_
                repeat (go_big_quiet_step (with_reducible exact C6.out _ _))
                refine wpQuiet_nil ?_
                intro w6 hw'
                obtain ⟨⟨dq, osq⟩, hw''⟩ := hw'
                have b6 : Below wr.heap.size wr w6 := by
                  rw [hw'']
                  exact below_regrown wr dq osq
                have B6 := Lib.hid (bel_next B3.out (bel_next (show Below wo.heap.size wo wS from BWS.out) (bel_next BK.out b6)))
                obtain ⟨z0, z1, z2⟩ := HYC.out _ (bel_next BK.out b6)
                have hneq : (s3 != s3) = false := by simp
                clear hw'' b6 k0 k1 k2 k3 C6 y0 y1 y2
                go_wp2_with fail
                go_roundw
                case rel => exact ⟨j + 1, p, by simp, by simp, by omega, by have := HPJ.out; omega, B6.out⟩
                case measure => simp [RowKit.intOf]; omega
        · have hje : j = way.length := by omega
          subst hje
          have hps : p = sl.length := by
            have := HPJ.out
            rw [List.drop_length] at this
            simpa [ptsR] using this
          subst hps
          have heq : ((sl.length : Int) == (sl.length : Int)) = true := by simp
          have HA := Lib.hid (alive_any wr (HDY.out wr EB.out))
          go_wp2_with fail
          refine HA.out.mono ?_
          rintro e w9 ⟨rfl, b⟩
          have B9 := Lib.hid (bel_next (bel_next B0.out EB.out) b)
          clear b
          go_wp2_with fail
          go_ret
          exact ⟨rfl, B9.out⟩

end Go.Proofs.YtjhimekojiegjaaDoor.Wset
