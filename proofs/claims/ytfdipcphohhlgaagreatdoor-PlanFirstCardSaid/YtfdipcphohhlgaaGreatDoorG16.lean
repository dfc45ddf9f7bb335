/- Texts of this proof, merged: Plin. -/
import Derived.Test.YtfdipcphohhlgaaGreatDoorG15
import Derived.Deep.RegionHeld3

/- The lines that the program makes of a layout. -/
namespace Go.Proofs.YtfdipcphohhlgaaGreatDoor.Plin
open Go.RowKit Go.Lib Go.Proofs.YtfdipcphohhlgaaGreatDoor.Numt Go.Proofs.YtfdipcphohhlgaaGreatDoor.Reads Go.Proofs.YtfdipcphohhlgaaGreatDoor.Rows2 Go.Proofs.YtfdipcphohhlgaaGreatDoor.Lay Go.Proofs.YtfdipcphohhlgaaGreatDoor.Layf Go.Proofs.YtfdipcphohhlgaaGreatDoor.Ldup Go.Proofs.YtfdipcphohhlgaaGreatDoor.Lext Go.Proofs.YtfdipcphohhlgaaGreatDoor.Lnmd Go.Proofs.YtfdipcphohhlgaaGreatDoor.Plnf Go.Proofs.YtfdipcphohhlgaaGreatDoor.Plnb Go.Proofs.YtfdipcphohhlgaaGreatDoor.Plnc Go.Proofs.YtfdipcphohhlgaaGreatDoor.Ownl Go.Proofs.YtfdipcphohhlgaaGreatDoor.Owns Go.Proofs.YtfdipcphohhlgaaGreatDoor.Linw Go.Proofs.YtfdipcphohhlgaaGreatDoor.Fmtw Go.Proofs.YtfdipcphohhlgaaGreatDoor.Rpla Go.Proofs.YtfdipcphohhlgaaGreatDoor.Rpre Go.Proofs.YtfdipcphohhlgaaGreatDoor.Pctn Go.Proofs.YtfdipcphohhlgaaGreatDoor.Pend Go.Proofs.YtfdipcphohhlgaaGreatDoor.Plia
open Go.Proofs.YtfdipcphohhlgaaGreatDoor.Debw (Deb deb_next)
open Go.Proofs.YtfdipcphohhlgaaGreatDoor.Text hiding lineL joinR
set_option linter.unusedVariables false

set_option maxRecDepth 100000 in
set_option maxHeartbeats 12800000 in
theorem linesOf_any (L : Lay) {vs ve vj vg vb : Value} (w : World) (h : LayAt (In w) w L vs ve vj vg vb) (hd : Deb w) (hfi : Fine L) (hn : L.secs.length ≤ 60) (hn2 : L.els.length ≤ 60) (hn3 : L.sigs.length ≤ 60) (hn4 : L.bals.length ≤ 60) (hn5 : L.joints.length ≤ 100000) :
    Calls Tryz.prog 18 #[layV L vs ve vj vg vb] w fun e w' => ∃ v, e = .returned v ∧ (∃ a n c, v = .slice a n c) ∧ Lns (In w') w' v (linesOf L) ∧ Below w.heap.size w w' := by
  obtain ⟨sa, sc, ea, ec, ja, jc, ga, gc, ba, bc, rfl, rfl, rfl, rfl, rfl⟩ := Lown.shapes h
  have b0 := (Below.refl w.heap.size w).alloc (Nat.le_refl _) (.cells #[.string (bs L.name), .slice sa L.secs.length sc, .slice ea L.els.length ec, .slice ja L.joints.length jc, .slice ga L.sigs.length gc, .slice ba L.bals.length bc] 28)
  have hh := h.next b0
  have hx := lbox_new w 28 L (.slice sa L.secs.length sc) (.slice ea L.els.length ec) (.slice ja L.joints.length jc) (.slice ga L.sigs.length gc) (.slice ba L.bals.length bc)
  have hs0 : w.heap.size < (w.alloc (.cells #[.string (bs L.name), .slice sa L.secs.length sc, .slice ea L.els.length ec, .slice ja L.joints.length jc, .slice ga L.sigs.length gc, .slice ba L.bals.length bc] 28)).heap.size := by simp
  obtain ⟨W, hW⟩ : ∃ W, w.alloc (.cells #[.string (bs L.name), .slice sa L.secs.length sc, .slice ea L.els.length ec, .slice ja L.joints.length jc, .slice ga L.sigs.length gc, .slice ba L.bals.length bc] 28) = W := ⟨_, rfl⟩
  rw [hW] at b0 hh hx hs0
  have HW := Lib.hid hW
  have B0 := Lib.hid b0
  have HX := Lib.hid hx
  have HS := Lib.hid hs0
  have HH := Lib.hid hh
  have HD := Lib.hid (fun w' (b : Below W.heap.size W w') => deb_next (deb_next hd b0) b)
  have HF := Lib.hid hfi
  have HNL := Lib.hid h.name
  clear h hh b0 hx hW hd hfi
  unfold layV
  have HCNT := Lib.hid (lines_count L)
  obtain ⟨all, hall⟩ : ∃ all, linesOf L = all := ⟨_, rfl⟩
  have HSE := Lib.hid (fun i s (h : L.secs[i]? = some s) => at_sec h)
  have HEL := Lib.hid (fun i s (h : L.els[i]? = some s) => at_el h)
  have HJT := Lib.hid (fun i s (h : L.joints[i]? = some s) => at_jt h)
  have HSG := Lib.hid (fun i s (h : L.sigs[i]? = some s) => at_sg h)
  have HBL := Lib.hid (fun i s (h : L.bals[i]? = some s) => at_bl h)
  rw [hall] at HCNT HSE HEL HJT HSG HBL
  have HT1 : Hid (all.take (1 + 0) = [[kLay, L.name]]) := by rw [← hall]; rfl
  rw [hall]
  obtain ⟨i0, hi, hz0, hz1, hz2⟩ := info_parts infoL
  have HI0 := Lib.hid hi
  have HZ0 := Lib.hid hz0
  have HZ1 := Lib.hid hz1
  have HZ2 := Lib.hid hz2
  have HN5 := Lib.hid hn5
  clear hi hz0 hz1 hz2 hall hn5
  have HST : Hid (∀ q, W.heap.size = q → OwnL W.heap.size ((W.alloc (.cells #[.string ⟨#[108, 97, 121, 111, 117, 116]⟩, .string (bs L.name)] 9)).alloc (.cells #[.slice (some ⟨q, 0, none⟩) 2 2] 22)) (.slice (some ⟨q + 1, 0, none⟩) 1 1) [[kLay, L.name]] none ∧ Below W.heap.size W ((W.alloc (.cells #[.string ⟨#[108, 97, 121, 111, 117, 116]⟩, .string (bs L.name)] 9)).alloc (.cells #[.slice (some ⟨q, 0, none⟩) 2 2] 22))) := by
    rintro q rfl
    exact ⟨own_start (w := W) (B := W.heap.size) (Nat.le_refl _) [kLay, L.name] (T := 9) (cs := #[.string (bs kLay), .string (bs L.name)]) (n := 2) rfl rfl (by unfold maxLen; omega) (pair_short (by decide) HNL.out), ((Below.refl W.heap.size W).alloc (Nat.le_refl _) _).alloc (by simp) _⟩
  have HZW := Lib.hid (show W.heap.size = w.heap.size + 1 by rw [← HW.out]; simp)
  go_enter Tryz.func18, Tryz.ntmps18
  go_wp2_with fail
  rw [HW.out]
  obtain ⟨x0, x1, x2, x3, x4, x5⟩ := HX.out
  go_wp2_with fail
  go_loopw [3, 21] (fun vo vi wr => PRel W all (1) L.secs.length vo vi wr) (fun _ vi _ => L.secs.length - (RowKit.intOf vi).toNat)
  case atStart => exact ⟨0, rfl, Nat.zero_le _, by rw [HT1.out]; exact (HST.out _ HZW.out).1, (HST.out _ HZW.out).2⟩
  case round =>
    obtain ⟨i, rfl, hi, ho, hb⟩ := hrel
    obtain ⟨wo1, rfl⟩ : ∃ x : World, x = wr := ⟨_, rfl⟩
    obtain ⟨ls1, hls⟩ : ∃ ls, all.take (1 + i) = ls := ⟨_, rfl⟩
    rw [hls] at ho
    skip
    have HLS := Lib.hid hls
    obtain ⟨ao, co, rfl⟩ := ownL_shape ho
    have HO := Lib.hid ho
    have HB := Lib.hid hb
    clear ho hb hls x0 x1 x2 x3 x4 x5
    obtain ⟨x0, x1, x2, x3, x4, x5⟩ := HX.out.next HB.out HS.out
    by_cases hl : i < L.secs.length
    · have hlt : (i : Int) < (L.secs.length : Int) := by omega
      have HLE : Hid (ls1.length ≤ 200000) := by
        show _ ≤ _
        have := HN5.out
        rw [← HLS.out, List.length_take, HCNT.out]
        omega
      obtain ⟨s, hs⟩ := at_lt hl
      obtain ⟨a, cap, he, _, hsc⟩ := HH.out.sn
      cases he
      obtain ⟨b, off, rfl, c0⟩ := hsc wo1 HB.out i s hs
      have HSL := Lib.hid (HH.out.secs.2 s (List.mem_of_getElem? hs))
      have HTK := Lib.hid (take_line (HSE.out i s hs))
      rw [HLS.out] at HTK
      have HFL := Lib.hid (fresh_line [kSec, s] (w := wo1) (T := 9) (cs := #[.string (bs kSec), .string (bs s)]) (n := 2) rfl rfl (by unfold maxLen; omega) (pair_short (by decide) HSL.out))
      have HB2 := Lib.hid ((Below.refl wo1.heap.size wo1).alloc (Nat.le_refl _) (.cells #[.string (bs kSec), .string (bs s)] 9))
      obtain ⟨xs, h1, h2, h3⟩ := HO.out.next HB2.out
      have H1 := Lib.hid h1
      have H3 := Lib.hid h3
      clear hs hsc h1 h2 h3
      go_wp2_with (at_builtin; refine wpList_append_own_at _ rfl (.tmp 25) (.tmp 28) 39 rfl W.heap.size 22 i0 (.slice none 0 0) 1 24 Tryz.underlying39 HI0.out HZ0.out HZ1.out HZ2.out rfl (by decide) _ _ _ rfl (H1.out.alloc _) ⟨wo1.heap.size + 1, 0, none⟩ 1 1 [.slice (some ⟨wo1.heap.size, 0, none⟩) 2 2] rfl rfl (cell_two_new _ _ _ _) (by intro u hu; simp at hu; subst hu; rfl) (by have := HLE.out; unfold maxLen; omega) (by have := HLE.out; omega) (by have := HB.out.size; simp; omega) ?_; intro v1 w4 h1own hg1 _ hblk; have R1 := Lib.hid h1own; have R2 := Lib.hid hg1; have R3 := Lib.hid hblk; clear h1own hg1 hblk)
      go_roundw
      case rel => exact ⟨i + 1, by simp, hl, by
        rw [← Nat.add_assoc, HTK.out]
        exact ownL_push (strs_off (fun g hg => (own_lt HO.out g hg).2) HFL.out) R1.out H3.out R2.out R3.out, grown_end (bel_next HB.out HB2.out) (fun g hg => (own_lt HO.out g hg).1) R2.out⟩
      case measure => simp [RowKit.intOf]; omega
    · obtain rfl : i = L.secs.length := by omega
      go_wp2_with fail
      go_loopw [3, 34] (fun vo vi wr => PRel W all (1 + L.secs.length) L.els.length vo vi wr) (fun _ vi _ => L.els.length - (RowKit.intOf vi).toNat)
      case atStart => exact ⟨0, rfl, Nat.zero_le _, by rw [Nat.add_zero, HLS.out]; exact HO.out, HB.out⟩
      case round =>
        obtain ⟨i, rfl, hi, ho, hb⟩ := hrel
        obtain ⟨wo2, rfl⟩ : ∃ x : World, x = wr := ⟨_, rfl⟩
        obtain ⟨ls2, hls⟩ : ∃ ls, all.take (1 + L.secs.length + i) = ls := ⟨_, rfl⟩
        rw [hls] at ho
        clear HLS HO HB
        have HLS := Lib.hid hls
        obtain ⟨ao, co, rfl⟩ := ownL_shape ho
        have HO := Lib.hid ho
        have HB := Lib.hid hb
        clear ho hb hls x0 x1 x2 x3 x4 x5
        obtain ⟨x0, x1, x2, x3, x4, x5⟩ := HX.out.next HB.out HS.out
        by_cases hl : i < L.els.length
        · have hlt : (i : Int) < (L.els.length : Int) := by omega
          have HLE : Hid (ls2.length ≤ 200000) := by
            show _ ≤ _
            have := HN5.out
            rw [← HLS.out, List.length_take, HCNT.out]
            omega
          obtain ⟨x, hx⟩ := at_lt hl
          obtain ⟨a, cap, he, _, hsc⟩ := HH.out.el
          cases he
          obtain ⟨b, off, rfl, c0, c1, c2, c3, c4, c5, c6⟩ := hsc wo2 HB.out i x hx
          have HTK := Lib.hid (take_line (HEL.out i x hx))
          rw [HLS.out] at HTK
          have HEL2 := Lib.hid (fun w' (b : Below W.heap.size W w') => elline_any L x w' (HH.out.next b) (HD.out _ b) HF.out (List.mem_of_getElem? hx))
          unfold layV elV at HEL2
          have HWE : Hid (∀ W9, wo2.alloc (.cells #[.string (bs x.name), .int .i64 x.kind, .int .i64 x.len, .int .i64 x.grade, .int .i64 x.speed, .int .i64 x.slow, .int .i64 x.sec] 45) = W9 → Below wo2.heap.size wo2 W9 ∧ (W9.cell? ⟨wo2.heap.size, 0, none⟩ = some (.string (bs x.name)) ∧ W9.cell? ⟨wo2.heap.size, 1, none⟩ = some (.int .i64 x.kind) ∧ W9.cell? ⟨wo2.heap.size, 2, none⟩ = some (.int .i64 x.len) ∧ W9.cell? ⟨wo2.heap.size, 3, none⟩ = some (.int .i64 x.grade) ∧ W9.cell? ⟨wo2.heap.size, 4, none⟩ = some (.int .i64 x.speed) ∧ W9.cell? ⟨wo2.heap.size, 5, none⟩ = some (.int .i64 x.slow) ∧ W9.cell? ⟨wo2.heap.size, 6, none⟩ = some (.int .i64 x.sec)) ∧ wo2.heap.size < W9.heap.size) := by
            rintro W9 rfl
            refine ⟨(Below.refl _ _).alloc (Nat.le_refl _) _, ⟨?_, ?_, ?_, ?_, ?_, ?_, ?_⟩, by simp⟩
            all_goals
              rw [World.cell?_alloc_at _ _ _ _ rfl]
              rfl
          obtain ⟨nm, kd, ln, gr, sp, sl, sct⟩ := x
          simp only at c0 c1 c2 c3 c4 c5 c6 HWE HEL2
          obtain ⟨line, hline⟩ : ∃ l, elL L ⟨nm, kd, ln, gr, sp, sl, sct⟩ = l := ⟨_, rfl⟩
          rw [hline] at HTK HEL2
          clear hline hx hsc
          obtain ⟨W9, hW9⟩ : ∃ W9, wo2.alloc (.cells #[.string (bs nm), .int .i64 kd, .int .i64 ln, .int .i64 gr, .int .i64 sp, .int .i64 sl, .int .i64 sct] 45) = W9 := ⟨_, rfl⟩
          obtain ⟨bw9, ⟨e0, e1, e2, e3, e4, e5, e6⟩, lt9⟩ := HWE.out W9 hW9
          have BW9 := Lib.hid bw9
          have LT9 := Lib.hid lt9
          obtain ⟨y0, y1, y2, y3, y4, y5⟩ := HX.out.next (bel_next HB.out bw9) HS.out
          clear bw9 lt9 HWE
          go_wp2_with fail
          clear hW9
          refine (HEL2.out _ (bel_next HB.out BW9.out)).mono ?_
          rintro e w4 ⟨v4, rfl, ⟨va, vn, vc, rfl⟩, hs4, b4⟩
          have S4 := Lib.hid hs4
          have B4 := Lib.hid (bel_next BW9.out b4)
          clear hs4 b4
          obtain ⟨xs, h1, h2, h3⟩ := HO.out.next B4.out
          have H1 := Lib.hid h1
          have H3 := Lib.hid h3
          clear h1 h2 h3
          go_wp2_with (at_builtin; refine wpList_append_own_at _ rfl (.tmp 38) (.tmp 42) 39 rfl W.heap.size 22 i0 (.slice none 0 0) 1 24 Tryz.underlying39 HI0.out HZ0.out HZ1.out HZ2.out rfl (by decide) _ _ _ rfl (H1.out.alloc _) ⟨w4.heap.size, 0, none⟩ 1 1 [.slice va vn vc] rfl rfl (cell_one_new _ _ _) (by intro u hu; simp at hu; subst hu; rfl) (by have := HLE.out; unfold maxLen; omega) (by have := HLE.out; omega) (by have := HB.out.size; have := B4.out.size; simp; omega) ?_; intro v1 w5 h1own hg1 _ hblk; have R1 := Lib.hid h1own; have R2 := Lib.hid hg1; have R3 := Lib.hid hblk; clear h1own hg1 hblk)
          go_roundw
          case rel => exact ⟨i + 1, by simp, hl, by
            rw [← Nat.add_assoc, HTK.out]
            exact ownL_push (strs_off (fun g hg => Nat.lt_trans (own_lt HO.out g hg).2 LT9.out) S4.out) R1.out H3.out R2.out R3.out, grown_end (bel_next HB.out B4.out) (fun g hg => (own_lt HO.out g hg).1) R2.out⟩
          case measure => simp [RowKit.intOf]; omega
        · obtain rfl : i = L.els.length := by omega
          go_wp2_with fail
          go_loopw [3, 48] (fun vo vi wr => PRel W all (1 + L.secs.length + L.els.length) L.joints.length vo vi wr) (fun _ vi _ => L.joints.length - (RowKit.intOf vi).toNat)
          case atStart => exact ⟨0, rfl, Nat.zero_le _, by rw [Nat.add_zero, HLS.out]; exact HO.out, HB.out⟩
          case round =>
            obtain ⟨i, rfl, hi, ho, hb⟩ := hrel
            obtain ⟨wo3, rfl⟩ : ∃ x : World, x = wr := ⟨_, rfl⟩
            obtain ⟨ls3, hls⟩ : ∃ ls, all.take (1 + L.secs.length + L.els.length + i) = ls := ⟨_, rfl⟩
            rw [hls] at ho
            clear HLS HO HB
            have HLS := Lib.hid hls
            obtain ⟨ao, co, rfl⟩ := ownL_shape ho
            have HO := Lib.hid ho
            have HB := Lib.hid hb
            clear ho hb hls x0 x1 x2 x3 x4 x5
            obtain ⟨x0, x1, x2, x3, x4, x5⟩ := HX.out.next HB.out HS.out
            by_cases hl : i < L.joints.length
            · have hlt : (i : Int) < (L.joints.length : Int) := by omega
              have HLE : Hid (ls3.length ≤ 200000) := by
                show _ ≤ _
                have := HN5.out
                rw [← HLS.out, List.length_take, HCNT.out]
                omega
              obtain ⟨x, hx⟩ := at_lt hl
              obtain ⟨a, cap, he, _, hsc⟩ := HH.out.jt
              cases he
              obtain ⟨b, off, rfl, c0, c1, c2, c3⟩ := hsc wo3 HB.out i x hx
              have HTK := Lib.hid (take_line (HJT.out i x hx))
              rw [HLS.out] at HTK
              have hmx := List.mem_of_getElem? hx
              obtain ⟨⟨i1, e1, q1, r1⟩, ⟨i2, e2, q2, r2⟩⟩ := HF.out.jel x hmx
              obtain ⟨⟨m1, m2⟩, ⟨m3, m4⟩⟩ := HF.out.jnum x hmx
              obtain ⟨⟨p1, s1⟩, ⟨p2, s2⟩⟩ := x
              simp only at c0 c1 c2 c3 q1 q2 m1 m2 m3 m4
              subst q1 q2
              have HN1 := Lib.hid (fun w' (b : Below W.heap.size W w') => endw_any L i1 e1 s1 w' (HH.out.next b) (HD.out _ b) r1 (by omega) (by omega))
              have HN2 := Lib.hid (fun w' (b : Below W.heap.size W w') => endw_any L i2 e2 s2 w' (HH.out.next b) (HD.out _ b) r2 (by omega) (by omega))
              unfold layV at HN1 HN2
              have HDD := Lib.hid (show jtL L (((i1 : Int), s1), ((i2 : Int), s2)) = [kJnt] ++ ([e1.name, itoa s1] ++ [e2.name, itoa s2]) by
                unfold jtL
                rw [show elName L (i1 : Int) = _ from el_name' r1, show elName L (i2 : Int) = _ from el_name' r2]
                rfl)
              rw [HDD.out] at HTK
              obtain ⟨t1, ht1⟩ : ∃ t, itoa s1 = t := ⟨_, rfl⟩
              obtain ⟨t2, ht2⟩ : ∃ t, itoa s2 = t := ⟨_, rfl⟩
              obtain ⟨n1, hn1⟩ : ∃ t, e1.name = t := ⟨_, rfl⟩
              obtain ⟨n2, hn2'⟩ : ∃ t, e2.name = t := ⟨_, rfl⟩
              rw [ht1, hn1] at HN1
              rw [ht2, hn2'] at HN2
              rw [ht1, ht2, hn1, hn2'] at HTK
              obtain ⟨lw, hlw⟩ : ∃ l, [kJnt] ++ ([n1, t1] ++ [n2, t2]) = l := ⟨_, rfl⟩
              rw [hlw] at HTK
              have HCC := Lib.hid (fun (wz : World) (va vb vc : Value) (q : Nat) (hq : wz.heap.size = q) (k1 : Strs (In wz) wz va [kJnt]) (k2 : Strs (In wz) wz vb [n1, t1]) (k3 : Strs (In wz) wz vc [n2, t2]) => three_at (T := 22) wz q hq k1 k2 k3 (by simp) (by simp) (by simp) (by simp))
              rw [hlw] at HCC
              have HMK := Lib.hid (fun (wz : World) (q : Nat) (hq : wz.heap.size = q) => strs_at (T := 9) wz q hq [kJnt] (cs := #[.string ⟨#[106, 111, 105, 110, 116]⟩]) 1 rfl rfl (by unfold maxLen; omega) (by intro s hs; rw [List.mem_singleton.1 hs]; decide))
              have HAL := Lib.hid (fun (wz : World) => (Below.refl wz.heap.size wz).alloc (Nat.le_refl _) (.cells #[.string ⟨#[106, 111, 105, 110, 116]⟩] 9))
              have HA3 := Lib.hid (fun (wz : World) (va vb vc : Value) => (Below.refl wz.heap.size wz).alloc (Nat.le_refl _) (.cells #[va, vb, vc] 22))
              clear ht1 ht2 hn1 hn2' hlw hx hsc hmx HDD m1 m2 m3 m4 r1 r2
              have qa := (Below.refl wo3.heap.size wo3).alloc (Nat.le_refl _) (.cells #[.int .i64 (i1 : Int), .int .i64 s1, .int .i64 (i2 : Int), .int .i64 s2] 49)
              have HW3 : Hid (∀ W3, wo3.alloc (.cells #[.int .i64 (i1 : Int), .int .i64 s1, .int .i64 (i2 : Int), .int .i64 s2] 49) = W3 → Below wo3.heap.size wo3 W3 ∧ W3.heap.size = wo3.heap.size + 1 ∧ ∀ w', Off (.slice ao ls3.length co) W3 w' → (w'.cell? ⟨w.heap.size, 0, none⟩ = some (.string (bs L.name)) ∧ w'.cell? ⟨w.heap.size, 1, none⟩ = some (.slice sa L.secs.length sc) ∧ w'.cell? ⟨w.heap.size, 2, none⟩ = some (.slice ea L.els.length ec) ∧ w'.cell? ⟨w.heap.size, 3, none⟩ = some (.slice (some ⟨b, off, none⟩) L.joints.length jc) ∧ w'.cell? ⟨w.heap.size, 4, none⟩ = some (.slice ga L.sigs.length gc) ∧ w'.cell? ⟨w.heap.size, 5, none⟩ = some (.slice ba L.bals.length bc) ∧ w'.cell? ⟨wo3.heap.size, 0, none⟩ = some (.int .i64 (i1 : Int)) ∧ w'.cell? ⟨wo3.heap.size, 1, none⟩ = some (.int .i64 s1) ∧ w'.cell? ⟨wo3.heap.size, 2, none⟩ = some (.int .i64 (i2 : Int)) ∧ w'.cell? ⟨wo3.heap.size, 3, none⟩ = some (.int .i64 s2))) := by
                rintro W3 rfl
                refine ⟨qa, by simp, fun w' ho => ?_⟩
                have hsz : (wo3.alloc (.cells #[.int .i64 (i1 : Int), .int .i64 s1, .int .i64 (i2 : Int), .int .i64 s2] 49)).heap.size = wo3.heap.size + 1 := by simp
                have hne : ∀ k, (k < W.heap.size ∨ wo3.heap.size ≤ k) → some k ≠ (Value.slice ao ls3.length co).ownBlock := by
                  intro k hk e
                  have := own_lt HO.out k e.symm
                  omega
                have hbx : w.heap.size < W.heap.size := HS.out
                have hbs := HB.out.size
                obtain ⟨y0, y1, y2, y3, y4, y5⟩ := HX.out.next (bel_next HB.out qa) HS.out
                have n0 := hne w.heap.size (.inl hbx)
                have n1 := hne wo3.heap.size (.inr (Nat.le_refl _))
                skip
                exact ⟨(ho.cell (by show w.heap.size < _; omega) n0).trans y0, (ho.cell (by show w.heap.size < _; omega) n0).trans y1, (ho.cell (by show w.heap.size < _; omega) n0).trans y2, (ho.cell (by show w.heap.size < _; omega) n0).trans y3, (ho.cell (by show w.heap.size < _; omega) n0).trans y4, (ho.cell (by show w.heap.size < _; omega) n0).trans y5, (ho.cell (by show wo3.heap.size < _; omega) n1).trans (by simp [go_sem]), (ho.cell (by show wo3.heap.size < _; omega) n1).trans (by simp [go_sem]), (ho.cell (by show wo3.heap.size < _; omega) n1).trans (by simp [go_sem]), (ho.cell (by show wo3.heap.size < _; omega) n1).trans (by simp [go_sem])⟩
              clear qa
              go_wp2_with fail
              obtain ⟨W3, hW3⟩ : ∃ W3, wo3.alloc (.cells #[.int .i64 (i1 : Int), .int .i64 s1, .int .i64 (i2 : Int), .int .i64 s2] 49) = W3 := ⟨_, rfl⟩
              rw [hW3]
              obtain ⟨dw3, hz3, hk3⟩ := HW3.out W3 hW3
              have D3 := Lib.hid dw3
              have HK := Lib.hid hk3
              have DW := Lib.hid (bel_next HB.out dw3)
              have HZ3 := Lib.hid (show ∀ g, (Value.slice ao ls3.length co).ownBlock = some g → g < W3.heap.size by
                intro g hg
                have := (own_lt HO.out g hg).2
                omega)
              clear dw3 hz3 hk3 HW3 x0 x1 x2 x3 x4 x5 c0 c1 c2 c3
              obtain ⟨x0, x1, x2, x3, x4, x5, y0, y1, y2, y3⟩ := HK.out W3 (fun _ _ _ => rfl)
              clear hW3
              go_region_held3 (fun w' => w'.cell? ⟨w.heap.size, 0, none⟩ = some (.string (bs L.name)) ∧ w'.cell? ⟨w.heap.size, 1, none⟩ = some (.slice sa L.secs.length sc) ∧ w'.cell? ⟨w.heap.size, 2, none⟩ = some (.slice ea L.els.length ec) ∧ w'.cell? ⟨w.heap.size, 3, none⟩ = some (.slice (some ⟨b, off, none⟩) L.joints.length jc) ∧ w'.cell? ⟨w.heap.size, 4, none⟩ = some (.slice ga L.sigs.length gc) ∧ w'.cell? ⟨w.heap.size, 5, none⟩ = some (.slice ba L.bals.length bc) ∧ w'.cell? ⟨wo3.heap.size, 0, none⟩ = some (.int .i64 (i1 : Int)) ∧ w'.cell? ⟨wo3.heap.size, 1, none⟩ = some (.int .i64 s1) ∧ w'.cell? ⟨wo3.heap.size, 2, none⟩ = some (.int .i64 (i2 : Int)) ∧ w'.cell? ⟨wo3.heap.size, 3, none⟩ = some (.int .i64 s2))
                (first
                  | with_reducible exact K7.out
                  | with_reducible exact HK.out _ (off_below (bel_next E6.out (Below.alloc (Below.refl _ _) (Nat.le_refl _) _)))
                  | with_reducible exact HK.out _ (off_below E6.out)
                  | with_reducible exact HK.out _ (off_below (bel_next E5.out ((HAL.out _).alloc (HAL.out _).size _)))
                  | with_reducible exact HK.out _ (off_below (bel_next E5.out (HA3.out _ _ _ _)))
                  | with_reducible exact HK.out _ (off_below (bel_next E5.out (HAL.out _)))
                  | with_reducible exact HK.out _ (off_below E5.out)
                  | with_reducible exact HK.out _ (off_below (bel_next E4.out (HAL.out _)))
                  | with_reducible exact HK.out _ (off_below E4.out)
                  | go_keep)
                (first
                  | (go_at_call 52; (with_reducible refine Calls.mono (HN1.out _ (bel_next DW.out (HAL.out _)).drew) ?_); rintro e w4 ⟨v4, rfl, ⟨va, vn, vc, rfl⟩, hs4, b4⟩; have S4 := Lib.hid (FreshOut.strs hs4); have J4 := Lib.hid (strs_next (strs_drew (HMK.out _ _ rfl)) b4); have E4 := Lib.hid (bel_next (HAL.out _).drew b4); clear b4 hs4)
                  | (go_at_call 52; (with_reducible refine Calls.mono (HN1.out _ DW.out.drew) ?_); rintro e w4 ⟨v4, rfl, ⟨va, vn, vc, rfl⟩, hs4, b4⟩; have S4 := Lib.hid (FreshOut.strs hs4); have E4 := Lib.hid (Pend.bel_drew b4); clear b4 hs4)
                  | (go_at_call 52; (with_reducible refine Calls.mono (HN2.out _ (bel_next DW.out (bel_next E4.out (HAL.out _)))) ?_); rintro e w5 ⟨v5, rfl, ⟨vd, vm, vf, rfl⟩, hs5, b5⟩; have S5 := Lib.hid (FreshOut.strs hs5); have J5 := Lib.hid (strs_next (HMK.out _ _ rfl) b5); have T5 := Lib.hid (strs_next S4.out (bel_next (HAL.out _) b5)); have E5 := Lib.hid (bel_next E4.out (bel_next (HAL.out _) b5)); clear b5 hs5)
                  | (go_at_call 52; (with_reducible refine Calls.mono (HN2.out _ (bel_next DW.out E4.out)) ?_); rintro e w5 ⟨v5, rfl, ⟨vd, vm, vf, rfl⟩, hs5, b5⟩; have S5 := Lib.hid (FreshOut.strs hs5); have J5 := Lib.hid (strs_next J4.out b5); have T5 := Lib.hid (strs_next S4.out b5); have E5 := Lib.hid (bel_next E4.out b5); clear b5 hs5)
                  | (go_at_call 52; (with_reducible refine Calls.mono (HN2.out _ (bel_next DW.out E4.out)) ?_); rintro e w5 ⟨v5, rfl, ⟨vd, vm, vf, rfl⟩, hs5, b5⟩; have S5 := Lib.hid (FreshOut.strs hs5); have T5 := Lib.hid (strs_next S4.out b5); have E5 := Lib.hid (bel_next E4.out b5); clear b5 hs5)
                  | (go_at_call 51; (with_reducible refine Calls.mono (HCC.out _ _ _ _ _ rfl J5.out T5.out S5.out) ?_); rintro e w6 ⟨v6, rfl, ⟨vg1, vg2, vg3, rfl⟩, hs6, b6⟩; have S6 := Lib.hid (from_low (bel_next E5.out (HA3.out _ _ _ _)) hs6); have E6 := Lib.hid (bel_next (bel_next E5.out (HA3.out _ _ _ _)) b6); clear b6 hs6)
                  | (go_at_call 51; (with_reducible refine Calls.mono (HCC.out _ _ _ _ (w5.heap.size + 1) (by simp) (HMK.out w5 _ rfl) (strs_next T5.out (HAL.out w5)) (strs_next S5.out (HAL.out w5))) ?_); rintro e w6 ⟨v6, rfl, ⟨vg1, vg2, vg3, rfl⟩, hs6, b6⟩; have S6 := Lib.hid (from_low (bel_next E5.out (bel_next (HAL.out w5) (HA3.out _ _ _ _))) hs6); have E6 := Lib.hid (bel_next (bel_next E5.out (bel_next (HAL.out w5) (HA3.out _ _ _ _))) b6); clear b6 hs6)
                  | (refine step_line rfl (.tmp 52) (.tmp 64) 39 rfl W i0 Tryz.underlying39 HI0.out HZ0.out HZ1.out HZ2.out rfl rfl rfl rfl (HO.out.next (bel_next D3.out E6.out)) (strs_off HZ3.out S6.out) (bel_next DW.out E6.out) HLE.out ?_; intro v7 w7 O7 F7 G7; have K7 := Lib.hid (HK.out _ (Off.trans (off_below E6.out) E6.out.size G7))))
              all_goals
                have O8 := Lib.hid O7
                have B8 := Lib.hid F7
                clear O7 F7 G7 x0 x1 x2 x3 x4 x5 y0 y1 y2 y3
                go_wp2_with fail
                go_roundw
                case rel => exact ⟨i + 1, by simp, hl, by rw [← Nat.add_assoc, HTK.out]; exact O8.out, B8.out⟩
                case measure => simp [RowKit.intOf]; omega
            · obtain rfl : i = L.joints.length := by omega
              go_wp2_with fail
              go_loopw [3, 70] (fun vo vi wr => PRel W all (1 + L.secs.length + L.els.length + L.joints.length) L.sigs.length vo vi wr) (fun _ vi _ => L.sigs.length - (RowKit.intOf vi).toNat)
              case atStart => exact ⟨0, rfl, Nat.zero_le _, by rw [Nat.add_zero, HLS.out]; exact HO.out, HB.out⟩
              case round =>
                obtain ⟨i, rfl, hi, ho, hb⟩ := hrel
                obtain ⟨wo4, rfl⟩ : ∃ x : World, x = wr := ⟨_, rfl⟩
                obtain ⟨ls4, hls⟩ : ∃ ls, all.take (1 + L.secs.length + L.els.length + L.joints.length + i) = ls := ⟨_, rfl⟩
                rw [hls] at ho
                clear HLS HO HB
                have HLS := Lib.hid hls
                obtain ⟨ao, co, rfl⟩ := ownL_shape ho
                have HO := Lib.hid ho
                have HB := Lib.hid hb
                clear ho hb hls x0 x1 x2 x3 x4 x5
                obtain ⟨x0, x1, x2, x3, x4, x5⟩ := HX.out.next HB.out HS.out
                by_cases hl : i < L.sigs.length
                · have hlt : (i : Int) < (L.sigs.length : Int) := by omega
                  have HLE : Hid (ls4.length ≤ 200000) := by
                    show _ ≤ _
                    have := HN5.out
                    rw [← HLS.out, List.length_take, HCNT.out]
                    omega
                  obtain ⟨x, hx⟩ := at_lt hl
                  obtain ⟨a, cap, he, _, hsc⟩ := HH.out.sg
                  cases he
                  obtain ⟨b, off, rfl, c0, c1, c2, c3⟩ := hsc wo4 HB.out i x hx
                  have HTK := Lib.hid (take_line (HSG.out i x hx))
                  rw [HLS.out] at HTK
                  have hmx := List.mem_of_getElem? hx
                  obtain ⟨i1, e1, q1, r1⟩ := HF.out.gel x hmx
                  obtain ⟨⟨m1, m2⟩, ⟨m3, m4⟩⟩ := HF.out.gnum x hmx
                  have hgn := HH.out.sigName x hmx
                  obtain ⟨gn, ⟨p1, sd⟩, ov⟩ := x
                  simp only at c0 c1 c2 c3 q1 m1 m2 m3 m4 hgn
                  subst q1
                  have HN1 := Lib.hid (fun w' (b : Below W.heap.size W w') => endw_any L i1 e1 sd w' (HH.out.next b) (HD.out _ b) r1 (by omega) (by omega))
                  have HM1 := Lib.hid (fun w' (b : Below W.heap.size W w') => format_any ov w' (by omega) (by omega) (HD.out _ b))
                  unfold layV at HN1
                  have HDD := Lib.hid (show sgL L ⟨gn, ((i1 : Int), sd), ov⟩ = [kSig, gn] ++ ([e1.name, itoa sd] ++ [itoa ov]) by
                    unfold sgL
                    simp only
                    rw [show elName L (i1 : Int) = _ from el_name' r1]
                    rfl)
                  rw [HDD.out] at HTK
                  have hov : (itoa ov).length ≤ maxLen := itoa_max (by omega) (by omega)
                  obtain ⟨t1, ht1⟩ : ∃ t, itoa sd = t := ⟨_, rfl⟩
                  obtain ⟨t2, ht2⟩ : ∃ t, itoa ov = t := ⟨_, rfl⟩
                  obtain ⟨n1, hn1⟩ : ∃ t, e1.name = t := ⟨_, rfl⟩
                  rw [ht1, hn1] at HN1
                  rw [ht2] at HM1 hov
                  rw [ht1, ht2, hn1] at HTK
                  obtain ⟨lw, hlw⟩ : ∃ l, [kSig, gn] ++ ([n1, t1] ++ [t2]) = l := ⟨_, rfl⟩
                  rw [hlw] at HTK
                  have HCC := Lib.hid (fun (wz : World) (va vb vc : Value) (q : Nat) (hq : wz.heap.size = q) (k1 : Strs (In wz) wz va [kSig, gn]) (k2 : Strs (In wz) wz vb [n1, t1]) (k3 : Strs (In wz) wz vc [t2]) => three_at (T := 22) wz q hq k1 k2 k3 (by simp) (by simp) (by simp) (by simp))
                  rw [hlw] at HCC
                  have HMK := Lib.hid (fun (wz : World) (q : Nat) (hq : wz.heap.size = q) => strs_at (T := 9) wz q hq [kSig, gn] (cs := #[.string ⟨#[115, 105, 103, 110, 97, 108]⟩, .string (bs gn)]) 2 rfl rfl (by unfold maxLen; omega) (pair_short (by decide) hgn))
                  have HMO := Lib.hid (fun (wz : World) (q : Nat) (hq : wz.heap.size = q) => strs_at (T := 9) wz q hq [t2] (cs := #[.string (bs t2)]) 1 rfl rfl (by unfold maxLen; omega) (by intro s hs; rw [List.mem_singleton.1 hs]; exact hov))
                  have HAL := Lib.hid (fun (wz : World) => (Below.refl wz.heap.size wz).alloc (Nat.le_refl _) (.cells #[.string ⟨#[115, 105, 103, 110, 97, 108]⟩, .string (bs gn)] 9))
                  have HAO := Lib.hid (fun (wz : World) => (Below.refl wz.heap.size wz).alloc (Nat.le_refl _) (.cells #[.string (bs t2)] 9))
                  have HA3 := Lib.hid (fun (wz : World) (va vb vc : Value) => (Below.refl wz.heap.size wz).alloc (Nat.le_refl _) (.cells #[va, vb, vc] 22))
                  clear ht1 ht2 hn1 hlw hx hsc hmx HDD m1 m2 m3 m4 r1 hgn hov
                  have qa := (Below.refl wo4.heap.size wo4).alloc (Nat.le_refl _) (.cells #[.string (bs gn), .int .i64 (i1 : Int), .int .i64 sd, .int .i64 ov] 51)
                  have HW3 : Hid (∀ W3, wo4.alloc (.cells #[.string (bs gn), .int .i64 (i1 : Int), .int .i64 sd, .int .i64 ov] 51) = W3 → Below wo4.heap.size wo4 W3 ∧ W3.heap.size = wo4.heap.size + 1 ∧ ∀ w', Off (.slice ao ls4.length co) W3 w' → (w'.cell? ⟨w.heap.size, 0, none⟩ = some (.string (bs L.name)) ∧ w'.cell? ⟨w.heap.size, 1, none⟩ = some (.slice sa L.secs.length sc) ∧ w'.cell? ⟨w.heap.size, 2, none⟩ = some (.slice ea L.els.length ec) ∧ w'.cell? ⟨w.heap.size, 3, none⟩ = some (.slice ja L.joints.length jc) ∧ w'.cell? ⟨w.heap.size, 4, none⟩ = some (.slice (some ⟨b, off, none⟩) L.sigs.length gc) ∧ w'.cell? ⟨w.heap.size, 5, none⟩ = some (.slice ba L.bals.length bc) ∧ w'.cell? ⟨wo4.heap.size, 0, none⟩ = some (.string (bs gn)) ∧ w'.cell? ⟨wo4.heap.size, 1, none⟩ = some (.int .i64 (i1 : Int)) ∧ w'.cell? ⟨wo4.heap.size, 2, none⟩ = some (.int .i64 sd) ∧ w'.cell? ⟨wo4.heap.size, 3, none⟩ = some (.int .i64 ov))) := by
                    rintro W3 rfl
                    refine ⟨qa, by simp, fun w' ho => ?_⟩
                    have hsz : (wo4.alloc (.cells #[.string (bs gn), .int .i64 (i1 : Int), .int .i64 sd, .int .i64 ov] 51)).heap.size = wo4.heap.size + 1 := by simp
                    have hne : ∀ k, (k < W.heap.size ∨ wo4.heap.size ≤ k) → some k ≠ (Value.slice ao ls4.length co).ownBlock := by
                      intro k hk e
                      have := own_lt HO.out k e.symm
                      omega
                    have hbx : w.heap.size < W.heap.size := HS.out
                    have hbs := HB.out.size
                    obtain ⟨y0, y1, y2, y3, y4, y5⟩ := HX.out.next (bel_next HB.out qa) HS.out
                    have n0 := hne w.heap.size (.inl hbx)
                    have n1 := hne wo4.heap.size (.inr (Nat.le_refl _))
                    skip
                    exact ⟨(ho.cell (by show w.heap.size < _; omega) n0).trans y0, (ho.cell (by show w.heap.size < _; omega) n0).trans y1, (ho.cell (by show w.heap.size < _; omega) n0).trans y2, (ho.cell (by show w.heap.size < _; omega) n0).trans y3, (ho.cell (by show w.heap.size < _; omega) n0).trans y4, (ho.cell (by show w.heap.size < _; omega) n0).trans y5, (ho.cell (by show wo4.heap.size < _; omega) n1).trans (by simp [go_sem]), (ho.cell (by show wo4.heap.size < _; omega) n1).trans (by simp [go_sem]), (ho.cell (by show wo4.heap.size < _; omega) n1).trans (by simp [go_sem]), (ho.cell (by show wo4.heap.size < _; omega) n1).trans (by simp [go_sem])⟩
                  clear qa
                  go_wp2_with fail
                  obtain ⟨W3, hW3⟩ : ∃ W3, wo4.alloc (.cells #[.string (bs gn), .int .i64 (i1 : Int), .int .i64 sd, .int .i64 ov] 51) = W3 := ⟨_, rfl⟩
                  rw [hW3]
                  obtain ⟨dw3, hz3, hk3⟩ := HW3.out W3 hW3
                  have D3 := Lib.hid dw3
                  have HK := Lib.hid hk3
                  have DW := Lib.hid (bel_next HB.out dw3)
                  have HZ3 := Lib.hid (show ∀ g, (Value.slice ao ls4.length co).ownBlock = some g → g < W3.heap.size by
                    intro g hg
                    have := (own_lt HO.out g hg).2
                    omega)
                  clear dw3 hz3 hk3 HW3 x0 x1 x2 x3 x4 x5 c0 c1 c2 c3
                  obtain ⟨x0, x1, x2, x3, x4, x5, y0, y1, y2, y3⟩ := HK.out W3 (fun _ _ _ => rfl)
                  clear hW3
                  go_region_held3 (fun w' => w'.cell? ⟨w.heap.size, 0, none⟩ = some (.string (bs L.name)) ∧ w'.cell? ⟨w.heap.size, 1, none⟩ = some (.slice sa L.secs.length sc) ∧ w'.cell? ⟨w.heap.size, 2, none⟩ = some (.slice ea L.els.length ec) ∧ w'.cell? ⟨w.heap.size, 3, none⟩ = some (.slice ja L.joints.length jc) ∧ w'.cell? ⟨w.heap.size, 4, none⟩ = some (.slice (some ⟨b, off, none⟩) L.sigs.length gc) ∧ w'.cell? ⟨w.heap.size, 5, none⟩ = some (.slice ba L.bals.length bc) ∧ w'.cell? ⟨wo4.heap.size, 0, none⟩ = some (.string (bs gn)) ∧ w'.cell? ⟨wo4.heap.size, 1, none⟩ = some (.int .i64 (i1 : Int)) ∧ w'.cell? ⟨wo4.heap.size, 2, none⟩ = some (.int .i64 sd) ∧ w'.cell? ⟨wo4.heap.size, 3, none⟩ = some (.int .i64 ov))
                    (first
                      | with_reducible exact K7.out
                      | with_reducible exact HK.out _ (off_below (bel_next E6.out (Below.alloc (Below.refl _ _) (Nat.le_refl _) _)))
                      | with_reducible exact HK.out _ (off_below E6.out)
                      | with_reducible exact HK.out _ (off_below (bel_next E5.out (bel_next (HAL.out _) (bel_next (HAO.out _) (HA3.out _ _ _ _)))))
                      | with_reducible exact HK.out _ (off_below (bel_next E5.out (bel_next (HAO.out _) (bel_next (HAL.out _) (HA3.out _ _ _ _)))))
                      | with_reducible exact HK.out _ (off_below (bel_next E5.out (bel_next (HAO.out _) (HA3.out _ _ _ _))))
                      | with_reducible exact HK.out _ (off_below (bel_next E5.out (bel_next (HAL.out _) (HAO.out _))))
                      | with_reducible exact HK.out _ (off_below (bel_next E5.out (bel_next (HAO.out _) (HAL.out _))))
                      | with_reducible exact HK.out _ (off_below (bel_next E5.out (HAO.out _)))
                      | with_reducible exact HK.out _ (off_below (bel_next E5.out (HAL.out _)))
                      | with_reducible exact HK.out _ (off_below E5.out)
                      | with_reducible exact HK.out _ (off_below (bel_next E4.out (HAL.out _)))
                      | with_reducible exact HK.out _ (off_below E4.out)
                      | go_keep)
                    (first
                      | (go_at_call 52; (with_reducible refine Calls.mono (HN1.out _ (bel_next DW.out (HAL.out _)).drew) ?_); rintro e w4 ⟨v4, rfl, ⟨va, vn, vc, rfl⟩, hs4, b4⟩; have S4 := Lib.hid (FreshOut.strs hs4); have J4 := Lib.hid (strs_next (strs_drew (HMK.out _ _ rfl)) b4); have E4 := Lib.hid (bel_next (HAL.out _).drew b4); clear b4 hs4)
                      | (go_at_call 52; (with_reducible refine Calls.mono (HN1.out _ DW.out.drew) ?_); rintro e w4 ⟨v4, rfl, ⟨va, vn, vc, rfl⟩, hs4, b4⟩; have S4 := Lib.hid (FreshOut.strs hs4); have E4 := Lib.hid (Pend.bel_drew b4); clear b4 hs4)
                      | (go_at_call 53; (with_reducible refine Calls.mono (HM1.out _ (bel_next DW.out (bel_next E4.out (HAL.out _)))) ?_); rintro e w5 ⟨rfl, b5⟩; have J5 := Lib.hid (strs_next (HMK.out _ _ rfl) b5); have T5 := Lib.hid (strs_next S4.out (bel_next (HAL.out _) b5)); have E5 := Lib.hid (bel_next E4.out (bel_next (HAL.out _) b5)); clear b5)
                      | (go_at_call 53; (with_reducible refine Calls.mono (HM1.out _ (bel_next DW.out E4.out)) ?_); rintro e w5 ⟨rfl, b5⟩; have J5 := Lib.hid (strs_next J4.out b5); have T5 := Lib.hid (strs_next S4.out b5); have E5 := Lib.hid (bel_next E4.out b5); clear b5)
                      | (go_at_call 53; (with_reducible refine Calls.mono (HM1.out _ (bel_next DW.out E4.out)) ?_); rintro e w5 ⟨rfl, b5⟩; have T5 := Lib.hid (strs_next S4.out b5); have E5 := Lib.hid (bel_next E4.out b5); clear b5)
                      | (go_at_call 51; (with_reducible refine Calls.mono (HCC.out _ _ _ _ (w5.heap.size + 1) (by simp) (strs_next J5.out (HAO.out w5)) (strs_next T5.out (HAO.out w5)) (HMO.out w5 _ rfl)) ?_); rintro e w6 ⟨v6, rfl, ⟨vg1, vg2, vg3, rfl⟩, hs6, b6⟩; have S6 := Lib.hid (from_low (bel_next E5.out (bel_next (HAO.out w5) (HA3.out _ _ _ _))) hs6); have E6 := Lib.hid (bel_next (bel_next E5.out (bel_next (HAO.out w5) (HA3.out _ _ _ _))) b6); clear b6 hs6)
                      | (go_at_call 51; (with_reducible refine Calls.mono (HCC.out _ _ _ _ (w5.heap.size + 1 + 1) (by simp) (strs_next (HMK.out w5 _ rfl) (HAO.out _)) (strs_next T5.out (bel_next (HAL.out w5) (HAO.out _))) (HMO.out _ (w5.heap.size + 1) (by simp))) ?_); rintro e w6 ⟨v6, rfl, ⟨vg1, vg2, vg3, rfl⟩, hs6, b6⟩; have S6 := Lib.hid (from_low (bel_next E5.out (bel_next (HAL.out w5) (bel_next (HAO.out _) (HA3.out _ _ _ _)))) hs6); have E6 := Lib.hid (bel_next (bel_next E5.out (bel_next (HAL.out w5) (bel_next (HAO.out _) (HA3.out _ _ _ _)))) b6); clear b6 hs6)
                      | (go_at_call 51; (with_reducible refine Calls.mono (HCC.out _ _ _ _ (w5.heap.size + 1 + 1) (by simp) (HMK.out _ (w5.heap.size + 1) (by simp)) (strs_next T5.out (bel_next (HAO.out w5) (HAL.out _))) (strs_next (HMO.out w5 _ rfl) (HAL.out _))) ?_); rintro e w6 ⟨v6, rfl, ⟨vg1, vg2, vg3, rfl⟩, hs6, b6⟩; have S6 := Lib.hid (from_low (bel_next E5.out (bel_next (HAO.out w5) (bel_next (HAL.out _) (HA3.out _ _ _ _)))) hs6); have E6 := Lib.hid (bel_next (bel_next E5.out (bel_next (HAO.out w5) (bel_next (HAL.out _) (HA3.out _ _ _ _)))) b6); clear b6 hs6)
                      | (refine step_line rfl (.tmp 74) (.tmp 88) 39 rfl W i0 Tryz.underlying39 HI0.out HZ0.out HZ1.out HZ2.out rfl rfl rfl rfl (HO.out.next (bel_next D3.out E6.out)) (strs_off HZ3.out S6.out) (bel_next DW.out E6.out) HLE.out ?_; intro v7 w7 O7 F7 G7; have K7 := Lib.hid (HK.out _ (Off.trans (off_below E6.out) E6.out.size G7))))
                  all_goals
                    have O8 := Lib.hid O7
                    have B8 := Lib.hid F7
                    clear O7 F7 G7 x0 x1 x2 x3 x4 x5 y0 y1 y2 y3
                    go_wp2_with fail
                    go_roundw
                    case rel => exact ⟨i + 1, by simp, hl, by rw [← Nat.add_assoc, HTK.out]; exact O8.out, B8.out⟩
                    case measure => simp [RowKit.intOf]; omega
                · obtain rfl : i = L.sigs.length := by omega
                  go_wp2_with fail
                  go_loopw [3, 94] (fun vo vi wr => PRel W all (1 + L.secs.length + L.els.length + L.joints.length + L.sigs.length) L.bals.length vo vi wr) (fun _ vi _ => L.bals.length - (RowKit.intOf vi).toNat)
                  case atStart => exact ⟨0, rfl, Nat.zero_le _, by rw [Nat.add_zero, HLS.out]; exact HO.out, HB.out⟩
                  case round =>
                    obtain ⟨i, rfl, hi, ho, hb⟩ := hrel
                    obtain ⟨wo5, rfl⟩ : ∃ x : World, x = wr := ⟨_, rfl⟩
                    obtain ⟨ls5, hls⟩ : ∃ ls, all.take (1 + L.secs.length + L.els.length + L.joints.length + L.sigs.length + i) = ls := ⟨_, rfl⟩
                    rw [hls] at ho
                    clear HLS HO HB
                    have HLS := Lib.hid hls
                    obtain ⟨ao, co, rfl⟩ := ownL_shape ho
                    have HO := Lib.hid ho
                    have HB := Lib.hid hb
                    clear ho hb hls x0 x1 x2 x3 x4 x5
                    obtain ⟨x0, x1, x2, x3, x4, x5⟩ := HX.out.next HB.out HS.out
                    by_cases hl : i < L.bals.length
                    · have hlt : (i : Int) < (L.bals.length : Int) := by omega
                      have HLE : Hid (ls5.length ≤ 200000) := by
                        show _ ≤ _
                        have := HN5.out
                        rw [← HLS.out, List.length_take, HCNT.out]
                        omega
                      obtain ⟨x, hx⟩ := at_lt hl
                      obtain ⟨a, cap, he, _, hsc⟩ := HH.out.bl
                      cases he
                      obtain ⟨b, off, rfl, c0, c1, c2⟩ := hsc wo5 HB.out i x hx
                      have HTK := Lib.hid (take_line (HBL.out i x hx))
                      rw [HLS.out] at HTK
                      have hmx := List.mem_of_getElem? hx
                      obtain ⟨i1, e1, q1, r1⟩ := HF.out.bel x hmx
                      obtain ⟨⟨m1, m2⟩, ⟨m3, m4⟩⟩ := HF.out.bnum x hmx
                      obtain ⟨id, p1, ov⟩ := x
                      simp only at c0 c1 c2 q1 m1 m2 m3 m4
                      subst q1
                      obtain ⟨a2, cap2, he2, _, hel⟩ := HH.out.el
                      cases he2
                      obtain ⟨b2, off2, rfl, d0, -⟩ := hel W (Below.refl _ _) i1 e1 r1
                      have hb2 : b2 < W.heap.size := block_lt_of_cell d0
                      have hil := (List.getElem?_eq_some_iff.1 r1).1
                      have hlt1 : (i1 : Int) < (L.els.length : Int) := by omega
                      have HM1 := Lib.hid (fun w' (b : Below W.heap.size W w') => format_any id w' (by omega) (by omega) (HD.out _ b))
                      have HM2 := Lib.hid (fun w' (b : Below W.heap.size W w') => format_any ov w' (by omega) (by omega) (HD.out _ b))
                      have HDD := Lib.hid (show blL L ⟨id, (i1 : Int), ov⟩ = [kBal, itoa id, e1.name, itoa ov] by
                        unfold blL
                        simp only
                        rw [show elName L (i1 : Int) = _ from el_name' r1])
                      rw [HDD.out] at HTK
                      have hsh := cons_short (a := kBal) (by decide) (cons_short (itoa_max (n := id) (by omega) (by omega)) (pair_short (HH.out.elName e1 (List.mem_of_getElem? r1)) (itoa_max (n := ov) (by omega) (by omega))))
                      obtain ⟨t1, ht1⟩ : ∃ t, itoa id = t := ⟨_, rfl⟩
                      obtain ⟨t2, ht2⟩ : ∃ t, itoa ov = t := ⟨_, rfl⟩
                      obtain ⟨n1, hn1⟩ : ∃ t, e1.name = t := ⟨_, rfl⟩
                      rw [ht1] at HM1
                      rw [ht2] at HM2
                      rw [hn1] at d0
                      rw [ht1, ht2, hn1] at HTK hsh
                      have HSH := Lib.hid hsh
                      have HA : Hid (∀ W3 w6, Below wo5.heap.size wo5 W3 → Below W3.heap.size W3 w6 →
                          OwnL W.heap.size (w6.alloc (.cells #[.string ⟨#[98, 97, 108, 105, 115, 101]⟩, .string (bs t1), .string (bs n1), .string (bs t2)] 9)) (.slice ao ls5.length co) ls5 none ∧
                          Strs (fun b => b < (w6.alloc (.cells #[.string ⟨#[98, 97, 108, 105, 115, 101]⟩, .string (bs t1), .string (bs n1), .string (bs t2)] 9)).heap.size ∧ some b ≠ (Value.slice ao ls5.length co).ownBlock) (w6.alloc (.cells #[.string ⟨#[98, 97, 108, 105, 115, 101]⟩, .string (bs t1), .string (bs n1), .string (bs t2)] 9)) (.slice (some ⟨w6.heap.size, 0, none⟩) 4 4) [kBal, t1, n1, t2] ∧
                          Below W.heap.size W (w6.alloc (.cells #[.string ⟨#[98, 97, 108, 105, 115, 101]⟩, .string (bs t1), .string (bs n1), .string (bs t2)] 9)) ∧ Below W3.heap.size W3 (w6.alloc (.cells #[.string ⟨#[98, 97, 108, 105, 115, 101]⟩, .string (bs t1), .string (bs n1), .string (bs t2)] 9))) := by
                        intro W3 w6 k3 k6
                        have k7 := bel_next k6 ((Below.refl w6.heap.size w6).alloc (Nat.le_refl _) (.cells #[.string ⟨#[98, 97, 108, 105, 115, 101]⟩, .string (bs t1), .string (bs n1), .string (bs t2)] 9))
                        exact ⟨HO.out.next (bel_next k3 k7), strs_off (fun g hg => Nat.lt_of_lt_of_le (own_lt HO.out g hg).2 (bel_next k3 k6).size) (fresh_line [kBal, t1, n1, t2] (w := w6) rfl rfl (by unfold maxLen; omega) HSH.out), bel_next HB.out (bel_next k3 k7), k7⟩
                      clear ht1 ht2 hn1 hx hsc hmx HDD m1 m2 m3 m4 r1 hsh hel
                      have qa := (Below.refl wo5.heap.size wo5).alloc (Nat.le_refl _) (.cells #[.int .i64 id, .int .i64 (i1 : Int), .int .i64 ov] 59)
                      have HW3 : Hid (∀ W3, wo5.alloc (.cells #[.int .i64 id, .int .i64 (i1 : Int), .int .i64 ov] 59) = W3 → Below wo5.heap.size wo5 W3 ∧ W3.heap.size = wo5.heap.size + 1 ∧ ∀ w', Off (.slice ao ls5.length co) W3 w' → (w'.cell? ⟨w.heap.size, 0, none⟩ = some (.string (bs L.name)) ∧ w'.cell? ⟨w.heap.size, 1, none⟩ = some (.slice sa L.secs.length sc) ∧ w'.cell? ⟨w.heap.size, 2, none⟩ = some (.slice (some ⟨b2, off2, none⟩) L.els.length ec) ∧ w'.cell? ⟨w.heap.size, 3, none⟩ = some (.slice ja L.joints.length jc) ∧ w'.cell? ⟨w.heap.size, 4, none⟩ = some (.slice ga L.sigs.length gc) ∧ w'.cell? ⟨w.heap.size, 5, none⟩ = some (.slice (some ⟨b, off, none⟩) L.bals.length bc) ∧ w'.cell? ⟨wo5.heap.size, 0, none⟩ = some (.int .i64 id) ∧ w'.cell? ⟨wo5.heap.size, 1, none⟩ = some (.int .i64 (i1 : Int)) ∧ w'.cell? ⟨wo5.heap.size, 2, none⟩ = some (.int .i64 ov) ∧ w'.cell? ⟨b2, off2 + i1 * 7, none⟩ = some (.string (bs n1)))) := by
                        rintro W3 rfl
                        refine ⟨qa, by simp, fun w' ho => ?_⟩
                        have hsz : (wo5.alloc (.cells #[.int .i64 id, .int .i64 (i1 : Int), .int .i64 ov] 59)).heap.size = wo5.heap.size + 1 := by simp
                        have hne : ∀ k, (k < W.heap.size ∨ wo5.heap.size ≤ k) → some k ≠ (Value.slice ao ls5.length co).ownBlock := by
                          intro k hk e
                          have := own_lt HO.out k e.symm
                          omega
                        have hbx : w.heap.size < W.heap.size := HS.out
                        have hbs := HB.out.size
                        obtain ⟨y0, y1, y2, y3, y4, y5⟩ := HX.out.next (bel_next HB.out qa) HS.out
                        have n0 := hne w.heap.size (.inl hbx)
                        have n1 := hne wo5.heap.size (.inr (Nat.le_refl _))
                        have n2 := hne b2 (.inl hb2)
                        exact ⟨(ho.cell (by show w.heap.size < _; omega) n0).trans y0, (ho.cell (by show w.heap.size < _; omega) n0).trans y1, (ho.cell (by show w.heap.size < _; omega) n0).trans y2, (ho.cell (by show w.heap.size < _; omega) n0).trans y3, (ho.cell (by show w.heap.size < _; omega) n0).trans y4, (ho.cell (by show w.heap.size < _; omega) n0).trans y5, (ho.cell (by show wo5.heap.size < _; omega) n1).trans (by simp [go_sem]), (ho.cell (by show wo5.heap.size < _; omega) n1).trans (by simp [go_sem]), (ho.cell (by show wo5.heap.size < _; omega) n1).trans (by simp [go_sem]), (ho.cell (by show b2 < _; omega) n2).trans (((bel_next HB.out qa).cell hb2).trans d0)⟩
                      clear qa d0
                      go_wp2_with fail
                      obtain ⟨W3, hW3⟩ : ∃ W3, wo5.alloc (.cells #[.int .i64 id, .int .i64 (i1 : Int), .int .i64 ov] 59) = W3 := ⟨_, rfl⟩
                      rw [hW3]
                      obtain ⟨dw3, hz3, hk3⟩ := HW3.out W3 hW3
                      have D3 := Lib.hid dw3
                      have HK := Lib.hid hk3
                      have DW := Lib.hid (bel_next HB.out dw3)
                      have HZ3 := Lib.hid (show ∀ g, (Value.slice ao ls5.length co).ownBlock = some g → g < W3.heap.size by
                        intro g hg
                        have := (own_lt HO.out g hg).2
                        omega)
                      clear dw3 hz3 hk3 HW3 x0 x1 x2 x3 x4 x5 c0 c1 c2
                      obtain ⟨x0, x1, x2, x3, x4, x5, y0, y1, y2, y3⟩ := HK.out W3 (fun _ _ _ => rfl)
                      clear hW3
                      go_region_held3 (fun w' => w'.cell? ⟨w.heap.size, 0, none⟩ = some (.string (bs L.name)) ∧ w'.cell? ⟨w.heap.size, 1, none⟩ = some (.slice sa L.secs.length sc) ∧ w'.cell? ⟨w.heap.size, 2, none⟩ = some (.slice (some ⟨b2, off2, none⟩) L.els.length ec) ∧ w'.cell? ⟨w.heap.size, 3, none⟩ = some (.slice ja L.joints.length jc) ∧ w'.cell? ⟨w.heap.size, 4, none⟩ = some (.slice ga L.sigs.length gc) ∧ w'.cell? ⟨w.heap.size, 5, none⟩ = some (.slice (some ⟨b, off, none⟩) L.bals.length bc) ∧ w'.cell? ⟨wo5.heap.size, 0, none⟩ = some (.int .i64 id) ∧ w'.cell? ⟨wo5.heap.size, 1, none⟩ = some (.int .i64 (i1 : Int)) ∧ w'.cell? ⟨wo5.heap.size, 2, none⟩ = some (.int .i64 ov) ∧ w'.cell? ⟨b2, off2 + i1 * 7, none⟩ = some (.string (bs n1)))
                        (first
                          | with_reducible exact K7.out
                          | with_reducible exact HK.out _ (off_below (bel_next E5.out ((Below.alloc (Below.refl _ _) (Nat.le_refl _) _).alloc (Below.alloc (Below.refl _ _) (Nat.le_refl _) _).size _)))
                          | with_reducible exact HK.out _ (off_below (bel_next E5.out (Below.alloc (Below.refl _ _) (Nat.le_refl _) _)))
                          | with_reducible exact HK.out _ (off_below E5.out)
                          | with_reducible exact HK.out _ (off_below E4.out)
                          | go_keep)
                        (first
                          | (go_at_call 53; (with_reducible refine Calls.mono (HM1.out _ DW.out.drew) ?_); rintro e w4 ⟨rfl, b4⟩; have E4 := Lib.hid (Pend.bel_drew b4); clear b4)
                          | (go_at_call 53; (with_reducible refine Calls.mono (HM2.out _ (bel_next DW.out E4.out)) ?_); rintro e w5 ⟨rfl, b5⟩; have E5 := Lib.hid (bel_next E4.out b5); clear b5)
                          | (obtain ⟨p7, l7, b7, e7⟩ := HA.out _ _ D3.out E5.out; have E7 := Lib.hid e7; refine step_line rfl (.tmp 98) (.tmp 113) 39 rfl W i0 Tryz.underlying39 HI0.out HZ0.out HZ1.out HZ2.out rfl rfl (by simp) rfl p7 l7 b7 HLE.out ?_; clear p7 l7 b7 e7; intro v7 w7 O7 F7 G7; have K7 := Lib.hid (HK.out _ (Off.trans (off_below E7.out) E7.out.size G7))))
                      all_goals
                        have O8 := Lib.hid O7
                        have B8 := Lib.hid F7
                        clear O7 F7 G7 x0 x1 x2 x3 x4 x5 y0 y1 y2 y3
                        go_wp2_with fail
                        go_roundw
                        case rel => exact ⟨i + 1, by simp, hl, by rw [← Nat.add_assoc, HTK.out]; exact O8.out, B8.out⟩
                        case measure => simp [RowKit.intOf]; omega
                    · obtain rfl : i = L.bals.length := by omega
                      go_wp2_with fail
                      have hal : ls5 = all := by
                        rw [← HLS.out]
                        exact List.take_of_length_le (by rw [HCNT.out]; omega)
                      subst hal
                      go_ret
                      exact ⟨_, rfl, ⟨_, _, _, rfl⟩, HO.out.lns, bel_next B0.out HB.out⟩





end Go.Proofs.YtfdipcphohhlgaaGreatDoor.Plin
