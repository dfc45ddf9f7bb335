/- Texts of this proof, merged: Rprt. -/
import Derived.Test.YtfdipcphohhlgaaGreatDoorG12
import Derived.Test.YtfdipcphohhlgaaGreatDoorG13
import Derived.Test.YtfdipcphohhlgaaGreatDoorG08
import Derived.Test.YtfdipcphohhlgaaGreatDoorG09
import Derived.Test.YtfdipcphohhlgaaGreatDoorG10
import Derived.Deep.RegionHeld3

/- The text that the reference prints. -/
namespace Go.Proofs.YtfdipcphohhlgaaGreatDoor.Rprt
open Go.RowKit Go.Lib Go.Proofs.YtfdipcphohhlgaaGreatDoor.Numt Go.Proofs.YtfdipcphohhlgaaGreatDoor.Reads Go.Proofs.YtfdipcphohhlgaaGreatDoor.Rows2 Go.Proofs.YtfdipcphohhlgaaGreatDoor.Lay Go.Proofs.YtfdipcphohhlgaaGreatDoor.Layf Go.Proofs.YtfdipcphohhlgaaGreatDoor.Ldup Go.Proofs.YtfdipcphohhlgaaGreatDoor.Lnmd Go.Proofs.YtfdipcphohhlgaaGreatDoor.Lbal Go.Proofs.YtfdipcphohhlgaaGreatDoor.Plnf Go.Proofs.YtfdipcphohhlgaaGreatDoor.Plna Go.Proofs.YtfdipcphohhlgaaGreatDoor.Plnb Go.Proofs.YtfdipcphohhlgaaGreatDoor.Plnc Go.Proofs.YtfdipcphohhlgaaGreatDoor.Ownl Go.Proofs.YtfdipcphohhlgaaGreatDoor.Linw Go.Proofs.YtfdipcphohhlgaaGreatDoor.Joinw Go.Proofs.YtfdipcphohhlgaaGreatDoor.Rjoinw Go.Proofs.YtfdipcphohhlgaaGreatDoor.Fmtw Go.Proofs.YtfdipcphohhlgaaGreatDoor.Rpla Go.Proofs.YtfdipcphohhlgaaGreatDoor.Rpre Go.Proofs.YtfdipcphohhlgaaGreatDoor.Ptwo
open Go.Proofs.YtfdipcphohhlgaaGreatDoor.Text hiding lineL joinR

theorem bel_drew {W W' : World} (h : Below W.drew.heap.size W.drew W') : Below W.heap.size W W' := ⟨h.os, h.tape, h.output, h.size, h.block⟩

theorem rnext {w w' : World} {v : Value} {xs : List Int} (h : Reads w.heap.size w v xs) (hb : Below w.heap.size w w') : Reads w'.heap.size w' v xs := (h.below (Nat.le_refl _) hb).mono hb.size
theorem two_short {a b : List UInt8} (ha : a.length ≤ maxLen) (hb : b.length ≤ maxLen) : ∀ s ∈ [a, b], s.length ≤ maxLen := by
  intro s hs
  simp only [List.mem_cons, List.not_mem_nil, or_false] at hs
  rcases hs with rfl | rfl
  · exact ha
  · exact hb

theorem itoa_short {n : Int} (h0 : 0 ≤ n) (h1 : n ≤ 1073741824) : (itoa n).length ≤ maxLen := by
  have := itoa_length_le n (by omega) (by omega)
  unfold maxLen
  omega
theorem three_short {a b c : List UInt8} (ha : a.length ≤ maxLen) (hb : b.length ≤ maxLen) (hc : c.length ≤ maxLen) : ∀ s ∈ [a, b, c], s.length ≤ maxLen := by
  intro s hs
  rcases List.mem_cons.1 hs with rfl | hs
  · exact ha
  · exact two_short hb hc s hs
theorem four_short {a b c d : List UInt8} (ha : a.length ≤ maxLen) (hb : b.length ≤ maxLen) (hc : c.length ≤ maxLen) (hd : d.length ≤ maxLen) : ∀ s ∈ [a, b, c, d], s.length ≤ maxLen := by
  intro s hs
  simp only [List.mem_cons, List.not_mem_nil, or_false] at hs
  rcases hs with rfl | rfl | rfl | rfl
  · exact ha
  · exact hb
  · exact hc
  · exact hd
theorem five_short {a b c d e : List UInt8} (ha : a.length ≤ maxLen) (hb : b.length ≤ maxLen) (hc : c.length ≤ maxLen) (hd : d.length ≤ maxLen) (he : e.length ≤ maxLen) : ∀ s ∈ [a, b, c, d, e], s.length ≤ maxLen := by
  intro s hs
  rcases List.mem_cons.1 hs with rfl | hs
  · exact ha
  · exact four_short hb hc hd he s hs

set_option maxRecDepth 100000 in
set_option maxHeartbeats 6400000 in
theorem rprint_any (L : Lay) {vs ve vj vg vb : Value} (w : World) (h : LayAt (In w) w L vs ve vj vg vb) (hn : L.secs.length ≤ 60) (hn2 : L.els.length ≤ 60) (hn3 : L.sigs.length ≤ 60) (hn4 : L.bals.length ≤ 60) (hn5 : L.joints.length ≤ 100) :
    Calls Tryz.prog 10 #[layV L vs ve vj vg vb] w (PrintOut (printF L) w) := by
  obtain ⟨sa, sc, ea, ec, ja, jc, ga, gc, ba, bc, rfl, rfl, rfl, rfl, rfl⟩ := Lown.shapes h
  have b0 := (Below.refl w.heap.size w).alloc (Nat.le_refl _) (.cells #[.string (bs L.name), .slice sa L.secs.length sc, .slice ea L.els.length ec, .slice ja L.joints.length jc, .slice ga L.sigs.length gc, .slice ba L.bals.length bc] 28)
  have hh := h.next b0
  have hx := lbox_new w 28 L (.slice sa L.secs.length sc) (.slice ea L.els.length ec) (.slice ja L.joints.length jc) (.slice ga L.sigs.length gc) (.slice ba L.bals.length bc)
  have hs0 : w.heap.size < (w.alloc (.cells #[.string (bs L.name), .slice sa L.secs.length sc, .slice ea L.els.length ec, .slice ja L.joints.length jc, .slice ga L.sigs.length gc, .slice ba L.bals.length bc] 28)).heap.size := by simp
  obtain ⟨W, hW⟩ : ∃ W, w.alloc (.cells #[.string (bs L.name), .slice sa L.secs.length sc, .slice ea L.els.length ec, .slice ja L.joints.length jc, .slice ga L.sigs.length gc, .slice ba L.bals.length bc] 28) = W := ⟨_, rfl⟩
  rw [hW] at b0 hh hx hs0
  have HW := Lib.hid hW
  have B0 := Lib.hid b0
  have HX := Lib.hid hx
  have HS := Lib.hid hs0
  have HH := Lib.hid hh
  have HC := Lib.hid (rcheck_any L W hh (by omega) (by omega) (by omega) (by omega) (by omega))
  have HNL := Lib.hid h.name
  clear h hh b0 hx hW
  unfold layV at HC ⊢
  by_cases hc : checkF L = 0
  · have HF := Lib.hid (good_of hc)
    have HP := Lib.hid (text_of hc hn5)
    have HPR := Lib.hid (show printF L = ((Text.joinR (linesOf L)).1, ((Text.joinR (linesOf L)).2 : Int)) by unfold printF; rw [if_pos hc])
    rw [hc] at HC
    have HCNT := Lib.hid (lines_count L)
    have HTL := Lib.hid (text_len _ (lines_short hc))
    obtain ⟨all, hall⟩ : ∃ all, linesOf L = all := ⟨_, rfl⟩
    have HSE := Lib.hid (fun i s (h : L.secs[i]? = some s) => at_sec h)
    have HEL := Lib.hid (fun i s (h : L.els[i]? = some s) => at_el h)
    have HJT := Lib.hid (fun i s (h : L.joints[i]? = some s) => at_jt h)
    have HSG := Lib.hid (fun i s (h : L.sigs[i]? = some s) => at_sg h)
    have HBL := Lib.hid (fun i s (h : L.bals[i]? = some s) => at_bl h)
    rw [hall] at HP HPR HCNT HTL HSE HEL HJT HSG HBL
    have HT1 : Hid (all.take (1 + 0) = [[kLay, L.name]]) := by rw [← hall]; rfl
    obtain ⟨i0, hi, hz0, hz1, hz2⟩ := info_parts infoL
    have HI0 := Lib.hid hi
    have HZ0 := Lib.hid hz0
    have HZ1 := Lib.hid hz1
    have HZ2 := Lib.hid hz2
    clear hi hz0 hz1 hz2 hall hc
    go_enter Tryz.func10, Tryz.ntmps10
    go_wp2_with fail
    rw [HW.out]
    refine HC.out.mono ?_
    rintro e w1 ⟨rfl, b1⟩
    have B1 := Lib.hid b1
    clear b1
    obtain ⟨x0, x1, x2, x3, x4, x5⟩ := HX.out.next B1.out HS.out
    have HST := Lib.hid (own_start (w := w1) (B := W.heap.size) B1.out.size [kLay, L.name] (T := 9) (cs := #[.string (bs kLay), .string (bs L.name)]) (n := 2) rfl rfl (by unfold maxLen; omega) (two_short (by decide) HNL.out))
    have HSB := Lib.hid ((B1.out.alloc B1.out.size (.cells #[.string (bs kLay), .string (bs L.name)] 9)).alloc (by have := B1.out.size; simp; omega) (.cells #[.slice (some ⟨w1.heap.size, 0, none⟩) 2 2] 22))
    go_wp2_with fail
    go_loopw [5, 6] (fun vo vi wr => PRel W all 1 L.secs.length vo vi wr) (fun _ vi _ => L.secs.length - (RowKit.intOf vi).toNat)
    case atStart => exact ⟨0, rfl, Nat.zero_le _, by rw [HT1.out]; exact HST.out, HSB.out⟩
    case round =>
      obtain ⟨i, rfl, hi, ho, hb⟩ := hrel
      obtain ⟨wo, rfl⟩ : ∃ wo : World, wo = wr := ⟨_, rfl⟩
      obtain ⟨ls, hls⟩ : ∃ ls, all.take (1 + i) = ls := ⟨_, rfl⟩
      rw [hls] at ho
      have HLS := Lib.hid hls
      obtain ⟨ao, co, rfl⟩ := ownL_shape ho
      have HO := Lib.hid ho
      have HB := Lib.hid hb
      clear ho hb hls x0 x1 x2 x3 x4 x5
      obtain ⟨x0, x1, x2, x3, x4, x5⟩ := HX.out.next HB.out HS.out
      by_cases hl : i < L.secs.length
      · obtain ⟨s, hs⟩ := at_lt hl
        obtain ⟨a, cap, he, _, hsc⟩ := HH.out.sn
        cases he
        obtain ⟨b, off, rfl, c0⟩ := hsc wo HB.out i s hs
        have HSL := Lib.hid (HH.out.secs.2 s (List.mem_of_getElem? hs))
        have hlt : (i : Int) < (L.secs.length : Int) := by omega
        have HTK := Lib.hid (take_line (HSE.out i s hs))
        have HLE : Hid (ls.length ≤ 400) := by
          show _ ≤ _
          rw [← HLS.out, List.length_take, HCNT.out]
          omega
        rw [HLS.out] at HTK
        have HFL := Lib.hid (fresh_line [kSec, s] (w := wo) (T := 9) (cs := #[.string (bs kSec), .string (bs s)]) (n := 2) rfl rfl (by unfold maxLen; omega) (two_short (by decide) HSL.out))
        have HB2 := Lib.hid ((Below.refl wo.heap.size wo).alloc (Nat.le_refl _) (.cells #[.string (bs kSec), .string (bs s)] 9))
        obtain ⟨xs, h1, h2, h3⟩ := HO.out.next HB2.out
        have H1 := Lib.hid h1
        have H3 := Lib.hid h3
        clear hs hsc h1 h2 h3
        go_wp2_with (at_builtin; refine wpList_append_own_at _ rfl (.tmp 31) (.tmp 38) 39 rfl W.heap.size 22 i0 (.slice none 0 0) 1 24 Tryz.underlying39 HI0.out HZ0.out HZ1.out HZ2.out rfl (by decide) _ _ _ rfl (H1.out.alloc _) ⟨wo.heap.size + 1, 0, none⟩ 1 1 [.slice (some ⟨wo.heap.size, 0, none⟩) 2 2] rfl rfl (cell_two_new _ _ _ _) (by intro u hu; simp at hu; subst hu; rfl) (by have := HLE.out; unfold maxLen; omega) (by have := HLE.out; omega) (by have := HB.out.size; simp; omega) ?_; intro v1 w4 h1own hg1 _ hblk; have R1 := Lib.hid h1own; have R2 := Lib.hid hg1; have R3 := Lib.hid hblk; clear h1own hg1 hblk)
        go_roundw
        case rel => exact ⟨i + 1, by simp, hl, by
          rw [← Nat.add_assoc, HTK.out]
          exact ownL_push (strs_off (fun g hg => (own_lt HO.out g hg).2) HFL.out) R1.out H3.out R2.out R3.out, grown_end (bel_next HB.out HB2.out) (fun g hg => (own_lt HO.out g hg).1) R2.out⟩
        case measure => simp [RowKit.intOf]; omega
      · obtain rfl : i = L.secs.length := by omega
        go_wp2_with fail
        go_loopw [5, 7] (fun vo vi wr => PRel W all (1 + L.secs.length) L.els.length vo vi wr) (fun _ vi _ => L.els.length - (RowKit.intOf vi).toNat)
        case atStart => exact ⟨0, rfl, Nat.zero_le _, by rw [Nat.add_zero, HLS.out]; exact HO.out, HB.out⟩
        case round =>
          obtain ⟨i, rfl, hi, ho, hb⟩ := hrel
          obtain ⟨wo2, rfl⟩ : ∃ wo2 : World, wo2 = wr := ⟨_, rfl⟩
          obtain ⟨ls2, hls⟩ : ∃ ls, all.take (1 + L.secs.length + i) = ls := ⟨_, rfl⟩
          rw [hls] at ho
          clear HLS HO HB
          have HLS := Lib.hid hls
          obtain ⟨ao, co, rfl⟩ := ownL_shape ho
          have HO := Lib.hid ho
          have HB := Lib.hid hb
          clear ho hb hls x0 x1 x2 x3 x4 x5
          obtain ⟨x0, x1, x2, x3, x4, x5⟩ := HX.out.next HB.out HS.out
          by_cases hl : i < L.els.length
          · obtain ⟨x, hx⟩ := at_lt hl
            obtain ⟨a, cap, he, _, hsc⟩ := HH.out.el
            cases he
            obtain ⟨b, off, rfl, c0, c1, c2, c3, c4, c5, c6⟩ := hsc wo2 HB.out i x hx
            have hlt : (i : Int) < (L.els.length : Int) := by omega
            have HTK := Lib.hid (take_line (HEL.out i x hx))
            have HLE : Hid (ls2.length ≤ 400) := by
              show _ ≤ _
              rw [← HLS.out, List.length_take, HCNT.out]
              omega
            rw [HLS.out] at HTK
            have HRE := Lib.hid (fun w' (b : Below W.heap.size W w') => relement_any L x w' (HH.out.next b) HF.out (List.mem_of_getElem? hx))
            have HK : Hid (∀ w', Below W.heap.size W w' → (w'.cell? ⟨w.heap.size, 0, none⟩ = some (.string (bs L.name)) ∧ w'.cell? ⟨w.heap.size, 1, none⟩ = some (.slice sa L.secs.length sc) ∧ w'.cell? ⟨w.heap.size, 2, none⟩ = some (.slice (some ⟨b, off, none⟩) L.els.length ec) ∧ w'.cell? ⟨w.heap.size, 3, none⟩ = some (.slice ja L.joints.length jc) ∧ w'.cell? ⟨w.heap.size, 4, none⟩ = some (.slice ga L.sigs.length gc) ∧ w'.cell? ⟨w.heap.size, 5, none⟩ = some (.slice ba L.bals.length bc) ∧ w'.cell? ⟨b, off + i * 7, none⟩ = some (.string (bs x.name)) ∧ w'.cell? ⟨b, off + i * 7 + 1, none⟩ = some (.int .i64 x.kind) ∧ w'.cell? ⟨b, off + i * 7 + 2, none⟩ = some (.int .i64 x.len) ∧ w'.cell? ⟨b, off + i * 7 + 3, none⟩ = some (.int .i64 x.grade) ∧ w'.cell? ⟨b, off + i * 7 + 4, none⟩ = some (.int .i64 x.speed) ∧ w'.cell? ⟨b, off + i * 7 + 5, none⟩ = some (.int .i64 x.slow) ∧ w'.cell? ⟨b, off + i * 7 + 6, none⟩ = some (.int .i64 x.sec))) := by
              intro w' hb
              obtain ⟨y0, y1, y2, y3, y4, y5⟩ := HX.out.next hb HS.out
              obtain ⟨b', off', he, d0, d1, d2, d3, d4, d5, d6⟩ := hsc w' hb i x hx
              cases he
              exact ⟨y0, y1, y2, y3, y4, y5, d0, d1, d2, d3, d4, d5, d6⟩
            clear hx hsc
            go_wp2_with fail
            go_region_held3 (fun w' => w'.cell? ⟨w.heap.size, 0, none⟩ = some (.string (bs L.name)) ∧ w'.cell? ⟨w.heap.size, 1, none⟩ = some (.slice sa L.secs.length sc) ∧ w'.cell? ⟨w.heap.size, 2, none⟩ = some (.slice (some ⟨b, off, none⟩) L.els.length ec) ∧ w'.cell? ⟨w.heap.size, 3, none⟩ = some (.slice ja L.joints.length jc) ∧ w'.cell? ⟨w.heap.size, 4, none⟩ = some (.slice ga L.sigs.length gc) ∧ w'.cell? ⟨w.heap.size, 5, none⟩ = some (.slice ba L.bals.length bc) ∧ w'.cell? ⟨b, off + i * 7, none⟩ = some (.string (bs x.name)) ∧ w'.cell? ⟨b, off + i * 7 + 1, none⟩ = some (.int .i64 x.kind) ∧ w'.cell? ⟨b, off + i * 7 + 2, none⟩ = some (.int .i64 x.len) ∧ w'.cell? ⟨b, off + i * 7 + 3, none⟩ = some (.int .i64 x.grade) ∧ w'.cell? ⟨b, off + i * 7 + 4, none⟩ = some (.int .i64 x.speed) ∧ w'.cell? ⟨b, off + i * 7 + 5, none⟩ = some (.int .i64 x.slow) ∧ w'.cell? ⟨b, off + i * 7 + 6, none⟩ = some (.int .i64 x.sec))
              (first
                | with_reducible exact HK.out _ F5
                | with_reducible exact HK.out _ (bel_next HB.out E4.out)
                | go_keep)
              (first
                | (go_at_call 20; refine (HRE.out _ HB.out.drew).mono ?_; rintro e w4 ⟨v4, rfl, ⟨va, vn, vc, rfl⟩, hs4, b4⟩; have S4 := Lib.hid hs4; have E4 := Lib.hid (bel_drew b4); clear b4 hs4)
                | (refine step_append_line rfl (.tmp 47) (.tmp 55) 39 rfl W i0 Tryz.underlying39 HI0.out HZ0.out HZ1.out HZ2.out rfl rfl rfl rfl (HO.out.next E4.out) (strs_off (fun g hg => (own_lt HO.out g hg).2) S4.out) (bel_next HB.out E4.out) HLE.out ?_; intro v5 w5 O5 F5 G5))
            have O6 := Lib.hid O5
            have B6 := Lib.hid F5
            clear O5 F5 G5 c0 c1 c2 c3 c4 c5 c6
            go_wp2_with fail
            go_roundw
            case rel => exact ⟨i + 1, by simp, hl, by rw [← Nat.add_assoc, HTK.out]; exact O6.out, B6.out⟩
            case measure => simp [RowKit.intOf]; omega
          · obtain rfl : i = L.els.length := by omega
            go_wp2_with fail
            go_loopw [5, 8] (fun vo vi wr => PRel W all (1 + L.secs.length + L.els.length) L.joints.length vo vi wr) (fun _ vi _ => L.joints.length - (RowKit.intOf vi).toNat)
            case atStart => exact ⟨0, rfl, Nat.zero_le _, by rw [Nat.add_zero, HLS.out]; exact HO.out, HB.out⟩
            case round =>
              obtain ⟨i, rfl, hi, ho, hb⟩ := hrel
              obtain ⟨wo3, rfl⟩ : ∃ wo3 : World, wo3 = wr := ⟨_, rfl⟩
              obtain ⟨ls3, hls⟩ : ∃ ls, all.take (1 + L.secs.length + L.els.length + i) = ls := ⟨_, rfl⟩
              rw [hls] at ho
              clear HLS HO HB
              have HLS := Lib.hid hls
              obtain ⟨ao, co, rfl⟩ := ownL_shape ho
              have HO := Lib.hid ho
              have HB := Lib.hid hb
              clear ho hb hls x0 x1 x2 x3 x4 x5
              obtain ⟨x0, x1, x2, x3, x4, x5⟩ := HX.out.next HB.out HS.out
              by_cases hl : i < L.joints.length
              · obtain ⟨x, hx⟩ := at_lt hl
                obtain ⟨a, cap, he, _, hsc⟩ := HH.out.jt
                cases he
                obtain ⟨b, off, rfl, c0, c1, c2, c3⟩ := hsc wo3 HB.out i x hx
                have hlt : (i : Int) < (L.joints.length : Int) := by omega
                have HTK := Lib.hid (take_line (HJT.out i x hx))
                have HLE : Hid (ls3.length ≤ 400) := by
                  show _ ≤ _
                  rw [← HLS.out, List.length_take, HCNT.out]
                  omega
                rw [HLS.out] at HTK
                have hmx := List.mem_of_getElem? hx
                obtain ⟨⟨i1, e1, q1, r1⟩, ⟨i2, e2, q2, r2⟩⟩ := HF.out.jel x hmx
                obtain ⟨⟨m1, m2⟩, ⟨m3, m4⟩⟩ := HF.out.jnum x hmx
                obtain ⟨⟨p1, s1⟩, ⟨p2, s2⟩⟩ := x
                simp only at c0 c1 c2 c3 q1 q2 m1 m2 m3 m4
                subst q1 q2
                have HN1 := Lib.hid (fun w' (b : Below W.heap.size W w') => rname_any L i1 e1 w' (HH.out.next b) r1)
                have HN2 := Lib.hid (fun w' (b : Below W.heap.size W w') => rname_any L i2 e2 w' (HH.out.next b) r2)
                have HM1 := Lib.hid (fun w' => rformat_any s1 w' (by omega) (by omega))
                have HM2 := Lib.hid (fun w' => rformat_any s2 w' (by omega) (by omega))
                have HD := Lib.hid (show jtL L (((i1 : Int), s1), ((i2 : Int), s2)) = [kJnt, e1.name, itoa s1, e2.name, itoa s2] by
                  unfold jtL
                  rw [show elName L (i1 : Int) = _ from el_name' r1, show elName L (i2 : Int) = _ from el_name' r2])
                rw [HD.out] at HTK
                have qa := (Below.refl wo3.heap.size wo3).alloc (Nat.le_refl _) (.cells #[.int .i64 (i1 : Int), .int .i64 s1] 47)
                have qb := qa.alloc (by simp) (.cells #[.int .i64 (i2 : Int), .int .i64 s2] 47)
                obtain ⟨-, -, -, y3, -, -⟩ := HX.out.next (bel_next HB.out qa) HS.out
                obtain ⟨b', off', he, -, -, d2, d3⟩ := hsc _ (bel_next HB.out qa) i _ hx
                cases he
                have HW3 : Hid (∀ W3, (wo3.alloc (.cells #[.int .i64 (i1 : Int), .int .i64 s1] 47)).alloc (.cells #[.int .i64 (i2 : Int), .int .i64 s2] 47) = W3 → Below wo3.heap.size wo3 W3 ∧ W3.heap.size = wo3.heap.size + 2 ∧ ∀ w', Off (.slice ao ls3.length co) W3 w' → (w'.cell? ⟨w.heap.size, 0, none⟩ = some (.string (bs L.name)) ∧ w'.cell? ⟨w.heap.size, 1, none⟩ = some (.slice sa L.secs.length sc) ∧ w'.cell? ⟨w.heap.size, 2, none⟩ = some (.slice ea L.els.length ec) ∧ w'.cell? ⟨w.heap.size, 3, none⟩ = some (.slice (some ⟨b, off, none⟩) L.joints.length jc) ∧ w'.cell? ⟨w.heap.size, 4, none⟩ = some (.slice ga L.sigs.length gc) ∧ w'.cell? ⟨w.heap.size, 5, none⟩ = some (.slice ba L.bals.length bc) ∧ w'.cell? ⟨wo3.heap.size, 0, none⟩ = some (.int .i64 (i1 : Int)) ∧ w'.cell? ⟨wo3.heap.size, 1, none⟩ = some (.int .i64 s1) ∧ w'.cell? ⟨wo3.heap.size + 1, 0, none⟩ = some (.int .i64 (i2 : Int)) ∧ w'.cell? ⟨wo3.heap.size + 1, 1, none⟩ = some (.int .i64 s2))) := by
                  rintro W3 rfl
                  refine ⟨qb, by simp, fun w' ho => ?_⟩
                  have hsz : ((wo3.alloc (.cells #[.int .i64 (i1 : Int), .int .i64 s1] 47)).alloc (.cells #[.int .i64 (i2 : Int), .int .i64 s2] 47)).heap.size = wo3.heap.size + 2 := by simp
                  have hne : ∀ k, (k < W.heap.size ∨ wo3.heap.size ≤ k) → some k ≠ (Value.slice ao ls3.length co).ownBlock := by
                    intro k hk e
                    have := own_lt HO.out k e.symm
                    omega
                  have hbx : w.heap.size < W.heap.size := HS.out
                  have hbs := HB.out.size
                  obtain ⟨y0, y1, y2, y3, y4, y5⟩ := HX.out.next (bel_next HB.out qb) HS.out
                  have n0 := hne w.heap.size (.inl hbx)
                  have n1 := hne wo3.heap.size (.inr (Nat.le_refl _))
                  have n2 := hne (wo3.heap.size + 1) (.inr (by omega))
                  exact ⟨(ho.cell (by show w.heap.size < _; omega) n0).trans y0, (ho.cell (by show w.heap.size < _; omega) n0).trans y1, (ho.cell (by show w.heap.size < _; omega) n0).trans y2, (ho.cell (by show w.heap.size < _; omega) n0).trans y3, (ho.cell (by show w.heap.size < _; omega) n0).trans y4, (ho.cell (by show w.heap.size < _; omega) n0).trans y5,
                    (ho.cell (by show wo3.heap.size < _; omega) n1).trans (by simp [go_sem]), (ho.cell (by show wo3.heap.size < _; omega) n1).trans (by simp [go_sem]), (ho.cell (by show wo3.heap.size + 1 < _; omega) n2).trans (by simp [go_sem]), (ho.cell (by show wo3.heap.size + 1 < _; omega) n2).trans (by simp [go_sem])⟩
                have hsh := five_short (a := kJnt) (by decide) (HH.out.elName e1 (List.mem_of_getElem? r1)) (itoa_short m1 (by omega)) (HH.out.elName e2 (List.mem_of_getElem? r2)) (itoa_short m3 (by omega))
                obtain ⟨t1, ht1⟩ : ∃ t, itoa s1 = t := ⟨_, rfl⟩
                obtain ⟨t2, ht2⟩ : ∃ t, itoa s2 = t := ⟨_, rfl⟩
                obtain ⟨n1, hn1⟩ : ∃ t, e1.name = t := ⟨_, rfl⟩
                obtain ⟨n2, hn2'⟩ : ∃ t, e2.name = t := ⟨_, rfl⟩
                rw [ht1] at HM1
                rw [ht2] at HM2
                rw [hn1] at HN1
                rw [hn2'] at HN2
                rw [ht1, ht2, hn1, hn2'] at HTK hsh
                have HA : Hid (∀ W3 w6, Below wo3.heap.size wo3 W3 → Below W3.heap.size W3 w6 →
                    OwnL W.heap.size (w6.alloc (.cells #[.string ⟨#[106, 111, 105, 110, 116]⟩, .string (bs n1), .string (bs t1), .string (bs n2), .string (bs t2)] 9)) (.slice ao ls3.length co) ls3 none ∧
                    Strs (fun b => b < (w6.alloc (.cells #[.string ⟨#[106, 111, 105, 110, 116]⟩, .string (bs n1), .string (bs t1), .string (bs n2), .string (bs t2)] 9)).heap.size ∧ some b ≠ (Value.slice ao ls3.length co).ownBlock) (w6.alloc (.cells #[.string ⟨#[106, 111, 105, 110, 116]⟩, .string (bs n1), .string (bs t1), .string (bs n2), .string (bs t2)] 9)) (.slice (some ⟨w6.heap.size, 0, none⟩) 5 5) [kJnt, n1, t1, n2, t2] ∧
                    Below W.heap.size W (w6.alloc (.cells #[.string ⟨#[106, 111, 105, 110, 116]⟩, .string (bs n1), .string (bs t1), .string (bs n2), .string (bs t2)] 9)) ∧
                    Below W3.heap.size W3 (w6.alloc (.cells #[.string ⟨#[106, 111, 105, 110, 116]⟩, .string (bs n1), .string (bs t1), .string (bs n2), .string (bs t2)] 9))) := by
                  intro W3 w6 k3 k6
                  have k7 := bel_next k6 ((Below.refl w6.heap.size w6).alloc (Nat.le_refl _) (.cells #[.string ⟨#[106, 111, 105, 110, 116]⟩, .string (bs n1), .string (bs t1), .string (bs n2), .string (bs t2)] 9))
                  exact ⟨HO.out.next (bel_next k3 k7), strs_off (fun g hg => Nat.lt_of_lt_of_le (own_lt HO.out g hg).2 (bel_next k3 k6).size) (fresh_line [kJnt, n1, t1, n2, t2] (w := w6) rfl rfl (by unfold maxLen; omega) hsh), bel_next HB.out (bel_next k3 k7), k7⟩
                clear ht1 ht2 hn1 hn2' hsh
                clear hx hsc hmx HD m1 m2 m3 m4 r1 r2 qa qb
                go_wp2_with fail
                obtain ⟨W3, hW3⟩ : ∃ W3, (wo3.alloc (.cells #[.int .i64 (i1 : Int), .int .i64 s1] 47)).alloc (.cells #[.int .i64 (i2 : Int), .int .i64 s2] 47) = W3 := ⟨_, rfl⟩
                rw [hW3]
                obtain ⟨dw3, hz3, hk3⟩ := HW3.out W3 hW3
                have D3 := Lib.hid dw3
                have HK := Lib.hid hk3
                have DW := Lib.hid (bel_next HB.out dw3)
                clear dw3 hk3 HW3 x0 x1 x2 x3 x4 x5 y3 c0 c1 c2 c3 d2 d3
                obtain ⟨x0, x1, x2, x3, x4, x5, y0, y1, y2, y3⟩ := HK.out W3 (fun _ _ _ => rfl)
                clear hW3
                go_region_held3 (fun w' => w'.cell? ⟨w.heap.size, 0, none⟩ = some (.string (bs L.name)) ∧ w'.cell? ⟨w.heap.size, 1, none⟩ = some (.slice sa L.secs.length sc) ∧ w'.cell? ⟨w.heap.size, 2, none⟩ = some (.slice ea L.els.length ec) ∧ w'.cell? ⟨w.heap.size, 3, none⟩ = some (.slice (some ⟨b, off, none⟩) L.joints.length jc) ∧ w'.cell? ⟨w.heap.size, 4, none⟩ = some (.slice ga L.sigs.length gc) ∧ w'.cell? ⟨w.heap.size, 5, none⟩ = some (.slice ba L.bals.length bc) ∧ w'.cell? ⟨wo3.heap.size, 0, none⟩ = some (.int .i64 (i1 : Int)) ∧ w'.cell? ⟨wo3.heap.size, 1, none⟩ = some (.int .i64 s1) ∧ w'.cell? ⟨wo3.heap.size + 1, 0, none⟩ = some (.int .i64 (i2 : Int)) ∧ w'.cell? ⟨wo3.heap.size + 1, 1, none⟩ = some (.int .i64 s2))
                  (first
                    | with_reducible exact K7.out
                    | with_reducible exact HK.out _ (off_below E6.out)
                    | with_reducible exact HK.out _ (off_below E4.out)
                    | go_keep)
                  (first
                    | (go_at_call 21; refine (HN2.out _ (bel_next DW.out E4.out)).mono ?_; rintro e w6 ⟨rfl, b6⟩; have E6 := Lib.hid (bel_next E4.out b6); clear b6)
                    | (go_at_call 21; refine (HN1.out _ DW.out.drew).mono ?_; rintro e w4 ⟨rfl, b4⟩; have E4 := Lib.hid (bel_drew b4); clear b4)
                    | (go_at_call 22; (first | (with_reducible refine (HM1.out _).mono ?_) | (with_reducible refine (HM2.out _).mono ?_)); rintro e w5 ⟨rfl, rfl⟩)
                    | (obtain ⟨p7, l7, b7, e7⟩ := HA.out _ _ D3.out E6.out; have E7 := Lib.hid e7; refine step_append_line rfl (.tmp 76) (.tmp 92) 39 rfl W i0 Tryz.underlying39 HI0.out HZ0.out HZ1.out HZ2.out rfl rfl (by simp) rfl p7 l7 b7 HLE.out ?_; clear p7 l7 b7 e7; intro v5 w7 O7 F7 G7; have K7 := Lib.hid (HK.out _ (Off.trans (off_below E7.out) E7.out.size G7))))
                have O8 := Lib.hid O7
                have B8 := Lib.hid F7
                clear O7 F7 G7 x0 x1 x2 x3 x4 x5 y0 y1 y2 y3
                go_wp2_with fail
                go_roundw
                case rel => exact ⟨i + 1, by simp, hl, by rw [← Nat.add_assoc, HTK.out]; exact O8.out, B8.out⟩
                case measure => simp [RowKit.intOf]; omega
              · obtain rfl : i = L.joints.length := by omega
                go_wp2_with fail
                go_loopw [5, 11] (fun vo vi wr => PRel W all (1 + L.secs.length + L.els.length + L.joints.length) L.sigs.length vo vi wr) (fun _ vi _ => L.sigs.length - (RowKit.intOf vi).toNat)
                case atStart => exact ⟨0, rfl, Nat.zero_le _, by rw [Nat.add_zero, HLS.out]; exact HO.out, HB.out⟩
                case round =>
                  obtain ⟨i, rfl, hi, ho, hb⟩ := hrel
                  obtain ⟨wo4, rfl⟩ : ∃ x : World, x = wr := ⟨_, rfl⟩
                  obtain ⟨ls4, hls⟩ : ∃ ls, all.take (1 + L.secs.length + L.els.length + L.joints.length + i) = ls := ⟨_, rfl⟩
                  rw [hls] at ho
                  clear HLS HO HB
                  have HLS := Lib.hid hls
                  obtain ⟨ao, co, rfl⟩ := ownL_shape ho
                  have HO := Lib.hid ho
                  have HB := Lib.hid hb
                  clear ho hb hls x0 x1 x2 x3 x4 x5
                  obtain ⟨x0, x1, x2, x3, x4, x5⟩ := HX.out.next HB.out HS.out
                  by_cases hl : i < L.sigs.length
                  · obtain ⟨x, hx⟩ := at_lt hl
                    obtain ⟨a, cap, he, _, hsc⟩ := HH.out.sg
                    cases he
                    obtain ⟨b, off, rfl, c0, c1, c2, c3⟩ := hsc wo4 HB.out i x hx
                    have hlt : (i : Int) < (L.sigs.length : Int) := by omega
                    have HTK := Lib.hid (take_line (HSG.out i x hx))
                    have HLE : Hid (ls4.length ≤ 400) := by
                      show _ ≤ _
                      rw [← HLS.out, List.length_take, HCNT.out]
                      omega
                    rw [HLS.out] at HTK
                    have hmx := List.mem_of_getElem? hx
                    obtain ⟨i1, e1, q1, r1⟩ := HF.out.gel x hmx
                    obtain ⟨⟨m1, m2⟩, ⟨m3, m4⟩⟩ := HF.out.gnum x hmx
                    have hgn := HH.out.sigName x hmx
                    obtain ⟨gn, ⟨p1, sd⟩, ov⟩ := x
                    simp only at c0 c1 c2 c3 q1 m1 m2 m3 m4 hgn
                    subst q1
                    have HN1 := Lib.hid (fun w' (b : Below W.heap.size W w') => rname_any L i1 e1 w' (HH.out.next b) r1)
                    have HD := Lib.hid (show sgL L ⟨gn, ((i1 : Int), sd), ov⟩ = [kSig, gn, e1.name] ++ [sd, ov].map itoa by
                      unfold sgL
                      simp only
                      rw [show elName L (i1 : Int) = _ from el_name' r1]
                      rfl)
                    rw [HD.out] at HTK
                    have hnl := HH.out.elName e1 (List.mem_of_getElem? r1)
                    have qa := (Below.refl wo4.heap.size wo4).alloc (Nat.le_refl _) (.cells #[.string (bs gn), .int .i64 (i1 : Int), .int .i64 sd, .int .i64 ov] 51)
                    have HWF : Hid (∀ x ∈ [sd, ov], (Lit.int .i64 x).wf = true) := by
                      intro x hx
                      simp only [List.mem_cons, List.not_mem_nil, or_false] at hx
                      rcases hx with rfl | rfl
                      · exact wf_of (by omega) (by omega)
                      · exact wf_of (by omega) (by omega)
                    obtain ⟨n1, hn1⟩ : ∃ t, e1.name = t := ⟨_, rfl⟩
                    rw [hn1] at HN1 HTK hnl
                    obtain ⟨lw, hlw⟩ : ∃ l, [kSig, gn, n1] ++ [sd, ov].map itoa = l := ⟨_, rfl⟩
                    rw [hlw] at HTK
                    have HGN := Lib.hid hgn
                    have HNN := Lib.hid hnl
                    unfold layV at HN1
                    have HL := Lib.hid (fun (w5 : World) (vw vn : Value) (k1 : Strs (In w5) w5 vw [kSig, gn, n1]) (k2 : Reads w5.heap.size w5 vn [sd, ov]) => rline_any (ws := [kSig, gn, n1]) (ns := [sd, ov]) w5 k1 (by simp) (by simp) k2 (by simp))
                    rw [hlw] at HL
                    have HRN := Lib.hid (fun (w5 : World) => ints_at_end w5 [sd, ov] #[.int .i64 sd, .int .i64 ov] 3 2 rfl rfl (by unfold maxLen; omega) HWF.out)
                    have HA : Hid (∀ W3 w5, Below W3.heap.size W3 w5 →
                        Calls Tryz.prog 23 #[.slice (some ⟨w5.heap.size, 0, none⟩) 3 3, .slice (some ⟨w5.heap.size + 1, 0, none⟩) 2 2] ((w5.alloc (.cells #[.string ⟨#[115, 105, 103, 110, 97, 108]⟩, .string (bs gn), .string (bs n1)] 9)).alloc (.cells #[.int .i64 sd, .int .i64 ov] 3)) (FreshOut lw ((w5.alloc (.cells #[.string ⟨#[115, 105, 103, 110, 97, 108]⟩, .string (bs gn), .string (bs n1)] 9)).alloc (.cells #[.int .i64 sd, .int .i64 ov] 3))) ∧
                        Below W3.heap.size W3 ((w5.alloc (.cells #[.string ⟨#[115, 105, 103, 110, 97, 108]⟩, .string (bs gn), .string (bs n1)] 9)).alloc (.cells #[.int .i64 sd, .int .i64 ov] 3))) := by
                      intro W3 w5 k5
                      refine ⟨?_, (k5.alloc k5.size _).alloc (by have := k5.size; simp; omega) _⟩
                      have hR := HRN.out (w5.alloc (.cells #[.string ⟨#[115, 105, 103, 110, 97, 108]⟩, .string (bs gn), .string (bs n1)] 9))
                      rw [show (w5.alloc (.cells #[.string ⟨#[115, 105, 103, 110, 97, 108]⟩, .string (bs gn), .string (bs n1)] 9)).heap.size = w5.heap.size + 1 by simp] at hR
                      exact HL.out _ _ _ (three_at w5 kSig gn n1 9 (.cells #[.int .i64 sd, .int .i64 ov] 3) (by decide) HGN.out HNN.out) hR
                    have HA2 : Hid (∀ W3 w5, Below W3.heap.size W3 w5 →
                        Calls Tryz.prog 23 #[.slice (some ⟨w5.heap.size + 1, 0, none⟩) 3 3, .slice (some ⟨w5.heap.size, 0, none⟩) 2 2] ((w5.alloc (.cells #[.int .i64 sd, .int .i64 ov] 3)).alloc (.cells #[.string ⟨#[115, 105, 103, 110, 97, 108]⟩, .string (bs gn), .string (bs n1)] 9)) (FreshOut lw ((w5.alloc (.cells #[.int .i64 sd, .int .i64 ov] 3)).alloc (.cells #[.string ⟨#[115, 105, 103, 110, 97, 108]⟩, .string (bs gn), .string (bs n1)] 9))) ∧
                        Below W3.heap.size W3 ((w5.alloc (.cells #[.int .i64 sd, .int .i64 ov] 3)).alloc (.cells #[.string ⟨#[115, 105, 103, 110, 97, 108]⟩, .string (bs gn), .string (bs n1)] 9))) := by
                      intro W3 w5 k5
                      refine ⟨?_, (k5.alloc k5.size _).alloc (by have := k5.size; simp; omega) _⟩
                      have hR := (fresh_line [kSig, gn, n1] (w := w5.alloc (.cells #[.int .i64 sd, .int .i64 ov] 3)) (T := 9) (cs := #[.string ⟨#[115, 105, 103, 110, 97, 108]⟩, .string (bs gn), .string (bs n1)]) (n := 3) rfl rfl (by unfold maxLen; omega) (three_short (by decide) HGN.out HNN.out)).keep (ok' := In _) (w' := (w5.alloc (.cells #[.int .i64 sd, .int .i64 ov] 3)).alloc (.cells #[.string ⟨#[115, 105, 103, 110, 97, 108]⟩, .string (bs gn), .string (bs n1)] 9)) (fun b hb => ⟨hb.2, rfl⟩)
                      rw [show (w5.alloc (.cells #[.int .i64 sd, .int .i64 ov] 3)).heap.size = w5.heap.size + 1 by simp] at hR
                      exact HL.out _ _ _ hR (rnext (HRN.out w5) ((Below.refl _ _).alloc (Nat.le_refl _) _))
                    have HA3 : Hid (∀ (W3 w5 : World) (g : Nat), Below W3.heap.size W3 w5 → Reads w5.heap.size w5 (.slice (some ⟨g, 0, none⟩) 2 2) [sd, ov] →
                        Calls Tryz.prog 23 #[.slice (some ⟨w5.heap.size, 0, none⟩) 3 3, .slice (some ⟨g, 0, none⟩) 2 2] (w5.alloc (.cells #[.string ⟨#[115, 105, 103, 110, 97, 108]⟩, .string (bs gn), .string (bs n1)] 9)) (FreshOut lw (w5.alloc (.cells #[.string ⟨#[115, 105, 103, 110, 97, 108]⟩, .string (bs gn), .string (bs n1)] 9))) ∧
                        Below W3.heap.size W3 (w5.alloc (.cells #[.string ⟨#[115, 105, 103, 110, 97, 108]⟩, .string (bs gn), .string (bs n1)] 9))) := by
                      intro W3 w5 g k5 kr
                      have hR := (fresh_line [kSig, gn, n1] (w := w5) (T := 9) (cs := #[.string ⟨#[115, 105, 103, 110, 97, 108]⟩, .string (bs gn), .string (bs n1)]) (n := 3) rfl rfl (by unfold maxLen; omega) (three_short (by decide) HGN.out HNN.out)).keep (ok' := In _) (w' := w5.alloc (.cells #[.string ⟨#[115, 105, 103, 110, 97, 108]⟩, .string (bs gn), .string (bs n1)] 9)) (fun b hb => ⟨hb.2, rfl⟩)
                      exact ⟨HL.out _ _ _ hR (rnext kr ((Below.refl _ _).alloc (Nat.le_refl _) _)), k5.alloc k5.size _⟩
                    have HW3 : Hid (∀ W3, wo4.alloc (.cells #[.string (bs gn), .int .i64 (i1 : Int), .int .i64 sd, .int .i64 ov] 51) = W3 → Below wo4.heap.size wo4 W3 ∧ W3.heap.size = wo4.heap.size + 1 ∧ ∀ w', Off (.slice ao ls4.length co) W3 w' → (w'.cell? ⟨w.heap.size, 0, none⟩ = some (.string (bs L.name)) ∧ w'.cell? ⟨w.heap.size, 1, none⟩ = some (.slice sa L.secs.length sc) ∧ w'.cell? ⟨w.heap.size, 2, none⟩ = some (.slice ea L.els.length ec) ∧ w'.cell? ⟨w.heap.size, 3, none⟩ = some (.slice ja L.joints.length jc) ∧ w'.cell? ⟨w.heap.size, 4, none⟩ = some (.slice (some ⟨b, off, none⟩) L.sigs.length gc) ∧ w'.cell? ⟨w.heap.size, 5, none⟩ = some (.slice ba L.bals.length bc) ∧ w'.cell? ⟨wo4.heap.size, 0, none⟩ = some (.string (bs gn)) ∧ w'.cell? ⟨wo4.heap.size, 1, none⟩ = some (.int .i64 (i1 : Int)) ∧ w'.cell? ⟨wo4.heap.size, 2, none⟩ = some (.int .i64 sd) ∧ w'.cell? ⟨wo4.heap.size, 3, none⟩ = some (.int .i64 ov))) := by
                      rintro W3 rfl
                      refine ⟨qa, by simp, fun w' ho => ?_⟩
                      have hsz : (wo4.alloc (.cells #[.string (bs gn), .int .i64 (i1 : Int), .int .i64 sd, .int .i64 ov] 51)).heap.size = wo4.heap.size + 1 := by simp
                      have hne : ∀ k, (k < W.heap.size ∨ wo4.heap.size ≤ k) → some k ≠ (Value.slice ao ls4.length co).ownBlock := by
                        intro k hk e
                        have := own_lt HO.out k e.symm
                        omega
                      have hbx : w.heap.size < W.heap.size := HS.out
                      have hbs := HB.out.size
                      obtain ⟨y0, y1, y2, y3, y4, y5⟩ := HX.out.next (bel_next HB.out qa) HS.out
                      have n0 := hne w.heap.size (.inl hbx)
                      have n1 := hne wo4.heap.size (.inr (Nat.le_refl _))
                      exact ⟨(ho.cell (by show w.heap.size < _; omega) n0).trans y0, (ho.cell (by show w.heap.size < _; omega) n0).trans y1, (ho.cell (by show w.heap.size < _; omega) n0).trans y2, (ho.cell (by show w.heap.size < _; omega) n0).trans y3, (ho.cell (by show w.heap.size < _; omega) n0).trans y4, (ho.cell (by show w.heap.size < _; omega) n0).trans y5, (ho.cell (by show wo4.heap.size < _; omega) n1).trans (by simp [go_sem]), (ho.cell (by show wo4.heap.size < _; omega) n1).trans (by simp [go_sem]), (ho.cell (by show wo4.heap.size < _; omega) n1).trans (by simp [go_sem]), (ho.cell (by show wo4.heap.size < _; omega) n1).trans (by simp [go_sem])⟩
                    clear hx hsc hmx HD m1 m2 m3 m4 r1 qa hn1 hgn hnl hlw
                    go_wp2_with fail
                    obtain ⟨W3, hW3⟩ : ∃ W3, wo4.alloc (.cells #[.string (bs gn), .int .i64 (i1 : Int), .int .i64 sd, .int .i64 ov] 51) = W3 := ⟨_, rfl⟩
                    rw [hW3]
                    obtain ⟨dw3, hz3, hk3⟩ := HW3.out W3 hW3
                    have D3 := Lib.hid dw3
                    have HK := Lib.hid hk3
                    have DW := Lib.hid (bel_next HB.out dw3)
                    have DN3 := Lib.hid (((Below.refl W3.heap.size W3).alloc (Nat.le_refl _) (.cells #[.int .i64 sd, .int .i64 ov] 3)).drew)
                    have DN := Lib.hid (bel_next DW.out DN3.out)
                    have RN := Lib.hid (rnext (HRN.out W3) (Below.refl _ _).drew)
                    have HG := Lib.hid (fun (C : World) (hC : Below W3.heap.size W3 C) g (hg : (Value.slice ao ls4.length co).ownBlock = some g) => Nat.lt_of_lt_of_le (own_lt HO.out g hg).2 (bel_next dw3 hC).size)
                    clear dw3 hk3 HW3 x0 x1 x2 x3 x4 x5 c0 c1 c2 c3
                    obtain ⟨x0, x1, x2, x3, x4, x5, y0, y1, y2, y3⟩ := HK.out W3 (fun _ _ _ => rfl)
                    clear hW3
                    go_region_held3 (fun w' => w'.cell? ⟨w.heap.size, 0, none⟩ = some (.string (bs L.name)) ∧ w'.cell? ⟨w.heap.size, 1, none⟩ = some (.slice sa L.secs.length sc) ∧ w'.cell? ⟨w.heap.size, 2, none⟩ = some (.slice ea L.els.length ec) ∧ w'.cell? ⟨w.heap.size, 3, none⟩ = some (.slice ja L.joints.length jc) ∧ w'.cell? ⟨w.heap.size, 4, none⟩ = some (.slice (some ⟨b, off, none⟩) L.sigs.length gc) ∧ w'.cell? ⟨w.heap.size, 5, none⟩ = some (.slice ba L.bals.length bc) ∧ w'.cell? ⟨wo4.heap.size, 0, none⟩ = some (.string (bs gn)) ∧ w'.cell? ⟨wo4.heap.size, 1, none⟩ = some (.int .i64 (i1 : Int)) ∧ w'.cell? ⟨wo4.heap.size, 2, none⟩ = some (.int .i64 sd) ∧ w'.cell? ⟨wo4.heap.size, 3, none⟩ = some (.int .i64 ov))
                      (first
                        | with_reducible exact K7.out
                        | with_reducible exact HK.out _ (off_below E6.out)
                        | with_reducible exact HK.out _ (off_below E4.out)
                        | go_keep)
                      (first
                        | (go_at_call 21; (with_reducible refine (HN1.out _ DW.out.drew).mono ?_); rintro e w4 ⟨rfl, b4⟩; have E4 := Lib.hid (bel_drew b4); clear b4)
                        | (go_at_call 21; (with_reducible refine (HN1.out _ DN.out).mono ?_); rintro e w4 ⟨rfl, b4⟩; have E4 := Lib.hid (bel_next DN3.out b4); have R4 := Lib.hid (rnext RN.out b4); have R5 := R4; rw [hz3] at R5; clear b4)
                        | (go_at_call 23; (with_reducible refine Calls.mono (HA.out _ _ E4.out).1 ?_); have E5 := Lib.hid (HA.out _ _ E4.out).2; rintro e w6 ⟨v6, rfl, ⟨va, vn, vc, rfl⟩, hs6, b6⟩; have S6 := Lib.hid hs6; have E6 := Lib.hid (bel_next E5.out b6); clear b6 hs6)
                        | (go_at_call 23; (with_reducible refine Calls.mono (HA2.out _ _ E4.out).1 ?_); have E5 := Lib.hid (HA2.out _ _ E4.out).2; rintro e w6 ⟨v6, rfl, ⟨va, vn, vc, rfl⟩, hs6, b6⟩; have S6 := Lib.hid hs6; have E6 := Lib.hid (bel_next E5.out b6); clear b6 hs6)
                        | (go_at_call 23; (with_reducible refine Calls.mono (HA3.out _ _ _ E4.out R4.out).1 ?_); have E5 := Lib.hid (HA3.out _ _ _ E4.out R4.out).2; rintro e w6 ⟨v6, rfl, ⟨va, vn, vc, rfl⟩, hs6, b6⟩; have S6 := Lib.hid hs6; have E6 := Lib.hid (bel_next E5.out b6); clear b6 hs6)
                        | (go_at_call 23; (with_reducible refine Calls.mono (HA3.out _ _ _ E4.out R5.out).1 ?_); have E5 := Lib.hid (HA3.out _ _ _ E4.out R5.out).2; rintro e w6 ⟨v6, rfl, ⟨va, vn, vc, rfl⟩, hs6, b6⟩; have S6 := Lib.hid hs6; have E6 := Lib.hid (bel_next E5.out b6); clear b6 hs6)
                        | (refine step_append_line rfl (.tmp 106) (.tmp 122) 39 rfl W i0 Tryz.underlying39 HI0.out HZ0.out HZ1.out HZ2.out rfl rfl rfl rfl (HO.out.next (bel_next D3.out E6.out)) (strs_off (HG.out _ E5.out) S6.out) (bel_next DW.out E6.out) HLE.out ?_; intro v5 w7 O7 F7 G7; have K7 := Lib.hid (HK.out _ (Off.trans (off_below E6.out) E6.out.size G7))))
                    · have O8 := Lib.hid O7
                      have B8 := Lib.hid F7
                      clear O7 F7 G7 x0 x1 x2 x3 x4 x5 y0 y1 y2 y3
                      go_wp2_with fail
                      go_roundw
                      case rel => exact ⟨i + 1, by simp, hl, by rw [← Nat.add_assoc, HTK.out]; exact O8.out, B8.out⟩
                      case measure => simp [RowKit.intOf]; omega
                    · have O8 := Lib.hid O7
                      have B8 := Lib.hid F7
                      clear O7 F7 G7 x0 x1 x2 x3 x4 x5 y0 y1 y2 y3
                      go_wp2_with fail
                      go_roundw
                      case rel => exact ⟨i + 1, by simp, hl, by rw [← Nat.add_assoc, HTK.out]; exact O8.out, B8.out⟩
                      case measure => simp [RowKit.intOf]; omega
                    · have O8 := Lib.hid O7
                      have B8 := Lib.hid F7
                      clear O7 F7 G7 x0 x1 x2 x3 x4 x5 y0 y1 y2 y3
                      go_wp2_with fail
                      go_roundw
                      case rel => exact ⟨i + 1, by simp, hl, by rw [← Nat.add_assoc, HTK.out]; exact O8.out, B8.out⟩
                      case measure => simp [RowKit.intOf]; omega
                  · obtain rfl : i = L.sigs.length := by omega
                    go_wp2_with fail
                    go_loopw [5, 13] (fun vo vi wr => PRel W all (1 + L.secs.length + L.els.length + L.joints.length + L.sigs.length) L.bals.length vo vi wr) (fun _ vi _ => L.bals.length - (RowKit.intOf vi).toNat)
                    case atStart => exact ⟨0, rfl, Nat.zero_le _, by rw [Nat.add_zero, HLS.out]; exact HO.out, HB.out⟩
                    case round =>
                      obtain ⟨i, rfl, hi, ho, hb⟩ := hrel
                      obtain ⟨wo5, rfl⟩ : ∃ x : World, x = wr := ⟨_, rfl⟩
                      obtain ⟨ls5, hls⟩ : ∃ ls, all.take (1 + L.secs.length + L.els.length + L.joints.length + L.sigs.length + i) = ls := ⟨_, rfl⟩
                      rw [hls] at ho
                      clear HLS HO HB
                      have HLS := Lib.hid hls
                      obtain ⟨ao, co, rfl⟩ := ownL_shape ho
                      have HO := Lib.hid ho
                      have HB := Lib.hid hb
                      clear ho hb hls x0 x1 x2 x3 x4 x5
                      obtain ⟨x0, x1, x2, x3, x4, x5⟩ := HX.out.next HB.out HS.out
                      by_cases hl : i < L.bals.length
                      · obtain ⟨x, hx⟩ := at_lt hl
                        obtain ⟨a, cap, he, _, hsc⟩ := HH.out.bl
                        cases he
                        obtain ⟨b, off, rfl, c0, c1, c2⟩ := hsc wo5 HB.out i x hx
                        have hlt : (i : Int) < (L.bals.length : Int) := by omega
                        have HTK := Lib.hid (take_line (HBL.out i x hx))
                        have HLE : Hid (ls5.length ≤ 400) := by
                          show _ ≤ _
                          rw [← HLS.out, List.length_take, HCNT.out]
                          omega
                        rw [HLS.out] at HTK
                        have hmx := List.mem_of_getElem? hx
                        obtain ⟨i1, e1, q1, r1⟩ := HF.out.bel x hmx
                        obtain ⟨⟨m1, m2⟩, ⟨m3, m4⟩⟩ := HF.out.bnum x hmx
                        obtain ⟨id, p1, of⟩ := x
                        simp only at c0 c1 c2 q1 m1 m2 m3 m4
                        subst q1
                        have HN1 := Lib.hid (fun w' (b : Below W.heap.size W w') => rname_any L i1 e1 w' (HH.out.next b) r1)
                        have HM1 := Lib.hid (fun w' => rformat_any id w' (by omega) (by omega))
                        have HM2 := Lib.hid (fun w' => rformat_any of w' (by omega) (by omega))
                        have HD := Lib.hid (show blL L ⟨id, (i1 : Int), of⟩ = [kBal, itoa id, e1.name, itoa of] by
                          unfold blL
                          simp only
                          rw [show elName L (i1 : Int) = _ from el_name' r1])
                        rw [HD.out] at HTK
                        have hsh := four_short (a := kBal) (by decide) (itoa_short m1 (by omega)) (HH.out.elName e1 (List.mem_of_getElem? r1)) (itoa_short m3 (by omega))
                        have qa := (Below.refl wo5.heap.size wo5).alloc (Nat.le_refl _) (.cells #[.int .i64 id, .int .i64 (i1 : Int), .int .i64 of] 59)
                        obtain ⟨t1, ht1⟩ : ∃ t, itoa id = t := ⟨_, rfl⟩
                        obtain ⟨t2, ht2⟩ : ∃ t, itoa of = t := ⟨_, rfl⟩
                        obtain ⟨n1, hn1⟩ : ∃ t, e1.name = t := ⟨_, rfl⟩
                        rw [ht1] at HM1
                        rw [ht2] at HM2
                        rw [hn1] at HN1
                        unfold layV at HN1
                        rw [ht1, ht2, hn1] at HTK hsh
                        have HA : Hid (∀ W3 w6, Below wo5.heap.size wo5 W3 → Below W3.heap.size W3 w6 →
                            OwnL W.heap.size (w6.alloc (.cells #[.string ⟨#[98, 97, 108, 105, 115, 101]⟩, .string (bs t1), .string (bs n1), .string (bs t2)] 9)) (.slice ao ls5.length co) ls5 none ∧
                            Strs (fun b => b < (w6.alloc (.cells #[.string ⟨#[98, 97, 108, 105, 115, 101]⟩, .string (bs t1), .string (bs n1), .string (bs t2)] 9)).heap.size ∧ some b ≠ (Value.slice ao ls5.length co).ownBlock) (w6.alloc (.cells #[.string ⟨#[98, 97, 108, 105, 115, 101]⟩, .string (bs t1), .string (bs n1), .string (bs t2)] 9)) (.slice (some ⟨w6.heap.size, 0, none⟩) 4 4) [kBal, t1, n1, t2] ∧
                            Below W.heap.size W (w6.alloc (.cells #[.string ⟨#[98, 97, 108, 105, 115, 101]⟩, .string (bs t1), .string (bs n1), .string (bs t2)] 9)) ∧
                            Below W3.heap.size W3 (w6.alloc (.cells #[.string ⟨#[98, 97, 108, 105, 115, 101]⟩, .string (bs t1), .string (bs n1), .string (bs t2)] 9))) := by
                          intro W3 w6 k3 k6
                          have k7 := bel_next k6 ((Below.refl w6.heap.size w6).alloc (Nat.le_refl _) (.cells #[.string ⟨#[98, 97, 108, 105, 115, 101]⟩, .string (bs t1), .string (bs n1), .string (bs t2)] 9))
                          exact ⟨HO.out.next (bel_next k3 k7), strs_off (fun g hg => Nat.lt_of_lt_of_le (own_lt HO.out g hg).2 (bel_next k3 k6).size) (fresh_line [kBal, t1, n1, t2] (w := w6) rfl rfl (by unfold maxLen; omega) hsh), bel_next HB.out (bel_next k3 k7), k7⟩
                        have HW3 : Hid (∀ W3, wo5.alloc (.cells #[.int .i64 id, .int .i64 (i1 : Int), .int .i64 of] 59) = W3 → Below wo5.heap.size wo5 W3 ∧ W3.heap.size = wo5.heap.size + 1 ∧ ∀ w', Off (.slice ao ls5.length co) W3 w' → (w'.cell? ⟨w.heap.size, 0, none⟩ = some (.string (bs L.name)) ∧ w'.cell? ⟨w.heap.size, 1, none⟩ = some (.slice sa L.secs.length sc) ∧ w'.cell? ⟨w.heap.size, 2, none⟩ = some (.slice ea L.els.length ec) ∧ w'.cell? ⟨w.heap.size, 3, none⟩ = some (.slice ja L.joints.length jc) ∧ w'.cell? ⟨w.heap.size, 4, none⟩ = some (.slice ga L.sigs.length gc) ∧ w'.cell? ⟨w.heap.size, 5, none⟩ = some (.slice (some ⟨b, off, none⟩) L.bals.length bc) ∧ w'.cell? ⟨wo5.heap.size, 0, none⟩ = some (.int .i64 id) ∧ w'.cell? ⟨wo5.heap.size, 1, none⟩ = some (.int .i64 (i1 : Int)) ∧ w'.cell? ⟨wo5.heap.size, 2, none⟩ = some (.int .i64 of))) := by
                          rintro W3 rfl
                          refine ⟨qa, by simp, fun w' ho => ?_⟩
                          have hsz : (wo5.alloc (.cells #[.int .i64 id, .int .i64 (i1 : Int), .int .i64 of] 59)).heap.size = wo5.heap.size + 1 := by simp
                          have hne : ∀ k, (k < W.heap.size ∨ wo5.heap.size ≤ k) → some k ≠ (Value.slice ao ls5.length co).ownBlock := by
                            intro k hk e
                            have := own_lt HO.out k e.symm
                            omega
                          have hbx : w.heap.size < W.heap.size := HS.out
                          have hbs := HB.out.size
                          obtain ⟨y0, y1, y2, y3, y4, y5⟩ := HX.out.next (bel_next HB.out qa) HS.out
                          have n0 := hne w.heap.size (.inl hbx)
                          have n1 := hne wo5.heap.size (.inr (Nat.le_refl _))
                          exact ⟨(ho.cell (by show w.heap.size < _; omega) n0).trans y0, (ho.cell (by show w.heap.size < _; omega) n0).trans y1, (ho.cell (by show w.heap.size < _; omega) n0).trans y2, (ho.cell (by show w.heap.size < _; omega) n0).trans y3, (ho.cell (by show w.heap.size < _; omega) n0).trans y4, (ho.cell (by show w.heap.size < _; omega) n0).trans y5, (ho.cell (by show wo5.heap.size < _; omega) n1).trans (by simp [go_sem]), (ho.cell (by show wo5.heap.size < _; omega) n1).trans (by simp [go_sem]), (ho.cell (by show wo5.heap.size < _; omega) n1).trans (by simp [go_sem])⟩
                        clear hx hsc hmx HD m1 m2 m3 m4 r1 qa hn1 ht1 ht2 hsh
                        go_wp2_with fail
                        obtain ⟨W3, hW3⟩ : ∃ W3, wo5.alloc (.cells #[.int .i64 id, .int .i64 (i1 : Int), .int .i64 of] 59) = W3 := ⟨_, rfl⟩
                        rw [hW3]
                        obtain ⟨dw3, hz3, hk3⟩ := HW3.out W3 hW3
                        have D3 := Lib.hid dw3
                        have HK := Lib.hid hk3
                        have DW := Lib.hid (bel_next HB.out dw3)
                        clear dw3 hk3 HW3 x0 x1 x2 x3 x4 x5 c0 c1 c2
                        obtain ⟨x0, x1, x2, x3, x4, x5, y0, y1, y2⟩ := HK.out W3 (fun _ _ _ => rfl)
                        clear hW3
                        go_region_held3 (fun w' => w'.cell? ⟨w.heap.size, 0, none⟩ = some (.string (bs L.name)) ∧ w'.cell? ⟨w.heap.size, 1, none⟩ = some (.slice sa L.secs.length sc) ∧ w'.cell? ⟨w.heap.size, 2, none⟩ = some (.slice ea L.els.length ec) ∧ w'.cell? ⟨w.heap.size, 3, none⟩ = some (.slice ja L.joints.length jc) ∧ w'.cell? ⟨w.heap.size, 4, none⟩ = some (.slice ga L.sigs.length gc) ∧ w'.cell? ⟨w.heap.size, 5, none⟩ = some (.slice (some ⟨b, off, none⟩) L.bals.length bc) ∧ w'.cell? ⟨wo5.heap.size, 0, none⟩ = some (.int .i64 id) ∧ w'.cell? ⟨wo5.heap.size, 1, none⟩ = some (.int .i64 (i1 : Int)) ∧ w'.cell? ⟨wo5.heap.size, 2, none⟩ = some (.int .i64 of))
                          (first
                            | with_reducible exact K7.out
                            | with_reducible exact HK.out _ (off_below E4.out)
                            | go_keep)
                          (first
                            | (go_at_call 21; (with_reducible refine (HN1.out _ DW.out.drew).mono ?_); rintro e w4 ⟨rfl, b4⟩; have E4 := Lib.hid (bel_drew b4); clear b4)
                            | (go_at_call 22; (first | (with_reducible refine (HM1.out _).mono ?_) | (with_reducible refine (HM2.out _).mono ?_)); rintro e w5 ⟨rfl, rfl⟩)
                            | (obtain ⟨p7, l7, b7, e7⟩ := HA.out _ _ D3.out E4.out; have E7 := Lib.hid e7; refine step_append_line rfl (.tmp 136) (.tmp 148) 39 rfl W i0 Tryz.underlying39 HI0.out HZ0.out HZ1.out HZ2.out rfl rfl (by simp) rfl p7 l7 b7 HLE.out ?_; clear p7 l7 b7 e7; intro v5 w7 O7 F7 G7; have K7 := Lib.hid (HK.out _ (Off.trans (off_below E7.out) E7.out.size G7))))
                        have O8 := Lib.hid O7
                        have B8 := Lib.hid F7
                        clear O7 F7 G7 x0 x1 x2 x3 x4 x5 y0 y1 y2
                        go_wp2_with fail
                        go_roundw
                        case rel => exact ⟨i + 1, by simp, hl, by rw [← Nat.add_assoc, HTK.out]; exact O8.out, B8.out⟩
                        case measure => simp [RowKit.intOf]; omega
                      · obtain rfl : i = L.bals.length := by omega
                        have hal : ls5 = all := by
                          rw [← HLS.out]
                          exact List.take_of_length_le (by rw [HCNT.out]; omega)
                        subst hal
                        have hj := rjoin_any (w := wo5) HO.out.lns (by have h1 := HTL.out; have h2 := HCNT.out; omega)
                        obtain ⟨⟨t, je⟩, hte⟩ : ∃ r, Text.joinR ls5 = r := ⟨_, rfl⟩
                        rw [joinV_of hte] at hj
                        have HJ := Lib.hid hj
                        have HPV := Lib.hid (HPR.out.trans (by rw [hte] : _ = (t, (je : Int))))
                        clear hj hte
                        go_wp2_with fail
                        refine HJ.out.mono ?_
                        rintro e w9 ⟨rfl, b9⟩
                        have B9 := Lib.hid (bel_next HB.out b9)
                        clear b9
                        go_wp2_with fail
                        go_ret2
                        exact ⟨by rw [HPV.out]; rfl, bel_next B0.out B9.out⟩
  · obtain ⟨c, hcc⟩ : ∃ c, checkF L = c := ⟨_, rfl⟩
    have HPR : Hid (printF L = ([], c)) := by
      show _ = _
      unfold printF
      rw [if_neg hc, hcc]
    rw [hcc] at HC hc
    have q0 : (c != 0) = true := by simpa using hc
    clear hcc hc
    go_enter Tryz.func10, Tryz.ntmps10
    go_wp2_with fail
    rw [HW.out]
    refine HC.out.mono ?_
    rintro e w1 ⟨rfl, b1⟩
    have B1 := Lib.hid b1
    clear b1
    go_wp2_with fail
    go_ret2
    exact ⟨by rw [HPR.out]; rfl, bel_next B0.out B1.out⟩

end Go.Proofs.YtfdipcphohhlgaaGreatDoor.Rprt
