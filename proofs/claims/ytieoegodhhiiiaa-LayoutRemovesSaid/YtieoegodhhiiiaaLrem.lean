/- The call of the statement LayoutRemoves, from what the program's seven functions give. -/
import Derived.Test.YtieoegodhhiiiaaLali
import Derived.Test.YtieoegodhhiiiaaLrmp
import Derived.Deep.RegionHeld3
import Derived.Deep.DeepCutAuto
import Derived.Lib.QuietBelow
import Derived.BigGuardPart
import Derived.BigQuiet
namespace Go.Proofs.Ytieoegodhhiiiaa.Lrem
open Go.Proofs.Ytieoegodhhiiiaa.Text hiding lineL joinR
open Go.RowKit Go.Lib Go.Proofs.Ytieoegodhhiiiaa.Reads Go.Proofs.Ytieoegodhhiiiaa.Rows2 Go.Proofs.Ytieoegodhhiiiaa.Lay Go.Proofs.Ytieoegodhhiiiaa.Layf Go.Proofs.Ytieoegodhhiiiaa.Lcon Go.Proofs.Ytieoegodhhiiiaa.Ldup Go.Proofs.Ytieoegodhhiiiaa.Lext Go.Proofs.Ytieoegodhhiiiaa.Ljoi Go.Proofs.Ytieoegodhhiiiaa.Lmem Go.Proofs.Ytieoegodhhiiiaa.Lnmd Go.Proofs.Ytieoegodhhiiiaa.Lfew Go.Proofs.Ytieoegodhhiiiaa.Lsev Go.Proofs.Ytieoegodhhiiiaa.Lali Go.Proofs.Ytieoegodhhiiiaa.Lsig Go.Proofs.Ytieoegodhhiiiaa.Lcnt Go.Proofs.Ytieoegodhhiiiaa.Lapp Go.Proofs.Ytieoegodhhiiiaa.Lrmp

set_option maxRecDepth 100000 in
set_option maxHeartbeats 12800000 in
theorem removes_any {D : World → Prop} (S : Seven D) (L : Lay) (k : Nat) (hk : k ≤ 255) {vs ve vj vg vb : Value} (w : World) (h : LayAt (In w) w L vs ve vj vg vb) (hd : D w) :
    Calls Try.prog 6 #[layV L vs ve vj vg vb, .int .u8 (k : Int)] w (BoolOut true w) := by
  obtain ⟨sa, sc, ea, ec, ja, jc, ga, gc, ba, bc, rfl, rfl, rfl, rfl, rfl⟩ := shapes h
  have b0 := (Below.refl w.heap.size w).alloc (Nat.le_refl _) (.cells #[.string (bs L.name), .slice sa L.secs.length sc, .slice ea L.els.length ec, .slice ja L.joints.length jc, .slice ga L.sigs.length gc, .slice ba L.bals.length bc] 28)
  have hh := h.box (.cells #[.string (bs L.name), .slice sa L.secs.length sc, .slice ea L.els.length ec, .slice ja L.joints.length jc, .slice ga L.sigs.length gc, .slice ba L.bals.length bc] 28)
  have hx := lbox_new w 28 L (.slice sa L.secs.length sc) (.slice ea L.els.length ec) (.slice ja L.joints.length jc) (.slice ga L.sigs.length gc) (.slice ba L.bals.length bc)
  have dd := S.keep _ _ hd b0
  have hs0 : w.heap.size < (w.alloc (.cells #[.string (bs L.name), .slice sa L.secs.length sc, .slice ea L.els.length ec, .slice ja L.joints.length jc, .slice ga L.sigs.length gc, .slice ba L.bals.length bc] 28)).heap.size := by simp
  obtain ⟨W, hW⟩ : ∃ W, w.alloc (.cells #[.string (bs L.name), .slice sa L.secs.length sc, .slice ea L.els.length ec, .slice ja L.joints.length jc, .slice ga L.sigs.length gc, .slice ba L.bals.length bc] 28) = W := ⟨_, rfl⟩
  rw [hW] at b0 hh hx dd hs0
  have HW := Lib.hid hW
  have B0 := Lib.hid b0
  have HX := Lib.hid hx
  have HS := Lib.hid hs0
  have HF := Lib.hid (few_any L _ hh)
  have HA := Lib.hid (fun w' (b : Below W.heap.size W w') => alive_any S _ (S.keep _ _ dd b))
  have HC := Lib.hid (fun (hf : fewB L = true) w' (b : Below W.heap.size W w') => S.chk L _ _ _ _ _ _ (hh.next b) (S.keep _ _ dd b) hf)
  have HH := Lib.hid hh
  have DD := Lib.hid dd
  clear h hh hd dd hW b0 hx hs0
  obtain ⟨r, hr⟩ : ∃ r, checkF L = r := ⟨_, rfl⟩
  rw [hr] at HC
  have HCK := Lib.hid hr
  clear hr
  obtain ⟨b, hb⟩ : ∃ b, fewB L = b := ⟨_, rfl⟩
  rw [hb] at HF HC
  have HFW := Lib.hid hb
  clear hb
  unfold layV
  go_enter Try.func6, Try.ntmps6
  go_wp2_with fail
  rw [HW.out]
  obtain ⟨x0, x1, x2, x3, x4, x5⟩ := HX.out
  refine HF.out.mono ?_
  rintro e w1 ⟨rfl, b1⟩
  have B1 := Lib.hid b1
  clear b1 x0 x1 x2 x3 x4 x5
  obtain ⟨x0, x1, x2, x3, x4, x5⟩ := HX.out.next B1.out HS.out
  cases b
  · go_wp2_with fail
    refine (HA.out _ B1.out).mono ?_
    rintro e w2 ⟨rfl, b2⟩
    have B2 := Lib.hid (bel_next B1.out b2)
    clear b2
    go_wp2_with fail
    go_ret
    exact ⟨rfl, bel_next B0.out B2.out⟩
  · go_wp2_with fail
    refine (HC.out (by trivial) _ B1.out).mono ?_
    rintro e w2 ⟨rfl, b2⟩
    have B2 := Lib.hid (bel_next B1.out b2)
    clear b2 x0 x1 x2 x3 x4 x5
    obtain ⟨x0, x1, x2, x3, x4, x5⟩ := HX.out.next B2.out HS.out
    by_cases hr0 : r = 0
    · subst hr0
      obtain ⟨f1, f2, f3, f4, f5⟩ := few_yes HFW.out
      have hlt : w.heap.size < w2.heap.size := Nat.lt_of_lt_of_le HS.out B2.out.size
      go_upto_if 22 with fail
      have b3 := (Below.refl w2.heap.size w2).alloc (Nat.le_refl _) (.cells #[.string (bs L.name), .slice sa L.secs.length sc, .slice ea L.els.length ec, .slice ja L.joints.length jc, .slice ga L.sigs.length gc, .slice ba L.bals.length bc] 28)
      have r3 := heap_alloc_new w2 (.cells #[.string (bs L.name), .slice sa L.secs.length sc, .slice ea L.els.length ec, .slice ja L.joints.length jc, .slice ga L.sigs.length gc, .slice ba L.bals.length bc] 28)
      have g3 : w2.heap.size < (w2.alloc (.cells #[.string (bs L.name), .slice sa L.secs.length sc, .slice ea L.els.length ec, .slice ja L.joints.length jc, .slice ga L.sigs.length gc, .slice ba L.bals.length bc] 28)).heap.size := by simp
      obtain ⟨W3, hW3⟩ : ∃ W3, w2.alloc (.cells #[.string (bs L.name), .slice sa L.secs.length sc, .slice ea L.els.length ec, .slice ja L.joints.length jc, .slice ga L.sigs.length gc, .slice ba L.bals.length bc] 28) = W3 := ⟨_, rfl⟩
      rw [hW3] at b3 r3 g3 ⊢
      have B3 := Lib.hid (bel_next B2.out b3)
      have G3 := Lib.hid g3
      have HWB := Lib.hid (fun wx (b : But w2.heap.size W3.heap.size W3 wx) => But.below B3.out b B3.out.size B2.out.size)
      have HLW := Lib.hid (fun wx (b : But w2.heap.size W3.heap.size W3 wx) => lay_but HH.out B3.out B2.out.size b)
      have HDW := Lib.hid (fun wx (b : But w2.heap.size W3.heap.size W3 wx) => S.keep _ _ DD.out (HWB.out wx b))
      have R3 := Lib.hid r3
      have U3 := Lib.hid (But.refl w2.heap.size W3.heap.size W3)
      clear b3 r3 g3 hW3 x0 x1 x2 x3 x4 x5
      go_cut [6] (fun _ wx => MS w2.heap.size W3 L (.slice sa L.secs.length sc) (.slice ea L.els.length ec) wx)
      case first =>
        obtain ⟨x0, x1, x2, x3, x4, x5⟩ := HX.out.next (HWB.out W3 U3.out) HS.out
        by_cases hn : L.bals.length = 0
        · have hn2 : ¬ 0 < L.bals.length := by omega
          go_wp2_with fail
          go_meet
          exact ⟨U3.out, _, _, _, R3.out⟩
        · have hn2 : 0 < L.bals.length := by omega
          go_upto_region 6 with fail
          obtain ⟨i, hi, hil⟩ : ∃ i : Nat, (k : Int) % (L.bals.length : Int) = (i : Int) ∧ i < L.bals.length := ⟨k % L.bals.length, by simp, Nat.mod_lt _ hn2⟩
          rw [hi]
          clear hi hn
          obtain ⟨b, off, cap, he, hcap, hcap2, hbl, hsrc⟩ := rows_src (HLW.out W3 U3.out).bals (bal_len L.bals) (by rw [List.length_map]; exact hn2)
          rw [List.length_map] at he hcap hsrc
          have hds := drop_len (i := i + 1) (bal_len L.bals)
          have hts := take_len (i := i) (bal_len L.bals) (by rw [List.length_map]; omega)
          rw [List.length_map] at hds
          cases he
          have HSRC := Lib.hid (hsrc i hil)
          have HTS := Lib.hid hts
          have HDS := Lib.hid hds
          have y5 := (ms_cells R3.out).1.2.2.2.2.2
          have y6 := (ms_cells R3.out).2.1 5
          have b4 := ((Below.refl W3.heap.size W3).alloc (Nat.le_refl _) (.cells #[] 61)).drew
          have lt2 : w2.heap.size < W3.heap.size := (ms_cells R3.out).2.2
          have lt1 : w.heap.size < W3.heap.size := Nat.lt_trans hlt lt2
          obtain ⟨i0, hi, hz0, hz1, hz2⟩ := info_parts infoBa
          have hsl1 := cut_low 26 Try.underlying26 hi (b := b) (off := off) (Nat.le_of_lt hil) hcap
          obtain ⟨ad, hsl2, hhi⟩ := cut_high 26 (sz := 3) Try.underlying26 hi (by kernel_rfl) (b := b) (off := off) hil hcap
          have hwr : IntKind.i64.wrap ((i : Int) + 1) = (i : Int) + 1 := by rw [IntKind.wrap_i64]; omega
          have HHI := Lib.hid (hhi (L.bals.map Bal.cells))
          have HI0 := Lib.hid hi
          have HZ0 := Lib.hid hz0
          have HZ1 := Lib.hid hz1
          have HZ2 := Lib.hid hz2
          clear hi hz0 hz1 hz2 hsrc hds hts hhi
          go_region_held3 (fun w' => w'.cell? ⟨w.heap.size, 5, none⟩ = some (.slice (some ⟨b, off, none⟩) L.bals.length bc))
            (first
              | exact (cell_same (heap_setCell_other w5 _ _ _ (by simp; omega))).trans ((hb2.cell lt1).trans x5)
              | exact (hb2.cell lt1).trans x5
              | exact (hb1.cell lt1).trans x5
              | exact (b4.cell lt1).trans x5
              | go_keep)
            (first
              | (refine step_append_rows rfl (.tmp 34) (.tmp 39) 26 rfl W3.heap.size 61 i0 (.agg #[.int .i64 0, .int .i64 0, .int .i64 0]) 3 24 Try.underlying26 HI0.out HZ0.out HZ1.out HZ2.out rfl (by decide) _ _ _ rfl hown1 ad (L.bals.length - (i + 1)) (bc - (i + 1)) ((L.bals.map Bal.cells).drop (i + 1)).flatten rfl HDS.out (HHI.out _ (by rw [List.length_map]) (HSRC.out _ (hb1.block b hbl)).2) (drop_one (bal_one L.bals)) (by unfold maxLen; omega) (by omega) hb1.size ?_; intro v2 w5 hown2 hg2; obtain ⟨A2, C2, rfl⟩ := own_shape hown2; have hb2 := hb1.grown hg2 hb1.size (fun g hg => (hown1.lt g hg).1); have z5 := (hb2.cell (p := ⟨w2.heap.size, 5, none⟩) lt2).trans y5; have z6 := (frozen_same (hb2.block _ lt2)).trans y6)
              | (refine step_append_rows rfl (.tmp 29) (.tmp 33) 26 rfl W3.heap.size 61 i0 (.agg #[.int .i64 0, .int .i64 0, .int .i64 0]) 3 24 Try.underlying26 HI0.out HZ0.out HZ1.out HZ2.out rfl (by decide) _ _ _ rfl (own_empty W3 _ 3) ⟨b, off, none⟩ i bc ((L.bals.map Bal.cells).take i).flatten rfl HTS.out (HSRC.out _ (b4.block b hbl)).1 (take_one (bal_one L.bals)) (by unfold maxLen; omega) (by omega) b4.size ?_; intro v1 w4 hown1 hg1; obtain ⟨A1, C1, rfl⟩ := own_shape hown1; have hb1 := b4.grown hg1 b4.size (fun g hg => ((own_empty W3 61 3).lt g hg).1)))
          have hgd := less_grid Bal.cells (fun _ => rfl) hil hown2
          have hln := less_len hil
          rw [← hln] at hgd
          rw [Nat.zero_add] at hln
          rw [← hln]
          have row5 := (hb2.block _ lt2).trans R3.out
          have u5 := but_of (g := w2.heap.size) hb2 (Nat.le_refl _)
          have u6 := but_join U3.out (u5.setCell (p := ⟨w2.heap.size, 5, none⟩) (.inl rfl) (.slice A2 (less L.bals i).length C2)) U3.out.size
          have row6 := heap_setCell_same _ _ 5 _ _ (.slice A2 (less L.bals i).length C2) row5
          have gd6 := grid_set (g := w2.heap.size) (k := 5) (u := .slice A2 (less L.bals i).length C2) hgd lt2
          obtain ⟨w6, hw6⟩ : ∃ w6, w5.setCell ⟨w2.heap.size, 5, none⟩ (.slice A2 (less L.bals i).length C2) = w6 := ⟨_, rfl⟩
          rw [hw6] at u6 row6 gd6 ⊢
          have ly6 := lay_bals (HLW.out w6 u6) (less_sub L.bals i) gd6
          have HK6 := Lib.hid (S.chk _ _ _ _ _ _ w6 ly6 (HDW.out w6 u6) (few_bals HFW.out (less_sub L.bals i)))
          rw [remove_bals (less_sub L.bals i) HCK.out] at HK6
          have U6 := Lib.hid u6
          have R6 := Lib.hid (show w6.heap[w2.heap.size]? = some (.cells #[.string (bs L.name), .slice sa L.secs.length sc, .slice ea L.els.length ec, .slice ja L.joints.length jc, .slice ga L.sigs.length gc, .slice A2 (less L.bals i).length C2] 28 (0, 0)) by rw [row6]; rfl)
          unfold layV at HK6
          simp only at HK6
          obtain ⟨⟨m0, m1, m2, m3, m4, m5⟩, -, hlt6⟩ := ms_cells R6.out
          clear hown1 hown2 hg1 hg2 hb1 hb2 b4 z5 z6 y5 y6 hgd hln row5 u5 u6 row6 gd6 hw6 ly6 hsl1 hsl2 hwr x0 x1 x2 x3 x4 x5
          go_wp2_with fail
          refine HK6.out.mono ?_
          rintro e w7 ⟨rfl, b7⟩
          have U7 := Lib.hid (but_join U6.out (but_of b7 (Nat.le_refl _)) U6.out.size)
          have R7 := Lib.hid ((b7.block _ hlt6).trans R6.out)
          clear b7 m0 m1 m2 m3 m4 m5
          go_wp2_with fail
          go_meet
          exact ⟨U7.out, _, _, _, R7.out⟩
      case rest =>
        obtain ⟨u, c3, c4, c5, row⟩ := hcut
        obtain ⟨⟨m0, m1, m2, m3, m4, m5⟩, fz, hlg⟩ := ms_cells row
        have z0 := fz 0
        have z1 := fz 1
        have z2 := fz 2
        have z3 := fz 3
        have z4 := fz 4
        have z5 := fz 5
        obtain ⟨x0, x1, x2, x3, x4, x5⟩ := HX.out.next (HWB.out wc u) HS.out
        have u4 := but_store (d0 := .string (bs L.name)) (d1 := .slice sa L.secs.length sc) (d2 := .slice ea L.els.length ec) (d3 := .slice ja L.joints.length jc) (d4 := .slice ga L.sigs.length gc) (d5 := .slice ba L.bals.length bc) u
        have r4 := ms_store (d0 := .string (bs L.name)) (d1 := .slice sa L.secs.length sc) (d2 := .slice ea L.els.length ec) (d3 := .slice ja L.joints.length jc) (d4 := .slice ga L.sigs.length gc) (d5 := .slice ba L.bals.length bc) row
        have hlw : w.heap.size < wc.heap.size := Nat.lt_trans hlt hlg
        clear fz
        go_upto_if 49 with fail
        obtain ⟨W4, hW4⟩ : ∃ W4, (((((wc.setCell ⟨w2.heap.size, 0, none⟩ (.string (bs L.name))).setCell ⟨w2.heap.size, 1, none⟩ (.slice sa L.secs.length sc)).setCell ⟨w2.heap.size, 2, none⟩ (.slice ea L.els.length ec)).setCell ⟨w2.heap.size, 3, none⟩ (.slice ja L.joints.length jc)).setCell ⟨w2.heap.size, 4, none⟩ (.slice ga L.sigs.length gc)).setCell ⟨w2.heap.size, 5, none⟩ (.slice ba L.bals.length bc) = W4 := ⟨_, rfl⟩
        rw [hW4] at u4 r4 ⊢
        have U4 := Lib.hid u4
        have R4 := Lib.hid r4
        clear hW4 u4 r4 u row m0 m1 m2 m3 m4 m5 z0 z1 z2 z3 z4 z5 x0 x1 x2 x3 x4 x5 hlg hlw c3 c4 c5
        clear wc
        go_cut [7] (fun _ wx => MS w2.heap.size W3 L (.slice sa L.secs.length sc) (.slice ea L.els.length ec) wx)
        case first =>
          obtain ⟨x0, x1, x2, x3, x4, x5⟩ := HX.out.next (HWB.out W4 U4.out) HS.out
          by_cases hn : L.sigs.length = 0
          · have hn2 : ¬ 0 < L.sigs.length := by omega
            go_wp2_with fail
            go_meet
            exact ⟨U4.out, _, _, _, R4.out⟩
          · have hn2 : 0 < L.sigs.length := by omega
            go_upto_region 12 with fail
            obtain ⟨i, hi, hil⟩ : ∃ i : Nat, (k : Int) % (L.sigs.length : Int) = (i : Int) ∧ i < L.sigs.length := ⟨k % L.sigs.length, by simp, Nat.mod_lt _ hn2⟩
            rw [hi]
            clear hi hn
            obtain ⟨b, off, cap, he, hcap, hcap2, hbl, hsrc⟩ := rows_src (HLW.out W4 U4.out).sigs (sig_len L.sigs) (by rw [List.length_map]; exact hn2)
            rw [List.length_map] at he hcap hsrc
            have hds := drop_len (i := i + 1) (sig_len L.sigs)
            have hts := take_len (i := i) (sig_len L.sigs) (by rw [List.length_map]; omega)
            rw [List.length_map] at hds
            cases he
            have HSRC := Lib.hid (hsrc i hil)
            have HTS := Lib.hid hts
            have HDS := Lib.hid hds
            have y5 := (ms_cells R4.out).1.2.2.2.2.1
            have y6 := (ms_cells R4.out).2.1 4
            have b4 := ((Below.refl W4.heap.size W4).alloc (Nat.le_refl _) (.cells #[] 55)).drew
            have lt2 : w2.heap.size < W4.heap.size := (ms_cells R4.out).2.2
            have lt1 : w.heap.size < W4.heap.size := Nat.lt_trans hlt lt2
            obtain ⟨i0, hi, hz0, hz1, hz2⟩ := info_parts infoSg
            have hsl1 := cut_low 25 Try.underlying25 hi (b := b) (off := off) (Nat.le_of_lt hil) hcap
            obtain ⟨ad, hsl2, hhi⟩ := cut_high 25 (sz := 4) Try.underlying25 hi (by kernel_rfl) (b := b) (off := off) hil hcap
            have hwr : IntKind.i64.wrap ((i : Int) + 1) = (i : Int) + 1 := by rw [IntKind.wrap_i64]; omega
            have HHI := Lib.hid (hhi (L.sigs.map Sig.cells))
            have HI0 := Lib.hid hi
            have HZ0 := Lib.hid hz0
            have HZ1 := Lib.hid hz1
            have HZ2 := Lib.hid hz2
            clear hi hz0 hz1 hz2 hsrc hds hts hhi
            go_region_held3 (fun w' => w'.cell? ⟨w.heap.size, 4, none⟩ = some (.slice (some ⟨b, off, none⟩) L.sigs.length gc))
              (first
                | exact (cell_same (heap_setCell_other w5 _ _ _ (by simp; omega))).trans ((hb2.cell lt1).trans x4)
                | exact (hb2.cell lt1).trans x4
                | exact (hb1.cell lt1).trans x4
                | exact (b4.cell lt1).trans x4
                | go_keep)
              (first
                | (refine step_append_rows rfl (.tmp 61) (.tmp 66) 25 rfl W4.heap.size 55 i0 (.agg #[.string ByteArray.empty, .int .i64 0, .int .i64 0, .int .i64 0]) 4 40 Try.underlying25 HI0.out HZ0.out HZ1.out HZ2.out rfl (by decide) _ _ _ rfl hown1 ad (L.sigs.length - (i + 1)) (gc - (i + 1)) ((L.sigs.map Sig.cells).drop (i + 1)).flatten rfl HDS.out (HHI.out _ (by rw [List.length_map]) (HSRC.out _ (hb1.block b hbl)).2) (drop_one (sig_one L.sigs)) (by unfold maxLen; omega) (by omega) hb1.size ?_; intro v2 w5 hown2 hg2; obtain ⟨A2, C2, rfl⟩ := own_shape hown2; have hb2 := hb1.grown hg2 hb1.size (fun g hg => (hown1.lt g hg).1); have z5 := (hb2.cell (p := ⟨w2.heap.size, 4, none⟩) lt2).trans y5; have z6 := (frozen_same (hb2.block _ lt2)).trans y6)
                | (refine step_append_rows rfl (.tmp 56) (.tmp 60) 25 rfl W4.heap.size 55 i0 (.agg #[.string ByteArray.empty, .int .i64 0, .int .i64 0, .int .i64 0]) 4 40 Try.underlying25 HI0.out HZ0.out HZ1.out HZ2.out rfl (by decide) _ _ _ rfl (own_empty W4 _ 4) ⟨b, off, none⟩ i gc ((L.sigs.map Sig.cells).take i).flatten rfl HTS.out (HSRC.out _ (b4.block b hbl)).1 (take_one (sig_one L.sigs)) (by unfold maxLen; omega) (by omega) b4.size ?_; intro v1 w4 hown1 hg1; obtain ⟨A1, C1, rfl⟩ := own_shape hown1; have hb1 := b4.grown hg1 b4.size (fun g hg => ((own_empty W4 55 4).lt g hg).1)))
            have hgd := less_grid Sig.cells (fun _ => rfl) hil hown2
            have hln := less_len hil
            rw [← hln] at hgd
            rw [Nat.zero_add] at hln
            rw [← hln]
            have row5 := (hb2.block _ lt2).trans R4.out
            have u5 := but_of (g := w2.heap.size) hb2 (Nat.le_refl _)
            have u6 := but_join U4.out (u5.setCell (p := ⟨w2.heap.size, 4, none⟩) (.inl rfl) (.slice A2 (less L.sigs i).length C2)) U4.out.size
            have row6 := heap_setCell_same _ _ 4 _ _ (.slice A2 (less L.sigs i).length C2) row5
            have gd6 := grid_set (g := w2.heap.size) (k := 4) (u := .slice A2 (less L.sigs i).length C2) hgd lt2
            obtain ⟨w6, hw6⟩ : ∃ w6, w5.setCell ⟨w2.heap.size, 4, none⟩ (.slice A2 (less L.sigs i).length C2) = w6 := ⟨_, rfl⟩
            rw [hw6] at u6 row6 gd6 ⊢
            have ly6 := lay_sigs (HLW.out w6 u6) (less_sub L.sigs i) gd6
            have HK6 := Lib.hid (S.chk _ _ _ _ _ _ w6 ly6 (HDW.out w6 u6) (few_sigs HFW.out (less_sub L.sigs i)))
            rw [remove_sigs (less_sub L.sigs i) HCK.out] at HK6
            have U6 := Lib.hid u6
            have R6 := Lib.hid (show w6.heap[w2.heap.size]? = some (.cells #[.string (bs L.name), .slice sa L.secs.length sc, .slice ea L.els.length ec, .slice ja L.joints.length jc, .slice A2 (less L.sigs i).length C2, .slice ba L.bals.length bc] 28 (0, 0)) by rw [row6]; rfl)
            unfold layV at HK6
            simp only at HK6
            obtain ⟨⟨m0, m1, m2, m3, m4, m5⟩, -, hlt6⟩ := ms_cells R6.out
            clear hown1 hown2 hg1 hg2 hb1 hb2 b4 z5 z6 y5 y6 hgd hln row5 u5 u6 row6 gd6 hw6 ly6 hsl1 hsl2 hwr x0 x1 x2 x3 x4 x5
            go_wp2_with fail
            refine HK6.out.mono ?_
            rintro e w7 ⟨rfl, b7⟩
            have U7 := Lib.hid (but_join U6.out (but_of b7 (Nat.le_refl _)) U6.out.size)
            have R7 := Lib.hid ((b7.block _ hlt6).trans R6.out)
            clear b7 m0 m1 m2 m3 m4 m5
            go_wp2_with fail
            go_meet
            exact ⟨U7.out, _, _, _, R7.out⟩
        case rest =>
          obtain ⟨u, c3, c4, c5, row⟩ := hcut
          obtain ⟨⟨m0, m1, m2, m3, m4, m5⟩, fz, hlg⟩ := ms_cells row
          have z0 := fz 0
          have z1 := fz 1
          have z2 := fz 2
          have z3 := fz 3
          have z4 := fz 4
          have z5 := fz 5
          obtain ⟨x0, x1, x2, x3, x4, x5⟩ := HX.out.next (HWB.out wc u) HS.out
          have u4 := but_store (d0 := .string (bs L.name)) (d1 := .slice sa L.secs.length sc) (d2 := .slice ea L.els.length ec) (d3 := .slice ja L.joints.length jc) (d4 := .slice ga L.sigs.length gc) (d5 := .slice ba L.bals.length bc) u
          have r4 := ms_store (d0 := .string (bs L.name)) (d1 := .slice sa L.secs.length sc) (d2 := .slice ea L.els.length ec) (d3 := .slice ja L.joints.length jc) (d4 := .slice ga L.sigs.length gc) (d5 := .slice ba L.bals.length bc) row
          have hlw : w.heap.size < wc.heap.size := Nat.lt_trans hlt hlg
          clear fz
          go_upto_if 76 with fail
          obtain ⟨W5, hW5⟩ : ∃ W5, (((((wc.setCell ⟨w2.heap.size, 0, none⟩ (.string (bs L.name))).setCell ⟨w2.heap.size, 1, none⟩ (.slice sa L.secs.length sc)).setCell ⟨w2.heap.size, 2, none⟩ (.slice ea L.els.length ec)).setCell ⟨w2.heap.size, 3, none⟩ (.slice ja L.joints.length jc)).setCell ⟨w2.heap.size, 4, none⟩ (.slice ga L.sigs.length gc)).setCell ⟨w2.heap.size, 5, none⟩ (.slice ba L.bals.length bc) = W5 := ⟨_, rfl⟩
          rw [hW5] at u4 r4 ⊢
          have U5 := Lib.hid u4
          have R5 := Lib.hid r4
          clear hW5 u4 r4 u row m0 m1 m2 m3 m4 m5 z0 z1 z2 z3 z4 z5 x0 x1 x2 x3 x4 x5 hlg hlw c3 c4 c5
          clear wc
          obtain ⟨x0, x1, x2, x3, x4, x5⟩ := HX.out.next (HWB.out W5 U5.out) HS.out
          by_cases hn : L.joints.length = 0
          · have hn2 : ¬ 0 < L.joints.length := by omega
            go_wp2_with fail
            refine (HA.out _ (HWB.out W5 U5.out)).mono ?_
            rintro e wa ⟨rfl, ba'⟩
            have BA := Lib.hid (bel_next (HWB.out W5 U5.out) ba')
            clear ba'
            go_wp2_with fail
            go_ret
            exact ⟨rfl, bel_next B0.out BA.out⟩
          · have hn2 : 0 < L.joints.length := by omega
            go_upto_region 18 with fail
            obtain ⟨i, hi, hil⟩ : ∃ i : Nat, (k : Int) % (L.joints.length : Int) = (i : Int) ∧ i < L.joints.length := ⟨k % L.joints.length, by simp, Nat.mod_lt _ hn2⟩
            rw [hi]
            clear hi hn
            have hlw := HLW.out W5 U5.out
            have hdw := HDW.out W5 U5.out
            obtain ⟨xj, hxj⟩ := at_lt (l := L.joints) (k := i) hil
            have hex : existsB L.els xj.1 = true ∧ existsB L.els xj.2 = true := by
              obtain ⟨_, he, _, _⟩ := check_split.1 HCK.out
              obtain ⟨_, _, hj, _⟩ := elements_split.1 he
              have hb := List.all_eq_true.1 hj xj (List.mem_of_getElem? hxj)
              unfold jointB at hb
              rw [Bool.and_eq_true, Bool.and_eq_true] at hb
              exact ⟨hb.1, hb.2.1⟩
            have HXJ := Lib.hid hxj
            obtain ⟨a', cap', he, hjm, hel⟩ := hlw.jt
            cases he
            obtain ⟨b0, off0, rfl, j0, j1, j2, j3⟩ := hel W5 (Below.refl _ _) i xj hxj
            obtain ⟨⟨p1, p2⟩, ⟨q1, q2⟩⟩ := xj
            simp only at j0 j1 j2 j3 hex
            have CA := Lib.hid (fun d os => Calls.regrown_of (w := W5) (d := d) (os := os) (S.sgl L (p1, p2) _ _ _ _ _ _ (hlw.next (below_regrown W5 d os)) (S.keep _ _ hdw (below_regrown W5 d os)) HFW.out HCK.out hex.1))
            have CB := Lib.hid (fun d os => Calls.regrown_of (w := W5) (d := d) (os := os) (S.sgl L (q1, q2) _ _ _ _ _ _ (hlw.next (below_regrown W5 d os)) (S.keep _ _ hdw (below_regrown W5 d os)) HFW.out HCK.out hex.2))
            obtain ⟨sga, hsa⟩ : ∃ g, signalF L (p1, p2) = g := ⟨_, rfl⟩
            obtain ⟨sgb, hsb⟩ : ∃ g, signalF L (q1, q2) = g := ⟨_, rfl⟩
            rw [hsa] at CA
            rw [hsb] at CB
            have HSA := Lib.hid hsa
            have HSB := Lib.hid hsb
            unfold layV pV at CA CB
            dsimp only at CA CB
            have k0 := cell_regrown x0
            have k1 := cell_regrown x1
            have k2 := cell_regrown x2
            have k3 := cell_regrown x3
            have k4 := cell_regrown x4
            have k5 := cell_regrown x5
            have k6 := cell_regrown j0
            have k7 := cell_regrown j1
            have k8 := cell_regrown j2
            have k9 := cell_regrown j3
            clear hlw hdw hxj hel hex hsa hsb x0 x1 x2 x3 x4 x5 j0 j1 j2 j3
            by_cases hga : 0 ≤ sga
            · have hgl : decide (0 ≤ sga) = true := by simpa using hga
              refine wp_region_quiet_below (by kernel_rfl) (by kernel_rfl) ?_
              repeat (go_big_quiet_step (with_reducible exact CA.out _ _))
              refine wpQuiet_nil ?_
              intro _ hw'
              obtain ⟨⟨dq, osq⟩, hw''⟩ := hw'
              subst hw''
              have bq := below_regrown W5 dq osq
              have UJ := Lib.hid (but_join U5.out (but_of (g := w2.heap.size) bq (Nat.le_refl _)) U5.out.size)
              have RJ := Lib.hid ((bq.block _ (ms_cells R5.out).2.2).trans R5.out)
              obtain ⟨WJ, hWJ⟩ : ∃ WJ, Go.Sort.grow (redrawn W5 dq) osq = WJ := ⟨_, rfl⟩
              rw [hWJ] at UJ RJ ⊢
              clear bq hWJ
              go_wp2_with fail
              refine (HA.out _ (HWB.out WJ UJ.out)).mono ?_
              rintro e wa ⟨rfl, ba'⟩
              have BA := Lib.hid (bel_next (HWB.out WJ UJ.out) ba')
              clear ba'
              go_wp2_with fail
              go_ret
              exact ⟨rfl, bel_next B0.out BA.out⟩
            · have hgl : decide (0 ≤ sga) = false := by simpa using hga
              by_cases hgb : 0 ≤ sgb
              · have hgl2 : decide (0 ≤ sgb) = true := by simpa using hgb
                refine wp_region_quiet_below (by kernel_rfl) (by kernel_rfl) ?_
                repeat (go_big_quiet_step (first | with_reducible exact CA.out _ _ | with_reducible exact CB.out _ _))
                refine wpQuiet_nil ?_
                intro _ hw'
                obtain ⟨⟨dq, osq⟩, hw''⟩ := hw'
                subst hw''
                have bq := below_regrown W5 dq osq
                have UJ := Lib.hid (but_join U5.out (but_of (g := w2.heap.size) bq (Nat.le_refl _)) U5.out.size)
                have RJ := Lib.hid ((bq.block _ (ms_cells R5.out).2.2).trans R5.out)
                obtain ⟨WJ, hWJ⟩ : ∃ WJ, Go.Sort.grow (redrawn W5 dq) osq = WJ := ⟨_, rfl⟩
                rw [hWJ] at UJ RJ ⊢
                clear bq hWJ
                go_wp2_with fail
                refine (HA.out _ (HWB.out WJ UJ.out)).mono ?_
                rintro e wa ⟨rfl, ba'⟩
                have BA := Lib.hid (bel_next (HWB.out WJ UJ.out) ba')
                clear ba'
                go_wp2_with fail
                go_ret
                exact ⟨rfl, bel_next B0.out BA.out⟩
              · have hgl2 : decide (0 ≤ sgb) = false := by simpa using hgb
                refine wp_region_quiet_below (by kernel_rfl) (by kernel_rfl) ?_
                repeat (go_big_quiet_step (first | with_reducible exact CA.out _ _ | with_reducible exact CB.out _ _))
                refine wpQuiet_nil ?_
                intro _ hw'
                obtain ⟨⟨dq, osq⟩, hw''⟩ := hw'
                subst hw''
                have bq := below_regrown W5 dq osq
                have UJ := Lib.hid (but_join U5.out (but_of (g := w2.heap.size) bq (Nat.le_refl _)) U5.out.size)
                have RJ := Lib.hid ((bq.block _ (ms_cells R5.out).2.2).trans R5.out)
                obtain ⟨WJ, hWJ⟩ : ∃ WJ, Go.Sort.grow (redrawn W5 dq) osq = WJ := ⟨_, rfl⟩
                rw [hWJ] at UJ RJ ⊢
                clear bq hWJ
                have HGA := Lib.hid (show signalF L (p1, p2) < 0 by rw [HSA.out]; omega)
                have HGB := Lib.hid (show signalF L (q1, q2) < 0 by rw [HSB.out]; omega)
                clear k0 k1 k2 k3 k4 k5 k6 k7 k8 k9
                obtain ⟨x0, x1, x2, x3, x4, x5⟩ := HX.out.next (HWB.out WJ UJ.out) HS.out
                go_upto_region 20 with fail
                obtain ⟨b9, off9, cap, he, hcap, hcap2, hbl, hsrc⟩ := rows_src (HLW.out WJ UJ.out).joints (joint_len L.joints) (by rw [List.length_map]; exact hn2)
                rw [List.length_map] at he hcap hsrc
                have hds := drop_len (i := i + 1) (joint_len L.joints)
                have hts := take_len (i := i) (joint_len L.joints) (by rw [List.length_map]; omega)
                rw [List.length_map] at hds
                cases he
                have HSRC := Lib.hid (hsrc i hil)
                have HTS := Lib.hid hts
                have HDS := Lib.hid hds
                have y5 := (ms_cells RJ.out).1.2.2.2.1
                have y6 := (ms_cells RJ.out).2.1 3
                have b4 := ((Below.refl WJ.heap.size WJ).alloc (Nat.le_refl _) (.cells #[] 47)).drew
                have lt2 : w2.heap.size < WJ.heap.size := (ms_cells RJ.out).2.2
                have lt1 : w.heap.size < WJ.heap.size := Nat.lt_trans hlt lt2
                obtain ⟨i0, hi, hz0, hz1, hz2⟩ := info_parts infoJt
                have hsl1 := cut_low 24 Try.underlying24 hi (b := b0) (off := off0) (Nat.le_of_lt hil) hcap
                obtain ⟨ad, hsl2, hhi⟩ := cut_high 24 (sz := 4) Try.underlying24 hi (by kernel_rfl) (b := b0) (off := off0) hil hcap
                have hwr : IntKind.i64.wrap ((i : Int) + 1) = (i : Int) + 1 := by rw [IntKind.wrap_i64]; omega
                have HHI := Lib.hid (hhi (L.joints.map jCells))
                have HI0 := Lib.hid hi
                have HZ0 := Lib.hid hz0
                have HZ1 := Lib.hid hz1
                have HZ2 := Lib.hid hz2
                clear hi hz0 hz1 hz2 hsrc hds hts hhi
                go_region_held3 (fun w' => w'.cell? ⟨w.heap.size, 3, none⟩ = some (.slice (some ⟨b0, off0, none⟩) L.joints.length jc))
                  (first
                    | exact (cell_same (heap_setCell_other w5 _ _ _ (by simp; omega))).trans ((hb2.cell lt1).trans x3)
                    | exact (hb2.cell lt1).trans x3
                    | exact (hb1.cell lt1).trans x3
                    | exact (b4.cell lt1).trans x3
                    | go_keep)
                  (first
                    | (refine step_append_rows rfl (.tmp 109) (.tmp 114) 24 rfl WJ.heap.size 47 i0 (.agg #[.int .i64 0, .int .i64 0, .int .i64 0, .int .i64 0]) 4 32 Try.underlying24 HI0.out HZ0.out HZ1.out HZ2.out rfl (by decide) _ _ _ rfl hown1 ad (L.joints.length - (i + 1)) (jc - (i + 1)) ((L.joints.map jCells).drop (i + 1)).flatten rfl HDS.out (HHI.out _ (by rw [List.length_map]) (HSRC.out _ (hb1.block b0 hbl)).2) (drop_one (joint_one L.joints)) (by unfold maxLen; omega) (by omega) hb1.size ?_; intro v2 w5 hown2 hg2; obtain ⟨A2, C2, rfl⟩ := own_shape hown2; have hb2 := hb1.grown hg2 hb1.size (fun g hg => (hown1.lt g hg).1); have z5 := (hb2.cell (p := ⟨w2.heap.size, 3, none⟩) lt2).trans y5; have z6 := (frozen_same (hb2.block _ lt2)).trans y6)
                    | (refine step_append_rows rfl (.tmp 104) (.tmp 108) 24 rfl WJ.heap.size 47 i0 (.agg #[.int .i64 0, .int .i64 0, .int .i64 0, .int .i64 0]) 4 32 Try.underlying24 HI0.out HZ0.out HZ1.out HZ2.out rfl (by decide) _ _ _ rfl (own_empty WJ _ 4) ⟨b0, off0, none⟩ i jc ((L.joints.map jCells).take i).flatten rfl HTS.out (HSRC.out _ (b4.block b0 hbl)).1 (take_one (joint_one L.joints)) (by unfold maxLen; omega) (by omega) b4.size ?_; intro v1 w4 hown1 hg1; obtain ⟨A1, C1, rfl⟩ := own_shape hown1; have hb1 := b4.grown hg1 b4.size (fun g hg => ((own_empty WJ 47 4).lt g hg).1)))
                have hgd := less_grid jCells (fun _ => rfl) hil hown2
                have hln := less_len hil
                rw [← hln] at hgd
                rw [Nat.zero_add] at hln
                rw [← hln]
                have row5 := (hb2.block _ lt2).trans RJ.out
                have u5 := but_of (g := w2.heap.size) hb2 (Nat.le_refl _)
                have u6 := but_join UJ.out (u5.setCell (p := ⟨w2.heap.size, 3, none⟩) (.inl rfl) (.slice A2 (less L.joints i).length C2)) UJ.out.size
                have row6 := heap_setCell_same _ _ 3 _ _ (.slice A2 (less L.joints i).length C2) row5
                have gd6 := grid_set (g := w2.heap.size) (k := 3) (u := .slice A2 (less L.joints i).length C2) hgd lt2
                obtain ⟨w6, hw6⟩ : ∃ w6, w5.setCell ⟨w2.heap.size, 3, none⟩ (.slice A2 (less L.joints i).length C2) = w6 := ⟨_, rfl⟩
                rw [hw6] at u6 row6 gd6 ⊢
                have ly6 := lay_joints (HLW.out w6 u6) (less_sub L.joints i) gd6
                have HK6 := Lib.hid (S.chk _ _ _ _ _ _ w6 ly6 (HDW.out w6 u6) (few_joints HFW.out (less_sub L.joints i)))
                rw [show checkF { L with joints := less L.joints i } = 0 from remove_joint (less_at HXJ.out) (by have := HGA.out; omega) (by have := HGB.out; omega) HCK.out] at HK6
                have U6 := Lib.hid u6
                have R6 := Lib.hid (show w6.heap[w2.heap.size]? = some (.cells #[.string (bs L.name), .slice sa L.secs.length sc, .slice ea L.els.length ec, .slice A2 (less L.joints i).length C2, .slice ga L.sigs.length gc, .slice ba L.bals.length bc] 28 (0, 0)) by rw [row6]; rfl)
                unfold layV at HK6
                simp only at HK6
                obtain ⟨⟨m0, m1, m2, m3, m4, m5⟩, -, hlt6⟩ := ms_cells R6.out
                clear hown1 hown2 hg1 hg2 hb1 hb2 b4 z5 z6 y5 y6 hgd hln row5 u5 u6 row6 gd6 hw6 ly6 hsl1 hsl2 hwr x0 x1 x2 x3 x4 x5
                go_wp2_with fail
                refine HK6.out.mono ?_
                rintro e w7 ⟨rfl, b7⟩
                have U7 := Lib.hid (but_join U6.out (but_of b7 (Nat.le_refl _)) U6.out.size)
                have R7 := Lib.hid ((b7.block _ hlt6).trans R6.out)
                clear b7 m0 m1 m2 m3 m4 m5
                go_wp2_with fail
                refine (HA.out _ (HWB.out _ U7.out)).mono ?_
                rintro e wa ⟨rfl, ba'⟩
                have BA := Lib.hid (bel_next (HWB.out _ U7.out) ba')
                clear ba'
                go_wp2_with fail
                go_ret
                exact ⟨rfl, bel_next B0.out BA.out⟩
    · go_wp2_with fail
      refine (HA.out _ B2.out).mono ?_
      rintro e w3 ⟨rfl, b3⟩
      have B3 := Lib.hid (bel_next B2.out b3)
      clear b3
      go_wp2_with fail
      go_ret
      exact ⟨rfl, bel_next B0.out B3.out⟩

end Go.Proofs.Ytieoegodhhiiiaa.Lrem
