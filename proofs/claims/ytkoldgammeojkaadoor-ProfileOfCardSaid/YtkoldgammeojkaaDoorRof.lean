/- The reference's Of (profile). -/
import Derived.Test.YtkoldgammeojkaaDoorPoo
import Derived.Test.YtkoldgammeojkaaDoorRnd0
import Derived.Test.YtkoldgammeojkaaDoorRvd
namespace Go.Proofs.YtkoldgammeojkaaDoor.Rof
open Go.RowKit Go.Lib Go.Proofs.YtkoldgammeojkaaDoor.Reads Go.Proofs.YtkoldgammeojkaaDoor.Rows2 Go.Proofs.YtkoldgammeojkaaDoor.Lay Go.Proofs.YtkoldgammeojkaaDoor.Segs Go.Proofs.YtkoldgammeojkaaDoor.Psg Go.Proofs.YtkoldgammeojkaaDoor.Pvd Go.Proofs.YtkoldgammeojkaaDoor.Rvd Go.Proofs.YtkoldgammeojkaaDoor.Pat Go.Proofs.YtkoldgammeojkaaDoor.Pof Go.Proofs.YtkoldgammeojkaaDoor.Poo
open Go.Proofs.YtkoldgammeojkaaDoor.Way (Stp stCells inB elOf el_none el_some needS need_none need_some)
open Go.Proofs.YtkoldgammeojkaaDoor.Rail (needF)
open Go.Proofs.YtkoldgammeojkaaDoor.Rref (rneed_any)
open Go.Proofs.YtkoldgammeojkaaDoor.Text (bs)

theorem kept_to {wr w9 : World} {o1 o2 lit : Obj} {row : Option Nat} {T : TypeId} {g1 g2 g3 g4 : Value} (hg : ((((wr.alloc o1).alloc o2).alloc (.cells #[g1, g2, g3, g4] T)).alloc lit).grownBy w9 row) (hrow : ∀ k, row = some k → k < wr.heap.size) : w9.cell? ⟨wr.heap.size + 1 + 1, 1, none⟩ = some g2 := by
  have e2 : ((wr.alloc o1).alloc o2).heap.size = wr.heap.size + 1 + 1 := by simp
  have h0 := heap_alloc_new ((wr.alloc o1).alloc o2) (.cells #[g1, g2, g3, g4] T)
  rw [e2] at h0
  have hl : wr.heap.size + 1 + 1 < (((wr.alloc o1).alloc o2).alloc (.cells #[g1, g2, g3, g4] T)).heap.size := (Array.getElem?_eq_some_iff.1 h0).1
  have h1 := (Below.heap_alloc (((wr.alloc o1).alloc o2).alloc (.cells #[g1, g2, g3, g4] T)) lit _ hl).trans h0
  have h2 := (hg.block (wr.heap.size + 1 + 1) (Array.getElem?_eq_some_iff.1 h1).1 (fun e => by have := hrow _ e.symm; omega)).trans h1
  rw [cell_of_row _ _ _ _ _ _ h2]
  rfl
theorem bt {a b : Int} (h : (a == b) = true) : a = b := by simpa using h
theorem bf {a b : Int} (h : (a == b) = false) : ¬ a = b := by simpa using h
theorem gcases (s2 kd : Int) : ((s2 == 0) = true) ∨ ((s2 == 0) = false ∧ (s2 == 2) = true ∧ (kd == 3) = true) ∨ ((s2 == 0) = false ∧ (s2 == 2) = true ∧ (kd == 3) = false) ∨ ((s2 == 0) = false ∧ (s2 == 2) = false) := by
  cases (s2 == 0) <;> cases (s2 == 2) <;> cases (kd == 3) <;> simp
theorem scases (s2 s3 kd : Int) : ((kd == 2) = false) ∨ ((kd == 2) = true ∧ (s2 == 2) = true) ∨ ((kd == 2) = true ∧ (s2 == 2) = false ∧ (s3 == 2) = true) ∨ ((kd == 2) = true ∧ (s2 == 2) = false ∧ (s3 == 2) = false) := by
  cases (kd == 2) <;> cases (s2 == 2) <;> cases (s3 == 2) <;> simp

set_option maxRecDepth 100000 in
set_option maxHeartbeats 12800000 in
theorem rof_any (L : Lay) {way : List Stp} {vs ve vj vg vb v : Value} (at_ : Int) (w : World) (h : LayAt (In w) w L vs ve vj vg vb) (hv : Grid (In w) w v 3 (way.map stCells)) :
    Calls Tryd.prog 9 #[layV L vs ve vj vg vb, v, .int .i64 at_] w (SegOut (ofF L.els way at_) w) := by
  obtain ⟨a, cap, rfl, hm, hel⟩ := h.el
  have HE0 := Lib.hid hel
  obtain ⟨NE, hNE⟩ : ∃ N, L.els.length = N := ⟨_, rfl⟩
  have HNE := Lib.hid hNE
  obtain ⟨a2, cap2, rfl, hm2, -, -, hst⟩ := hv.shape
  rw [List.length_map] at hm2 ⊢
  have HST0 := Lib.hid hst
  obtain ⟨N, hN⟩ : ∃ N, way.length = N := ⟨_, rfl⟩
  have HN := Lib.hid hN
  obtain ⟨r, hr⟩ : ∃ r, ofF L.els way at_ = r := ⟨_, rfl⟩
  have HR := Lib.hid hr
  rw [hr]
  have hbel := (Below.refl w.heap.size w).alloc (Nat.le_refl _) (.cells #[.string (bs L.name), vs, .slice a NE cap, vj, vg, vb] 28)
  have hrow := heap_alloc_new w (.cells #[.string (bs L.name), vs, .slice a NE cap, vj, vg, vb] 28)
  obtain ⟨W, hW⟩ : ∃ W, w.alloc (.cells #[.string (bs L.name), vs, .slice a NE cap, vj, vg, vb] 28) = W := ⟨_, rfl⟩
  rw [hW] at hbel hrow
  unfold layV
  rw [hNE] at hm ⊢
  rw [hN] at hm2 ⊢
  have hlt : w.heap.size < W.heap.size := (Array.getElem?_eq_some_iff.1 hrow).1
  have HW := Lib.hid hW
  have HBL := Lib.hid hbel
  have HLT := Lib.hid hlt
  have HBOX : Hid (∀ w', Below W.heap.size W w' → w'.cell? ⟨w.heap.size, 2, none⟩ = some (.slice a NE cap)) := by
    refine Lib.hid (fun w' b => ?_)
    rw [cell_of_row _ _ _ _ _ _ ((b.block _ hlt).trans hrow)]
    rfl
  clear h hel hst hv hN hNE hr hW hbel hrow hlt
  have hstart : (at_ < -1073741824 ∧ r = []) ∨ (¬ at_ < -1073741824 ∧ 1073741824 < at_ ∧ r = []) ∨ (¬ at_ < -1073741824 ∧ ¬ 1073741824 < at_ ∧ (128 : Int) < (N : Int) ∧ r = []) ∨ (¬ at_ < -1073741824 ∧ ¬ 1073741824 < at_ ∧ ¬ (128 : Int) < (N : Int)) := by
    by_cases h1 : at_ < -1073741824
    · exact .inl ⟨h1, HR.out.symm.trans (of_out (.inl h1))⟩
    · by_cases h2 : 1073741824 < at_
      · exact .inr (.inl ⟨h1, h2, HR.out.symm.trans (of_out (.inr h2))⟩)
      · by_cases h3 : (128 : Int) < (N : Int)
        · exact .inr (.inr (.inl ⟨h1, h2, h3, HR.out.symm.trans (by rw [ofF, if_pos (by rw [HN.out]; omega)])⟩))
        · exact .inr (.inr (.inr ⟨h1, h2, h3⟩))
  rcases hstart with ⟨h1, hF⟩ | ⟨h1, h2, hF⟩ | ⟨h1, h2, h3, hF⟩ | ⟨h1, h2, h3⟩
  iterate 3
    · have HF := Lib.hid hF
      clear hF
      go_enter Tryd.func9, Tryd.ntmps9
      go_wp2_with fail
      rw [HW.out]
      go_ret
      rw [HF.out]
      exact ⟨_, rfl, World.ownsRow_nil _ _ _ _, HBL.out⟩
  obtain ⟨R, hRR⟩ : ∃ R, totR L.els [] at_ way = R := ⟨_, rfl⟩
  have HRR := Lib.hid hRR
  have HF : Hid (r = endF R) := by
    show _ = _
    rw [← HR.out, ofF, if_neg (by rw [HN.out]; omega), hRR]
  have hn128 : N ≤ 128 := by omega
  clear hRR
  go_enter Tryd.func9, Tryd.ntmps9
  go_wp2_with fail
  rw [HW.out]
  go_loopw [7, 2, 27] (fun vp va vk wr => PRel L.els way R W vp va vk wr) (fun _ _ vk _ => N - (RowKit.intOf vk).toNat)
  case atStart => exact ⟨0, [], at_, rfl, Nat.zero_le _, rfl, HRR.out.symm, Nat.le_refl _, World.ownsRow_nil _ _ _ _, Below.refl _ _⟩
  case round =>
    obtain ⟨j, acc, at1, rfl, hj, rfl, hrj, hal, ho, hb⟩ := hrel
    rw [HN.out] at hj
    have HB := Lib.hid hb
    have HO := Lib.hid ho
    have HJ := Lib.hid hrj
    have HAL := Lib.hid hal
    clear hb ho hrj hal h1 h2 h3
    by_cases hl : j < N
    · obtain ⟨s, hs⟩ := at_lt (l := way) (k := j) (by rw [HN.out]; exact hl)
      obtain ⟨b2, off2, rfl, hb2, hc2⟩ := HST0.out j (stCells s) (by rw [List.getElem?_map, hs]; rfl)
      have hb2r : b2 < wr.heap.size := Nat.lt_of_lt_of_le (Nat.lt_of_lt_of_le hb2 HBL.out.size) HB.out.size
      have hwr := HBL.out.trans (HB.out.mono HBL.out.size)
      have c0 := (hwr.cell (p := ⟨b2, off2 + j * 3, none⟩) hb2).trans (hc2 0 _ rfl)
      have c1 := (hwr.cell (p := ⟨b2, off2 + j * 3 + 1, none⟩) hb2).trans (hc2 1 _ rfl)
      have c2 := (hwr.cell (p := ⟨b2, off2 + j * 3 + 2, none⟩) hb2).trans (hc2 2 _ rfl)
      have HDR := Lib.hid (drop_at hs)
      have x2 := HBOX.out wr HB.out
      have hltr : w.heap.size < wr.heap.size := Nat.lt_of_lt_of_le HLT.out HB.out.size
      obtain ⟨s1, s2, s3⟩ := s
      simp only at c0 c1 c2
      have HBV := Lib.hid (HB.out.alloc HB.out.size (.cells #[.int .i64 s1, .int .i64 s2, .int .i64 s3] 47))
      clear hs hc2
      have hbad : ∀ (h : inB L.els s1 = false), r = [] := by
        intro h
        rw [HF.out, HJ.out, HDR.out, tot_no (by rw [need_none (s := (s1, s2, s3)) h])]
        rfl
      by_cases hneg : s1 < 0
      · have HF2 := Lib.hid (hbad (by simp [inB]; omega))
        clear hbad
        go_wp2_with fail
        go_ret
        rw [HF2.out]
        exact ⟨_, rfl, World.ownsRow_nil _ _ _ _, bel_next HBL.out HBV.out⟩
      by_cases hbig : (NE : Int) ≤ s1
      · have HF2 := Lib.hid (hbad (by simp only [inB, HNE.out, Bool.and_eq_false_iff, decide_eq_false_iff_not]; omega))
        clear hbad
        go_wp2_with fail
        go_ret
        rw [HF2.out]
        exact ⟨_, rfl, World.ownsRow_nil _ _ _ _, bel_next HBL.out HBV.out⟩
      obtain ⟨i, rfl⟩ := Int.eq_ofNat_of_zero_le (show 0 ≤ s1 by omega)
      have hi : i < NE := by omega
      obtain ⟨x, hx⟩ := at_lt (l := L.els) (k := i) (by rw [HNE.out]; exact hi)
      have hox : elOf L.els (i : Int) = some x := by
        rw [elOf, if_pos (by omega)]
        simpa using hx
      obtain ⟨b, off, rfl, y0, y1, y2, y3, y4, y5, y6⟩ := HE0.out wr hwr i x hx
      have hby := World.block_lt_of_cell? wr _ y0
      have hiN : (i : Int) < (NE : Int) := by omega
      have hi0 : (0 : Int) ≤ (i : Int) := by omega
      have HND := Lib.hid (fun w' => rneed_any x.kind s2 s3 w')
      have HNS := Lib.hid (need_some (s := ((i : Int), s2, s3)) hox)
      obtain ⟨⟨n1, n2⟩, hnf⟩ : ∃ q, needF x.kind s2 s3 = q := ⟨_, rfl⟩
      rw [hnf] at HND HNS
      simp only at HND
      have HTN := Lib.hid (fun (h : n2 = false) => tot_no (els := L.els) (acc := acc) (at_ := at1) (s := ((i : Int), s2, s3)) (r := way.drop (j + 1)) (by rw [HNS.out]; exact h))
      have HTY := Lib.hid (fun (h : n2 = true) => tot_yes (els := L.els) (acc := acc) (at_ := at1) (s := ((i : Int), s2, s3)) (r := way.drop (j + 1)) hox (by rw [HNS.out]; exact h))
      obtain ⟨zv, hzv⟩ : ∃ z, IntKind.i64.wrap (at1 + x.len) = z := ⟨_, rfl⟩
      obtain ⟨ng, hng⟩ : ∃ z, IntKind.i64.wrap (-x.grade) = z := ⟨_, rfl⟩
      have HSF := Lib.hid (show segF x ((i : Int), s2, s3) at1 = (at1, zv, (if s2 = 0 ∨ (s2 = 2 ∧ x.kind = 3) then x.grade else ng), (if x.kind = 2 ∧ (s2 = 2 ∨ s3 = 2) then x.slow else x.speed)) by rw [segF, gradeF, speedF, hzv, hng])
      rw [HSF.out] at HTY
      obtain ⟨nm, kd, ln, gr, sp, sl, sc⟩ := x
      simp only at y0 y1 y2 y3 y4 y5 y6 HND hzv hng HTY
      have HBE := Lib.hid (HBV.out.alloc HBV.out.size (.cells #[.string (bs nm), .int .i64 kd, .int .i64 ln, .int .i64 gr, .int .i64 sp, .int .i64 sl, .int .i64 sc] 51))
      clear hbad hx hox hnf HSF
      cases n2 with
      | false =>
        have HF2 : Hid (r = []) := by
          show _ = _
          rw [HF.out, HJ.out, HDR.out, HTN.out (by first | rfl | trivial)]
          rfl
        go_wp2_with fail
        refine (HND.out _).mono ?_
        rintro e w5 ⟨rfl, rfl⟩
        go_wp2_with fail
        go_ret
        rw [HF2.out]
        exact ⟨_, rfl, World.ownsRow_nil _ _ _ _, bel_next HBL.out HBE.out⟩
      | true =>
        have HJ2 : Hid (R = totR L.els acc at1 (((i : Int), s2, s3) :: way.drop (j + 1))) := by
          show _ = _
          rw [HJ.out, HDR.out]
        rcases gcases s2 kd with h1 | ⟨h1, h2, h3⟩ | ⟨h1, h2, h3⟩ | ⟨h1, h2⟩
        · rcases scases s2 s3 kd with k1 | ⟨k1, k2⟩ | ⟨k1, k2, k3⟩ | ⟨k1, k2, k3⟩
          · have HNX : Hid (R = totR L.els (acc ++ [((at1, zv, gr, sp) : Sg)]) zv (way.drop (j + 1))) := by
              show _ = _
              rw [HJ2.out, HTY.out (by first | rfl | trivial)]
              have eh1 := bt h1
              have ek1 := bf k1
              rw [if_pos (by omega), if_neg (by omega)]
            go_wp2_with fail
            refine (HND.out _).mono ?_
            rintro e w5 ⟨rfl, rfl⟩
            go_wp2_with (at_builtin; refine wp_seg rfl (.tmp 103) (.tmp 105) rfl W (l := acc) (at1, zv, gr, sp) rfl rfl (by simp) rfl (((HO.out.alloc _).alloc _).alloc _) (HBE.out.alloc HBE.out.size _) (by have := HAL.out; omega) ?_; rintro v9 w9 ⟨h9, b9, gr9, -⟩; have R9 := Lib.hid h9; have B9 := Lib.hid b9; have kto := kept_to gr9 (fun k hk => (HO.out.lt k hk).2); clear h9 b9 gr9)
            go_roundw
            case rel => exact ⟨j + 1, acc ++ [(at1, zv, gr, sp)], zv, by simp, by rw [HN.out]; omega, rfl, HNX.out, by rw [List.length_append, List.length_singleton]; have := HAL.out; omega, R9.out, B9.out⟩
            case measure => simp [RowKit.intOf]; omega
          · exfalso
            have eh1 := bt h1
            have ek1 := bt k1
            have ek2 := bt k2
            omega
          · have HNX : Hid (R = totR L.els (acc ++ [((at1, zv, gr, sl) : Sg)]) zv (way.drop (j + 1))) := by
              show _ = _
              rw [HJ2.out, HTY.out (by first | rfl | trivial)]
              have eh1 := bt h1
              have ek1 := bt k1
              have ek2 := bf k2
              have ek3 := bt k3
              rw [if_pos (by omega), if_pos (by omega)]
            go_wp2_with fail
            refine (HND.out _).mono ?_
            rintro e w5 ⟨rfl, rfl⟩
            go_wp2_with (at_builtin; refine wp_seg rfl (.tmp 103) (.tmp 105) rfl W (l := acc) (at1, zv, gr, sl) rfl rfl (by simp) rfl (((HO.out.alloc _).alloc _).alloc _) (HBE.out.alloc HBE.out.size _) (by have := HAL.out; omega) ?_; rintro v9 w9 ⟨h9, b9, gr9, -⟩; have R9 := Lib.hid h9; have B9 := Lib.hid b9; have kto := kept_to gr9 (fun k hk => (HO.out.lt k hk).2); clear h9 b9 gr9)
            go_roundw
            case rel => exact ⟨j + 1, acc ++ [(at1, zv, gr, sl)], zv, by simp, by rw [HN.out]; omega, rfl, HNX.out, by rw [List.length_append, List.length_singleton]; have := HAL.out; omega, R9.out, B9.out⟩
            case measure => simp [RowKit.intOf]; omega
          · have HNX : Hid (R = totR L.els (acc ++ [((at1, zv, gr, sp) : Sg)]) zv (way.drop (j + 1))) := by
              show _ = _
              rw [HJ2.out, HTY.out (by first | rfl | trivial)]
              have eh1 := bt h1
              have ek1 := bt k1
              have ek2 := bf k2
              have ek3 := bf k3
              rw [if_pos (by omega), if_neg (by omega)]
            go_wp2_with fail
            refine (HND.out _).mono ?_
            rintro e w5 ⟨rfl, rfl⟩
            go_wp2_with (at_builtin; refine wp_seg rfl (.tmp 103) (.tmp 105) rfl W (l := acc) (at1, zv, gr, sp) rfl rfl (by simp) rfl (((HO.out.alloc _).alloc _).alloc _) (HBE.out.alloc HBE.out.size _) (by have := HAL.out; omega) ?_; rintro v9 w9 ⟨h9, b9, gr9, -⟩; have R9 := Lib.hid h9; have B9 := Lib.hid b9; have kto := kept_to gr9 (fun k hk => (HO.out.lt k hk).2); clear h9 b9 gr9)
            go_roundw
            case rel => exact ⟨j + 1, acc ++ [(at1, zv, gr, sp)], zv, by simp, by rw [HN.out]; omega, rfl, HNX.out, by rw [List.length_append, List.length_singleton]; have := HAL.out; omega, R9.out, B9.out⟩
            case measure => simp [RowKit.intOf]; omega
        · rcases scases s2 s3 kd with k1 | ⟨k1, k2⟩ | ⟨k1, k2, k3⟩ | ⟨k1, k2, k3⟩
          · have HNX : Hid (R = totR L.els (acc ++ [((at1, zv, gr, sp) : Sg)]) zv (way.drop (j + 1))) := by
              show _ = _
              rw [HJ2.out, HTY.out (by first | rfl | trivial)]
              have eh1 := bf h1
              have eh2 := bt h2
              have eh3 := bt h3
              have ek1 := bf k1
              rw [if_pos (by omega), if_neg (by omega)]
            go_wp2_with fail
            refine (HND.out _).mono ?_
            rintro e w5 ⟨rfl, rfl⟩
            go_wp2_with (at_builtin; refine wp_seg rfl (.tmp 103) (.tmp 105) rfl W (l := acc) (at1, zv, gr, sp) rfl rfl (by simp) rfl (((HO.out.alloc _).alloc _).alloc _) (HBE.out.alloc HBE.out.size _) (by have := HAL.out; omega) ?_; rintro v9 w9 ⟨h9, b9, gr9, -⟩; have R9 := Lib.hid h9; have B9 := Lib.hid b9; have kto := kept_to gr9 (fun k hk => (HO.out.lt k hk).2); clear h9 b9 gr9)
            go_roundw
            case rel => exact ⟨j + 1, acc ++ [(at1, zv, gr, sp)], zv, by simp, by rw [HN.out]; omega, rfl, HNX.out, by rw [List.length_append, List.length_singleton]; have := HAL.out; omega, R9.out, B9.out⟩
            case measure => simp [RowKit.intOf]; omega
          · exfalso
            have eh1 := bf h1
            have eh2 := bt h2
            have eh3 := bt h3
            have ek1 := bt k1
            have ek2 := bt k2
            omega
          · exfalso
            have eh1 := bf h1
            have eh2 := bt h2
            have eh3 := bt h3
            have ek1 := bt k1
            have ek2 := bf k2
            have ek3 := bt k3
            omega
          · exfalso
            have eh1 := bf h1
            have eh2 := bt h2
            have eh3 := bt h3
            have ek1 := bt k1
            have ek2 := bf k2
            have ek3 := bf k3
            omega
        · rcases scases s2 s3 kd with k1 | ⟨k1, k2⟩ | ⟨k1, k2, k3⟩ | ⟨k1, k2, k3⟩
          · have HNX : Hid (R = totR L.els (acc ++ [((at1, zv, ng, sp) : Sg)]) zv (way.drop (j + 1))) := by
              show _ = _
              rw [HJ2.out, HTY.out (by first | rfl | trivial)]
              have eh1 := bf h1
              have eh2 := bt h2
              have eh3 := bf h3
              have ek1 := bf k1
              rw [if_neg (by omega), if_neg (by omega)]
            go_wp2_with fail
            refine (HND.out _).mono ?_
            rintro e w5 ⟨rfl, rfl⟩
            go_wp2_with (at_builtin; refine wp_seg rfl (.tmp 103) (.tmp 105) rfl W (l := acc) (at1, zv, ng, sp) rfl rfl (by simp) rfl (((HO.out.alloc _).alloc _).alloc _) (HBE.out.alloc HBE.out.size _) (by have := HAL.out; omega) ?_; rintro v9 w9 ⟨h9, b9, gr9, -⟩; have R9 := Lib.hid h9; have B9 := Lib.hid b9; have kto := kept_to gr9 (fun k hk => (HO.out.lt k hk).2); clear h9 b9 gr9)
            go_roundw
            case rel => exact ⟨j + 1, acc ++ [(at1, zv, ng, sp)], zv, by simp, by rw [HN.out]; omega, rfl, HNX.out, by rw [List.length_append, List.length_singleton]; have := HAL.out; omega, R9.out, B9.out⟩
            case measure => simp [RowKit.intOf]; omega
          · have HNX : Hid (R = totR L.els (acc ++ [((at1, zv, ng, sl) : Sg)]) zv (way.drop (j + 1))) := by
              show _ = _
              rw [HJ2.out, HTY.out (by first | rfl | trivial)]
              have eh1 := bf h1
              have eh2 := bt h2
              have eh3 := bf h3
              have ek1 := bt k1
              have ek2 := bt k2
              rw [if_neg (by omega), if_pos (by omega)]
            go_wp2_with fail
            refine (HND.out _).mono ?_
            rintro e w5 ⟨rfl, rfl⟩
            go_wp2_with (at_builtin; refine wp_seg rfl (.tmp 103) (.tmp 105) rfl W (l := acc) (at1, zv, ng, sl) rfl rfl (by simp) rfl (((HO.out.alloc _).alloc _).alloc _) (HBE.out.alloc HBE.out.size _) (by have := HAL.out; omega) ?_; rintro v9 w9 ⟨h9, b9, gr9, -⟩; have R9 := Lib.hid h9; have B9 := Lib.hid b9; have kto := kept_to gr9 (fun k hk => (HO.out.lt k hk).2); clear h9 b9 gr9)
            go_roundw
            case rel => exact ⟨j + 1, acc ++ [(at1, zv, ng, sl)], zv, by simp, by rw [HN.out]; omega, rfl, HNX.out, by rw [List.length_append, List.length_singleton]; have := HAL.out; omega, R9.out, B9.out⟩
            case measure => simp [RowKit.intOf]; omega
          · exfalso
            have eh1 := bf h1
            have eh2 := bt h2
            have eh3 := bf h3
            have ek1 := bt k1
            have ek2 := bf k2
            have ek3 := bt k3
            omega
          · exfalso
            have eh1 := bf h1
            have eh2 := bt h2
            have eh3 := bf h3
            have ek1 := bt k1
            have ek2 := bf k2
            have ek3 := bf k3
            omega
        · rcases scases s2 s3 kd with k1 | ⟨k1, k2⟩ | ⟨k1, k2, k3⟩ | ⟨k1, k2, k3⟩
          · have HNX : Hid (R = totR L.els (acc ++ [((at1, zv, ng, sp) : Sg)]) zv (way.drop (j + 1))) := by
              show _ = _
              rw [HJ2.out, HTY.out (by first | rfl | trivial)]
              have eh1 := bf h1
              have eh2 := bf h2
              have ek1 := bf k1
              rw [if_neg (by omega), if_neg (by omega)]
            go_wp2_with fail
            refine (HND.out _).mono ?_
            rintro e w5 ⟨rfl, rfl⟩
            go_wp2_with (at_builtin; refine wp_seg rfl (.tmp 103) (.tmp 105) rfl W (l := acc) (at1, zv, ng, sp) rfl rfl (by simp) rfl (((HO.out.alloc _).alloc _).alloc _) (HBE.out.alloc HBE.out.size _) (by have := HAL.out; omega) ?_; rintro v9 w9 ⟨h9, b9, gr9, -⟩; have R9 := Lib.hid h9; have B9 := Lib.hid b9; have kto := kept_to gr9 (fun k hk => (HO.out.lt k hk).2); clear h9 b9 gr9)
            go_roundw
            case rel => exact ⟨j + 1, acc ++ [(at1, zv, ng, sp)], zv, by simp, by rw [HN.out]; omega, rfl, HNX.out, by rw [List.length_append, List.length_singleton]; have := HAL.out; omega, R9.out, B9.out⟩
            case measure => simp [RowKit.intOf]; omega
          · exfalso
            have eh1 := bf h1
            have eh2 := bf h2
            have ek1 := bt k1
            have ek2 := bt k2
            omega
          · have HNX : Hid (R = totR L.els (acc ++ [((at1, zv, ng, sl) : Sg)]) zv (way.drop (j + 1))) := by
              show _ = _
              rw [HJ2.out, HTY.out (by first | rfl | trivial)]
              have eh1 := bf h1
              have eh2 := bf h2
              have ek1 := bt k1
              have ek2 := bf k2
              have ek3 := bt k3
              rw [if_neg (by omega), if_pos (by omega)]
            go_wp2_with fail
            refine (HND.out _).mono ?_
            rintro e w5 ⟨rfl, rfl⟩
            go_wp2_with (at_builtin; refine wp_seg rfl (.tmp 103) (.tmp 105) rfl W (l := acc) (at1, zv, ng, sl) rfl rfl (by simp) rfl (((HO.out.alloc _).alloc _).alloc _) (HBE.out.alloc HBE.out.size _) (by have := HAL.out; omega) ?_; rintro v9 w9 ⟨h9, b9, gr9, -⟩; have R9 := Lib.hid h9; have B9 := Lib.hid b9; have kto := kept_to gr9 (fun k hk => (HO.out.lt k hk).2); clear h9 b9 gr9)
            go_roundw
            case rel => exact ⟨j + 1, acc ++ [(at1, zv, ng, sl)], zv, by simp, by rw [HN.out]; omega, rfl, HNX.out, by rw [List.length_append, List.length_singleton]; have := HAL.out; omega, R9.out, B9.out⟩
            case measure => simp [RowKit.intOf]; omega
          · have HNX : Hid (R = totR L.els (acc ++ [((at1, zv, ng, sp) : Sg)]) zv (way.drop (j + 1))) := by
              show _ = _
              rw [HJ2.out, HTY.out (by first | rfl | trivial)]
              have eh1 := bf h1
              have eh2 := bf h2
              have ek1 := bt k1
              have ek2 := bf k2
              have ek3 := bf k3
              rw [if_neg (by omega), if_neg (by omega)]
            go_wp2_with fail
            refine (HND.out _).mono ?_
            rintro e w5 ⟨rfl, rfl⟩
            go_wp2_with (at_builtin; refine wp_seg rfl (.tmp 103) (.tmp 105) rfl W (l := acc) (at1, zv, ng, sp) rfl rfl (by simp) rfl (((HO.out.alloc _).alloc _).alloc _) (HBE.out.alloc HBE.out.size _) (by have := HAL.out; omega) ?_; rintro v9 w9 ⟨h9, b9, gr9, -⟩; have R9 := Lib.hid h9; have B9 := Lib.hid b9; have kto := kept_to gr9 (fun k hk => (HO.out.lt k hk).2); clear h9 b9 gr9)
            go_roundw
            case rel => exact ⟨j + 1, acc ++ [(at1, zv, ng, sp)], zv, by simp, by rw [HN.out]; omega, rfl, HNX.out, by rw [List.length_append, List.length_singleton]; have := HAL.out; omega, R9.out, B9.out⟩
            case measure => simp [RowKit.intOf]; omega
    · have he : j = N := by omega
      subst he
      have HRF : Hid (R = some acc) := by
        show _ = _
        rw [HJ.out, List.drop_of_length_le (by rw [HN.out]; exact Nat.le_refl _)]
        rfl
      have HV := Lib.hid (rvalid_any (grid_in (grid_of_own HO.out)))
      obtain ⟨A1, C1, rfl⟩ := own_shape HO.out
      have HO2 := Lib.hid (show wr.ownsRow W.heap.size 41 4 (.slice A1 acc.length C1) acc.length (acc.flatMap sgC) from HO.out)
      obtain ⟨q, hq⟩ : ∃ q, validF acc = q := ⟨_, rfl⟩
      rw [hq] at HV
      have HQ := Lib.hid hq
      clear hq HO
      obtain ⟨M, hM⟩ : ∃ M, acc.length = M := ⟨_, rfl⟩
      rw [hM] at HV HO2 ⊢
      have HM := Lib.hid hM
      clear hM
      go_wp2_with fail
      refine HV.out.mono ?_
      rintro e w6 ⟨rfl, b6⟩
      have HO6 := Lib.hid (own_below HO2.out b6)
      have B6 := Lib.hid (bel_next HBL.out (bel_next HB.out b6))
      clear b6
      cases q with
      | false =>
        have HF2 : Hid (r = []) := by
          show _ = _
          rw [HF.out, HRF.out, endF, if_neg (by simp [HQ.out])]
        go_wp2_with fail
        go_ret
        rw [HF2.out]
        exact ⟨_, rfl, World.ownsRow_nil _ _ _ _, B6.out⟩
      | true =>
        have HF2 : Hid (r = acc) := by
          show _ = _
          rw [HF.out, HRF.out, endF, if_pos HQ.out]
        go_wp2_with fail
        go_ret
        rw [HF2.out]
        exact ⟨_, rfl, by have := own_mono HO6.out HBL.out.size; rw [HM.out]; exact this, B6.out⟩

end Go.Proofs.YtkoldgammeojkaaDoor.Rof
