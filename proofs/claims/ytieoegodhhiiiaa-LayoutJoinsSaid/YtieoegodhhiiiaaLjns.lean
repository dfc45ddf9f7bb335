/- The call of the statement LayoutJoins, from what the program's seven functions give. -/
import Derived.Test.YtieoegodhhiiiaaLali
import Derived.Deep.RegionLaw
import Derived.Lib.QuietBelow
import Derived.BigGuardPart
import Derived.BigQuiet
namespace Go.Proofs.Ytieoegodhhiiiaa.Ljns
open Go.Proofs.Ytieoegodhhiiiaa.Text hiding lineL joinR
open Go.RowKit Go.Lib Go.Proofs.Ytieoegodhhiiiaa.Reads Go.Proofs.Ytieoegodhhiiiaa.Rows2 Go.Proofs.Ytieoegodhhiiiaa.Lay Go.Proofs.Ytieoegodhhiiiaa.Layf Go.Proofs.Ytieoegodhhiiiaa.Lcon Go.Proofs.Ytieoegodhhiiiaa.Ldup Go.Proofs.Ytieoegodhhiiiaa.Lext Go.Proofs.Ytieoegodhhiiiaa.Ljoi Go.Proofs.Ytieoegodhhiiiaa.Lmem Go.Proofs.Ytieoegodhhiiiaa.Lnmd Go.Proofs.Ytieoegodhhiiiaa.Lfew Go.Proofs.Ytieoegodhhiiiaa.Lsev Go.Proofs.Ytieoegodhhiiiaa.Lali Go.Proofs.Ytieoegodhhiiiaa.Lsid Go.Proofs.Ytieoegodhhiiiaa.Lsig

theorem zero_exists {L : Lay} (hc : checkF L = 0) : existsB L.els (0, 0) = true := by
  obtain ⟨hn, _, _, _⟩ := check_split.1 hc
  obtain ⟨h1, _, _⟩ := named_split.1 hn
  have h1 := of_decide_eq_true h1
  obtain ⟨x, hx⟩ := at_lt (l := L.els) (k := 0) (by omega)
  have hr := of_decide_eq_true (right_at hc (List.mem_of_getElem? hx))
  rw [exists_yes (x := x) (by decide) (by decide) (by simpa using hx)]
  have : 0 < sidesN x.kind := by unfold sidesN; split <;> (try split) <;> (try split) <;> omega
  simpa using this
theorem join_none {e : Int × Int} : ∀ {js : List ((Int × Int) × (Int × Int))}, (joinR e js).2 = false → (joinR e js).1 = (0, 0)
  | [], _ => rfl
  | (a, b) :: l, h => by
    rw [joinR] at h ⊢
    split
    · rename_i h1; rw [if_pos h1] at h; cases h
    · rename_i h1
      rw [if_neg h1] at h
      split
      · rename_i h2; rw [if_pos h2] at h; cases h
      · rename_i h2
        rw [if_neg h2] at h
        exact join_none h
/-- What a valid layout's joints say at an end. -/
theorem end_says {L : Lay} {i : Nat} {k : Int} (hc : checkF L = 0) (he : existsB L.els ((i : Int), k) = true) :
    (∃ (j : Nat) (m : Int), joinedF L ((i : Int), k) = (((j : Int), m), true) ∧ j < L.els.length ∧ existsB L.els ((j : Int), m) = true ∧ joinedF L ((j : Int), m) = (((i : Int), k), true) ∧ ¬ ((j : Int), m) = ((i : Int), k) ∧ (signalF L ((i : Int), k) < 0 ∨ sectionF L (j : Int) ≠ sectionF L (i : Int))) ∨
    (joinedF L ((i : Int), k) = ((0, 0), false) ∧ signalF L ((i : Int), k) < 0) := by
  obtain ⟨⟨⟨j, m⟩, ok⟩, hf⟩ : ∃ r, joinedF L ((i : Int), k) = r := ⟨_, rfl⟩
  cases ok
  · refine .inr ⟨?_, ?_⟩
    · rw [hf]
      have := join_none (e := ((i : Int), k)) (js := L.joints) (by rw [show joinR ((i : Int), k) L.joints = _ from hf])
      rw [show joinR ((i : Int), k) L.joints = _ from hf] at this
      rw [show ((j, m) : Int × Int) = (0, 0) from this]
    · refine Int.not_le.1 fun hg => ?_
      have := signal_safe hc hg
      unfold safeB at this
      rw [hf] at this
      cases this
  · have hx := joined_exists hc hf
    obtain ⟨hb, hne⟩ := joined_back hc hf
    obtain ⟨j', y, hj, _, hjl⟩ := Lsig.exists_at hx
    have hj : j = (j' : Int) := hj
    subst hj
    refine .inl ⟨j', m, hf, hjl, hx, hb, hne, ?_⟩
    by_cases hg : signalF L ((i : Int), k) < 0
    · exact .inl hg
    · exact .inr (sections_apart hc hf he (by omega))

set_option maxRecDepth 100000 in
set_option maxHeartbeats 3200000 in
theorem joins_any {D : World → Prop} (S : Seven D) (L : Lay) {vs ve vj vg vb : Value} (w : World) (h : LayAt (In w) w L vs ve vj vg vb) (hd : D w) :
    Calls Try.prog 4 #[layV L vs ve vj vg vb] w (BoolOut true w) := by
  obtain ⟨a, cap, rfl, hm, -⟩ := h.el
  have b0 := (Below.refl w.heap.size w).alloc (Nat.le_refl _) (.cells #[.string (bs L.name), vs, .slice a L.els.length cap, vj, vg, vb] 28)
  have hh := h.box (.cells #[.string (bs L.name), vs, .slice a L.els.length cap, vj, vg, vb] 28)
  have hx := lbox_new w 28 L vs (.slice a L.els.length cap) vj vg vb
  have dd := S.keep _ _ hd b0
  have hs0 : w.heap.size < (w.alloc (.cells #[.string (bs L.name), vs, .slice a L.els.length cap, vj, vg, vb] 28)).heap.size := by simp
  obtain ⟨W, hW⟩ : ∃ W, w.alloc (.cells #[.string (bs L.name), vs, .slice a L.els.length cap, vj, vg, vb] 28) = W := ⟨_, rfl⟩
  rw [hW] at b0 hh hx dd hs0
  have HW := Lib.hid hW
  have B0 := Lib.hid b0
  have HX := Lib.hid hx
  have HS := Lib.hid hs0
  have HF := Lib.hid (few_any L _ hh)
  have HA := Lib.hid (fun w' (b : Below W.heap.size W w') => alive_any S _ (S.keep _ _ dd b))
  have HC := Lib.hid (fun (hf : fewB L = true) w' (b : Below W.heap.size W w') => S.chk L _ _ _ _ _ _ (hh.next b) (S.keep _ _ dd b) hf)
  have HJ := Lib.hid (fun (hf : fewB L = true) (hc : checkF L = 0) w' (b : Below W.heap.size W w') (p : Int × Int) (hp : existsB L.els p = true) => S.jnd L p _ _ _ _ _ _ (hh.next b) (S.keep _ _ dd b) hf hc hp)
  have HG := Lib.hid (fun (hf : fewB L = true) (hc : checkF L = 0) w' (b : Below W.heap.size W w') (p : Int × Int) (hp : existsB L.els p = true) => S.sgl L p _ _ _ _ _ _ (hh.next b) (S.keep _ _ dd b) hf hc hp)
  have HQ := Lib.hid (fun (hf : fewB L = true) (hc : checkF L = 0) w' (b : Below W.heap.size W w') (i : Nat) (hi : i < L.els.length) => S.sct L i _ _ _ _ _ _ (hh.next b) (S.keep _ _ dd b) hf hc hi)
  obtain ⟨a', cap', he, -, hel⟩ := hh.el
  cases he
  have HE := Lib.hid hel
  clear h hh hd dd hW b0 hx hs0 hel
  obtain ⟨r, hr⟩ : ∃ r, checkF L = r := ⟨_, rfl⟩
  rw [hr] at HC
  have HCK := Lib.hid hr
  clear hr
  obtain ⟨b, hb⟩ : ∃ b, fewB L = b := ⟨_, rfl⟩
  rw [hb] at HF HC HJ HG HQ
  have HFW := Lib.hid hb
  clear hb
  unfold layV
  go_enter Try.func4, Try.ntmps4
  go_wp2_with fail
  rw [HW.out]
  obtain ⟨x0, x1, x2, x3, x4, x5⟩ := HX.out
  refine HF.out.mono ?_
  rintro e w1 ⟨rfl, b1⟩
  have B1 := Lib.hid b1
  clear b1 x0 x1 x2 x3 x4 x5
  obtain ⟨x0, x1, x2, x3, x4, x5⟩ := HX.out.next B1.out HS.out
  cases b
  · go_wp2_with fail
    refine (HA.out _ B1.out).mono ?_
    rintro e w2 ⟨rfl, b2⟩
    have B2 := Lib.hid (bel_next B1.out b2)
    clear b2
    go_wp2_with fail
    go_ret
    exact ⟨rfl, bel_next B0.out B2.out⟩
  · go_wp2_with fail
    refine (HC.out (by trivial) _ B1.out).mono ?_
    rintro e w2 ⟨rfl, b2⟩
    have B2 := Lib.hid (bel_next B1.out b2)
    clear b2 x0 x1 x2 x3 x4 x5
    obtain ⟨x0, x1, x2, x3, x4, x5⟩ := HX.out.next B2.out HS.out
    by_cases hr0 : r = 0
    · subst hr0
      have HJ' := Lib.hid (HJ.out (by trivial) HCK.out)
      have HG' := Lib.hid (HG.out (by trivial) HCK.out)
      have HQ' := Lib.hid (HQ.out (by trivial) HCK.out)
      clear HJ HG HQ HC
      go_wp2_with fail
      go_loopw [23] (fun vi wr => ∃ i : Nat, vi = .int .i64 (i : Int) ∧ i ≤ L.els.length ∧ Below W.heap.size W wr) (fun vi _ => L.els.length - (RowKit.intOf vi).toNat)
      case atStart => exact ⟨0, rfl, Nat.zero_le _, B2.out⟩
      case round =>
        obtain ⟨i, rfl, hi, hb⟩ := hrel
        have HB := Lib.hid hb
        clear hb x0 x1 x2 x3 x4 x5
        obtain ⟨wo, rfl⟩ : ∃ wo : World, wo = wr := ⟨_, rfl⟩
        by_cases hl : i < L.els.length
        · obtain ⟨x, hx⟩ := at_lt hl
          obtain ⟨b, off, rfl, c0, c1, c2, c3, c4, c5, c6⟩ := HE.out wo HB.out i x hx
          have HXX := Lib.hid hx
          clear hx
          obtain ⟨nm, kd, ln, gr, sp, sl, sc⟩ := x
          simp only at c0 c1 c2 c3 c4 c5 c6
          go_wp2_with fail
          have bx := (Below.refl wo.heap.size wo).alloc (Nat.le_refl _) (.cells #[.string (bs nm), .int .i64 kd, .int .i64 ln, .int .i64 gr, .int .i64 sp, .int .i64 sl, .int .i64 sc] 34)
          have gx : (wo.alloc (.cells #[.string (bs nm), .int .i64 kd, .int .i64 ln, .int .i64 gr, .int .i64 sp, .int .i64 sl, .int .i64 sc] 34)).cell? ⟨wo.heap.size, 1, none⟩ = some (.int .i64 kd) := by rw [World.cell?_alloc_at _ _ _ _ rfl]; rfl
          have gs : wo.heap.size < (wo.alloc (.cells #[.string (bs nm), .int .i64 kd, .int .i64 ln, .int .i64 gr, .int .i64 sp, .int .i64 sl, .int .i64 sc] 34)).heap.size := by simp
          obtain ⟨WX, hWX⟩ : ∃ WX, wo.alloc (.cells #[.string (bs nm), .int .i64 kd, .int .i64 ln, .int .i64 gr, .int .i64 sp, .int .i64 sl, .int .i64 sc] 34) = WX := ⟨_, rfl⟩
          rw [hWX] at bx gx gs ⊢
          have BX := Lib.hid (bel_next HB.out bx)
          have GX := Lib.hid gx
          have GS := Lib.hid gs
          clear bx gx gs hWX c0 c1 c2 c3 c4 c5 c6
          have HEX := Lib.hid (fun (k : Nat) (hk : (k : Int) < sidesN kd) => (exists_yes (els := L.els) (p := ((i : Int), (k : Int))) (x := ⟨nm, kd, ln, gr, sp, sl, sc⟩) (by simp) (by simp) (by simpa using HXX.out)).trans (decide_eq_true hk))
          have HSD := Lib.hid (fun w => rsides_any kd w)
          have hs0 : 0 ≤ sidesN kd := by unfold sidesN; split <;> (try split) <;> (try split) <;> omega
          obtain ⟨s, hs⟩ : ∃ s, sidesN kd = s := ⟨_, rfl⟩
          have hs4 : sidesN kd ≤ 4 := by unfold sidesN; split <;> (try split) <;> (try split) <;> omega
          rw [hs] at HEX HSD hs0 hs4
          clear hs
          go_loopw [5] (fun vk wr => ∃ k : Nat, vk = .int .i64 (k : Int) ∧ (k : Int) ≤ s ∧ Below WX.heap.size WX wr) (fun vk _ => s.toNat - (RowKit.intOf vk).toNat)
          case atStart => exact ⟨0, rfl, hs0, Below.refl _ _⟩
          case round =>
            obtain ⟨k, rfl, hk, hb⟩ := hrel
            have g1 := (hb.cell (p := ⟨wo.heap.size, 1, none⟩) GS.out).trans GX.out
            have HP := Lib.hid (bel_next BX.out hb)
            have HPX := Lib.hid hb
            clear hb
            obtain ⟨wp, rfl⟩ : ∃ wp : World, wp = wr := ⟨_, rfl⟩
            go_wp2_with fail
            refine (HSD.out _).mono ?_
            rintro e w' ⟨rfl, rfl⟩
            clear g1
            by_cases hlt : (k : Int) < s
            · have HEK := Lib.hid (HEX.out k hlt)
              obtain ⟨x0, x1, x2, x3, x4, x5⟩ := HX.out.next HP.out HS.out
              have q1 : w.heap.size < wp.heap.size := Nat.lt_of_lt_of_le HS.out HP.out.size
              have q2 : w.heap.size < wp.heap.size + 1 := by omega
              go_wp2_with fail
              have be := (Below.refl wp.heap.size wp).alloc (Nat.le_refl _) (.cells #[.int .i64 (i : Int), .int .i64 (k : Int)] 37)
              have HT := Lib.hid (fun w' (b : Below (wp.alloc (.cells #[.int .i64 (i : Int), .int .i64 (k : Int)] 37)).heap.size (wp.alloc (.cells #[.int .i64 (i : Int), .int .i64 (k : Int)] 37)) w') => And.intro (ebox_at wp (i : Int) (k : Int) (w' := w') b) b)
              have se : wp.heap.size < (wp.alloc (.cells #[.int .i64 (i : Int), .int .i64 (k : Int)] 37)).heap.size := by simp
              obtain ⟨wE, hwE⟩ : ∃ wE, wp.alloc (.cells #[.int .i64 (i : Int), .int .i64 (k : Int)] 37) = wE := ⟨_, rfl⟩
              rw [hwE] at be HT se ⊢
              have BE := Lib.hid (bel_next HP.out be)
              have SP := Lib.hid be
              have SE := Lib.hid se
              clear hwE be se x0 x1 x2 x3 x4 x5 q1 q2
              rcases end_says HCK.out HEK.out with ⟨j, m, hf, hjl, hfx, hg, hne, hse⟩ | ⟨hf, hse⟩
              · have HFo := Lib.hid hf
                have HGo := Lib.hid hg
                have HXo := Lib.hid hfx
                have HEo := Lib.hid hse
                have HNo := Lib.hid hne
                clear hne
                clear hf hg hfx hse
                refine (HJ'.out wE BE.out ((i : Int), (k : Int)) HEK.out).mono ?_
                rintro e w3 ⟨rfl, b3⟩
                rw [HFo.out]
                unfold pV
                have B3 := Lib.hid (bel_next BE.out b3)
                have T3 := Lib.hid (HT.out _ b3)
                obtain ⟨x0, x1, x2, x3, x4, x5⟩ := HX.out.next B3.out HS.out
                have q1 : w.heap.size < w3.heap.size := Nat.lt_of_lt_of_le HS.out B3.out.size
                have q2 : w.heap.size < w3.heap.size + 1 := by omega
                clear b3
                go_wp2_with fail
                have bf := (Below.refl w3.heap.size w3).alloc (Nat.le_refl _) (.cells #[.int .i64 (j : Int), .int .i64 m] 37)
                have HT2 := Lib.hid (fun w' b => ebox_at w3 ((j : Int)) (m) (w' := w') b)
                have s3 : w3.heap.size < (w3.alloc (.cells #[.int .i64 (j : Int), .int .i64 m] 37)).heap.size := by simp
                obtain ⟨wF, hwF⟩ : ∃ wF, w3.alloc (.cells #[.int .i64 (j : Int), .int .i64 m] 37) = wF := ⟨_, rfl⟩
                rw [hwF] at bf HT2 s3 ⊢
                have BF := Lib.hid (bel_next B3.out bf)
                have BEF := Lib.hid (bel_next T3.out.2 bf)
                have S3 := Lib.hid s3
                clear hwF bf x0 x1 x2 x3 x4 x5 q1 q2 s3
                refine (HJ'.out wF BF.out ((j : Int), m) HXo.out).mono ?_
                rintro e w4 ⟨rfl, b4⟩
                rw [HGo.out]
                unfold pV
                have B4 := Lib.hid (bel_next BF.out b4)
                have BE4 := Lib.hid (bel_next BEF.out b4)
                have BF4 := Lib.hid b4
                clear b4
                obtain ⟨y0, y1⟩ := HT.out _ BE4.out |>.1
                obtain ⟨z0, z1⟩ := HT2.out _ BF4.out
                have q3 : wp.heap.size < w4.heap.size := Nat.lt_of_lt_of_le SE.out BE4.out.size
                have q4 : w3.heap.size < w4.heap.size := Nat.lt_of_lt_of_le S3.out BF4.out.size
                have r1 : ((i : Int) == (i : Int)) = true := by simp
                have r2 : ((k : Int) == (k : Int)) = true := by simp
                obtain ⟨g, hsg⟩ : ∃ g, signalF L ((i : Int), (k : Int)) = g := ⟨_, rfl⟩
                have HS9 := Lib.hid hsg
                clear hsg
                rcases ne_cases HNo.out with hc | ⟨hc, hc2⟩
                all_goals
                  by_cases hgp : 0 ≤ g
                  · have hsec := Lib.hid (HEo.out.resolve_left (by rw [HS9.out]; omega))
                    go_wp2_with fail
                    have bb := (Below.refl w4.heap.size w4).alloc (Nat.le_refl _) (.cells #[.int .i64 (i : Int), .int .i64 (k : Int)] 37)
                    obtain ⟨wB, hwB⟩ : ∃ wB, w4.alloc (.cells #[.int .i64 (i : Int), .int .i64 (k : Int)] 37) = wB := ⟨_, rfl⟩
                    rw [hwB] at bb ⊢
                    have B5 := Lib.hid (bel_next B4.out bb)
                    have BP5 := Lib.hid (bel_next SP.out (bel_next BE4.out bb))
                    obtain ⟨v0, v1⟩ := HT.out _ (bel_next BE4.out bb) |>.1
                    obtain ⟨u0, u1⟩ := HT2.out _ (bel_next BF4.out bb)
                    have k6 := cell_regrown v0
                    have k7 := cell_regrown v1
                    have k8 := cell_regrown u0
                    clear hwB bb y0 y1 z0 z1 q3 q4 v0 v1 u0 u1
                    obtain ⟨x0, x1, x2, x3, x4, x5⟩ := HX.out.next B5.out HS.out
                    have k0 := cell_regrown x0
                    have k1 := cell_regrown x1
                    have k2 := cell_regrown x2
                    have k3 := cell_regrown x3
                    have k4 := cell_regrown x4
                    have k5 := cell_regrown x5
                    clear x0 x1 x2 x3 x4 x5
                    have CG := Lib.hid (fun d os => Calls.regrown_of (w := wB) (d := d) (os := os) (HG'.out _ (bel_next B5.out (below_regrown wB d os)) ((i : Int), (k : Int)) HEK.out))
                    rw [HS9.out] at CG
                    have hgl : decide (0 ≤ g) = true := by simpa using hgp
                    have C1 := Lib.hid (fun d os => Calls.regrown_of (w := wB) (d := d) (os := os) (HQ'.out _ (bel_next B5.out (below_regrown wB d os)) j hjl))
                    have C2 := Lib.hid (fun d os => Calls.regrown_of (w := wB) (d := d) (os := os) (HQ'.out _ (bel_next B5.out (below_regrown wB d os)) i hl))
                    have hcc : (sectionF L (j : Int) == sectionF L (i : Int)) = false := by simpa using hsec.out
                    obtain ⟨t1, ht1⟩ : ∃ t, sectionF L (j : Int) = t := ⟨_, rfl⟩
                    obtain ⟨t2, ht2⟩ : ∃ t, sectionF L (i : Int) = t := ⟨_, rfl⟩
                    rw [ht1] at C1 hcc
                    rw [ht2] at C2 hcc
                    clear ht1 ht2 hsec
                    unfold layV pV at CG
                    dsimp only at CG
                    unfold layV at C1 C2
                    refine wp_region_quiet_below (by kernel_rfl) (by kernel_rfl) ?_
                    repeat (go_big_quiet_step (first | with_reducible exact CG.out _ _ | with_reducible exact C1.out _ _ | with_reducible exact C2.out _ _))
                    refine wpQuiet_nil ?_
                    intro _ hw'
                    obtain ⟨⟨dq, osq⟩, hw''⟩ := hw'
                    subst hw''
                    have B6 := Lib.hid (bel_next B5.out (below_regrown wB dq osq))
                    go_wp2_with fail
                    go_roundw
                    case rel => exact ⟨k + 1, by simp, by omega, bel_next HPX.out (bel_next BP5.out (below_regrown wB dq osq))⟩
                    case measure => simp [RowKit.intOf]; omega
                  · have hgn : g < 0 := by omega
                    go_wp2_with fail
                    have bb := (Below.refl w4.heap.size w4).alloc (Nat.le_refl _) (.cells #[.int .i64 (i : Int), .int .i64 (k : Int)] 37)
                    obtain ⟨wB, hwB⟩ : ∃ wB, w4.alloc (.cells #[.int .i64 (i : Int), .int .i64 (k : Int)] 37) = wB := ⟨_, rfl⟩
                    rw [hwB] at bb ⊢
                    have B5 := Lib.hid (bel_next B4.out bb)
                    have BP5 := Lib.hid (bel_next SP.out (bel_next BE4.out bb))
                    obtain ⟨v0, v1⟩ := HT.out _ (bel_next BE4.out bb) |>.1
                    obtain ⟨u0, u1⟩ := HT2.out _ (bel_next BF4.out bb)
                    have k6 := cell_regrown v0
                    have k7 := cell_regrown v1
                    have k8 := cell_regrown u0
                    clear hwB bb y0 y1 z0 z1 q3 q4 v0 v1 u0 u1
                    obtain ⟨x0, x1, x2, x3, x4, x5⟩ := HX.out.next B5.out HS.out
                    have k0 := cell_regrown x0
                    have k1 := cell_regrown x1
                    have k2 := cell_regrown x2
                    have k3 := cell_regrown x3
                    have k4 := cell_regrown x4
                    have k5 := cell_regrown x5
                    clear x0 x1 x2 x3 x4 x5
                    have CG := Lib.hid (fun d os => Calls.regrown_of (w := wB) (d := d) (os := os) (HG'.out _ (bel_next B5.out (below_regrown wB d os)) ((i : Int), (k : Int)) HEK.out))
                    rw [HS9.out] at CG
                    unfold layV pV at CG
                    dsimp only at CG
                    have hgl : decide (0 ≤ g) = false := by simpa using hgn
                    refine wp_region_quiet_below (by kernel_rfl) (by kernel_rfl) ?_
                    repeat (go_big_quiet_step (with_reducible exact CG.out _ _))
                    refine wpQuiet_nil ?_
                    intro _ hw'
                    obtain ⟨⟨dq, osq⟩, hw''⟩ := hw'
                    subst hw''
                    have B6 := Lib.hid (bel_next B5.out (below_regrown wB dq osq))
                    go_wp2_with fail
                    go_roundw
                    case rel => exact ⟨k + 1, by simp, by omega, bel_next HPX.out (bel_next BP5.out (below_regrown wB dq osq))⟩
                    case measure => simp [RowKit.intOf]; omega
              · have hfx := zero_exists HCK.out
                obtain ⟨⟨⟨g1, g2⟩, gb⟩, hg⟩ : ∃ r, joinedF L (0, 0) = r := ⟨_, rfl⟩
                have HFo := Lib.hid hf
                have HGo := Lib.hid hg
                have HXo := Lib.hid hfx
                have HEo := Lib.hid hse
                clear hf hg hfx hse
                refine (HJ'.out wE BE.out ((i : Int), (k : Int)) HEK.out).mono ?_
                rintro e w3 ⟨rfl, b3⟩
                rw [HFo.out]
                unfold pV
                have B3 := Lib.hid (bel_next BE.out b3)
                have T3 := Lib.hid (HT.out _ b3)
                obtain ⟨x0, x1, x2, x3, x4, x5⟩ := HX.out.next B3.out HS.out
                have q1 : w.heap.size < w3.heap.size := Nat.lt_of_lt_of_le HS.out B3.out.size
                have q2 : w.heap.size < w3.heap.size + 1 := by omega
                clear b3
                go_wp2_with fail
                have bf := (Below.refl w3.heap.size w3).alloc (Nat.le_refl _) (.cells #[.int .i64 0, .int .i64 0] 37)
                have HT2 := Lib.hid (fun w' b => ebox_at w3 (0) (0) (w' := w') b)
                have s3 : w3.heap.size < (w3.alloc (.cells #[.int .i64 0, .int .i64 0] 37)).heap.size := by simp
                obtain ⟨wF, hwF⟩ : ∃ wF, w3.alloc (.cells #[.int .i64 0, .int .i64 0] 37) = wF := ⟨_, rfl⟩
                rw [hwF] at bf HT2 s3 ⊢
                have BF := Lib.hid (bel_next B3.out bf)
                have BEF := Lib.hid (bel_next T3.out.2 bf)
                have S3 := Lib.hid s3
                clear hwF bf x0 x1 x2 x3 x4 x5 q1 q2 s3
                refine (HJ'.out wF BF.out (0, 0) HXo.out).mono ?_
                rintro e w4 ⟨rfl, b4⟩
                rw [HGo.out]
                unfold pV
                have B4 := Lib.hid (bel_next BF.out b4)
                have BE4 := Lib.hid (bel_next BEF.out b4)
                have BF4 := Lib.hid b4
                clear b4
                obtain ⟨y0, y1⟩ := HT.out _ BE4.out |>.1
                obtain ⟨z0, z1⟩ := HT2.out _ BF4.out
                have q3 : wp.heap.size < w4.heap.size := Nat.lt_of_lt_of_le SE.out BE4.out.size
                have q4 : w3.heap.size < w4.heap.size := Nat.lt_of_lt_of_le S3.out BF4.out.size
                have r1 : ((i : Int) == (i : Int)) = true := by simp
                have r2 : ((k : Int) == (k : Int)) = true := by simp
                obtain ⟨g, hsg⟩ : ∃ g, signalF L ((i : Int), (k : Int)) = g := ⟨_, rfl⟩
                have HS9 := Lib.hid hsg
                have hgn : g < 0 := by rw [← hsg]; exact HEo.out
                clear hsg
                go_wp2_with fail
                have bb := (Below.refl w4.heap.size w4).alloc (Nat.le_refl _) (.cells #[.int .i64 g1, .int .i64 g2] 37)
                obtain ⟨wB, hwB⟩ : ∃ wB, w4.alloc (.cells #[.int .i64 g1, .int .i64 g2] 37) = wB := ⟨_, rfl⟩
                rw [hwB] at bb ⊢
                have B5 := Lib.hid (bel_next B4.out bb)
                have BP5 := Lib.hid (bel_next SP.out (bel_next BE4.out bb))
                obtain ⟨v0, v1⟩ := HT.out _ (bel_next BE4.out bb) |>.1
                obtain ⟨u0, u1⟩ := HT2.out _ (bel_next BF4.out bb)
                have k6 := cell_regrown v0
                have k7 := cell_regrown v1
                have k8 := cell_regrown u0
                clear hwB bb y0 y1 z0 z1 q3 q4 v0 v1 u0 u1
                obtain ⟨x0, x1, x2, x3, x4, x5⟩ := HX.out.next B5.out HS.out
                have k0 := cell_regrown x0
                have k1 := cell_regrown x1
                have k2 := cell_regrown x2
                have k3 := cell_regrown x3
                have k4 := cell_regrown x4
                have k5 := cell_regrown x5
                clear x0 x1 x2 x3 x4 x5
                have CG := Lib.hid (fun d os => Calls.regrown_of (w := wB) (d := d) (os := os) (HG'.out _ (bel_next B5.out (below_regrown wB d os)) ((i : Int), (k : Int)) HEK.out))
                rw [HS9.out] at CG
                unfold layV pV at CG
                dsimp only at CG
                have hgl : decide (0 ≤ g) = false := by simpa using hgn
                refine wp_region_quiet_below (by kernel_rfl) (by kernel_rfl) ?_
                repeat (go_big_quiet_step (with_reducible exact CG.out _ _))
                refine wpQuiet_nil ?_
                intro _ hw'
                obtain ⟨⟨dq, osq⟩, hw''⟩ := hw'
                subst hw''
                have B6 := Lib.hid (bel_next B5.out (below_regrown wB dq osq))
                go_wp2_with fail
                go_roundw
                case rel => exact ⟨k + 1, by simp, by omega, bel_next HPX.out (bel_next BP5.out (below_regrown wB dq osq))⟩
                case measure => simp [RowKit.intOf]; omega
            · have hd : decide ((k : Int) < s) = false := by simpa using hlt
              go_wp2_with fail
              go_roundw
              case rel => exact ⟨i + 1, by simp, hl, HP.out⟩
              case measure => simp [RowKit.intOf]; omega
        · have he : i = L.els.length := by omega
          subst he
          clear hl hi
          go_wp2_with fail
          refine (HA.out _ HB.out).mono ?_
          rintro e w3 ⟨rfl, b3⟩
          have B3 := Lib.hid (bel_next HB.out b3)
          clear b3
          go_wp2_with fail
          go_ret
          exact ⟨rfl, bel_next B0.out B3.out⟩
    · have hq : (r == 0) = false := by simpa using hr0
      go_wp2_with fail
      refine (HA.out _ B2.out).mono ?_
      rintro e w3 ⟨rfl, b3⟩
      have B3 := Lib.hid (bel_next B2.out b3)
      clear b3
      go_wp2_with fail
      go_ret
      exact ⟨rfl, bel_next B0.out B3.out⟩

end Go.Proofs.Ytieoegodhhiiiaa.Ljns
