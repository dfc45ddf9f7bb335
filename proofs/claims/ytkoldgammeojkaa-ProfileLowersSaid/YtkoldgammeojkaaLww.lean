/- ProfileLowers: the walk. -/
import Derived.Test.YtkoldgammeojkaaLwp
import Derived.Test.YtkoldgammeojkaaPal10
import Derived.Test.YtkoldgammeojkaaSopn
namespace Go.Proofs.Ytkoldgammeojkaa.Lww
open Go.RowKit Go.Lib Go.Proofs.Ytkoldgammeojkaa.Reads Go.Proofs.Ytkoldgammeojkaa.Rows2 Go.Proofs.Ytkoldgammeojkaa.Lay Go.Proofs.Ytkoldgammeojkaa.Segs Go.Proofs.Ytkoldgammeojkaa.Psg Go.Proofs.Ytkoldgammeojkaa.Pvd Go.Proofs.Ytkoldgammeojkaa.Pat Go.Proofs.Ytkoldgammeojkaa.Plm Go.Proofs.Ytkoldgammeojkaa.Smp Go.Proofs.Ytkoldgammeojkaa.Pal10 Go.Proofs.Ytkoldgammeojkaa.Lwp Go.Proofs.Ytkoldgammeojkaa.Sopn

theorem lit6 (V : World) (T : TypeId) (a b c d e f : Int) (i : Nat) (y : Int) (h : [a, b, c, d, e, f][i]? = some y) : (V.alloc (.cells #[.int .i64 a, .int .i64 b, .int .i64 c, .int .i64 d, .int .i64 e, .int .i64 f] T)).cell? ⟨V.heap.size, i, none⟩ = some (.int .i64 y) := by
  rw [World.cell?_alloc_at _ _ _ _ rfl]
  rcases i with _ | _ | _ | _ | _ | _ | i
  · simp only [List.getElem?_cons_zero, Option.some.injEq] at h; rw [← h]; rfl
  · simp only [List.getElem?_cons_zero, List.getElem?_cons_succ, Option.some.injEq] at h; rw [← h]; rfl
  · simp only [List.getElem?_cons_zero, List.getElem?_cons_succ, Option.some.injEq] at h; rw [← h]; rfl
  · simp only [List.getElem?_cons_zero, List.getElem?_cons_succ, Option.some.injEq] at h; rw [← h]; rfl
  · simp only [List.getElem?_cons_zero, List.getElem?_cons_succ, Option.some.injEq] at h; rw [← h]; rfl
  · simp only [List.getElem?_cons_zero, List.getElem?_cons_succ, Option.some.injEq] at h; rw [← h]; rfl
  · simp at h
/-- Every segment of the limited profile fits. -/
theorem lim_wf {f t v : Int} (hf : Lay.Wf f) (ht : Lay.Wf t) (hv : Lay.Wf v) : ∀ {p : List Sg}, (∀ s ∈ p, sgW s) → ∀ s ∈ limR f t v p, sgW s
  | [], _, s, hs => by cases hs
  | a :: r, hp, s, hs => by
    rw [lim_cons] at hs
    rcases List.mem_append.1 hs with h | h
    · unfold pcs at h
      split at h
      · exact div_wf (hp a (by simp)) hf ht hv s h
      · rw [List.mem_singleton.1 h]; exact hp a (by simp)
    · exact lim_wf hf ht hv (fun u hu => hp u (List.mem_cons_of_mem _ hu)) s h

set_option maxRecDepth 100000 in
set_option maxHeartbeats 12800000 in
theorem lowers_law {p : List Sg} {vp : Value} {x : Rg} (w : World) (h : SegIn w vp p) (hx : rgW x) :
    Calls Try.prog 7 #[vp, rgV x] w (BoolOut true w) := by
  obtain ⟨f, t, v⟩ := x
  obtain ⟨wf, wt, wv⟩ := hx
  simp only at wf wt wv
  unfold rgV
  simp only
  have HAL := Lib.hid (fun w' => alive_any w')
  have HP := Lib.hid h
  obtain ⟨a, cap, rfl, hm, -, -, hel⟩ := segs h.1
  have HE := Lib.hid hel
  obtain ⟨N, hN⟩ : ∃ N, p.length = N := ⟨_, rfl⟩
  have HN := Lib.hid hN
  obtain ⟨q0, hq⟩ : ∃ q, validF p = q := ⟨_, rfl⟩
  have HQ := Lib.hid hq
  have hbel := (Below.refl w.heap.size w).alloc (Nat.le_refl _) (.cells #[.int .i64 f, .int .i64 t, .int .i64 v] 37)
  have hrow := heap_alloc_new w (.cells #[.int .i64 f, .int .i64 t, .int .i64 v] 37)
  obtain ⟨W, hW⟩ : ∃ W, w.alloc (.cells #[.int .i64 f, .int .i64 t, .int .i64 v] 37) = W := ⟨_, rfl⟩
  rw [hW] at hbel hrow
  have hlt : w.heap.size < W.heap.size := (Array.getElem?_eq_some_iff.1 hrow).1
  have HV := Lib.hid (pvalid_any (h.next hbel).1)
  rw [hq] at HV
  rw [hN] at hm HV HP ⊢
  have HW := Lib.hid hW
  have HBL := Lib.hid hbel
  have HLT := Lib.hid hlt
  have HBOX : Hid (∀ w', Below W.heap.size W w' → w'.cell? ⟨w.heap.size, 0, none⟩ = some (.int .i64 f) ∧ w'.cell? ⟨w.heap.size, 1, none⟩ = some (.int .i64 t) ∧ w'.cell? ⟨w.heap.size, 2, none⟩ = some (.int .i64 v)) := by
    refine Lib.hid (fun w' b => ⟨?_, ?_, ?_⟩)
    all_goals
      rw [cell_of_row _ _ _ _ _ _ ((b.block _ hlt).trans hrow)]
      rfl
  have WF := Lib.hid wf
  have WT := Lib.hid wt
  have WV := Lib.hid wv
  clear h hel hN hq hbel hrow hW hlt wf wt wv
  by_cases hbig : 100 < N
  · have g1 : (100 : Int) < (N : Int) := by omega
    clear hbig
    go_enter Try.func7, Try.ntmps7
    go_wp2_with fail
    rw [HW.out]
    refine (HAL.out _).mono ?_
    rintro e w' ⟨rfl, b⟩
    have B := Lib.hid (bel_next HBL.out b)
    clear b
    go_wp2_with fail
    go_ret
    exact ⟨rfl, B.out⟩
  have g1 : ¬ (100 : Int) < (N : Int) := by omega
  clear hbig
  go_enter Try.func7, Try.ntmps7
  go_wp2_with fail
  rw [HW.out]
  refine HV.out.mono ?_
  rintro e w1 ⟨rfl, hb1⟩
  have HB1 := Lib.hid hb1
  have HBW1 := Lib.hid (bel_next HBL.out hb1)
  have hl1 : w.heap.size < w1.heap.size := Nat.lt_of_lt_of_le HLT.out hb1.size
  obtain ⟨x0, x1, x2⟩ := HBOX.out w1 hb1
  clear hb1
  cases q0 with
  | false =>
    go_wp2_with fail
    refine (HAL.out _).mono ?_
    rintro e w' ⟨rfl, b⟩
    have B := Lib.hid (bel_next HBW1.out b)
    clear b
    go_wp2_with fail
    go_ret
    exact ⟨rfl, B.out⟩
  | true =>
  rcases N with _ | K
  · go_wp2_with fail
    refine (HAL.out _).mono ?_
    rintro e w' ⟨rfl, b⟩
    have B := Lib.hid (bel_next HBW1.out b)
    clear b
    go_wp2_with fail
    go_ret
    exact ⟨rfl, B.out⟩
  obtain ⟨N, hNK⟩ : ∃ N, K + 1 = N := ⟨_, rfl⟩
  rw [hNK] at hm HP HN g1 ⊢
  have hn0 : ((N : Int) == 0) = false := beq_eq_false_iff_ne.2 (by omega)
  have hN100 : N ≤ 100 := by omega
  clear hNK
  by_cases hv1 : v < 1
  · go_wp2_with fail
    refine (HAL.out _).mono ?_
    rintro e w' ⟨rfl, b⟩
    have B := Lib.hid (bel_next HBW1.out b)
    clear b
    go_wp2_with fail
    go_ret
    exact ⟨rfl, B.out⟩
  obtain ⟨k1, k2, k3, k4⟩ := lowers (f := f) (t := t) HQ.out (by rw [HN.out]; exact hN100) (show 1 ≤ v by omega)
  have HLM := Lib.hid (limit_any f t v (HP.out.next HBW1.out) WF.out WT.out WV.out)
  rw [k1] at HLM
  have HQW := Lib.hid (lim_wf WF.out WT.out WV.out HP.out.2.1)
  obtain ⟨q, hqe⟩ : ∃ q, limR f t v p = q := ⟨_, rfl⟩
  rw [hqe] at HLM HQW k3 k4
  have K3 := Lib.hid k3
  have K4 := Lib.hid k4
  clear k1 k2 k3 k4 hqe
  go_wp2_with fail
  refine HLM.out.mono ?_
  rintro e w4 h4
  obtain ⟨A4, M4, C4, rfl, HM4, HO4, HB4⟩ := seg_open h4
  clear h4 x0 x1 x2
  have HG4 : Hid (SegIn w4 (.slice A4 M4 C4) q) := Lib.hid (segIn_own HO4.out HQW.out)
  have B4 := Lib.hid (bel_next HBW1.out HB4.out)
  have BX4 := Lib.hid (fun w' (b : Below w4.heap.size w4 w') => HBOX.out w' (bel_next HB1.out (bel_next HB4.out b)))
  have hm4 : (M4 : Int) ≤ 9223372036854775807 := by
    obtain ⟨_, _, e', h2, _⟩ := segs HG4.out.1
    rw [HM4.out] at h2
    exact h2
  have HAP := Lib.hid (fun y w' (hb' : Below w4.heap.size w4 w') => at_any y (HP.out.next (bel_next B4.out hb')).1)
  have HAQ := Lib.hid (fun y w' (hb' : Below w4.heap.size w4 w') => at_any y (HG4.out.next hb').1)
  have HEP := Lib.hid (fun w' (hb' : Below w4.heap.size w4 w') => HE.out w' (bel_next B4.out hb'))
  obtain ⟨fm, hfm⟩ : ∃ y, IntKind.i64.wrap (f - 1) = y := ⟨_, rfl⟩
  obtain ⟨tm, htm⟩ : ∃ y, IntKind.i64.wrap (t - 1) = y := ⟨_, rfl⟩
  have hl4 : w.heap.size < w4.heap.size := Nat.lt_of_lt_of_le hl1 HB4.out.size
  clear HLM HV
  go_wp2_with fail
  go_loopw [44] (fun vj wr => ∃ j : Nat, vj = .int .i64 (j : Int) ∧ j ≤ N ∧ Below w4.heap.size w4 wr) (fun vj _ => N - (RowKit.intOf vj).toNat)
  case atStart => exact ⟨0, rfl, Nat.zero_le _, Below.refl _ _⟩
  case round =>
    obtain ⟨j, rfl, hj, hb⟩ := hrel
    obtain ⟨wo, hwo⟩ : ∃ W, W = wr := ⟨_, rfl⟩
    subst hwo
    have HB := Lib.hid hb
    obtain ⟨x0, x1, x2⟩ := BX4.out wo hb
    have hlo : w.heap.size < wo.heap.size := Nat.lt_of_lt_of_le hl4 hb.size
    clear hb
    by_cases hl : j < N
    · obtain ⟨g, hg⟩ := at_lt (l := p) (k := j) (by rw [HN.out]; exact hl)
      obtain ⟨b, off, rfl, hbl, y0, y1, y2, y3⟩ := HEP.out wo HB.out j g hg
      obtain ⟨g1', g2', g3', g4'⟩ := g
      simp only at y0 y1 y2 y3
      obtain ⟨gm, hgm⟩ : ∃ y, IntKind.i64.wrap (g2' - 1) = y := ⟨_, rfl⟩
      have hV0 : Below w4.heap.size w4 (wo.alloc (.cells #[.int .i64 g1', .int .i64 g2', .int .i64 g3', .int .i64 g4'] 25)) := HB.out.alloc HB.out.size _
      have HLIT := Lib.hid (fun i y => lit6 (wo.alloc (.cells #[.int .i64 g1', .int .i64 g2', .int .i64 g3', .int .i64 g4'] 25)) 3 g1' gm f fm t tm i y)
      rw [show (wo.alloc (.cells #[.int .i64 g1', .int .i64 g2', .int .i64 g3', .int .i64 g4'] 25)).heap.size = wo.heap.size + 1 by simp] at HLIT
      have HLB := Lib.hid (hV0.alloc hV0.size (.cells #[.int .i64 g1', .int .i64 gm, .int .i64 f, .int .i64 fm, .int .i64 t, .int .i64 tm] 3))
      clear hg hV0
      go_wp2_with fail
      go_loopw [65] (fun vk wk => ∃ k : Nat, vk = .int .i64 (k : Int) ∧ k ≤ 6 ∧ Below w4.heap.size w4 wk ∧ (∀ i y, [g1', gm, f, fm, t, tm][i]? = some y → wk.cell? ⟨wo.heap.size + 1, i, none⟩ = some (.int .i64 y)) ∧ wo.heap.size + 1 < wk.heap.size) (fun vk _ => 6 - (RowKit.intOf vk).toNat)
      case atStart => exact ⟨0, rfl, Nat.zero_le _, HLB.out, HLIT.out, by simp⟩
      case round =>
        obtain ⟨k, rfl, hk, hbk, hck, hsk⟩ := hrel
        have HBK := Lib.hid hbk
        have HCK := Lib.hid hck
        have HSK := Lib.hid hsk
        clear hbk hck hsk y0 y1 y2 y3 x0 x1 x2
        by_cases hk6 : k < 6
        · obtain ⟨y, hy⟩ := at_lt (l := [g1', gm, f, fm, t, tm]) (k := k) hk6
          have hcy := HCK.out k y hy
          have hsk := HSK.out
          have HA1 := Lib.hid (HAP.out y wr HBK.out)
          have HS := Lib.hid (K4.out y)
          have HA2 := Lib.hid (fun w' (hb' : Below w4.heap.size w4 w') => HAQ.out y w' hb')
          obtain ⟨⟨⟨s1, s2, s3, s4⟩, ok⟩, ha1⟩ : ∃ r, atF p y = r := ⟨_, rfl⟩
          obtain ⟨⟨⟨u1, u2, u3, u4⟩, is⟩, ha2⟩ : ∃ r, atF q y = r := ⟨_, rfl⟩
          rw [ha1] at HA1 HS
          rw [ha2] at HA2 HS
          obtain ⟨f1, f2, f3⟩ := HS.out
          simp only at f1 f2 f3
          subst f1 f2
          unfold AtOut sgV at HA1 HA2
          simp only at HA1 HA2
          have hki : (k : Int) < 6 := by omega
          have hcase : (ok = false) ∨ (ok = true ∧ f ≤ y ∧ y < t ∧ s4 ≤ v ∧ ¬ v < s4 ∧ u4 = s4) ∨ (ok = true ∧ f ≤ y ∧ y < t ∧ v < s4 ∧ u4 = v) ∨ (ok = true ∧ ¬ f ≤ y ∧ u4 = s4) ∨ (ok = true ∧ f ≤ y ∧ ¬ y < t ∧ u4 = s4) := by
            cases ok with
            | false => exact .inl rfl
            | true =>
              right
              have hw := f3 rfl
              unfold wantF at hw
              by_cases c1 : f ≤ y
              · by_cases c2 : y < t
                · rw [if_pos ⟨c1, c2⟩] at hw
                  by_cases c3 : v < s4
                  · exact .inr (.inl ⟨rfl, c1, c2, c3, by omega⟩)
                  · exact .inl ⟨rfl, c1, c2, by omega, c3, by omega⟩
                · rw [if_neg (by omega)] at hw
                  exact .inr (.inr (.inr ⟨rfl, c1, c2, hw⟩))
              · rw [if_neg (by omega)] at hw
                exact .inr (.inr (.inl ⟨rfl, c1, hw⟩))
          clear hy ha1 ha2 HS f3
          go_wp2_with fail
          refine HA1.out.mono ?_
          rintro e w6 ⟨rfl, b6⟩
          obtain ⟨V6, hV6, bV6, lV6, v60, v61, v62, v63, hr6⟩ := box_new w6 s1 s2 s3 s4 25
          have HV6 := Lib.hid hV6
          have HB6 := Lib.hid (bel_next b6 bV6)
          have HBW := Lib.hid (bel_next HBK.out HB6.out)
          have L6 := Lib.hid lV6
          have R6 := Lib.hid hr6
          clear b6 hV6 bV6 lV6 v60 v61 v62 v63 hr6
          go_wp2_with fail
          rw [HV6.out]
          refine (HA2.out _ HBW.out).mono ?_
          rintro e w7 ⟨rfl, b7⟩
          have hr7 := (b7.block _ L6.out).trans R6.out
          have q2 := cell_of_row w7 w6.heap.size 2 _ _ _ hr7
          have q3 := cell_of_row w7 w6.heap.size 3 _ _ _ hr7
          have lq := Nat.lt_of_lt_of_le L6.out b7.size
          have HB7 := Lib.hid (bel_next HB6.out b7)
          have HBW7 := Lib.hid (bel_next HBW.out b7)
          obtain ⟨x0, x1, x2⟩ := BX4.out w7 HBW7.out
          have hl7 : w.heap.size < w7.heap.size := Nat.lt_of_lt_of_le hl4 HBW7.out.size
          clear b7 hr7 hcy
          rcases hcase with rfl | ⟨rfl, c1, c2, c3, c4, rfl⟩ | ⟨rfl, c1, c2, c3, rfl⟩ | ⟨rfl, c1, rfl⟩ | ⟨rfl, c1, c2, rfl⟩
          · by_cases d1 : f ≤ y
            · by_cases d2 : y < t
              · by_cases d3 : v < s4
                all_goals
                  go_wp2_with fail
                  go_roundw
                  case rel =>
                    have bz : Below wr.heap.size wr (w7.alloc (.cells #[.int .i64 u1, .int .i64 u2, .int .i64 s3, .int .i64 u4] 25)) := HB7.out.alloc HB7.out.size _
                    exact ⟨k + 1, by simp, by omega, HBW7.out.alloc HBW7.out.size _, fun i y hy => (bz.cell (p := ⟨wo.heap.size + 1, i, none⟩) hsk).trans (HCK.out i y hy), Nat.lt_of_lt_of_le hsk bz.size⟩
                  case measure => simp [RowKit.intOf]; omega
              · go_wp2_with fail
                go_roundw
                case rel =>
                  have bz : Below wr.heap.size wr (w7.alloc (.cells #[.int .i64 u1, .int .i64 u2, .int .i64 s3, .int .i64 u4] 25)) := HB7.out.alloc HB7.out.size _
                  exact ⟨k + 1, by simp, by omega, HBW7.out.alloc HBW7.out.size _, fun i y hy => (bz.cell (p := ⟨wo.heap.size + 1, i, none⟩) hsk).trans (HCK.out i y hy), Nat.lt_of_lt_of_le hsk bz.size⟩
                case measure => simp [RowKit.intOf]; omega
            · go_wp2_with fail
              go_roundw
              case rel =>
                have bz : Below wr.heap.size wr (w7.alloc (.cells #[.int .i64 u1, .int .i64 u2, .int .i64 s3, .int .i64 u4] 25)) := HB7.out.alloc HB7.out.size _
                exact ⟨k + 1, by simp, by omega, HBW7.out.alloc HBW7.out.size _, fun i y hy => (bz.cell (p := ⟨wo.heap.size + 1, i, none⟩) hsk).trans (HCK.out i y hy), Nat.lt_of_lt_of_le hsk bz.size⟩
              case measure => simp [RowKit.intOf]; omega
          all_goals
            go_wp2_with fail
            go_roundw
            case rel =>
              have bz := HB7.out.alloc HB7.out.size (.cells #[.int .i64 u1, .int .i64 u2, .int .i64 s3, .int .i64 u4] 25)
              exact ⟨k + 1, by simp, by omega, HBW7.out.alloc HBW7.out.size _, fun i y hy => (bz.cell (p := ⟨wo.heap.size + 1, i, none⟩) hsk).trans (HCK.out i y hy), Nat.lt_of_lt_of_le hsk bz.size⟩
            case measure => simp [RowKit.intOf]; omega
        · have he : k = 6 := by omega
          subst he
          go_wp2_with fail
          go_roundw
          case rel => exact ⟨j + 1, by simp, by omega, HBK.out⟩
          case measure => simp [RowKit.intOf]; omega
    · have he : j = N := by omega
      subst he
      have HL2 := Lib.hid (limit_any f t v (HG4.out.next HB.out) WF.out WT.out WV.out)
      rw [K3.out] at HL2
      go_wp2_with fail
      refine HL2.out.mono ?_
      rintro e w8 h8
      obtain ⟨A8, M8, C8, rfl, HM8, HO8, HB8⟩ := seg_open h8
      clear h8
      have HS := Lib.hid (same_any (grid_in (grid_of_own HO8.out)) (HG4.out.next (bel_next HB.out HB8.out)).1)
      rw [decide_eq_true rfl] at HS
      have B8 := Lib.hid (bel_next (bel_next B4.out HB.out) HB8.out)
      go_wp2_with fail
      refine HS.out.mono ?_
      rintro e w9 ⟨rfl, b9⟩
      have B9 := Lib.hid (bel_next B8.out b9)
      clear b9
      go_wp2_with fail
      refine (HAL.out _).mono ?_
      rintro e w10 ⟨rfl, b10⟩
      have B10 := Lib.hid (bel_next B9.out b10)
      clear b10
      go_wp2_with fail
      go_ret
      exact ⟨rfl, B10.out⟩

end Go.Proofs.Ytkoldgammeojkaa.Lww
