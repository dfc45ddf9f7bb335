/- ProfileCuts: the walk. -/
import Derived.Test.YtkoldgammeojkaaCtp
import Derived.Test.YtkoldgammeojkaaPlm
import Derived.Test.YtkoldgammeojkaaPal10
import Derived.Deep.RegionHeld3
namespace Go.Proofs.Ytkoldgammeojkaa.Ctw
open Go.RowKit Go.Lib Go.Proofs.Ytkoldgammeojkaa.Reads Go.Proofs.Ytkoldgammeojkaa.Rows2 Go.Proofs.Ytkoldgammeojkaa.Lay Go.Proofs.Ytkoldgammeojkaa.Segs Go.Proofs.Ytkoldgammeojkaa.Psg Go.Proofs.Ytkoldgammeojkaa.Pvd Go.Proofs.Ytkoldgammeojkaa.Phv Go.Proofs.Ytkoldgammeojkaa.Pth Go.Proofs.Ytkoldgammeojkaa.Pat Go.Proofs.Ytkoldgammeojkaa.Pct Go.Proofs.Ytkoldgammeojkaa.Plm Go.Proofs.Ytkoldgammeojkaa.Pjo Go.Proofs.Ytkoldgammeojkaa.Smp Go.Proofs.Ytkoldgammeojkaa.Pal10 Go.Proofs.Ytkoldgammeojkaa.Ctp

theorem cutF_wf {p : List Sg} {f t : Int} (hp : ∀ s ∈ p, sgW s) (hf : Lay.Wf f) (ht : Lay.Wf t) : ∀ s ∈ cutF p f t, sgW s := by
  intro s hs
  obtain ⟨y, hy, rfl⟩ := List.mem_map.1 hs
  have hm : y ∈ p := by
    unfold thoseF at hy
    split at hy
    · exact (List.mem_filter.1 hy).1
    · cases hy
  exact part_wf (hp y hm) hf ht
def anyX (x : Int) (l : List Sg) : Bool := l.any fun g => g.1 == x
theorem any_next {x : Int} {p : List Sg} {j : Nat} {g : Sg} (hg : p[j]? = some g) : anyX x (p.take (j + 1)) = (anyX x (p.take j) || (g.1 == x)) := by
  rw [take_at hg, anyX, List.any_append]
  simp [anyX]
theorem any_iff {x : Int} {p : List Sg} : anyX x p = true ↔ ∃ g ∈ p, g.1 = x := by simp [anyX]
theorem lit4 (V : World) (T : TypeId) (a b c d : Int) (i : Nat) (y : Int) (h : [a, b, c, d][i]? = some y) : (V.alloc (.cells #[.int .i64 a, .int .i64 b, .int .i64 c, .int .i64 d] T)).cell? ⟨V.heap.size, i, none⟩ = some (.int .i64 y) := by
  rw [World.cell?_alloc_at _ _ _ _ rfl]
  rcases i with _ | _ | _ | _ | i
  · simp only [List.getElem?_cons_zero, Option.some.injEq] at h; rw [← h]; rfl
  · simp only [List.getElem?_cons_zero, List.getElem?_cons_succ, Option.some.injEq] at h; rw [← h]; rfl
  · simp only [List.getElem?_cons_zero, List.getElem?_cons_succ, Option.some.injEq] at h; rw [← h]; rfl
  · simp only [List.getElem?_cons_zero, List.getElem?_cons_succ, Option.some.injEq] at h; rw [← h]; rfl
  · simp at h
/-- What holds at the head of the outer loop. -/
def ORel (x : Int) (b0 : Bool) (p : List Sg) (W : World) (vb vj : Value) (wr : World) : Prop :=
  ∃ j : Nat, vj = .int .i64 (j : Int) ∧ j ≤ p.length ∧ vb = .bool (b0 || anyX x (p.take j)) ∧ Below W.heap.size W wr

set_option maxRecDepth 100000 in
set_option maxHeartbeats 12800000 in
theorem cuts_law {p : List Sg} {vp : Value} {x : Int} (w : World) (h : SegIn w vp p) (hx : Lay.Wf x) :
    Calls Try.prog 6 #[vp, .int .i64 x] w (BoolOut true w) := by
  have HAL := Lib.hid (fun w' => alive_any w')
  have HV := Lib.hid (pvalid_any h.1)
  have HP := Lib.hid h
  have HXW := Lib.hid hx
  obtain ⟨a, cap, rfl, hm, -, -, hel⟩ := segs h.1
  have HE := Lib.hid hel
  obtain ⟨N, hN⟩ : ∃ N, p.length = N := ⟨_, rfl⟩
  have HN := Lib.hid hN
  obtain ⟨q0, hq⟩ : ∃ q, validF p = q := ⟨_, rfl⟩
  rw [hq] at HV
  have HQ := Lib.hid hq
  rw [hN] at hm HV HP ⊢
  clear h hx hel hN hq
  by_cases hbig : 300 < N
  · have g1 : (300 : Int) < (N : Int) := by omega
    clear hbig
    go_enter Try.func6, Try.ntmps6
    go_wp2_with fail
    refine (HAL.out _).mono ?_
    rintro e w' ⟨rfl, b⟩
    have B := Lib.hid b
    clear b
    go_wp2_with fail
    go_ret
    exact ⟨rfl, B.out⟩
  have g1 : ¬ (300 : Int) < (N : Int) := by omega
  clear hbig
  go_enter Try.func6, Try.ntmps6
  go_wp2_with fail
  refine HV.out.mono ?_
  rintro e w1 ⟨rfl, hb1⟩
  have HB1 := Lib.hid hb1
  clear hb1
  cases q0 with
  | false =>
    go_wp2_with fail
    refine (HAL.out _).mono ?_
    rintro e w' ⟨rfl, b⟩
    have B := Lib.hid (bel_next HB1.out b)
    clear b
    go_wp2_with fail
    go_ret
    exact ⟨rfl, B.out⟩
  | true =>
  rcases N with _ | K
  · go_wp2_with fail
    refine (HAL.out _).mono ?_
    rintro e w' ⟨rfl, b⟩
    have B := Lib.hid (bel_next HB1.out b)
    clear b
    go_wp2_with fail
    go_ret
    exact ⟨rfl, B.out⟩
  obtain ⟨N, hNK⟩ : ∃ N, K + 1 = N := ⟨_, rfl⟩
  rw [hNK] at hm HP HN g1 ⊢
  have hn128 : N ≤ 128 := by have := Pjo.valid_len HQ.out; rwa [HN.out] at this
  have hn0 : ((N : Int) == 0) = false := beq_eq_false_iff_ne.2 (by omega)
  obtain ⟨s0, hs0⟩ := at_lt (l := p) (k := 0) (by rw [HN.out]; omega)
  obtain ⟨sl, hsl⟩ := at_lt (l := p) (k := K) (by rw [HN.out]; omega)
  have hhead : p.head? = some s0 := by rw [List.head?_eq_getElem?]; exact hs0
  have hlast : p.getLast? = some sl := by rw [List.getLast?_eq_getElem?, HN.out, ← hNK]; exact hsl
  have HTW := Lib.hid (two_of (x := x) HQ.out hhead hlast)
  have HW0 := Lib.hid (HP.out.2.1 s0 (List.mem_of_getElem? hs0))
  have HWL := Lib.hid (HP.out.2.1 sl (List.mem_of_getElem? hsl))
  obtain ⟨b, off, rfl, hbl, c0, -, -, -⟩ := HE.out w1 HB1.out 0 s0 hs0
  obtain ⟨_, _, e', -, -, d1, -, -⟩ := HE.out w1 HB1.out K sl hsl
  cases e'
  simp only [Nat.zero_mul, Nat.add_zero] at c0
  have hwk : IntKind.i64.wrap ((N : Int) - 1) = (K : Int) := by rw [IntKind.wrap_i64]; omega
  have hk0 : (0 : Int) ≤ (K : Int) := by omega
  have hk1 : (K : Int) < (N : Int) := by omega
  have hk2 : 0 < N := by omega
  have HFST : Hid (∀ w', Below w1.heap.size w1 w' → w'.cell? ⟨b, off, none⟩ = some (.int .i64 s0.1) ∧ w'.cell? ⟨b, off + K * 4 + 1, none⟩ = some (.int .i64 sl.2.1)) := by
    refine Lib.hid (fun w' hb' => ?_)
    have hbl1 : b < w1.heap.size := Nat.lt_of_lt_of_le hbl HB1.out.size
    exact ⟨(hb'.cell (p := ⟨b, off, none⟩) hbl1).trans c0, (hb'.cell (p := ⟨b, off + K * 4 + 1, none⟩) hbl1).trans d1⟩
  have HC1 := Lib.hid (fun w' (hb' : Below w1.heap.size w1 w') => cut_any s0.1 x (grid_next HP.out.1 (bel_next HB1.out hb')))
  have HC2 := Lib.hid (fun w' (hb' : Below w1.heap.size w1 w') => cut_any x sl.2.1 (grid_next HP.out.1 (bel_next HB1.out hb')))
  obtain ⟨ca, hca⟩ : ∃ l, cutF p s0.1 x = l := ⟨_, rfl⟩
  obtain ⟨cb, hcb⟩ : ∃ l, cutF p x sl.2.1 = l := ⟨_, rfl⟩
  have HWA := Lib.hid (cutF_wf HP.out.2.1 HW0.out.1 HXW.out)
  have HWB := Lib.hid (cutF_wf HP.out.2.1 HXW.out HWL.out.2.1)
  rw [hca] at HC1 HTW HWA
  rw [hcb] at HC2 HTW HWB
  obtain ⟨F, hF⟩ : ∃ F, s0.1 = F := ⟨_, rfl⟩
  obtain ⟨T, hT⟩ : ∃ T, sl.2.1 = T := ⟨_, rfl⟩
  rw [hF] at HC1 HFST c0
  rw [hT] at HC2 HFST d1
  have HF0 := Lib.hid hF
  have HTL := Lib.hid hT
  have HNK := Lib.hid hNK
  clear hs0 hsl hhead hlast hca hcb hF hT hNK
  go_wp2_with fail
  go_region_held3 (fun w' => w'.cell? ⟨b, off, none⟩ = some (.int .i64 F) ∧ w'.cell? ⟨b, off + K * 4 + 1, none⟩ = some (.int .i64 T))
    (first
      | with_reducible exact HFST.out _ E3.out
      | with_reducible exact HFST.out _ E2.out
      | go_keep)
    (first
      | (go_at_call 18; (with_reducible refine (HC1.out _ (Below.refl w1.heap.size w1).drew).mono ?_); rintro e w2 ⟨v2, rfl, o2, b2⟩; have O2 := Lib.hid o2; have E2 := Lib.hid ((Below.refl w1.heap.size w1).drew.trans (b2.mono (Below.refl w1.heap.size w1).drew.size)); clear b2 o2)
      | (go_at_call 18; (with_reducible refine (HC2.out _ E2.out).mono ?_); rintro e w3 ⟨v3, rfl, o3, b3⟩; have E3 := Lib.hid (bel_next E2.out b3); have SA := Lib.hid ((segIn_own O2.out HWA.out).next b3); have SB := Lib.hid (segIn_own o3 HWB.out); clear b3 o3))
  have B3 := Lib.hid (bel_next HB1.out E3.out)
  have HJ := Lib.hid (join_any SA.out SB.out)
  obtain ⟨MA, hMA⟩ : ∃ M, ca.length = M := ⟨_, rfl⟩
  obtain ⟨MB, hMB⟩ : ∃ M, cb.length = M := ⟨_, rfl⟩
  obtain ⟨A2, C2, rfl, hma, -, -, -⟩ := segs SA.out.1
  obtain ⟨A3, C3, rfl, hmb, -, -, -⟩ := segs SB.out.1
  rw [hMA] at HTW HJ hma ⊢
  rw [hMB] at HTW HJ hmb ⊢
  obtain ⟨⟨q, er⟩, hqr⟩ : ∃ r, joinF ca cb = r := ⟨_, rfl⟩
  rw [hqr] at HTW HJ
  clear hMA hMB hqr c0 d1
  go_wp2_with fail
  refine HJ.out.mono ?_
  rintro e w4 ⟨v4, rfl, o4, b4⟩
  have O4 := Lib.hid o4
  have B34 := Lib.hid b4
  have B4 := Lib.hid (bel_next B3.out b4)
  clear o4 b4
  obtain ⟨A4, C4, rfl⟩ := own_shape O4.out
  obtain ⟨MQ, hMQ⟩ : ∃ M, q.length = M := ⟨_, rfl⟩
  have HMQ := Lib.hid hMQ
  have HGQ : Hid (Grid (In w4) w4 (.slice A4 MQ C4) 4 (q.map sgC)) := by
    have := grid_in (grid_of_own O4.out)
    have e : (Value.slice A4 ((q, er) : List Sg × Int).1.length C4) = .slice A4 MQ C4 := by rw [← hMQ]
    rw [e] at this
    exact Lib.hid this
  have hmq : (MQ : Int) ≤ 9223372036854775807 := by
    obtain ⟨_, _, e', h2, _⟩ := segs HGQ.out
    rw [hMQ] at h2
    exact h2
  simp only
  rw [hMQ]
  have HYES := Lib.hid (fun (h : er = 0) (hb : x ≤ s0.1 ∨ sl.2.1 ≤ x ∨ ∃ g ∈ p, g.1 = x) => HTW.out.yes h hb)
  have HNO := Lib.hid (fun (h : er = 0) (hb : ¬ (x ≤ s0.1 ∨ sl.2.1 ≤ x ∨ ∃ g ∈ p, g.1 = x)) => HTW.out.no_ h hb)
  have HAT := Lib.hid (fun (h : er = 0) (y : Int) => HTW.out.at_ h y)
  rw [HF0.out, HTL.out] at HYES HNO
  have herr : (er = 2 ∧ MA + MB = p.length + 1 ∧ p.length = 128) ∨ er = 0 := HTW.out.err.symm
  rw [HN.out] at herr
  have HFS4 := Lib.hid (HFST.out w4 (by have h4 := B4.out; exact (show Below w1.heap.size w1 w4 from E3.out.trans ((show Below w3.heap.size w3 w4 from B34.out).mono E3.out.size))))
  clear hMQ
  rcases herr with ⟨rfl, hsum, h128⟩ | rfl
  · have k1 : IntKind.i64.wrap ((MA : Int) + (MB : Int)) = 129 := by rw [IntKind.wrap_i64]; omega
    have k2 : IntKind.i64.wrap ((N : Int) + 1) = 129 := by rw [IntKind.wrap_i64]; omega
    have k3 : ((N : Int) == 128) = true := by simp; omega
    clear hsum h128
    go_wp2_with fail
    refine (HAL.out _).mono ?_
    rintro e w5 ⟨rfl, b5⟩
    have B5 := Lib.hid (bel_next B4.out b5)
    clear b5
    go_wp2_with fail
    go_ret
    exact ⟨rfl, B5.out⟩
  obtain ⟨c0, d1⟩ := HFS4.out
  have hb0 : ∃ b0 : Bool, (b0 = true ↔ x ≤ F ∨ T ≤ x) ∧ ((b0 = true ∧ x ≤ F) ∨ (b0 = true ∧ ¬ x ≤ F ∧ T ≤ x) ∨ (b0 = false ∧ ¬ x ≤ F ∧ ¬ T ≤ x)) := by
    by_cases h1 : x ≤ F
    · exact ⟨true, by simp [h1], .inl ⟨rfl, h1⟩⟩
    · by_cases h2 : T ≤ x
      · exact ⟨true, by simp [h2], .inr (.inl ⟨rfl, h1, h2⟩)⟩
      · exact ⟨false, by simp [h1, h2], .inr (.inr ⟨rfl, h1, h2⟩)⟩
  obtain ⟨b0, hbi, hbc⟩ := hb0
  have HBI := Lib.hid hbi
  have HGP := Lib.hid (fun w' (hb' : Below w4.heap.size w4 w') => grid_next HP.out.1 (bel_next B4.out hb'))
  have HEP := Lib.hid (fun w' (hb' : Below w4.heap.size w4 w') => HE.out w' (bel_next B4.out hb'))
  have HAP := Lib.hid (fun y w' (hb' : Below w4.heap.size w4 w') => at_any y (HGP.out w' hb'))
  have HAQ := Lib.hid (fun y w' (hb' : Below w4.heap.size w4 w') => at_any y (grid_next HGQ.out hb'))
  have hx1 : Hid (∃ y, IntKind.i64.wrap (x - 1) = y) := Lib.hid ⟨_, rfl⟩
  obtain ⟨xm, hxm⟩ := hx1.out
  clear hbi HFS4 HJ SA SB O2 O4 HC1 HC2 HFST HV hx1
  rcases hbc with ⟨hb, h1⟩ | ⟨hb, h1, h2⟩ | ⟨hb, h1, h2⟩
  all_goals
    have HB0 := Lib.hid hb
    clear hb
    go_wp2_with fail
    go_loopw [9, 97] (fun vb vj wr => ORel x b0 p w4 vb vj wr) (fun _ vj _ => N - (RowKit.intOf vj).toNat)
    case atStart => exact ⟨0, rfl, Nat.zero_le _, by rw [HB0.out]; rfl, Below.refl _ _⟩
    case round =>
      obtain ⟨j, rfl, hj, rfl, hb⟩ := hrel
      rw [HN.out] at hj
      obtain ⟨wo, hwo⟩ : ∃ W, W = wr := ⟨_, rfl⟩
      subst hwo
      have HB := Lib.hid hb
      clear hb
      by_cases hl : j < N
      · obtain ⟨g, hg⟩ := at_lt (l := p) (k := j) (by rw [HN.out]; exact hl)
        obtain ⟨_, _, e', _, y0, y1, y2, y3⟩ := HEP.out wo HB.out j g hg
        cases e'
        have HNX := Lib.hid (any_next (x := x) hg)
        obtain ⟨bj, hbj⟩ : ∃ bj, (b0 || anyX x (p.take j)) = bj := ⟨_, rfl⟩
        have HBJ := Lib.hid hbj
        rw [hbj]
        obtain ⟨g1', g2', g3', g4'⟩ := g
        simp only at y0 y1 y2 y3 HNX
        obtain ⟨gm, hgm⟩ : ∃ y, IntKind.i64.wrap (g2' - 1) = y := ⟨_, rfl⟩
        have hcs : ∃ bn : Bool, (b0 || anyX x (p.take (j + 1))) = bn ∧ ((bj = true ∧ bn = true) ∨ (bj = false ∧ (g1' == x) = true ∧ bn = true) ∨ (bj = false ∧ (g1' == x) = false ∧ bn = false)) := by
          rw [HNX.out, ← Bool.or_assoc, HBJ.out]
          cases bj with
          | true => exact ⟨true, rfl, .inl ⟨rfl, rfl⟩⟩
          | false =>
            rw [Bool.false_or]
            cases (g1' == x) with
            | true => exact ⟨true, rfl, .inr (.inl ⟨rfl, rfl, rfl⟩)⟩
            | false => exact ⟨false, rfl, .inr (.inr ⟨rfl, rfl, rfl⟩)⟩
        obtain ⟨bn, hbn, hcs⟩ := hcs
        have HBN := Lib.hid hbn
        have hV0 : Below w4.heap.size w4 (wo.alloc (.cells #[.int .i64 g1', .int .i64 g2', .int .i64 g3', .int .i64 g4'] 25)) := HB.out.alloc HB.out.size _
        have HLIT := Lib.hid (fun i y => lit4 (wo.alloc (.cells #[.int .i64 g1', .int .i64 g2', .int .i64 g3', .int .i64 g4'] 25)) 3 g1' gm x xm i y)
        rw [show (wo.alloc (.cells #[.int .i64 g1', .int .i64 g2', .int .i64 g3', .int .i64 g4'] 25)).heap.size = wo.heap.size + 1 by simp] at HLIT
        have HLB := Lib.hid (hV0.alloc hV0.size (.cells #[.int .i64 g1', .int .i64 gm, .int .i64 x, .int .i64 xm] 3))
        clear hg hbj hbn hV0
        rcases hcs with ⟨hbj, hbn⟩ | ⟨hbj, hq, hbn⟩ | ⟨hbj, hq, hbn⟩
        all_goals
          subst hbj
          have HBN2 := Lib.hid hbn
          clear hbn
          go_wp2_with fail
          go_loopw [118] (fun vk wk => ∃ k : Nat, vk = .int .i64 (k : Int) ∧ k ≤ 4 ∧ Below w4.heap.size w4 wk ∧ (∀ i y, [g1', gm, x, xm][i]? = some y → wk.cell? ⟨wo.heap.size + 1, i, none⟩ = some (.int .i64 y)) ∧ wo.heap.size + 1 < wk.heap.size) (fun vk _ => 4 - (RowKit.intOf vk).toNat)
          case atStart => exact ⟨0, rfl, Nat.zero_le _, HLB.out, HLIT.out, by simp⟩
          case round =>
            obtain ⟨k, rfl, hk, hbk, hck, hsk⟩ := hrel
            have HBK := Lib.hid hbk
            have HCK := Lib.hid hck
            have HSK := Lib.hid hsk
            clear hbk hck hsk
            by_cases hk4 : k < 4
            · obtain ⟨y, hy⟩ := at_lt (l := [g1', gm, x, xm]) (k := k) hk4
              have hcy := HCK.out k y hy
              have hsk := HSK.out
              have HA1 := Lib.hid (HAP.out y wr HBK.out)
              have HS := Lib.hid (HAT.out (by first | rfl | trivial) y)
              have HA2 := Lib.hid (fun w' (hb' : Below w4.heap.size w4 w') => HAQ.out y w' hb')
              obtain ⟨⟨⟨s1, s2, s3, s4⟩, ok⟩, ha1⟩ : ∃ r, atF p y = r := ⟨_, rfl⟩
              obtain ⟨⟨⟨u1, u2, u3, u4⟩, is⟩, ha2⟩ : ∃ r, atF q y = r := ⟨_, rfl⟩
              rw [ha1] at HA1 HS
              rw [ha2] at HA2 HS
              obtain ⟨f1, f2, f3⟩ := HS.out
              simp only at f1 f2 f3
              subst f1 f2 f3
              unfold AtOut sgV at HA1 HA2
              simp only at HA1 HA2
              have hki : (k : Int) < 4 := by omega
              clear hy ha1 ha2 HS y0 y1 y2 y3
              go_wp2_with fail
              refine HA1.out.mono ?_
              rintro e w6 ⟨rfl, b6⟩
              obtain ⟨V6, hV6, bV6, lV6, v60, v61, v62, v63, hr6⟩ := box_new w6 s1 s2 s3 s4 25
              have HV6 := Lib.hid hV6
              have HB6 := Lib.hid (bel_next b6 bV6)
              have HBW := Lib.hid (bel_next HBK.out HB6.out)
              have L6 := Lib.hid lV6
              have R6 := Lib.hid hr6
              clear b6 hV6 bV6 lV6 v60 v61 v62 v63 hr6
              go_wp2_with fail
              rw [HV6.out]
              refine (HA2.out _ HBW.out).mono ?_
              rintro e w7 ⟨rfl, b7⟩
              have hr7 := (b7.block _ L6.out).trans R6.out
              have q2 := cell_of_row w7 w6.heap.size 2 _ _ _ hr7
              have q3 := cell_of_row w7 w6.heap.size 3 _ _ _ hr7
              have lq := Nat.lt_of_lt_of_le L6.out b7.size
              have HB7 := Lib.hid (bel_next HB6.out b7)
              have HBW7 := Lib.hid (bel_next HBW.out b7)
              clear b7 hr7 hcy
              go_wp2_with fail
              go_roundw
              case rel =>
                have bz : Below wr.heap.size wr (w7.alloc (.cells #[.int .i64 u1, .int .i64 u2, .int .i64 s3, .int .i64 s4] 25)) := HB7.out.alloc HB7.out.size _
                exact ⟨k + 1, by simp, by omega, HBW7.out.alloc HBW7.out.size _, fun i y hy => (bz.cell (p := ⟨wo.heap.size + 1, i, none⟩) hsk).trans (HCK.out i y hy), Nat.lt_of_lt_of_le hsk bz.size⟩
              case measure => simp [RowKit.intOf]; omega
            · have he : k = 4 := by omega
              subst he
              clear y0 y1 y2 y3
              go_wp2_with fail
              go_roundw
              case rel => exact ⟨j + 1, by simp, by rw [HN.out]; omega, by rw [HBN.out, HBN2.out], HBK.out⟩
              case measure => simp [RowKit.intOf]; omega
      · have he : j = N := by omega
        subst he
        have hta : p.take j = p := List.take_of_length_le (by rw [HN.out]; exact Nat.le_refl _)
        rw [hta]
        obtain ⟨bN, hbN⟩ : ∃ bN, (b0 || anyX x p) = bN := ⟨_, rfl⟩
        rw [hbN]
        have hcond : bN = true ↔ (x ≤ F ∨ T ≤ x ∨ ∃ g ∈ p, g.1 = x) := by
          rw [← hbN, Bool.or_eq_true, HBI.out, any_iff, or_assoc]
        cases bN with
        | true =>
          have he := HYES.out (by first | rfl | trivial) (hcond.1 rfl)
          have HS := Lib.hid (same_any (HGP.out wo HB.out) (grid_next HGQ.out HB.out))
          rw [decide_eq_true he] at HS
          clear hta hbN hcond he
          go_wp2_with fail
          refine HS.out.mono ?_
          rintro e w8 ⟨rfl, b8⟩
          have B8 := Lib.hid (bel_next (bel_next B4.out HB.out) b8)
          clear b8
          go_wp2_with fail
          refine (HAL.out _).mono ?_
          rintro e w9 ⟨rfl, b9⟩
          have B9 := Lib.hid (bel_next B8.out b9)
          clear b9
          go_wp2_with fail
          go_ret
          exact ⟨rfl, B9.out⟩
        | false =>
          have he := HNO.out (by first | rfl | trivial) (fun hh => by have := hcond.2 hh; cases this)
          rw [HMQ.out, HN.out] at he
          have k1 : ((MQ : Int) == IntKind.i64.wrap ((j : Int) + 1)) = true := by
            rw [beq_iff_eq, IntKind.wrap_i64]; omega
          have k2 : IntKind.i64.wrap ((j : Int) + 1) = (j : Int) + 1 := by rw [IntKind.wrap_i64]; omega
          have k3 : ((MQ : Int) == (j : Int) + 1) = true := by rw [beq_iff_eq]; omega
          clear hta hbN hcond he
          go_wp2_with fail
          refine (HAL.out _).mono ?_
          rintro e w9 ⟨rfl, b9⟩
          have B9 := Lib.hid (bel_next (bel_next B4.out HB.out) b9)
          clear b9
          go_wp2_with fail
          go_ret
          exact ⟨rfl, B9.out⟩

end Go.Proofs.Ytkoldgammeojkaa.Ctw
