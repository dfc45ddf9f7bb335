/- The reference's touched and Cut (profile). -/
import Derived.Test.YtkoldgammeojkaaRat
namespace Go.Proofs.Ytkoldgammeojkaa.Rtc
open Go.RowKit Go.Lib Go.Proofs.Ytkoldgammeojkaa.Reads Go.Proofs.Ytkoldgammeojkaa.Rows2 Go.Proofs.Ytkoldgammeojkaa.Lay Go.Proofs.Ytkoldgammeojkaa.Segs Go.Proofs.Ytkoldgammeojkaa.Psg Go.Proofs.Ytkoldgammeojkaa.Pvd Go.Proofs.Ytkoldgammeojkaa.Phv Go.Proofs.Ytkoldgammeojkaa.Pth Go.Proofs.Ytkoldgammeojkaa.Pat Go.Proofs.Ytkoldgammeojkaa.Rvd

def withV (q : Bool) (c : Sg → Bool) (x : Sg) : Bool := q && c x
theorem filter_with {c : Sg → Bool} {p : List Sg} : p.filter (withV (validF p) c) = thoseF c p := by
  unfold thoseF
  cases validF p with
  | true => rw [if_pos rfl]; congr 1
  | false =>
    rw [if_neg (by decide)]
    have : withV false c = fun _ => false := by funext x; rfl
    rw [this]
    simp

set_option maxRecDepth 100000 in
set_option maxHeartbeats 3200000 in
theorem touched_any (f t : Int) {p : List Sg} {v : Value} {w : World} (h : Grid (In w) w v 4 (p.map sgC)) (hlen : p.length ≤ 1000) :
    Calls Try.prog 31 #[v, .int .i64 f, .int .i64 t] w (SegOut (thoseF (touchB f t) p) w) := by
  obtain ⟨q, hq⟩ : ∃ q, validF p = q := ⟨_, rfl⟩
  obtain ⟨c, hc⟩ : ∃ c, withV q (touchB f t) = c := ⟨_, rfl⟩
  have HC := Lib.hid hc
  have HFW : Hid (p.filter c = thoseF (touchB f t) p) := by
    show _ = _
    rw [← hc, ← hq]
    exact filter_with
  have HV := Lib.hid (fun w' (hb : Below w.heap.size w w') => rvalid_any (grid_next h hb))
  rw [hq] at HV
  have HQ := Lib.hid hq
  obtain ⟨a, cap, rfl, hm, _, _, hel⟩ := segs h
  have HE := Lib.hid hel
  obtain ⟨N, hN⟩ : ∃ N, p.length = N := ⟨_, rfl⟩
  have HN := Lib.hid hN
  rw [← HFW.out]
  rw [hN] at hm hlen HV ⊢
  clear hel h hN hq hc HFW
  go_enter Try.func31, Try.ntmps31
  go_wp2_with fail
  go_loopw [7, 12] (fun vf vj wr => HRel c p w vf vj wr) (fun _ vj _ => N - (RowKit.intOf vj).toNat)
  case atStart => exact ⟨0, rfl, Nat.zero_le _, Nat.le_refl _, World.ownsRow_nil _ _ _ _, Below.refl _ _⟩
  case round =>
    obtain ⟨j, rfl, hj, hfl, ho, hb⟩ := hrel
    rw [HN.out] at hj
    have HB := Lib.hid hb
    have HO := Lib.hid ho
    have HFL := Lib.hid hfl
    clear hb ho hfl
    by_cases hl : j < N
    · obtain ⟨x, hx⟩ := at_lt (l := p) (k := j) (by rw [HN.out]; exact hl)
      obtain ⟨b, off, rfl, hbl, c0, c1, c2, c3⟩ := HE.out wr HB.out j x hx
      have HFN := Lib.hid (filter_no (c := c) hx)
      have HFY := Lib.hid (filter_yes (c := c) hx)
      have HCX : Hid (c x = (q && touchB f t x)) := by
        show _ = _
        rw [← HC.out]
        rfl
      obtain ⟨V, hV, bV, lV, v0, v1, v2, v3, -⟩ := box_new wr x.1 x.2.1 x.2.2.1 x.2.2.2 25
      have HVV := Lib.hid hV
      have HBX := Lib.hid (bel_next HB.out bV)
      have HBN := Lib.hid bV
      have LV := Lib.hid lV
      have KV := Lib.hid (show V.cell? ⟨wr.heap.size, 0, none⟩ = some (.int .i64 x.1) ∧ V.cell? ⟨wr.heap.size, 1, none⟩ = some (.int .i64 x.2.1) ∧ V.cell? ⟨wr.heap.size, 2, none⟩ = some (.int .i64 x.2.2.1) ∧ V.cell? ⟨wr.heap.size, 3, none⟩ = some (.int .i64 x.2.2.2) from ⟨v0, v1, v2, v3⟩)
      obtain ⟨x1, x2, x3, x4⟩ := x
      simp only at c0 c1 c2 c3 HVV KV
      clear hx hV bV lV v0 v1 v2 v3
      go_wp2_with fail
      rw [HVV.out]
      refine (HV.out _ HBX.out).mono ?_
      rintro e w5 ⟨rfl, hb5⟩
      have HB5 := Lib.hid (bel_next HBX.out hb5)
      have HO5 := Lib.hid (own_below HO.out (bel_next HBN.out hb5))
      have y0 := (hb5.cell (p := ⟨wr.heap.size, 0, none⟩) LV.out).trans KV.out.1
      have y1 := (hb5.cell (p := ⟨wr.heap.size, 1, none⟩) LV.out).trans KV.out.2.1
      have y2 := (hb5.cell (p := ⟨wr.heap.size, 2, none⟩) LV.out).trans KV.out.2.2.1
      have y3 := (hb5.cell (p := ⟨wr.heap.size, 3, none⟩) LV.out).trans KV.out.2.2.2
      have hlt5 := Nat.lt_of_lt_of_le LV.out hb5.size
      clear hb5 c0 c1 c2 c3
      have hcase : (c (x1, x2, x3, x4) = true ∧ q = true ∧ x1 ≤ t ∧ f ≤ x2) ∨ (c (x1, x2, x3, x4) = false ∧ (q = false ∨ (q = true ∧ ¬ x1 ≤ t) ∨ (q = true ∧ x1 ≤ t ∧ ¬ f ≤ x2))) := by
        have := HCX.out
        rw [this]
        cases q with
        | false => right; exact ⟨rfl, .inl rfl⟩
        | true =>
          by_cases h1 : x1 ≤ t
          · by_cases h2 : f ≤ x2
            · left; exact ⟨by simp [touchB, h1, h2], rfl, h1, h2⟩
            · right; exact ⟨by simp [touchB, h2], .inr (.inr ⟨rfl, h1, h2⟩)⟩
          · right; exact ⟨by simp [touchB, h1], .inr (.inl ⟨rfl, h1⟩)⟩
      rcases hcase with ⟨hk, rfl, h1, h2⟩ | ⟨hk, hor⟩
      · have HF := Lib.hid (HFY.out hk)
        clear hk
        obtain ⟨A1, C1, rfl⟩ := own_shape HO5.out
        obtain ⟨M, hM⟩ : ∃ M, ((p.take j).filter c).length = M := ⟨_, rfl⟩
        have HO6 := Lib.hid (show w5.ownsRow w.heap.size 25 4 (.slice A1 ((p.take j).filter c).length C1) ((p.take j).filter c).length (((p.take j).filter c).flatMap sgC) from HO5.out)
        have HM : Hid (((p.take j).filter c).length = M) := hM
        rw [hM]
        clear HO5 hM
        go_wp2_with (at_builtin; refine wp_seg rfl (.tmp 30) (.tmp 32) rfl w (l := (p.take j).filter c) (x1, x2, x3, x4) (v := .slice A1 ((p.take j).filter c).length C1) (by rw [HM.out]; rfl) rfl rfl rfl HO6.out HB5.out (by have := HFL.out; omega) ?_; rintro v7 w7 ⟨h7, b7, -, -⟩; have R7 := Lib.hid h7; have B7 := Lib.hid b7; clear h7 b7)
        go_roundw
        case rel => exact ⟨j + 1, by simp, by rw [HN.out]; omega, by rw [HF.out, List.length_append]; exact Nat.succ_le_succ HFL.out, by rw [HF.out]; exact R7.out, B7.out⟩
        case measure => simp [RowKit.intOf]; omega
      · have HF := Lib.hid (HFN.out hk)
        clear hk
        rcases hor with rfl | ⟨rfl, h1⟩ | ⟨rfl, h1, h2⟩
        all_goals
          go_wp2_with fail
          go_roundw
          case rel => exact ⟨j + 1, by simp, by rw [HN.out]; omega, by rw [HF.out]; exact Nat.le_succ_of_le HFL.out, by rw [HF.out]; exact HO5.out, HB5.out⟩
          case measure => simp [RowKit.intOf]; omega
    · have he : j = N := by omega
      subst he
      have hta : p.take j = p := List.take_of_length_le (by rw [HN.out]; exact Nat.le_refl _)
      rw [hta] at HO
      clear hta HFL
      obtain ⟨A1, C1, rfl⟩ := own_shape HO.out
      have HO2 := Lib.hid (show wr.ownsRow w.heap.size 25 4 (.slice A1 (p.filter c).length C1) (p.filter c).length ((p.filter c).flatMap sgC) from HO.out)
      clear HO
      obtain ⟨M, hM⟩ : ∃ M, (p.filter c).length = M := ⟨_, rfl⟩
      rw [hM] at HO2 ⊢
      have HM := Lib.hid hM
      clear hM
      go_wp2_with fail
      go_ret
      exact ⟨_, rfl, by rw [HM.out]; exact HO2.out, HB.out⟩

/-- What is cut of the first ones. -/
def cutC (q : Bool) (f t : Int) (l : List Sg) : List Sg := (l.filter (withV q (overB f t))).map (partF f t)
theorem cutC_all (f t : Int) (p : List Sg) : cutC (validF p) f t p = cutF p f t := by rw [cutC, filter_with, cutF]
theorem cutC_no {q : Bool} {f t : Int} {p : List Sg} {j : Nat} {x : Sg} (hx : p[j]? = some x) (h : withV q (overB f t) x = false) : cutC q f t (p.take (j + 1)) = cutC q f t (p.take j) := by rw [cutC, filter_no hx h]; rfl
theorem cutC_yes {q : Bool} {f t : Int} {p : List Sg} {j : Nat} {x : Sg} (hx : p[j]? = some x) (h : withV q (overB f t) x = true) : cutC q f t (p.take (j + 1)) = cutC q f t (p.take j) ++ [partF f t x] := by
  rw [cutC, filter_yes hx h, List.map_append]; rfl
def KRel (q : Bool) (f t : Int) (p : List Sg) (w : World) (vf vj : Value) (wr : World) : Prop :=
  ∃ j : Nat, vj = .int .i64 (j : Int) ∧ j ≤ p.length ∧ (cutC q f t (p.take j)).length ≤ j ∧ wr.ownsRow w.heap.size 25 4 vf (cutC q f t (p.take j)).length ((cutC q f t (p.take j)).flatMap sgC) ∧ Below w.heap.size w wr

set_option maxRecDepth 100000 in
set_option maxHeartbeats 3200000 in
theorem rcut_any (f t : Int) {p : List Sg} {v : Value} {w : World} (h : Grid (In w) w v 4 (p.map sgC)) (hlen : p.length ≤ 1000) :
    Calls Try.prog 19 #[v, .int .i64 f, .int .i64 t] w (SegOut (cutF p f t) w) := by
  have hall := cutC_all f t p
  have HV := Lib.hid (fun w' (hb : Below w.heap.size w w') => rvalid_any (grid_next h hb))
  obtain ⟨q, hq⟩ : ∃ q, validF p = q := ⟨_, rfl⟩
  rw [hq] at HV hall
  rw [← hall]
  obtain ⟨a, cap, rfl, hm, _, _, hel⟩ := segs h
  have HE := Lib.hid hel
  obtain ⟨N, hN⟩ : ∃ N, p.length = N := ⟨_, rfl⟩
  have HN := Lib.hid hN
  rw [hN] at hm hlen HV ⊢
  clear hel h hN hq hall
  go_enter Try.func19, Try.ntmps19
  go_wp2_with fail
  go_loopw [7, 12] (fun vf vj wr => KRel q f t p w vf vj wr) (fun _ vj _ => N - (RowKit.intOf vj).toNat)
  case atStart => exact ⟨0, rfl, Nat.zero_le _, Nat.le_refl _, World.ownsRow_nil _ _ _ _, Below.refl _ _⟩
  case round =>
    obtain ⟨j, rfl, hj, hfl, ho, hb⟩ := hrel
    rw [HN.out] at hj
    have HB := Lib.hid hb
    have HO := Lib.hid ho
    have HFL := Lib.hid hfl
    clear hb ho hfl
    by_cases hl : j < N
    · obtain ⟨x, hx⟩ := at_lt (l := p) (k := j) (by rw [HN.out]; exact hl)
      obtain ⟨b, off, rfl, hbl, c0, c1, c2, c3⟩ := HE.out wr HB.out j x hx
      have HFN := Lib.hid (cutC_no (q := q) (f := f) (t := t) hx)
      have HFY := Lib.hid (cutC_yes (q := q) (f := f) (t := t) hx)
      obtain ⟨x1, x2, x3, x4⟩ := x
      simp only at c0 c1 c2 c3
      clear hx
      by_cases h1 : x1 < f
      · by_cases h2 : t < x2
        · have HPF : Hid (partF f t (x1, x2, x3, x4) = (f, t, x3, x4)) := by
            show _ = _
            simp only [partF]
            rw [show max x1 f = f by omega, show min x2 t = t by omega]
          rw [HPF.out] at HFY
          obtain ⟨V, hV, bV, lV, v0, v1, v2, v3, -⟩ := box_new wr f t x3 x4 25
          have HVV := Lib.hid hV
          have HBX := Lib.hid (bel_next HB.out bV)
          have HBN := Lib.hid bV
          have LV := Lib.hid lV
          have KV := Lib.hid (show V.cell? ⟨wr.heap.size, 0, none⟩ = some (.int .i64 f) ∧ V.cell? ⟨wr.heap.size, 1, none⟩ = some (.int .i64 t) ∧ V.cell? ⟨wr.heap.size, 2, none⟩ = some (.int .i64 x3) ∧ V.cell? ⟨wr.heap.size, 3, none⟩ = some (.int .i64 x4) from ⟨v0, v1, v2, v3⟩)
          have HWV := Lib.hid (show withV q (overB f t) (x1, x2, x3, x4) = (q && decide (f < t)) by simp only [withV, overB, longB]; rw [HPF.out])
          clear hV bV lV v0 v1 v2 v3
          go_wp2_with fail
          rw [HVV.out]
          refine (HV.out _ HBX.out).mono ?_
          rintro e w5 ⟨rfl, hb5⟩
          have HB5 := Lib.hid (bel_next HBX.out hb5)
          have HO5 := Lib.hid (own_below HO.out (bel_next HBN.out hb5))
          have y0 := (hb5.cell (p := ⟨wr.heap.size, 0, none⟩) LV.out).trans KV.out.1
          have y1 := (hb5.cell (p := ⟨wr.heap.size, 1, none⟩) LV.out).trans KV.out.2.1
          have y2 := (hb5.cell (p := ⟨wr.heap.size, 2, none⟩) LV.out).trans KV.out.2.2.1
          have y3 := (hb5.cell (p := ⟨wr.heap.size, 3, none⟩) LV.out).trans KV.out.2.2.2
          have hlt5 := Nat.lt_of_lt_of_le LV.out hb5.size
          clear hb5 c0 c1 c2 c3 h1 h2
          have hcase : (withV q (overB f t) (x1, x2, x3, x4) = true ∧ q = true ∧ f < t) ∨ (withV q (overB f t) (x1, x2, x3, x4) = false ∧ (q = false ∨ (q = true ∧ ¬ f < t))) := by
            rw [HWV.out]
            cases q with
            | false => right; exact ⟨rfl, .inl rfl⟩
            | true =>
              by_cases h1 : f < t
              · left; exact ⟨by simp [h1], rfl, h1⟩
              · right; exact ⟨by simp [h1], .inr ⟨rfl, h1⟩⟩
          rcases hcase with ⟨hk, rfl, h1⟩ | ⟨hk, hor⟩
          · have HF := Lib.hid (HFY.out hk)
            clear hk
            obtain ⟨A1, C1, rfl⟩ := own_shape HO5.out
            obtain ⟨M, hM⟩ : ∃ M, (cutC true f t (p.take j)).length = M := ⟨_, rfl⟩
            have HO6 := Lib.hid (show w5.ownsRow w.heap.size 25 4 (.slice A1 (cutC true f t (p.take j)).length C1) (cutC true f t (p.take j)).length ((cutC true f t (p.take j)).flatMap sgC) from HO5.out)
            have HM : Hid ((cutC true f t (p.take j)).length = M) := hM
            rw [hM]
            clear HO5 hM
            go_wp2_with (at_builtin; refine wp_seg rfl (.tmp 35) (.tmp 37) rfl w (l := cutC true f t (p.take j)) (f, t, x3, x4) (v := .slice A1 (cutC true f t (p.take j)).length C1) (by rw [HM.out]; rfl) rfl rfl rfl HO6.out HB5.out (by have := HFL.out; omega) ?_; rintro v7 w7 ⟨h7, b7, -, -⟩; have R7 := Lib.hid h7; have B7 := Lib.hid b7; clear h7 b7)
            go_roundw
            case rel => exact ⟨j + 1, by simp, by rw [HN.out]; omega, by rw [HF.out, List.length_append]; exact Nat.succ_le_succ HFL.out, by rw [HF.out]; exact R7.out, B7.out⟩
            case measure => simp [RowKit.intOf]; omega
          · have HF := Lib.hid (HFN.out hk)
            clear hk
            rcases hor with rfl | ⟨rfl, h1⟩
            all_goals
              go_wp2_with fail
              go_roundw
              case rel => exact ⟨j + 1, by simp, by rw [HN.out]; omega, by rw [HF.out]; exact Nat.le_succ_of_le HFL.out, by rw [HF.out]; exact HO5.out, HB5.out⟩
              case measure => simp [RowKit.intOf]; omega
        · have HPF : Hid (partF f t (x1, x2, x3, x4) = (f, x2, x3, x4)) := by
            show _ = _
            simp only [partF]
            rw [show max x1 f = f by omega, show min x2 t = x2 by omega]
          rw [HPF.out] at HFY
          obtain ⟨V, hV, bV, lV, v0, v1, v2, v3, -⟩ := box_new wr f x2 x3 x4 25
          have HVV := Lib.hid hV
          have HBX := Lib.hid (bel_next HB.out bV)
          have HBN := Lib.hid bV
          have LV := Lib.hid lV
          have KV := Lib.hid (show V.cell? ⟨wr.heap.size, 0, none⟩ = some (.int .i64 f) ∧ V.cell? ⟨wr.heap.size, 1, none⟩ = some (.int .i64 x2) ∧ V.cell? ⟨wr.heap.size, 2, none⟩ = some (.int .i64 x3) ∧ V.cell? ⟨wr.heap.size, 3, none⟩ = some (.int .i64 x4) from ⟨v0, v1, v2, v3⟩)
          have HWV := Lib.hid (show withV q (overB f t) (x1, x2, x3, x4) = (q && decide (f < x2)) by simp only [withV, overB, longB]; rw [HPF.out])
          clear hV bV lV v0 v1 v2 v3
          go_wp2_with fail
          rw [HVV.out]
          refine (HV.out _ HBX.out).mono ?_
          rintro e w5 ⟨rfl, hb5⟩
          have HB5 := Lib.hid (bel_next HBX.out hb5)
          have HO5 := Lib.hid (own_below HO.out (bel_next HBN.out hb5))
          have y0 := (hb5.cell (p := ⟨wr.heap.size, 0, none⟩) LV.out).trans KV.out.1
          have y1 := (hb5.cell (p := ⟨wr.heap.size, 1, none⟩) LV.out).trans KV.out.2.1
          have y2 := (hb5.cell (p := ⟨wr.heap.size, 2, none⟩) LV.out).trans KV.out.2.2.1
          have y3 := (hb5.cell (p := ⟨wr.heap.size, 3, none⟩) LV.out).trans KV.out.2.2.2
          have hlt5 := Nat.lt_of_lt_of_le LV.out hb5.size
          clear hb5 c0 c1 c2 c3 h1 h2
          have hcase : (withV q (overB f t) (x1, x2, x3, x4) = true ∧ q = true ∧ f < x2) ∨ (withV q (overB f t) (x1, x2, x3, x4) = false ∧ (q = false ∨ (q = true ∧ ¬ f < x2))) := by
            rw [HWV.out]
            cases q with
            | false => right; exact ⟨rfl, .inl rfl⟩
            | true =>
              by_cases h1 : f < x2
              · left; exact ⟨by simp [h1], rfl, h1⟩
              · right; exact ⟨by simp [h1], .inr ⟨rfl, h1⟩⟩
          rcases hcase with ⟨hk, rfl, h1⟩ | ⟨hk, hor⟩
          · have HF := Lib.hid (HFY.out hk)
            clear hk
            obtain ⟨A1, C1, rfl⟩ := own_shape HO5.out
            obtain ⟨M, hM⟩ : ∃ M, (cutC true f t (p.take j)).length = M := ⟨_, rfl⟩
            have HO6 := Lib.hid (show w5.ownsRow w.heap.size 25 4 (.slice A1 (cutC true f t (p.take j)).length C1) (cutC true f t (p.take j)).length ((cutC true f t (p.take j)).flatMap sgC) from HO5.out)
            have HM : Hid ((cutC true f t (p.take j)).length = M) := hM
            rw [hM]
            clear HO5 hM
            go_wp2_with (at_builtin; refine wp_seg rfl (.tmp 35) (.tmp 37) rfl w (l := cutC true f t (p.take j)) (f, x2, x3, x4) (v := .slice A1 (cutC true f t (p.take j)).length C1) (by rw [HM.out]; rfl) rfl rfl rfl HO6.out HB5.out (by have := HFL.out; omega) ?_; rintro v7 w7 ⟨h7, b7, -, -⟩; have R7 := Lib.hid h7; have B7 := Lib.hid b7; clear h7 b7)
            go_roundw
            case rel => exact ⟨j + 1, by simp, by rw [HN.out]; omega, by rw [HF.out, List.length_append]; exact Nat.succ_le_succ HFL.out, by rw [HF.out]; exact R7.out, B7.out⟩
            case measure => simp [RowKit.intOf]; omega
          · have HF := Lib.hid (HFN.out hk)
            clear hk
            rcases hor with rfl | ⟨rfl, h1⟩
            all_goals
              go_wp2_with fail
              go_roundw
              case rel => exact ⟨j + 1, by simp, by rw [HN.out]; omega, by rw [HF.out]; exact Nat.le_succ_of_le HFL.out, by rw [HF.out]; exact HO5.out, HB5.out⟩
              case measure => simp [RowKit.intOf]; omega
      · by_cases h2 : t < x2
        · have HPF : Hid (partF f t (x1, x2, x3, x4) = (x1, t, x3, x4)) := by
            show _ = _
            simp only [partF]
            rw [show max x1 f = x1 by omega, show min x2 t = t by omega]
          rw [HPF.out] at HFY
          obtain ⟨V, hV, bV, lV, v0, v1, v2, v3, -⟩ := box_new wr x1 t x3 x4 25
          have HVV := Lib.hid hV
          have HBX := Lib.hid (bel_next HB.out bV)
          have HBN := Lib.hid bV
          have LV := Lib.hid lV
          have KV := Lib.hid (show V.cell? ⟨wr.heap.size, 0, none⟩ = some (.int .i64 x1) ∧ V.cell? ⟨wr.heap.size, 1, none⟩ = some (.int .i64 t) ∧ V.cell? ⟨wr.heap.size, 2, none⟩ = some (.int .i64 x3) ∧ V.cell? ⟨wr.heap.size, 3, none⟩ = some (.int .i64 x4) from ⟨v0, v1, v2, v3⟩)
          have HWV := Lib.hid (show withV q (overB f t) (x1, x2, x3, x4) = (q && decide (x1 < t)) by simp only [withV, overB, longB]; rw [HPF.out])
          clear hV bV lV v0 v1 v2 v3
          go_wp2_with fail
          rw [HVV.out]
          refine (HV.out _ HBX.out).mono ?_
          rintro e w5 ⟨rfl, hb5⟩
          have HB5 := Lib.hid (bel_next HBX.out hb5)
          have HO5 := Lib.hid (own_below HO.out (bel_next HBN.out hb5))
          have y0 := (hb5.cell (p := ⟨wr.heap.size, 0, none⟩) LV.out).trans KV.out.1
          have y1 := (hb5.cell (p := ⟨wr.heap.size, 1, none⟩) LV.out).trans KV.out.2.1
          have y2 := (hb5.cell (p := ⟨wr.heap.size, 2, none⟩) LV.out).trans KV.out.2.2.1
          have y3 := (hb5.cell (p := ⟨wr.heap.size, 3, none⟩) LV.out).trans KV.out.2.2.2
          have hlt5 := Nat.lt_of_lt_of_le LV.out hb5.size
          clear hb5 c0 c1 c2 c3 h1 h2
          have hcase : (withV q (overB f t) (x1, x2, x3, x4) = true ∧ q = true ∧ x1 < t) ∨ (withV q (overB f t) (x1, x2, x3, x4) = false ∧ (q = false ∨ (q = true ∧ ¬ x1 < t))) := by
            rw [HWV.out]
            cases q with
            | false => right; exact ⟨rfl, .inl rfl⟩
            | true =>
              by_cases h1 : x1 < t
              · left; exact ⟨by simp [h1], rfl, h1⟩
              · right; exact ⟨by simp [h1], .inr ⟨rfl, h1⟩⟩
          rcases hcase with ⟨hk, rfl, h1⟩ | ⟨hk, hor⟩
          · have HF := Lib.hid (HFY.out hk)
            clear hk
            obtain ⟨A1, C1, rfl⟩ := own_shape HO5.out
            obtain ⟨M, hM⟩ : ∃ M, (cutC true f t (p.take j)).length = M := ⟨_, rfl⟩
            have HO6 := Lib.hid (show w5.ownsRow w.heap.size 25 4 (.slice A1 (cutC true f t (p.take j)).length C1) (cutC true f t (p.take j)).length ((cutC true f t (p.take j)).flatMap sgC) from HO5.out)
            have HM : Hid ((cutC true f t (p.take j)).length = M) := hM
            rw [hM]
            clear HO5 hM
            go_wp2_with (at_builtin; refine wp_seg rfl (.tmp 35) (.tmp 37) rfl w (l := cutC true f t (p.take j)) (x1, t, x3, x4) (v := .slice A1 (cutC true f t (p.take j)).length C1) (by rw [HM.out]; rfl) rfl rfl rfl HO6.out HB5.out (by have := HFL.out; omega) ?_; rintro v7 w7 ⟨h7, b7, -, -⟩; have R7 := Lib.hid h7; have B7 := Lib.hid b7; clear h7 b7)
            go_roundw
            case rel => exact ⟨j + 1, by simp, by rw [HN.out]; omega, by rw [HF.out, List.length_append]; exact Nat.succ_le_succ HFL.out, by rw [HF.out]; exact R7.out, B7.out⟩
            case measure => simp [RowKit.intOf]; omega
          · have HF := Lib.hid (HFN.out hk)
            clear hk
            rcases hor with rfl | ⟨rfl, h1⟩
            all_goals
              go_wp2_with fail
              go_roundw
              case rel => exact ⟨j + 1, by simp, by rw [HN.out]; omega, by rw [HF.out]; exact Nat.le_succ_of_le HFL.out, by rw [HF.out]; exact HO5.out, HB5.out⟩
              case measure => simp [RowKit.intOf]; omega
        · have HPF : Hid (partF f t (x1, x2, x3, x4) = (x1, x2, x3, x4)) := by
            show _ = _
            simp only [partF]
            rw [show max x1 f = x1 by omega, show min x2 t = x2 by omega]
          rw [HPF.out] at HFY
          obtain ⟨V, hV, bV, lV, v0, v1, v2, v3, -⟩ := box_new wr x1 x2 x3 x4 25
          have HVV := Lib.hid hV
          have HBX := Lib.hid (bel_next HB.out bV)
          have HBN := Lib.hid bV
          have LV := Lib.hid lV
          have KV := Lib.hid (show V.cell? ⟨wr.heap.size, 0, none⟩ = some (.int .i64 x1) ∧ V.cell? ⟨wr.heap.size, 1, none⟩ = some (.int .i64 x2) ∧ V.cell? ⟨wr.heap.size, 2, none⟩ = some (.int .i64 x3) ∧ V.cell? ⟨wr.heap.size, 3, none⟩ = some (.int .i64 x4) from ⟨v0, v1, v2, v3⟩)
          have HWV := Lib.hid (show withV q (overB f t) (x1, x2, x3, x4) = (q && decide (x1 < x2)) by simp only [withV, overB, longB]; rw [HPF.out])
          clear hV bV lV v0 v1 v2 v3
          go_wp2_with fail
          rw [HVV.out]
          refine (HV.out _ HBX.out).mono ?_
          rintro e w5 ⟨rfl, hb5⟩
          have HB5 := Lib.hid (bel_next HBX.out hb5)
          have HO5 := Lib.hid (own_below HO.out (bel_next HBN.out hb5))
          have y0 := (hb5.cell (p := ⟨wr.heap.size, 0, none⟩) LV.out).trans KV.out.1
          have y1 := (hb5.cell (p := ⟨wr.heap.size, 1, none⟩) LV.out).trans KV.out.2.1
          have y2 := (hb5.cell (p := ⟨wr.heap.size, 2, none⟩) LV.out).trans KV.out.2.2.1
          have y3 := (hb5.cell (p := ⟨wr.heap.size, 3, none⟩) LV.out).trans KV.out.2.2.2
          have hlt5 := Nat.lt_of_lt_of_le LV.out hb5.size
          clear hb5 c0 c1 c2 c3 h1 h2
          have hcase : (withV q (overB f t) (x1, x2, x3, x4) = true ∧ q = true ∧ x1 < x2) ∨ (withV q (overB f t) (x1, x2, x3, x4) = false ∧ (q = false ∨ (q = true ∧ ¬ x1 < x2))) := by
            rw [HWV.out]
            cases q with
            | false => right; exact ⟨rfl, .inl rfl⟩
            | true =>
              by_cases h1 : x1 < x2
              · left; exact ⟨by simp [h1], rfl, h1⟩
              · right; exact ⟨by simp [h1], .inr ⟨rfl, h1⟩⟩
          rcases hcase with ⟨hk, rfl, h1⟩ | ⟨hk, hor⟩
          · have HF := Lib.hid (HFY.out hk)
            clear hk
            obtain ⟨A1, C1, rfl⟩ := own_shape HO5.out
            obtain ⟨M, hM⟩ : ∃ M, (cutC true f t (p.take j)).length = M := ⟨_, rfl⟩
            have HO6 := Lib.hid (show w5.ownsRow w.heap.size 25 4 (.slice A1 (cutC true f t (p.take j)).length C1) (cutC true f t (p.take j)).length ((cutC true f t (p.take j)).flatMap sgC) from HO5.out)
            have HM : Hid ((cutC true f t (p.take j)).length = M) := hM
            rw [hM]
            clear HO5 hM
            go_wp2_with (at_builtin; refine wp_seg rfl (.tmp 35) (.tmp 37) rfl w (l := cutC true f t (p.take j)) (x1, x2, x3, x4) (v := .slice A1 (cutC true f t (p.take j)).length C1) (by rw [HM.out]; rfl) rfl rfl rfl HO6.out HB5.out (by have := HFL.out; omega) ?_; rintro v7 w7 ⟨h7, b7, -, -⟩; have R7 := Lib.hid h7; have B7 := Lib.hid b7; clear h7 b7)
            go_roundw
            case rel => exact ⟨j + 1, by simp, by rw [HN.out]; omega, by rw [HF.out, List.length_append]; exact Nat.succ_le_succ HFL.out, by rw [HF.out]; exact R7.out, B7.out⟩
            case measure => simp [RowKit.intOf]; omega
          · have HF := Lib.hid (HFN.out hk)
            clear hk
            rcases hor with rfl | ⟨rfl, h1⟩
            all_goals
              go_wp2_with fail
              go_roundw
              case rel => exact ⟨j + 1, by simp, by rw [HN.out]; omega, by rw [HF.out]; exact Nat.le_succ_of_le HFL.out, by rw [HF.out]; exact HO5.out, HB5.out⟩
              case measure => simp [RowKit.intOf]; omega
    · have he : j = N := by omega
      subst he
      have hta : p.take j = p := List.take_of_length_le (by rw [HN.out]; exact Nat.le_refl _)
      rw [hta] at HO
      clear hta HFL
      obtain ⟨A1, C1, rfl⟩ := own_shape HO.out
      have HO2 := Lib.hid (show wr.ownsRow w.heap.size 25 4 (.slice A1 (cutC q f t p).length C1) (cutC q f t p).length ((cutC q f t p).flatMap sgC) from HO.out)
      clear HO
      obtain ⟨M, hM⟩ : ∃ M, (cutC q f t p).length = M := ⟨_, rfl⟩
      rw [hM] at HO2 ⊢
      have HM := Lib.hid hM
      clear hM
      go_wp2_with fail
      go_ret
      exact ⟨_, rfl, by rw [HM.out]; exact HO2.out, HB.out⟩

end Go.Proofs.Ytkoldgammeojkaa.Rtc
