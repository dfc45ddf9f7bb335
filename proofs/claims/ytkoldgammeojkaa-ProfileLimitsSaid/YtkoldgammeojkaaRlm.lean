/- The reference's Limit (profile). -/
import Derived.Test.YtkoldgammeojkaaPlm
import Derived.Test.YtkoldgammeojkaaRtc
namespace Go.Proofs.Ytkoldgammeojkaa.Rlm
open Go.RowKit Go.Lib Go.Proofs.Ytkoldgammeojkaa.Reads Go.Proofs.Ytkoldgammeojkaa.Rows2 Go.Proofs.Ytkoldgammeojkaa.Lay Go.Proofs.Ytkoldgammeojkaa.Segs Go.Proofs.Ytkoldgammeojkaa.Psg Go.Proofs.Ytkoldgammeojkaa.Pvd Go.Proofs.Ytkoldgammeojkaa.Phv Go.Proofs.Ytkoldgammeojkaa.Pth Go.Proofs.Ytkoldgammeojkaa.Pat Go.Proofs.Ytkoldgammeojkaa.Pct Go.Proofs.Ytkoldgammeojkaa.Plm Go.Proofs.Ytkoldgammeojkaa.Rvd Go.Proofs.Ytkoldgammeojkaa.Rtc

/-- A segment of a profile is one. -/
theorem link_ok : ∀ {p : List Sg} {q : Option Sg}, linkR q p = true → ∀ x ∈ p, okS x = true
  | [], _, _, x, hx => by cases hx
  | s :: r, q, h, x, hx => by
    simp only [linkR, Bool.and_eq_true] at h
    rcases List.mem_cons.1 hx with rfl | hx
    · exact h.1
    · exact link_ok h.2.2 x hx
theorem one_valid {x : Sg} (h : okS x = true) : validF [x] = true := by simp [validF, linkR, h, goesOn]
theorem cut_one {x : Sg} (h : okS x = true) (f t : Int) : cutF [x] f t = if overB f t x = true then [partF f t x] else [] := by
  rw [cutF, thoseF, if_pos (one_valid h)]
  cases ho : overB f t x <;> simp [List.filter, ho]
/-- What divide gives, part by part. -/
theorem div_parts {f t v : Int} {x : Sg} (h : okS x = true) (ho : overB f t x = true) :
    cutF [x] (-1073741824) f ++ [slowed v (partF f t x)] ++ cutF [x] t 1073741824 = divideF f t v x := by
  have h0 := h
  simp only [okS, decide_eq_true_eq] at h
  obtain ⟨h1, h2, h3, -⟩ := h
  have e1 : partF (-1073741824) f x = partF x.1 f x := by simp only [partF]; rw [show max x.1 (-1073741824) = max x.1 x.1 by omega]
  have e2 : partF t 1073741824 x = partF t x.2.1 x := by simp only [partF]; rw [show min x.2.1 1073741824 = min x.2.1 x.2.1 by omega]
  have e3 : longB (slowed v (partF f t x)) = true := ho
  rw [cut_one h0, cut_one h0, divideF]
  simp only [overB, e1, e2]
  cases hb : longB (partF x.1 f x) <;> cases hc : longB (partF t x.2.1 x) <;> simp [List.filter, hb, hc, e3]

theorem cut_wf {f t : Int} {x : Sg} (hx : sgW x) (hf : Lay.Wf f) (ht : Lay.Wf t) : ∀ s ∈ cutF [x] f t, sgW s := by
  intro s hs
  obtain ⟨y, hy, rfl⟩ := List.mem_map.1 hs
  have hm : y ∈ [x] := by
    unfold thoseF at hy
    split at hy
    · exact (List.mem_filter.1 hy).1
    · cases hy
  rw [List.mem_singleton.1 hm]
  exact part_wf hx hf ht
theorem cut_short {f t : Int} {x : Sg} : (cutF [x] f t).length ≤ 1 := by
  rw [cutF, List.length_map]
  unfold thoseF
  split
  · exact List.length_filter_le _ [x]
  · simp
theorem grid_grown {B : Nat} {w w' : World} {row : Option Nat} {v : Value} {sz : Nat} {rows : List (List Value)} (h : Grid (fun b => B ≤ b ∧ b < w.heap.size) w v sz rows) (hg : w.grownBy w' row) (hr : ∀ g, row = some g → g < B) : Grid (fun b => B ≤ b ∧ b < w'.heap.size) w' v sz rows :=
  h.keep fun b hb => ⟨⟨hb.1, Nat.lt_of_lt_of_le hb.2 hg.size⟩, hg.block b hb.2 (fun e => by have := hr b e.symm; omega)⟩
/-- The slice of one. -/
theorem one_grid {w : World} {b off cap j : Nat} {x : Sg} (hb : b < w.heap.size) (hj : j < cap) (hc : cap ≤ maxLen)
    (c0 : w.cell? ⟨b, off + j * 4, none⟩ = some (.int .i64 x.1)) (c1 : w.cell? ⟨b, off + j * 4 + 1, none⟩ = some (.int .i64 x.2.1)) (c2 : w.cell? ⟨b, off + j * 4 + 2, none⟩ = some (.int .i64 x.2.2.1)) (c3 : w.cell? ⟨b, off + j * 4 + 3, none⟩ = some (.int .i64 x.2.2.2)) :
    Grid (In w) w (.slice (some ⟨b, off + j * 4, none⟩) 1 (cap - j)) 4 ([x].map sgC) := by
  refine ⟨_, cap - j, rfl, by simp; omega, by omega, .inr ⟨b, off + j * 4, rfl, hb, fun i r hr k y hy => ?_⟩⟩
  rcases i with _ | i
  · simp only [List.map_cons, List.map_nil, List.getElem?_cons_zero, Option.some.injEq] at hr
    subst hr
    rw [Nat.zero_mul, Nat.add_zero]
    rcases k with _ | _ | _ | _ | k
    · simp only [sgC, List.getElem?_cons_zero, Option.some.injEq] at hy; rw [← hy]; exact c0
    · simp only [sgC, List.getElem?_cons_zero, List.getElem?_cons_succ, Option.some.injEq] at hy; rw [← hy]; exact c1
    · simp only [sgC, List.getElem?_cons_zero, List.getElem?_cons_succ, Option.some.injEq] at hy; rw [← hy]; exact c2
    · simp only [sgC, List.getElem?_cons_zero, List.getElem?_cons_succ, Option.some.injEq] at hy; rw [← hy]; exact c3
    · simp [sgC] at hy
  · simp at hr
/-- The row of one segment that a call gave, and its speed. -/
theorem one_row {w w0 : World} {A : Option Addr} {M C : Nat} {y : Sg} (h : w.ownsRow w0.heap.size 25 4 (.slice A M C) [y].length ([y].flatMap sgC)) (hM : [y].length = M) :
    ∃ g, A = some ⟨g, 0, none⟩ ∧ w0.heap.size ≤ g ∧ g < w.heap.size ∧ w.cell? ⟨g, 3, none⟩ = some (.int .i64 y.2.2.2) ∧ w.frozen? ⟨g, 3, none⟩ = false ∧
      ∀ m : Int, (w.setCell ⟨g, 3, none⟩ (.int .i64 m)).ownsRow w0.heap.size 25 4 (.slice (some ⟨g, 0, none⟩) M C) [((y.1, y.2.1, y.2.2.1, m) : Sg)].length ([((y.1, y.2.1, y.2.2.1, m) : Sg)].flatMap sgC) := by
  have hM1 : M = 1 := by rw [← hM]; rfl
  subst hM1
  have h0 := h
  obtain ⟨_, hor⟩ := h0
  rcases hor with ⟨e, _⟩ | ⟨g, cap, cur, e, hb, _⟩
  · cases e
  · cases e
    have hc := h.cells (g := g) rfl 3 (.int .i64 y.2.2.2) rfl
    rw [add_mk, Nat.zero_add] at hc
    refine ⟨g, rfl, hb, (h.lt g rfl).2, hc, World.ownsRow.frozenAt h 3, fun m => ?_⟩
    exact (World.ownsRow.stored h 3 (.int .i64 m)).1

theorem wf_lo : Lay.Wf (-1073741824) := by unfold Lay.Wf; decide
theorem wf_hi : Lay.Wf 1073741824 := by unfold Lay.Wf; decide
/-- What is to be appended in the middle. -/
theorem mid_in {B : Nat} {w : World} {ad : Addr} {n C : Nat} {y z : Sg} (h : Grid (fun b => B ≤ b ∧ b < w.heap.size) w (.slice (some ad) n C) 4 ([y].map sgC)) (hw : sgW z) (he : z = y) : SegIn w (.slice (some ad) n C) [z] := by
  subst he
  exact ⟨grid_in h, fun s hs => by rw [List.mem_singleton.1 hs]; exact hw, .inr ⟨_, _, _, rfl⟩⟩

/-- What holds at the head of the loop. -/
def NRel (f t v : Int) (p : List Sg) (W : World) (vl vj : Value) (wr : World) : Prop :=
  ∃ j : Nat, vj = .int .i64 (j : Int) ∧ j ≤ p.length ∧ (limR f t v (p.take j)).length ≤ 3 * j ∧ wr.ownsRow W.heap.size 25 4 vl (limR f t v (p.take j)).length ((limR f t v (p.take j)).flatMap sgC) ∧ Below W.heap.size W wr

set_option maxRecDepth 100000 in
set_option maxHeartbeats 6400000 in
theorem rlimit_any (f t v : Int) {p : List Sg} {vp : Value} {w : World} (h : SegIn w vp p) (hf : Lay.Wf f) (ht : Lay.Wf t) (hv : Lay.Wf v) :
    Calls Try.prog 23 #[vp, .int .i64 f, .int .i64 t, .int .i64 v] w (SegOut (limitF p f t v) w) := by
  have HV := Lib.hid (rvalid_any h.1)
  have HSW := Lib.hid h.2.1
  have HWF := Lib.hid hf
  have HWT := Lib.hid ht
  have HWV := Lib.hid hv
  obtain ⟨q, hq⟩ : ∃ q, validF p = q := ⟨_, rfl⟩
  rw [hq] at HV
  have HQ := Lib.hid hq
  obtain ⟨r, hr⟩ : ∃ r, limitF p f t v = r := ⟨_, rfl⟩
  have HR := Lib.hid hr
  rw [hr]
  obtain ⟨a, cap, rfl, hm, hcm, hcap, hel⟩ := segs h.1
  have HE := Lib.hid hel
  obtain ⟨N, hN⟩ : ∃ N, p.length = N := ⟨_, rfl⟩
  have HN := Lib.hid hN
  rw [hN] at hm HV hcap ⊢
  clear h hq hr hel hN hf ht hv
  have HCM := Lib.hid hcm
  have hcap2 : (cap : Int) ≤ 9223372036854775807 := by unfold maxLen at hcm; omega
  clear hcm
  go_enter Try.func23, Try.ntmps23
  go_wp2_with fail
  refine HV.out.mono ?_
  rintro e w1 ⟨rfl, hb1⟩
  have HB1 := Lib.hid hb1
  clear hb1
  cases q with
  | false =>
    have HF : Hid (r = []) := by
      show _ = _
      rw [← HR.out, limitF, if_pos (.inl HQ.out)]
    go_wp2_with fail
    go_ret
    rw [HF.out]
    exact ⟨_, rfl, World.ownsRow_nil _ _ _ _, HB1.out⟩
  | true =>
  by_cases hv1 : v < 1
  · have HF : Hid (r = []) := by
      show _ = _
      rw [← HR.out, limitF, if_pos (.inr hv1)]
    go_wp2_with fail
    go_ret
    rw [HF.out]
    exact ⟨_, rfl, World.ownsRow_nil _ _ _ _, HB1.out⟩
  have HF : Hid (r = if 128 < (limR f t v p).length then [] else limR f t v p) := by
    show _ = _
    rw [← HR.out, limitF, if_neg (by simp [HQ.out]; omega)]
  have hlen : N ≤ 128 := by have := valid_len HQ.out; rwa [HN.out] at this
  have HOKS := Lib.hid (link_ok (q := none) (p := p) (by have := HQ.out; simp only [validF, Bool.and_eq_true] at this; exact this.2))
  go_wp2_with fail
  go_loopw [9, 22] (fun vl vj wr => NRel f t v p w vl vj wr) (fun _ vj _ => N - (RowKit.intOf vj).toNat)
  case atStart => exact ⟨0, rfl, Nat.zero_le _, Nat.le_refl _, World.ownsRow_nil _ _ _ _, HB1.out⟩
  case round =>
    obtain ⟨j, rfl, hj, hfl, ho, hb⟩ := hrel
    rw [HN.out] at hj
    have HB := Lib.hid hb
    have HO := Lib.hid ho
    have HFL := Lib.hid hfl
    clear hb ho hfl
    by_cases hl : j < N
    · obtain ⟨x, hx⟩ := at_lt (l := p) (k := j) (by rw [HN.out]; exact hl)
      obtain ⟨b, off, rfl, hbl, c0, c1, c2, c3⟩ := HE.out wr HB.out j x hx
      have HFN := Lib.hid (lim_no (f := f) (t := t) (v := v) hx)
      have HFY := Lib.hid (lim_yes (f := f) (t := t) (v := v) hx)
      have HXW := Lib.hid (HSW.out x (List.mem_of_getElem? hx))
      have HOK := Lib.hid (HOKS.out x (List.mem_of_getElem? hx))
      have HCELL : Hid (∀ w', Below w.heap.size w w' → w'.cell? ⟨b, off + j * 4, none⟩ = some (.int .i64 x.1) ∧ w'.cell? ⟨b, off + j * 4 + 1, none⟩ = some (.int .i64 x.2.1) ∧ w'.cell? ⟨b, off + j * 4 + 2, none⟩ = some (.int .i64 x.2.2.1) ∧ w'.cell? ⟨b, off + j * 4 + 3, none⟩ = some (.int .i64 x.2.2.2)) := by
        refine Lib.hid (fun w' hb' => ?_)
        obtain ⟨_, _, e', _, d0, d1, d2, d3⟩ := HE.out w' hb' j x hx
        cases e'
        exact ⟨d0, d1, d2, d3⟩
      have HONE : Hid (∀ w', Below w.heap.size w w' → Grid (In w') w' (.slice (some ⟨b, off + j * 4, none⟩) 1 (cap - j)) 4 ([x].map sgC)) := by
        refine Lib.hid (fun w' hb' => ?_)
        obtain ⟨d0, d1, d2, d3⟩ := HCELL.out w' hb'
        exact one_grid (Nat.lt_of_lt_of_le hbl hb'.size) (by omega) HCM.out d0 d1 d2 d3
      have HC1 := Lib.hid (fun w' (hb' : Below w.heap.size w w') => rcut_any f t (HONE.out w' hb') (by simp))
      have HC2 := Lib.hid (fun w' (hb' : Below w.heap.size w w') => rcut_any (-1073741824) f (HONE.out w' hb') (by simp))
      have HC3 := Lib.hid (fun w' (hb' : Below w.heap.size w w') => rcut_any t 1073741824 (HONE.out w' hb') (by simp))
      have hcj : ¬ cap = j := by omega
      have hwj : IntKind.i64.wrap ((j : Int) + 1) = (j : Int) + 1 := by rw [IntKind.wrap_i64]; omega
      have HPO := Lib.hid (cut_one HOK.out f t)
      have HDP := Lib.hid (fun h => div_parts (f := f) (t := t) (v := v) HOK.out h)
      obtain ⟨o, ho⟩ : ∃ o, overB f t x = o := ⟨_, rfl⟩
      rw [ho] at HPO HFN HFY HDP
      obtain ⟨l1, hl1⟩ : ∃ l, cutF [x] f t = l := ⟨_, rfl⟩
      rw [hl1] at HC1 HPO
      obtain ⟨A3, C3, rfl⟩ := own_shape HO.out
      obtain ⟨M, hM⟩ : ∃ M, (limR f t v (p.take j)).length = M := ⟨_, rfl⟩
      have HM : Hid ((limR f t v (p.take j)).length = M) := hM
      rw [hM]
      clear hx ho hl1 hM
      have HOL : Hid (∀ g, (Value.slice A3 (limR f t v (p.take j)).length C3).ownBlock = some g → g < wr.heap.size) := Lib.hid (fun g hg => (HO.out.lt g hg).2)
      go_wp2_with fail
      refine (HC1.out _ HB.out).mono ?_
      rintro e w5 h5
      obtain ⟨A5, M5, C5, rfl, HM5, HO5, HB5⟩ := seg_open h5
      clear h5
      cases o with
      | false =>
        have hl0 : l1 = [] := by rw [HPO.out, if_neg (by decide)]
        have hM5 : M5 = 0 := by have := HM5.out; rw [hl0] at this; exact this.symm
        subst hM5
        have HF2 := Lib.hid (HFN.out rfl)
        obtain ⟨d0, d1, d2, d3⟩ := HCELL.out w5 (bel_next HB.out HB5.out)
        obtain ⟨x1, x2, x3, x4⟩ := x
        simp only at d0 d1 d2 d3
        have HO6 := Lib.hid (own_below HO.out HB5.out)
        have HB6 := Lib.hid (bel_next HB.out HB5.out)
        have hj0 : (0 : Int) ≤ (j : Int) := by omega
        have hj1 : (j : Int) < (N : Int) := by omega
        clear hl0 c0 c1 c2 c3
        go_wp2_with (at_builtin; refine wp_seg rfl (.tmp 37) (.tmp 42) rfl w (l := limR f t v (p.take j)) (x1, x2, x3, x4) (v := .slice A3 (limR f t v (p.take j)).length C3) (by rw [HM.out]; rfl) rfl rfl rfl HO6.out HB6.out (by have := HFL.out; omega) ?_; rintro v7 w7 ⟨h7, b7, -, -⟩; have R7 := Lib.hid h7; have B7 := Lib.hid b7; clear h7 b7)
        go_roundw
        case rel => exact ⟨j + 1, by simp, by rw [HN.out]; omega, by rw [HF2.out, List.length_append, List.length_singleton]; have := HFL.out; omega, by rw [HF2.out]; exact R7.out, B7.out⟩
        case measure => simp [RowKit.intOf]; omega
      | true =>
        obtain ⟨y, hy⟩ : ∃ y, partF f t x = y := ⟨_, rfl⟩
        have HPF := Lib.hid hy
        have hl1 : l1 = [y] := by rw [HPO.out, if_pos rfl, hy]
        subst hl1
        have hM5 : M5 = 1 := HM5.out.symm
        subst hM5
        obtain ⟨g, e5, hg5, hgl, d3, z3, hrow⟩ := one_row HO5.out rfl
        subst e5
        have HRW := Lib.hid hrow
        have HSL := Lib.hid (slowed_wf (v := v) (part_wf HXW.out HWF.out HWT.out) HWV.out)
        rw [hy] at HSL
        obtain ⟨b1, b2, b3, b4⟩ := y
        simp only at d3 HRW
        clear hrow hy c0 c1 c2 c3
        have hmin : (v < b4 ∧ min b4 v = v) ∨ (¬ v < b4 ∧ min b4 v = b4) := by omega
        rcases hmin with ⟨hv4, hm⟩ | ⟨hv4, hm⟩
        · have HS : Hid (slowed v (b1, b2, b3, b4) = (b1, b2, b3, v)) := by
            show _ = _
            simp only [slowed, hm]
          have hrow6 := HRW.out v
          have hb6 : Below wr.heap.size wr (w5.setCell ⟨g, 3, none⟩ (.int .i64 v)) := HB5.out.setCell (by simpa using hg5) _
          obtain ⟨w6, hw6⟩ : ∃ w6, w5.setCell ⟨g, 3, none⟩ (.int .i64 v) = w6 := ⟨_, rfl⟩
          rw [hw6] at hrow6 hb6
          have HW6 := Lib.hid hw6
          have HB6 := Lib.hid hb6
          have HO6 := Lib.hid hrow6
          have HMID6 := Lib.hid (grid_of_own hrow6)
          have HOUT6 := Lib.hid (own_below HO.out hb6)
          have HBW6 := Lib.hid (bel_next HB.out hb6)
          clear hm hrow6 hb6 hw6
          go_wp2_with fail
          rw [HW6.out]
          refine (HC2.out _ HBW6.out).mono ?_
          rintro e w7 h7
          obtain ⟨A7, M7, C7, rfl, HM7, HO7, HB7⟩ := seg_open h7
          clear h7
          have HBW7 := Lib.hid (bel_next HBW6.out HB7.out)
          have HOUT7 := Lib.hid (own_below HOUT6.out HB7.out)
          have HS7 := Lib.hid (segIn_own HO7.out (cut_wf HXW.out wf_lo HWF.out))
          have HMID7 := Lib.hid (HMID6.out.keep (ok' := fun b => wr.heap.size ≤ b ∧ b < w7.heap.size) fun b hb => ⟨⟨hb.1, Nat.lt_of_lt_of_le hb.2 HB7.out.size⟩, HB7.out.block b hb.2⟩)
          go_wp2_with (at_builtin; first
            | (refine wp_in rfl (.tmp 53) (.tmp 56) rfl w (l := limR f t v (p.take j)) (v := .slice A3 (limR f t v (p.take j)).length C3) (vx := .slice A7 M7 C7) (cutF [x] (-1073741824) f) (by rw [HM.out]; rfl) rfl HS7.out HOUT7.out HBW7.out (by have := HFL.out; have := cut_short (f := -1073741824) (t := f) (x := x); omega) ?_; rintro v8 w8 ⟨h8, b8, g8, -⟩; have R8 := Lib.hid h8; have B8 := Lib.hid b8; have M8 := Lib.hid (mid_in (grid_grown HMID7.out g8 (fun g hg => HOL.out g hg)) HSL.out HS.out); clear h8 b8 g8)
            | (refine wp_in rfl (.tmp 58) (.tmp 59) rfl w (l := limR f t v (p.take j) ++ cutF [x] (-1073741824) f) (v := _) (vx := .slice (some ⟨g, 0, none⟩) 1 C5) [slowed v (b1, b2, b3, b4)] rfl rfl M8.out R8.out B8.out (by have := HFL.out; have := cut_short (f := -1073741824) (t := f) (x := x); rw [List.length_append, List.length_singleton]; omega) ?_; rintro v9 w9 ⟨h9, b9, -, -⟩; have R9 := Lib.hid h9; have B9 := Lib.hid b9; clear h9 b9))
          refine (HC3.out _ B9.out).mono ?_
          rintro e w10 h10
          obtain ⟨A10, M10, C10, rfl, HM10, HO10, HB10⟩ := seg_open h10
          clear h10
          have HBW10 := Lib.hid (bel_next B9.out HB10.out)
          have HOUT10 := Lib.hid (own_below R9.out HB10.out)
          have HS10 := Lib.hid (segIn_own HO10.out (cut_wf HXW.out HWT.out wf_hi))
          go_wp2_with (at_builtin; refine wp_in rfl (.tmp 61) (.tmp 64) rfl w (l := (limR f t v (p.take j) ++ cutF [x] (-1073741824) f) ++ [slowed v (b1, b2, b3, b4)]) (v := _) (vx := .slice A10 M10 C10) (cutF [x] t 1073741824) rfl rfl HS10.out HOUT10.out HBW10.out (by have := HFL.out; have := cut_short (f := -1073741824) (t := f) (x := x); have := cut_short (f := t) (t := 1073741824) (x := x); rw [List.length_append, List.length_append, List.length_singleton]; omega) ?_; rintro v11 w11 ⟨h11, b11, -, -⟩; have R11 := Lib.hid h11; have B11 := Lib.hid b11; clear h11 b11)
          go_roundw
          case rel =>
            have e2 : limR f t v (p.take j) ++ cutF [x] (-1073741824) f ++ [slowed v (b1, b2, b3, b4)] ++ cutF [x] t 1073741824 = limR f t v (p.take (j + 1)) := by
              rw [HFY.out (by first | rfl | trivial), ← HDP.out (by first | rfl | trivial), HPF.out, List.append_assoc, List.append_assoc, List.append_assoc]
            have R12 := R11.out
            rw [e2] at R12
            refine ⟨j + 1, by simp, by rw [HN.out]; omega, ?_, R12, B11.out⟩
            rw [HFY.out (by first | rfl | trivial), List.length_append]
            have := HFL.out
            have := div_len f t v x
            omega
          case measure => simp [RowKit.intOf]; omega
        · have HS : Hid (slowed v (b1, b2, b3, b4) = (b1, b2, b3, b4)) := by
            show _ = _
            simp only [slowed, hm]
          have hrow6 := HRW.out b4
          have hb6 : Below wr.heap.size wr (w5.setCell ⟨g, 3, none⟩ (.int .i64 b4)) := HB5.out.setCell (by simpa using hg5) _
          obtain ⟨w6, hw6⟩ : ∃ w6, w5.setCell ⟨g, 3, none⟩ (.int .i64 b4) = w6 := ⟨_, rfl⟩
          rw [hw6] at hrow6 hb6
          have HW6 := Lib.hid hw6
          have HB6 := Lib.hid hb6
          have HO6 := Lib.hid hrow6
          have HMID6 := Lib.hid (grid_of_own hrow6)
          have HOUT6 := Lib.hid (own_below HO.out hb6)
          have HBW6 := Lib.hid (bel_next HB.out hb6)
          clear hm hrow6 hb6 hw6
          go_wp2_with fail
          rw [HW6.out]
          refine (HC2.out _ HBW6.out).mono ?_
          rintro e w7 h7
          obtain ⟨A7, M7, C7, rfl, HM7, HO7, HB7⟩ := seg_open h7
          clear h7
          have HBW7 := Lib.hid (bel_next HBW6.out HB7.out)
          have HOUT7 := Lib.hid (own_below HOUT6.out HB7.out)
          have HS7 := Lib.hid (segIn_own HO7.out (cut_wf HXW.out wf_lo HWF.out))
          have HMID7 := Lib.hid (HMID6.out.keep (ok' := fun b => wr.heap.size ≤ b ∧ b < w7.heap.size) fun b hb => ⟨⟨hb.1, Nat.lt_of_lt_of_le hb.2 HB7.out.size⟩, HB7.out.block b hb.2⟩)
          go_wp2_with (at_builtin; first
            | (refine wp_in rfl (.tmp 53) (.tmp 56) rfl w (l := limR f t v (p.take j)) (v := .slice A3 (limR f t v (p.take j)).length C3) (vx := .slice A7 M7 C7) (cutF [x] (-1073741824) f) (by rw [HM.out]; rfl) rfl HS7.out HOUT7.out HBW7.out (by have := HFL.out; have := cut_short (f := -1073741824) (t := f) (x := x); omega) ?_; rintro v8 w8 ⟨h8, b8, g8, -⟩; have R8 := Lib.hid h8; have B8 := Lib.hid b8; have M8 := Lib.hid (mid_in (grid_grown HMID7.out g8 (fun g hg => HOL.out g hg)) HSL.out HS.out); clear h8 b8 g8)
            | (refine wp_in rfl (.tmp 58) (.tmp 59) rfl w (l := limR f t v (p.take j) ++ cutF [x] (-1073741824) f) (v := _) (vx := .slice (some ⟨g, 0, none⟩) 1 C5) [slowed v (b1, b2, b3, b4)] rfl rfl M8.out R8.out B8.out (by have := HFL.out; have := cut_short (f := -1073741824) (t := f) (x := x); rw [List.length_append, List.length_singleton]; omega) ?_; rintro v9 w9 ⟨h9, b9, -, -⟩; have R9 := Lib.hid h9; have B9 := Lib.hid b9; clear h9 b9))
          refine (HC3.out _ B9.out).mono ?_
          rintro e w10 h10
          obtain ⟨A10, M10, C10, rfl, HM10, HO10, HB10⟩ := seg_open h10
          clear h10
          have HBW10 := Lib.hid (bel_next B9.out HB10.out)
          have HOUT10 := Lib.hid (own_below R9.out HB10.out)
          have HS10 := Lib.hid (segIn_own HO10.out (cut_wf HXW.out HWT.out wf_hi))
          go_wp2_with (at_builtin; refine wp_in rfl (.tmp 61) (.tmp 64) rfl w (l := (limR f t v (p.take j) ++ cutF [x] (-1073741824) f) ++ [slowed v (b1, b2, b3, b4)]) (v := _) (vx := .slice A10 M10 C10) (cutF [x] t 1073741824) rfl rfl HS10.out HOUT10.out HBW10.out (by have := HFL.out; have := cut_short (f := -1073741824) (t := f) (x := x); have := cut_short (f := t) (t := 1073741824) (x := x); rw [List.length_append, List.length_append, List.length_singleton]; omega) ?_; rintro v11 w11 ⟨h11, b11, -, -⟩; have R11 := Lib.hid h11; have B11 := Lib.hid b11; clear h11 b11)
          go_roundw
          case rel =>
            have e2 : limR f t v (p.take j) ++ cutF [x] (-1073741824) f ++ [slowed v (b1, b2, b3, b4)] ++ cutF [x] t 1073741824 = limR f t v (p.take (j + 1)) := by
              rw [HFY.out (by first | rfl | trivial), ← HDP.out (by first | rfl | trivial), HPF.out, List.append_assoc, List.append_assoc, List.append_assoc]
            have R12 := R11.out
            rw [e2] at R12
            refine ⟨j + 1, by simp, by rw [HN.out]; omega, ?_, R12, B11.out⟩
            rw [HFY.out (by first | rfl | trivial), List.length_append]
            have := HFL.out
            have := div_len f t v x
            omega
          case measure => simp [RowKit.intOf]; omega
    · have he : j = N := by omega
      subst he
      have hta : p.take j = p := List.take_of_length_le (by rw [HN.out]; exact Nat.le_refl _)
      rw [hta] at HO
      clear hta HFL
      obtain ⟨A1, C1, rfl⟩ := own_shape HO.out
      have HO2 := Lib.hid (show wr.ownsRow w.heap.size 25 4 (.slice A1 (limR f t v p).length C1) (limR f t v p).length ((limR f t v p).flatMap sgC) from HO.out)
      clear HO
      obtain ⟨l, hl2⟩ : ∃ l, limR f t v p = l := ⟨_, rfl⟩
      rw [hl2] at HO2 HF ⊢
      obtain ⟨M, hM⟩ : ∃ M, l.length = M := ⟨_, rfl⟩
      rw [hM] at HO2 HF ⊢
      have HM := Lib.hid hM
      clear hM hl2
      by_cases hlong : 128 < M
      · have h1 : (128 : Int) < (M : Int) := by omega
        have HF2 : Hid (r = []) := by
          show _ = _
          rw [HF.out, if_pos hlong]
        go_wp2_with fail
        go_ret
        rw [HF2.out]
        exact ⟨_, rfl, World.ownsRow_nil _ _ _ _, HB.out⟩
      · have h1 : ¬ (128 : Int) < (M : Int) := by omega
        have HF2 : Hid (r = l) := by
          show _ = _
          rw [HF.out, if_neg hlong]
        go_wp2_with fail
        go_ret
        rw [HF2.out]
        exact ⟨_, rfl, by rw [HM.out]; exact HO2.out, HB.out⟩

end Go.Proofs.Ytkoldgammeojkaa.Rlm
