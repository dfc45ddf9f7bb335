/- The program's Limit (profile). -/
import Derived.Test.YtkoldgammeojkaaPdv
namespace Go.Proofs.Ytkoldgammeojkaa.Plm
open Go.RowKit Go.Lib Go.Proofs.Ytkoldgammeojkaa.Reads Go.Proofs.Ytkoldgammeojkaa.Rows2 Go.Proofs.Ytkoldgammeojkaa.Lay Go.Proofs.Ytkoldgammeojkaa.Segs Go.Proofs.Ytkoldgammeojkaa.Psg Go.Proofs.Ytkoldgammeojkaa.Pvd Go.Proofs.Ytkoldgammeojkaa.Phv Go.Proofs.Ytkoldgammeojkaa.Pth Go.Proofs.Ytkoldgammeojkaa.Pat Go.Proofs.Ytkoldgammeojkaa.Pct Go.Proofs.Ytkoldgammeojkaa.Drw Go.Proofs.Ytkoldgammeojkaa.Pdv

theorem lim_append (f t v : Int) : ∀ (a b : List Sg), limR f t v (a ++ b) = limR f t v a ++ limR f t v b
  | [], b => rfl
  | s :: a, b => by rw [List.cons_append, limR, limR, lim_append f t v a b, List.append_assoc]
theorem lim_no {f t v : Int} {p : List Sg} {j : Nat} {x : Sg} (hx : p[j]? = some x) (h : overB f t x = false) : limR f t v (p.take (j + 1)) = limR f t v (p.take j) ++ [x] := by
  rw [take_at hx, lim_append, limR, if_neg (by simp [h])]; rfl
theorem lim_yes {f t v : Int} {p : List Sg} {j : Nat} {x : Sg} (hx : p[j]? = some x) (h : overB f t x = true) : limR f t v (p.take (j + 1)) = limR f t v (p.take j) ++ divideF f t v x := by
  rw [take_at hx, lim_append, limR, if_pos h]; simp [limR]
theorem div_len (f t v : Int) (s : Sg) : (divideF f t v s).length ≤ 3 := by
  have h := List.length_filter_le longB [partF s.1 f s, slowed v (partF f t s), partF t s.2.1 s]
  simpa [divideF] using h
theorem part_wf {f t : Int} {s : Sg} (hs : sgW s) (hf : Lay.Wf f) (ht : Lay.Wf t) : sgW (partF f t s) := by
  obtain ⟨h1, h2, h3, h4⟩ := hs
  refine ⟨?_, ?_, h3, h4⟩
  · rcases (show (partF f t s).1 = s.1 ∨ (partF f t s).1 = f by simp only [partF]; omega) with h | h <;> rw [h] <;> assumption
  · rcases (show (partF f t s).2.1 = s.2.1 ∨ (partF f t s).2.1 = t by simp only [partF]; omega) with h | h <;> rw [h] <;> assumption
theorem slowed_wf {v : Int} {s : Sg} (hs : sgW s) (hv : Lay.Wf v) : sgW (slowed v s) := by
  obtain ⟨h1, h2, h3, h4⟩ := hs
  refine ⟨h1, h2, h3, ?_⟩
  rcases (show (slowed v s).2.2.2 = s.2.2.2 ∨ (slowed v s).2.2.2 = v by simp only [slowed]; omega) with h | h <;> rw [h] <;> assumption
theorem div_wf {f t v : Int} {s : Sg} (hs : sgW s) (hf : Lay.Wf f) (ht : Lay.Wf t) (hv : Lay.Wf v) : ∀ x ∈ divideF f t v s, sgW x := by
  intro x hx
  have := (List.mem_filter.1 hx).1
  simp only [List.mem_cons, List.not_mem_nil, or_false] at this
  rcases this with rfl | rfl | rfl
  · exact part_wf hs hs.1 hf
  · exact slowed_wf (part_wf hs hf ht) hv
  · exact part_wf hs ht hs.2.1

/-- What holds at the head of the loop. -/
def LRel (f t v : Int) (p : List Sg) (W : World) (B : Nat) (T : TypeId) (vl vj : Value) (wr : World) : Prop :=
  ∃ j : Nat, vj = .int .i64 (j : Int) ∧ j ≤ p.length ∧ (limR f t v (p.take j)).length ≤ 3 * j ∧ wr.ownsRow W.heap.size 25 4 vl (limR f t v (p.take j)).length ((limR f t v (p.take j)).flatMap sgC) ∧ Below W.heap.size W wr ∧ wr.heap[B]? = some (.cells #[.int .i64 f, .int .i64 t] T (0, 0))

set_option maxRecDepth 100000 in
set_option maxHeartbeats 3200000 in
theorem limit_any (f t v : Int) {p : List Sg} {vp : Value} {w : World} (h : SegIn w vp p) (hf : Lay.Wf f) (ht : Lay.Wf t) (hv : Lay.Wf v) :
    Calls Try.prog 22 #[vp, .int .i64 f, .int .i64 t, .int .i64 v] w (SegOut (limitF p f t v) w) := by
  have HV := Lib.hid (pvalid_any h.1)
  have HSW := Lib.hid h.2.1
  have HWF := Lib.hid hf
  have HWT := Lib.hid ht
  have HWV := Lib.hid hv
  obtain ⟨q, hq⟩ : ∃ q, validF p = q := ⟨_, rfl⟩
  rw [hq] at HV
  have HQ := Lib.hid hq
  obtain ⟨r, hr⟩ : ∃ r, limitF p f t v = r := ⟨_, rfl⟩
  have HR := Lib.hid hr
  rw [hr]
  obtain ⟨a, cap, rfl, hm, -, -, hel⟩ := segs h.1
  have HE := Lib.hid hel
  obtain ⟨N, hN⟩ : ∃ N, p.length = N := ⟨_, rfl⟩
  have HN := Lib.hid hN
  rw [hN] at hm HV ⊢
  clear h hq hr hel hN hf ht hv
  go_enter Try.func22, Try.ntmps22
  go_wp2_with fail
  refine HV.out.mono ?_
  rintro e w1 ⟨rfl, hb1⟩
  have HB1 := Lib.hid hb1
  clear hb1
  cases q with
  | false =>
    have HF : Hid (r = []) := by
      show _ = _
      rw [← HR.out, limitF, if_pos (.inl HQ.out)]
    go_wp2_with fail
    go_ret
    rw [HF.out]
    exact ⟨_, rfl, World.ownsRow_nil _ _ _ _, HB1.out⟩
  | true =>
  by_cases hv1 : v < 1
  · have HF : Hid (r = []) := by
      show _ = _
      rw [← HR.out, limitF, if_pos (.inr hv1)]
    go_wp2_with fail
    go_ret
    rw [HF.out]
    exact ⟨_, rfl, World.ownsRow_nil _ _ _ _, HB1.out⟩
  have HF : Hid (r = if 128 < (limR f t v p).length then [] else limR f t v p) := by
    show _ = _
    rw [← HR.out, limitF, if_neg (by simp [HQ.out]; omega)]
  have hlen : N ≤ 128 := by have := valid_len HQ.out; rwa [HN.out] at this
  have hbel := (Below.refl w1.heap.size w1).alloc (Nat.le_refl _) (.cells #[.int .i64 f, .int .i64 t] 46)
  have hrow := heap_alloc_new w1 (.cells #[.int .i64 f, .int .i64 t] 46)
  obtain ⟨W, hW⟩ : ∃ W, w1.alloc (.cells #[.int .i64 f, .int .i64 t] 46) = W := ⟨_, rfl⟩
  have hlt : w1.heap.size < W.heap.size := by rw [← hW]; simp
  rw [hW] at hbel hrow
  have HW := Lib.hid hW
  have HBL := Lib.hid (bel_next HB1.out hbel)
  have HRW := Lib.hid hrow
  have HLT := Lib.hid hlt
  clear hW hbel hrow hlt
  go_wp2_with fail
  rw [HW.out]
  go_loopw [10, 25] (fun vl vj wr => LRel f t v p W w1.heap.size 46 vl vj wr) (fun _ vj _ => N - (RowKit.intOf vj).toNat)
  case atStart => exact ⟨0, rfl, Nat.zero_le _, Nat.le_refl _, World.ownsRow_nil _ _ _ _, Below.refl _ _, HRW.out⟩
  case round =>
    obtain ⟨j, rfl, hj, hfl, ho, hb, hrw⟩ := hrel
    rw [HN.out] at hj
    have HB := Lib.hid hb
    have HO := Lib.hid ho
    have HFL := Lib.hid hfl
    have HRX := Lib.hid hrw
    clear hb ho hfl hrw
    by_cases hl : j < N
    · obtain ⟨x, hx⟩ := at_lt (l := p) (k := j) (by rw [HN.out]; exact hl)
      obtain ⟨b, off, rfl, hbl, c0, c1, c2, c3⟩ := HE.out wr (bel_next HBL.out HB.out) j x hx
      have HFN := Lib.hid (lim_no (f := f) (t := t) (v := v) hx)
      have HFY := Lib.hid (lim_yes (f := f) (t := t) (v := v) hx)
      have HOV := Lib.hid (fun w' => overlaps_any f t x w')
      have HDV := Lib.hid (fun w' => divide_any f t v x w')
      have HXW := Lib.hid (HSW.out x (List.mem_of_getElem? hx))
      have HDL := Lib.hid (div_len f t v x)
      obtain ⟨o, ho⟩ : ∃ o, overB f t x = o := ⟨_, rfl⟩
      rw [ho] at HOV HFN HFY
      obtain ⟨V, hV, bV, lV, v0, v1, v2, v3, -⟩ := box_new wr x.1 x.2.1 x.2.2.1 x.2.2.2 25
      have HVV := Lib.hid hV
      have HBV := Lib.hid bV
      have HBX := Lib.hid (bel_next HB.out bV)
      have LV := Lib.hid lV
      have KV := Lib.hid (show V.cell? ⟨wr.heap.size, 0, none⟩ = some (.int .i64 x.1) ∧ V.cell? ⟨wr.heap.size, 1, none⟩ = some (.int .i64 x.2.1) ∧ V.cell? ⟨wr.heap.size, 2, none⟩ = some (.int .i64 x.2.2.1) ∧ V.cell? ⟨wr.heap.size, 3, none⟩ = some (.int .i64 x.2.2.2) from ⟨v0, v1, v2, v3⟩)
      have hstl : w1.heap.size < wr.heap.size := Nat.lt_of_lt_of_le HLT.out HB.out.size
      have hst := (bV.block _ hstl).trans HRX.out
      have HST := Lib.hid hst
      have s0 := cell_of_row wr w1.heap.size 0 _ _ _ HRX.out
      have s1 := cell_of_row wr w1.heap.size 1 _ _ _ HRX.out
      have hstlt : w1.heap.size < V.heap.size := Nat.lt_of_lt_of_le hstl bV.size
      obtain ⟨x1, x2, x3, x4⟩ := x
      simp only at c0 c1 c2 c3 HVV KV
      unfold sgV stV at HOV HDV
      simp only at HOV HDV
      clear hx ho hV bV lV v0 v1 v2 v3 hst
      go_wp2_with fail
      rw [HVV.out]
      refine (HOV.out _).mono ?_
      rintro e w5 ⟨rfl, hb5⟩
      have bw5 := bel_next HBV.out hb5
      have HO5 := Lib.hid (own_below HO.out bw5)
      have HB5 := Lib.hid (bel_next HB.out bw5)
      have hr5 := (hb5.block _ hstlt).trans HST.out
      have HR5 := Lib.hid hr5
      have y0 := (hb5.cell (p := ⟨wr.heap.size, 0, none⟩) LV.out).trans KV.out.1
      have y1 := (hb5.cell (p := ⟨wr.heap.size, 1, none⟩) LV.out).trans KV.out.2.1
      have y2 := (hb5.cell (p := ⟨wr.heap.size, 2, none⟩) LV.out).trans KV.out.2.2.1
      have y3 := (hb5.cell (p := ⟨wr.heap.size, 3, none⟩) LV.out).trans KV.out.2.2.2
      have hlt5 := Nat.lt_of_lt_of_le LV.out hb5.size
      have hst5 := Nat.lt_of_lt_of_le hstlt hb5.size
      clear hb5 bw5 c0 c1 c2 c3 s0 s1
      have s0 := cell_of_row w5 w1.heap.size 0 _ _ _ hr5
      have s1 := cell_of_row w5 w1.heap.size 1 _ _ _ hr5
      clear hr5
      obtain ⟨A3, C3, rfl⟩ := own_shape HO5.out
      obtain ⟨M, hM⟩ : ∃ M, (limR f t v (p.take j)).length = M := ⟨_, rfl⟩
      have HO6 := Lib.hid (show w5.ownsRow W.heap.size 25 4 (.slice A3 (limR f t v (p.take j)).length C3) (limR f t v (p.take j)).length ((limR f t v (p.take j)).flatMap sgC) from HO5.out)
      have HM : Hid ((limR f t v (p.take j)).length = M) := hM
      rw [hM]
      clear HO5 hM
      cases o with
      | false =>
        have HF2 := Lib.hid (HFN.out rfl)
        go_wp2_with (at_builtin; refine wp_seg rfl (.tmp 38) (.tmp 40) rfl W (l := limR f t v (p.take j)) (x1, x2, x3, x4) (v := .slice A3 (limR f t v (p.take j)).length C3) (by rw [HM.out]; rfl) rfl rfl rfl HO6.out HB5.out (by have := HFL.out; omega) ?_; rintro v7 w7 ⟨h7, b7, g7, -⟩; have R7 := Lib.hid h7; have B7 := Lib.hid b7; have G7 := Lib.hid g7; clear h7 b7 g7)
        go_roundw
        case rel =>
          refine ⟨j + 1, by simp, by rw [HN.out]; omega, by rw [HF2.out, List.length_append, List.length_singleton]; have := HFL.out; omega, by rw [HF2.out]; exact R7.out, B7.out, ?_⟩
          refine (G7.out.block _ (by simpa using Nat.lt_succ_of_lt hst5) (fun e => ?_)).trans ?_
          · have := (HO6.out.lt _ e.symm).1
            have := HLT.out
            omega
          · rw [Below.heap_alloc _ _ _ hst5]
            exact HR5.out
        case measure => simp [RowKit.intOf]; omega
      | true =>
        have HF2 := Lib.hid (HFY.out rfl)
        go_wp2_with fail
        refine (HDV.out _).mono ?_
        rintro e w6 h6
        obtain ⟨A4, M4, C4, rfl, HM4, HO4, HB4⟩ := seg_open h6
        clear h6
        have HSI : Hid (SegIn w6 (.slice A4 M4 C4) (divideF f t v (x1, x2, x3, x4))) := Lib.hid (segIn_own HO4.out (div_wf HXW.out HWF.out HWT.out HWV.out))
        have HO7 := Lib.hid (own_below HO6.out HB4.out)
        have HB7 := Lib.hid (bel_next HB5.out HB4.out)
        have HR7 := Lib.hid ((HB4.out.block _ hst5).trans HR5.out)
        have hst7 := Nat.lt_of_lt_of_le hst5 HB4.out.size
        go_wp2_with (at_builtin; refine wp_in rfl (.tmp 32) (.tmp 36) rfl W (l := limR f t v (p.take j)) (v := .slice A3 (limR f t v (p.take j)).length C3) (vx := .slice A4 M4 C4) (divideF f t v (x1, x2, x3, x4)) (by rw [HM.out]; rfl) rfl HSI.out HO7.out HB7.out (by have := HFL.out; have := HDL.out; omega) ?_; rintro v8 w8 ⟨h8, b8, g8, -⟩; have R8 := Lib.hid h8; have B8 := Lib.hid b8; have G8 := Lib.hid g8; clear h8 b8 g8)
        go_roundw
        case rel =>
          refine ⟨j + 1, by simp, by rw [HN.out]; omega, by rw [HF2.out, List.length_append]; have := HFL.out; have := HDL.out; omega, by rw [HF2.out]; exact R8.out, B8.out, ?_⟩
          refine (G8.out.block _ hst7 (fun e => ?_)).trans HR7.out
          have := (HO7.out.lt _ e.symm).1
          have := HLT.out
          omega
        case measure => simp [RowKit.intOf]; omega
    · have he : j = N := by omega
      subst he
      have hta : p.take j = p := List.take_of_length_le (by rw [HN.out]; exact Nat.le_refl _)
      rw [hta] at HO
      clear hta HFL
      obtain ⟨A1, C1, rfl⟩ := own_shape HO.out
      have HO2 := Lib.hid (show wr.ownsRow W.heap.size 25 4 (.slice A1 (limR f t v p).length C1) (limR f t v p).length ((limR f t v p).flatMap sgC) from HO.out)
      clear HO
      obtain ⟨l, hl2⟩ : ∃ l, limR f t v p = l := ⟨_, rfl⟩
      rw [hl2] at HO2 HF ⊢
      obtain ⟨M, hM⟩ : ∃ M, l.length = M := ⟨_, rfl⟩
      rw [hM] at HO2 HF ⊢
      have HM := Lib.hid hM
      clear hM hl2
      by_cases hlong : 128 < M
      · have h1 : (128 : Int) < (M : Int) := by omega
        have HF2 : Hid (r = []) := by
          show _ = _
          rw [HF.out, if_pos hlong]
        go_wp2_with fail
        go_ret
        rw [HF2.out]
        exact ⟨_, rfl, World.ownsRow_nil _ _ _ _, bel_next HBL.out HB.out⟩
      · have h1 : ¬ (128 : Int) < (M : Int) := by omega
        have HF2 : Hid (r = l) := by
          show _ = _
          rw [HF.out, if_neg hlong]
        go_wp2_with fail
        go_ret
        rw [HF2.out]
        exact ⟨_, rfl, own_mono (by rw [HM.out]; exact HO2.out) HBL.out.size, bel_next HBL.out HB.out⟩

end Go.Proofs.Ytkoldgammeojkaa.Plm
