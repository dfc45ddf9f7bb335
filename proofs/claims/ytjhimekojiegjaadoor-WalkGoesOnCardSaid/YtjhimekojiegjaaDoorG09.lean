/- Texts of this proof, merged: Wpst. -/
import Derived.Test.YtjhimekojiegjaaDoorG05
import Derived.Test.YtjhimekojiegjaaDoorG08

/- The program's Settings (walk). -/
namespace Go.Proofs.YtjhimekojiegjaaDoor.Wpst
open Go.RowKit Go.Lib Go.Proofs.YtjhimekojiegjaaDoor.Reads Go.Proofs.YtjhimekojiegjaaDoor.Rows2 Go.Proofs.YtjhimekojiegjaaDoor.Lay Go.Proofs.YtjhimekojiegjaaDoor.Layf Go.Proofs.YtjhimekojiegjaaDoor.Ldup Go.Proofs.YtjhimekojiegjaaDoor.Lext Go.Proofs.YtjhimekojiegjaaDoor.Way Go.Proofs.YtjhimekojiegjaaDoor.Wrf Go.Proofs.YtjhimekojiegjaaDoor.Wlst Go.Proofs.YtjhimekojiegjaaDoor.Wmea Go.Proofs.YtjhimekojiegjaaDoor.Wele Go.Proofs.YtjhimekojiegjaaDoor.Wcpt Go.Proofs.YtjhimekojiegjaaDoor.Wsrt
open Go.Proofs.YtjhimekojiegjaaDoor.Rtab (RTab rtab_next)
open Go.Proofs.YtjhimekojiegjaaDoor.Text hiding lineL joinR
open Go.Proofs.YtjhimekojiegjaaDoor.Rail (needF)

/-- The settings of a way in its order, these having been seen. -/
def rawR (els : List Elem) (acc : List (Int × Int)) : List Stp → List (Int × Int)
  | [] => acc
  | s :: r => if (needS els s).2 = true ∧ (needS els s).1 ≠ 0 then rawR els (acc ++ [(s.1, (needS els s).1)]) r else rawR els acc r
/-- The program's list. -/
def psetF (els : List Elem) (way : List Stp) : List (Int × Int) := compF (sortF (rawR els [] way))

theorem sort_none : compF (sortF []) = [] := by simp [sortF, compF]
theorem need_pos (k i o : Int) : (needF k i o).2 = true → ((needF k i o).1 ≠ 0 ↔ k = 2) := by
  intro h
  rcases Rail.kinds k with rfl | rfl | rfl | hk
  · simp only [needF, Rail.needR, Rail.rows] at h ⊢
    repeat' split
    all_goals simp_all
  · simp only [needF, Rail.needR, Rail.rows] at h ⊢
    revert h
    repeat' split
    all_goals simp_all
  · simp only [needF, Rail.needR, Rail.rows] at h ⊢
    repeat' split
    all_goals simp_all
  · simp [Rail.need_none hk] at h
theorem raw_yes {els : List Elem} {acc : List (Int × Int)} {s : Stp} {r : List Stp} (h : (needS els s).2 = true) (hk : (elG els s.1).kind = 2) : rawR els acc (s :: r) = rawR els (acc ++ [(s.1, (needS els s).1)]) r := by
  have h2 : (needS els s).1 ≠ 0 := by
    have h3 := h
    rw [← needG] at h3
    rw [← needG]
    exact (need_pos _ _ _ h3).2 hk
  rw [rawR, if_pos ⟨h, h2⟩]
theorem raw_no {els : List Elem} {acc : List (Int × Int)} {s : Stp} {r : List Stp} (h : (needS els s).2 = false ∨ (elG els s.1).kind ≠ 2) : rawR els acc (s :: r) = rawR els acc r := by
  rw [rawR, if_neg]
  rintro ⟨h1, h2⟩
  rcases h with h | h
  · rw [h] at h1; cases h1
  · rw [← needG] at h1 h2
    exact h ((need_pos _ _ _ h1).1 h2)

/-- What holds at the head of the loop of Settings. -/
def TRel (L : Lay) (way : List Stp) (r : List (Int × Int)) (W : World) (vout vj : Value) (wr : World) : Prop :=
  ∃ (j : Nat) (acc : List (Int × Int)), vj = .int .i64 (j : Int) ∧ j ≤ way.length ∧ rawR L.els acc (way.drop j) = r ∧ acc.length ≤ j ∧ wr.ownsRow W.heap.size 52 2 vout acc.length (acc.flatMap pCells) ∧ Below W.heap.size W wr

/-- A row of the call's own, as it can be written. -/
theorem row_of_own {w : World} {base : Nat} {v : Value} {l : List (Int × Int)} (h : w.ownsRow base 52 2 v l.length (l.flatMap pCells)) :
    (v = .slice none 0 0 ∧ l = []) ∨ ∃ g cap, v = .slice (some ⟨g, 0, none⟩) l.length cap ∧ base ≤ g ∧ g < w.heap.size ∧ l.length ≤ cap ∧ cap ≤ maxLen ∧ HRow g 0 w l := by
  have h0 := h
  obtain ⟨_, hor⟩ := h
  rcases hor with ⟨rfl, hl⟩ | ⟨g, cap, cur, rfl, hg, hh, hn, hm, hs, ht⟩
  · exact .inl ⟨rfl, List.length_eq_zero_iff.1 hl⟩
  · refine .inr ⟨g, cap, rfl, hg, (Array.getElem?_eq_some_iff.1 hh).1, hn, hm, fun i x hx => ?_⟩
    have hgr := Lown.grid_of_own pCells p_len h0
    obtain ⟨_, _, he, _, _, _, h5⟩ := hgr.shape
    obtain ⟨b, off, e, _, hc⟩ := h5 i _ (by rw [List.getElem?_map, hx]; rfl)
    simp only [Value.slice.injEq] at he
    rw [← he.1] at e
    cases e
    exact ⟨hc 0 _ rfl, hc 1 _ rfl, h0.frozenAt _, h0.frozenAt _⟩

/-- A row that can be written reads as its list. -/
theorem grid_row {ok : Nat → Prop} {g cap : Nat} {w : World} {l : List (Int × Int)} (h : HRow g 0 w l) (hg : ok g) (hl : l.length ≤ cap) (hc : cap ≤ maxLen) : Grid ok w (.slice (some ⟨g, 0, none⟩) l.length cap) 2 (l.map pCells) := by
  refine ⟨_, cap, by rw [List.length_map], by rw [List.length_map]; exact hl, hc, .inr ⟨g, 0, rfl, hg, fun i r hr j x hx => ?_⟩⟩
  rw [List.getElem?_map] at hr
  cases hy : l[i]? with
  | none => rw [hy] at hr; cases hr
  | some y =>
    rw [hy] at hr
    cases hr
    obtain ⟨y0, y1, _, _⟩ := h i y hy
    match j, hx with
    | 0, hx => cases hx; exact y0
    | 1, hx => cases hx; exact y1
    | j + 2, hx => simp [pCells] at hx

theorem but_below {g B : Nat} {w w' : World} (h : But g w.heap.size w w') (hB : B ≤ w.heap.size) (hg : B ≤ g) : Below B w w' :=
  ⟨h.os, h.tape, h.output, h.size, fun k hk => h.block k (by omega) (by omega)⟩

set_option maxRecDepth 100000 in
set_option maxHeartbeats 3200000 in
theorem psettings_any (L : Lay) {way : List Stp} {vs ve vj vg vb v : Value} (w : World) (h : LayAt (In w) w L vs ve vj vg vb) (hv : Grid (In w) w v 3 (way.map stCells)) (hd : RTab w) (hn : way.length ≤ 1000) :
    Calls Tryd.prog 24 #[layV L vs ve vj vg vb, v] w (MadeOut pCells 2 (psetF L.els way) w) := by
  obtain ⟨a2, cap2, rfl, hm2, _⟩ := way_cells hv
  obtain ⟨r, hr⟩ : ∃ r, rawR L.els [] way = r := ⟨_, rfl⟩
  have HQ := Lib.hid (show psetF L.els way = compF (sortF r) by rw [psetF, hr])
  have HR := Lib.hid (show rawR L.els [] (way.drop 0) = r by rw [List.drop_zero]; exact hr)
  have b0 := (Below.refl w.heap.size w).alloc (Nat.le_refl _) (.cells #[.string (bs L.name), vs, ve, vj, vg, vb] 28)
  have HH := Lib.hid (h.next b0)
  have HD := Lib.hid (rtab_next hd b0)
  have HV := Lib.hid (hv.keep (keep_next b0))
  have B0 := Lib.hid b0
  have HX := Lib.hid (lbox_new w 28 L vs ve vj vg vb)
  have HS0 : Hid (w.heap.size < (w.alloc (.cells #[.string (bs L.name), vs, ve, vj, vg, vb] 28)).heap.size) := by simp [Hid]
  obtain ⟨i0, hi0, hz0, hz1, hz2⟩ := info_parts infoG
  have HI0 := Lib.hid hi0
  have HZ0 := Lib.hid hz0
  have HZ1 := Lib.hid hz1
  have HZ2 := Lib.hid hz2
  clear hi0 hz0 hz1 hz2
  clear h hv hr b0 hd
  unfold layV
  go_enter Tryd.func24, Tryd.ntmps24
  go_wp2_with fail
  obtain ⟨W, hW⟩ : ∃ W, w.alloc (.cells #[.string (bs L.name), vs, ve, vj, vg, vb] 28) = W := ⟨_, rfl⟩
  rw [hW] at B0 HH HX HS0 HV HD ⊢
  clear hW
  obtain ⟨_, _, he, _, hcw⟩ := way_cells HV.out
  cases he
  have HC := Lib.hid hcw
  clear hcw
  go_loopw [5, 12] (fun vout vj2 wr => TRel L way r W vout vj2 wr) (fun _ vj2 _ => way.length - (RowKit.intOf vj2).toNat)
  case atStart => exact ⟨0, [], rfl, Nat.zero_le _, HR.out, Nat.le_refl _, World.ownsRow_nil _ _ _ _, Below.refl _ _⟩
  case round =>
    obtain ⟨j, acc, rfl, hj, hr, ha, ho, hb⟩ := hrel
    have HJ := Lib.hid hr
    have HA := Lib.hid ha
    have HO := Lib.hid ho
    have HB := Lib.hid hb
    clear hr ha ho hb
    by_cases hlt : j < way.length
    · obtain ⟨x, hx⟩ := at_lt hlt
      rw [Layf.drop_at hx] at HJ
      obtain ⟨a0, a1, a2, a3, a4, a5⟩ := HX.out.next HB.out HS0.out
      obtain ⟨b, off, rfl, hbl, c0, c1, c2⟩ := HC.out wr HB.out j x hx
      obtain ⟨s1, s2, s3⟩ := x
      simp only at c0 c1 c2
      have b1 := HB.out.alloc HB.out.size (.cells #[.int .i64 s1, .int .i64 s2, .int .i64 s3] 30)
      have hlt0 : w.heap.size < wr.heap.size := Nat.lt_of_lt_of_le HS0.out HB.out.size
      have C1 := Lib.hid (pneed_any L (s1, s2, s3) _ (HH.out.next b1) (rtab_next HD.out b1))
      unfold layV stV at C1
      try simp only at C1
      have B1 := Lib.hid b1
      have D1 := Lib.hid ((Below.refl wr.heap.size wr).alloc (Nat.le_refl _) (.cells #[.int .i64 s1, .int .i64 s2, .int .i64 s3] 30))
      have HST : Hid (∀ j, (wr.alloc (.cells #[.int .i64 s1, .int .i64 s2, .int .i64 s3] 30)).cell? ⟨wr.heap.size, j, none⟩ = (#[.int .i64 s1, .int .i64 s2, .int .i64 s3] : Array Value)[j]?) := fun j => by rw [World.cell?_alloc_at _ _ _ _ rfl]
      have HSZ : Hid (wr.heap.size < (wr.alloc (.cells #[.int .i64 s1, .int .i64 s2, .int .i64 s3] 30)).heap.size) := by simp [Hid]
      have HY := Lib.hid (fun h hk => raw_yes (els := L.els) (acc := acc) (s := (s1, s2, s3)) (r := way.drop (j + 1)) h hk)
      have HNO := Lib.hid (fun h => raw_no (els := L.els) (acc := acc) (s := (s1, s2, s3)) (r := way.drop (j + 1)) h)
      obtain ⟨⟨r1, r2⟩, hrr⟩ : ∃ q, needS L.els (s1, s2, s3) = q := ⟨_, rfl⟩
      rw [hrr] at C1 HY HNO
      simp only at HY HNO
      unfold NumB at C1
      try simp only at C1
      clear hx b1 hrr
      go_wp2_with fail
      refine C1.out.mono ?_
      rintro e w1 ⟨rfl, b2⟩
      have B2 := Lib.hid (bel_next B1.out b2)
      have D2 := Lib.hid (bel_next D1.out b2)
      obtain ⟨q0, q1, q2⟩ : w1.cell? ⟨wr.heap.size, 0, none⟩ = some (.int .i64 s1) ∧ w1.cell? ⟨wr.heap.size, 1, none⟩ = some (.int .i64 s2) ∧ w1.cell? ⟨wr.heap.size, 2, none⟩ = some (.int .i64 s3) := ⟨(b2.cell (p := ⟨wr.heap.size, 0, none⟩) HSZ.out).trans (HST.out 0), (b2.cell (p := ⟨wr.heap.size, 1, none⟩) HSZ.out).trans (HST.out 1), (b2.cell (p := ⟨wr.heap.size, 2, none⟩) HSZ.out).trans (HST.out 2)⟩
      have hlt1 : wr.heap.size < w1.heap.size := Nat.lt_of_lt_of_le HSZ.out b2.size
      clear b2 a0 a1 a2 a3 a4 a5 c0 c1 c2
      obtain ⟨a0, a1, a2, a3, a4, a5⟩ := HX.out.next B2.out HS0.out
      cases r2 with
      | false =>
        have HF := Lib.hid (show rawR L.els acc (way.drop (j + 1)) = r by rw [← HJ.out, HNO.out (.inl rfl)])
        have HO6 := Lib.hid (Lele.own_below HO.out D2.out)
        go_wp2_with fail
        go_roundw
        case rel => exact ⟨j + 1, acc, by simp, hlt, HF.out, Nat.le_succ_of_le HA.out, HO6.out, B2.out⟩
        case measure => simp [RowKit.intOf]; omega
      | true =>
        have C2 := Lib.hid (pelement_any L s1 w1 (HH.out.next B2.out))
        obtain ⟨⟨nm, kd, ln, gr, sp, sl, sc⟩, hel⟩ : ∃ x, elG L.els s1 = x := ⟨_, rfl⟩
        rw [hel] at C2 HY HNO
        simp only at HY HNO
        unfold layV ElemOut eV at C2
        try simp only at C2
        have hfd := fun w => field_kind (bs nm) kd ln gr sp sl sc w
        clear hel
        by_cases hk : kd = 2
        · subst hk
          have HF := Lib.hid (show rawR L.els (acc ++ [(s1, r1)]) (way.drop (j + 1)) = r by rw [← HJ.out]; first | exact (HY.out trivial rfl).symm | exact (HY.out rfl).symm | exact (HY.out rfl rfl).symm)
          go_wp2_with fail
          refine C2.out.mono ?_
          rintro e w2 ⟨rfl, b3⟩
          have B3 := Lib.hid (bel_next B2.out b3)
          have HO6 := Lib.hid (Lele.own_below HO.out (bel_next D2.out b3))
          have p0 := (b3.cell (p := ⟨wr.heap.size, 0, none⟩) hlt1).trans q0
          have hlt2 : wr.heap.size < w2.heap.size := Nat.lt_of_lt_of_le hlt1 b3.size
          clear b3 q0 q1 q2 a0 a1 a2 a3 a4 a5
          go_wp2_with (at_builtin; refine wp_append_row rfl (.tmp 31) (.tmp 36) 46 rfl W 52 i0 (.agg #[.int .i64 0, .int .i64 0]) 2 16 Tryd.underlying46 HI0.out HZ0.out HZ1.out HZ2.out rfl (by decide) pCells p_len p_one (s1, r1) rfl rfl (by simp) rfl HO6.out B3.out (by have := HA.out; omega) (by have := HA.out; unfold maxLen; omega) ?_; intro v5 w5 o5 f5; have O5 := Lib.hid o5; have F5 := Lib.hid f5; clear o5 f5)
          go_roundw
          case rel => exact ⟨j + 1, acc ++ [(s1, r1)], by simp, hlt, HF.out, by have := HA.out; simp; omega, O5.out, F5.out⟩
          case measure => simp [RowKit.intOf]; omega
        · have hkq : (kd == 2) = false := by simpa using hk
          have HF := Lib.hid (show rawR L.els acc (way.drop (j + 1)) = r by rw [← HJ.out, HNO.out (.inr hk)])
          clear hk
          go_wp2_with fail
          refine C2.out.mono ?_
          rintro e w2 ⟨rfl, b3⟩
          have B3 := Lib.hid (bel_next B2.out b3)
          have HO6 := Lib.hid (Lele.own_below HO.out (bel_next D2.out b3))
          clear b3
          go_wp2_with fail
          go_roundw
          case rel => exact ⟨j + 1, acc, by simp, hlt, HF.out, Nat.le_succ_of_le HA.out, HO6.out, B3.out⟩
          case measure => simp [RowKit.intOf]; omega
    · have he : j = way.length := by omega
      subst he
      have HF := Lib.hid (show acc = r by rw [← HJ.out, List.drop_length]; rfl)
      have hall : acc.length ≤ 1000 := Nat.le_trans HA.out hn
      rcases row_of_own HO.out with ⟨rfl, hl⟩ | ⟨g, cap, rfl, hgb, hgw, hgl, hgm, hrow⟩
      · subst hl
        have HN1 := Lib.hid (sort_nil wr)
        have HN2 := Lib.hid (compact_nil wr)
        clear hall
        go_wp2_with fail
        refine HN1.out.mono ?_
        rintro e w1 ⟨rfl, rfl⟩
        go_wp2_with fail
        refine HN2.out.mono ?_
        rintro e w1 ⟨rfl, rfl⟩
        go_wp2_with fail
        go_ret
        rw [HQ.out, ← HF.out, sort_none]
        exact made_nil _ _ (bel_next B0.out HB.out)
      · have HN1 := Lib.hid (sort_any (cap := cap) hrow hgw hall)
        have HG := Lib.hid (⟨hgb, hgw, hgl, hgm⟩ : W.heap.size ≤ g ∧ g < wr.heap.size ∧ acc.length ≤ cap ∧ cap ≤ maxLen)
        clear hall hrow hgb hgw hgl hgm
        go_wp2_with fail
        refine HN1.out.mono ?_
        rintro e w1 ⟨rfl, hr1, hb1⟩
        have HR1 := Lib.hid hr1
        have HB1 := Lib.hid hb1
        have HN2 := Lib.hid (compact_any (cap := cap) hr1 (by rw [sort_len]; exact HG.out.2.2.1) HG.out.2.2.2)
        rw [sort_len] at HN2
        clear hr1 hb1
        go_wp2_with fail
        refine HN2.out.mono ?_
        rintro e w2 ⟨rfl, hr2, hb2⟩
        have HR2 := Lib.hid hr2
        have HB2 := Lib.hid hb2
        clear hr2 hb2
        go_wp2_with fail
        go_ret
        rw [HQ.out, ← HF.out]
        obtain ⟨hgb, hgw, hgl, hgm⟩ := HG.out
        have hW1 : W.heap.size ≤ w1.heap.size := Nat.le_trans HB.out.size HB1.out.size
        have hcl : (compF (sortF acc)).length ≤ (sortF acc).length := by
          cases sortF acc with
          | nil => exact Nat.le_refl _
          | cons x q => exact Nat.succ_le_succ (compR_le q x)
        rw [sort_len] at hcl
        refine ⟨_, rfl, grid_row HR2.out ⟨Nat.le_trans B0.out.size hgb, Nat.lt_of_lt_of_le hgw (Nat.le_trans HB1.out.size HB2.out.size)⟩ (by omega) hgm, ?_⟩
        exact bel_next B0.out ((HB.out.trans (but_below HB1.out HB.out.size hgb)).trans (but_below HB2.out hW1 hgb))

end Go.Proofs.YtjhimekojiegjaaDoor.Wpst
