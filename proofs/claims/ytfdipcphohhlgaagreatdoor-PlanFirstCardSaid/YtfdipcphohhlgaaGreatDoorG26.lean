/- Texts of this proof, merged: Phas, Pjoe, Pcls, Pbeh. -/
import Derived.Test.YtfdipcphohhlgaaGreatDoorG25
import Derived.Test.YtfdipcphohhlgaaGreatDoorG19
import Derived.Test.YtfdipcphohhlgaaGreatDoorG05
import Derived.Test.YtfdipcphohhlgaaGreatDoorG03
import Derived.BigRegion
import Derived.Lib.QuietBelow
import Derived.BigGuardPart
import Derived.BigQuiet

/- The program's conditions of a layout, one function each. -/
namespace Go.Proofs.YtfdipcphohhlgaaGreatDoor.Phas
open Go.RowKit Go.Lib Go.Proofs.YtfdipcphohhlgaaGreatDoor.Numt Go.Proofs.YtfdipcphohhlgaaGreatDoor.Reads Go.Proofs.YtfdipcphohhlgaaGreatDoor.Rows2 Go.Proofs.YtfdipcphohhlgaaGreatDoor.Lay Go.Proofs.YtfdipcphohhlgaaGreatDoor.Layf Go.Proofs.YtfdipcphohhlgaaGreatDoor.Lcon Go.Proofs.YtfdipcphohhlgaaGreatDoor.Ldup Go.Proofs.YtfdipcphohhlgaaGreatDoor.Lext Go.Proofs.YtfdipcphohhlgaaGreatDoor.Lnmd Go.Proofs.YtfdipcphohhlgaaGreatDoor.Pbas Go.Proofs.YtfdipcphohhlgaaGreatDoor.Pfn Go.Proofs.YtfdipcphohhlgaaGreatDoor.Peac Go.Proofs.YtfdipcphohhlgaaGreatDoor.Pdis Go.Proofs.YtfdipcphohhlgaaGreatDoor.Lown
open Go.Proofs.YtfdipcphohhlgaaGreatDoor.Ljoi (ne_cases)
open Go.Proofs.YtfdipcphohhlgaaGreatDoor.Lopen (grid_strs)
open Go.Proofs.YtfdipcphohhlgaaGreatDoor.Text hiding lineL joinR

/-! The sizes. -/
theorem limit_split (L : Lay) : limitB L = (decide (1 ≤ (L.els.length : Int) ∧ (L.els.length : Int) ≤ 32) && (decide (1 ≤ (L.secs.length : Int) ∧ (L.secs.length : Int) ≤ 24) && (decide ((L.sigs.length : Int) ≤ 20) && decide ((L.bals.length : Int) ≤ 24)))) := by
  unfold limitB
  rw [Bool.eq_iff_iff]
  simp only [Bool.and_eq_true, decide_eq_true_eq]
  omega
set_option maxRecDepth 100000 in
set_option maxHeartbeats 800000 in
theorem sizes_any (L : Lay) {vs ve vj vg vb : Value} (w : World) (h : LayAt (In w) w L vs ve vj vg vb) :
    Calls Tryz.prog 24 #[layV L vs ve vj vg vb] w (BoolOut (limitB L) w) := by
  obtain ⟨a1, c1, a2, c2, a3, c3, a4, c4, a5, c5, rfl, rfl, rfl, rfl, rfl⟩ := shapes h
  have HB := Lib.hid ((Below.refl w.heap.size w).alloc (Nat.le_refl _) (.cells #[.string (bs L.name), .slice a1 L.secs.length c1, .slice a2 L.els.length c2, .slice a3 L.joints.length c3, .slice a4 L.sigs.length c4, .slice a5 L.bals.length c5] 28))
  have H1 := Lib.hid (fun w => between_any (L.els.length : Int) 1 32 w)
  have H2 := Lib.hid (fun w => between_any (L.secs.length : Int) 1 24 w)
  have HV := Lib.hid (limit_split L)
  obtain ⟨r, hr⟩ : ∃ r, limitB L = r := ⟨_, rfl⟩
  obtain ⟨q1, hq1⟩ : ∃ q, decide (1 ≤ (L.els.length : Int) ∧ (L.els.length : Int) ≤ 32) = q := ⟨_, rfl⟩
  obtain ⟨q2, hq2⟩ : ∃ q, decide (1 ≤ (L.secs.length : Int) ∧ (L.secs.length : Int) ≤ 24) = q := ⟨_, rfl⟩
  obtain ⟨q3, hq3⟩ : ∃ q, decide ((L.sigs.length : Int) ≤ 20) = q := ⟨_, rfl⟩
  obtain ⟨q4, hq4⟩ : ∃ q, decide ((L.bals.length : Int) ≤ 24) = q := ⟨_, rfl⟩
  rw [hr, hq1, hq2, hq3, hq4] at HV
  rw [hq1] at H1
  rw [hq2] at H2
  rw [hr]
  clear hr hq1 hq2 h
  unfold layV
  go_enter Tryz.func24, Tryz.ntmps24
  go_wp2_with fail
  refine (H1.out _).mono ?_
  rintro e w' ⟨rfl, rfl⟩
  cases q1
  · go_wp2_with fail
    go_ret
    exact ⟨by rw [HV.out]; rfl, HB.out⟩
  · go_wp2_with fail
    refine (H2.out _).mono ?_
    rintro e w' ⟨rfl, rfl⟩
    cases q2
    · go_wp2_with fail
      go_ret
      exact ⟨by rw [HV.out]; rfl, HB.out⟩
    · cases q3
      · go_wp2_with fail
        go_ret
        exact ⟨by rw [HV.out]; rfl, HB.out⟩
      · cases q4
        · go_wp2_with fail
          go_ret
          exact ⟨by rw [HV.out]; rfl, HB.out⟩
        · go_wp2_with fail
          go_ret
          exact ⟨by rw [HV.out]; rfl, HB.out⟩

/-! The names. -/
/-- What a call gives that returns a list of texts. -/
def StrsOut (ss : List (List UInt8)) (w : World) (e : Ending) (w' : World) : Prop := ∃ v, e = .returned v ∧ Strs (In w') w' v ss ∧ Below w.heap.size w w'
set_option maxRecDepth 100000 in
theorem elNames_any (L : Lay) {vs ve vj vg vb : Value} (w : World) (h : LayAt (In w) w L vs ve vj vg vb) (hn : L.els.length ≤ 1000) :
    Calls Tryz.prog 61 #[layV L vs ve vj vg vb] w (StrsOut (L.els.map (·.name)) w) := by
  have b1 := (Below.refl w.heap.size w).alloc (Nat.le_refl _) (.cells #[.string (bs L.name), vs, ve, vj, vg, vb] 28)
  have HC := Lib.hid (eachEN (h.next b1).els hn)
  have HB := Lib.hid b1
  have HN := Lib.hid h.elName
  clear h hn b1
  unfold layV
  go_enter Tryz.func61, Tryz.ntmps61
  go_wp2_with fail
  refine HC.out.mono ?_
  rintro e w' ⟨v, rfl, hg, hb⟩
  have HG := Lib.hid (grid_strs (ss := L.els.map (·.name)) (by rw [List.map_map]; exact hg) (by
    intro s hs
    obtain ⟨x, hx, rfl⟩ := List.mem_map.1 hs
    exact HN.out x hx))
  have HB2 := Lib.hid (bel_next HB.out hb)
  clear hg hb
  go_wp2_with fail
  go_ret
  exact ⟨v, rfl, HG.out, HB2.out⟩
set_option maxRecDepth 100000 in
theorem sigNames_any (L : Lay) {vs ve vj vg vb : Value} (w : World) (h : LayAt (In w) w L vs ve vj vg vb) (hn : L.sigs.length ≤ 1000) :
    Calls Tryz.prog 62 #[layV L vs ve vj vg vb] w (StrsOut (L.sigs.map (·.name)) w) := by
  have b1 := (Below.refl w.heap.size w).alloc (Nat.le_refl _) (.cells #[.string (bs L.name), vs, ve, vj, vg, vb] 28)
  have HC := Lib.hid (eachGN (h.next b1).sigs hn)
  have HB := Lib.hid b1
  have HN := Lib.hid h.sigName
  clear h hn b1
  unfold layV
  go_enter Tryz.func62, Tryz.ntmps62
  go_wp2_with fail
  refine HC.out.mono ?_
  rintro e w' ⟨v, rfl, hg, hb⟩
  have HG := Lib.hid (grid_strs (ss := L.sigs.map (·.name)) (by rw [List.map_map]; exact hg) (by
    intro s hs
    obtain ⟨x, hx, rfl⟩ := List.mem_map.1 hs
    exact HN.out x hx))
  have HB2 := Lib.hid (bel_next HB.out hb)
  clear hg hb
  go_wp2_with fail
  go_ret
  exact ⟨v, rfl, HG.out, HB2.out⟩
theorem nameCall (s : List UInt8) (w : World) : Calls Tryz.prog 59 #[.string (bs s)] w (BoolOut (nameL s) w) := (Namew.name_any (bs s) w).mono fun _ _ h => h
theorem tellsName (xs : List (List UInt8)) (w : World) : Tells xs 59 #[] stV nameL w := fun W x _ _ => nameCall x W
theorem byName : ByVal 59 := fun args w => enters_of Tryz.func59 (by kernel_rfl) rfl args w
theorem names_split (L : Lay) : (allNames L).all nameL = (nameL L.name && (L.secs.all nameL && ((L.els.map (·.name)).all nameL && (L.sigs.map (·.name)).all nameL))) := by
  simp [allNames, List.all_append]
set_option maxRecDepth 100000 in
set_option maxHeartbeats 1600000 in
theorem hasNames_any (L : Lay) {vs ve vj vg vb : Value} (w : World) (h : LayAt (In w) w L vs ve vj vg vb) (hn : L.els.length ≤ 1000) (hn2 : L.sigs.length ≤ 1000) :
    Calls Tryz.prog 25 #[layV L vs ve vj vg vb] w (BoolOut ((allNames L).all nameL) w) := by
  have b1 := (Below.refl w.heap.size w).alloc (Nat.le_refl _) (.cells #[.string (bs L.name), vs, ve, vj, vg, vb] 28)
  have hh := h.next b1
  have hx := lbox_new w 28 L vs ve vj vg vb
  have hs0 : w.heap.size < (w.alloc (.cells #[.string (bs L.name), vs, ve, vj, vg, vb] 28)).heap.size := by simp
  obtain ⟨W, hW⟩ : ∃ W, w.alloc (.cells #[.string (bs L.name), vs, ve, vj, vg, vb] 28) = W := ⟨_, rfl⟩
  rw [hW] at b1 hh hx hs0
  have HW := Lib.hid hW
  have B0 := Lib.hid b1
  have HX := Lib.hid hx
  have HS := Lib.hid hs0
  have H0 := Lib.hid (fun w' => nameCall L.name w')
  have H1 := Lib.hid (fun w' (b : Below W.heap.size W w') => allS byName (hh.next b).secs (tellsName L.secs w'))
  have H2 := Lib.hid (fun w' (b : Below W.heap.size W w') => elNames_any L w' (hh.next b) hn)
  have H3 := Lib.hid (fun w' (b : Below W.heap.size W w') => sigNames_any L w' (hh.next b) hn2)
  unfold layV at H2 H3 ⊢
  have HV := Lib.hid (names_split L)
  obtain ⟨r, hr⟩ : ∃ r, (allNames L).all nameL = r := ⟨_, rfl⟩
  obtain ⟨q0, hq0⟩ : ∃ q, nameL L.name = q := ⟨_, rfl⟩
  obtain ⟨q1, hq1⟩ : ∃ q, L.secs.all nameL = q := ⟨_, rfl⟩
  obtain ⟨N1, hn1⟩ : ∃ N, L.els.map (·.name) = N := ⟨_, rfl⟩
  obtain ⟨N2, hn2'⟩ : ∃ N, L.sigs.map (·.name) = N := ⟨_, rfl⟩
  rw [hn1] at H2
  rw [hn2'] at H3
  rw [hr, hq0, hq1, hn1, hn2'] at HV
  rw [hq0] at H0
  rw [hq1] at H1
  rw [hr]
  clear hr hq0 hq1 hn1 hn2' h hh hx hs0 b1 hW hn hn2
  go_enter Tryz.func25, Tryz.ntmps25
  go_wp2_with fail
  rw [HW.out]
  refine (H0.out _).mono ?_
  rintro e w1 ⟨rfl, b1⟩
  obtain ⟨x0, x1, x2, x3, x4, x5⟩ := HX.out.next b1 HS.out
  have B1 := Lib.hid b1
  clear b1
  cases q0
  · go_wp2_with fail
    go_ret
    exact ⟨by rw [HV.out]; rfl, bel_next B0.out B1.out⟩
  · go_wp2_with fail
    refine (H1.out _ B1.out).mono ?_
    rintro e w2 ⟨rfl, b2⟩
    have B2 := Lib.hid (bel_next B1.out b2)
    clear b2 x0 x1 x2 x3 x4 x5
    obtain ⟨x0, x1, x2, x3, x4, x5⟩ := HX.out.next B2.out HS.out
    cases q1
    · go_wp2_with fail
      go_ret
      exact ⟨by rw [HV.out]; rfl, bel_next B0.out B2.out⟩
    · go_wp2_with fail
      refine (H2.out _ B2.out).mono ?_
      rintro e w3 ⟨v1, rfl, s1, b3⟩
      have B3 := Lib.hid (bel_next B2.out b3)
      have S1 := Lib.hid (allS byName s1 (tellsName N1 w3))
      clear b3 s1 x0 x1 x2 x3 x4 x5
      obtain ⟨q2, hq2⟩ : ∃ q, N1.all nameL = q := ⟨_, rfl⟩
      rw [hq2] at HV S1
      clear hq2
      go_wp2_with fail
      refine S1.out.mono ?_
      rintro e w4 ⟨rfl, b4⟩
      have B4 := Lib.hid (bel_next B3.out b4)
      clear b4
      obtain ⟨x0, x1, x2, x3, x4, x5⟩ := HX.out.next B4.out HS.out
      cases q2
      · go_wp2_with fail
        go_ret
        exact ⟨by rw [HV.out]; rfl, bel_next B0.out B4.out⟩
      · go_wp2_with fail
        refine (H3.out _ B4.out).mono ?_
        rintro e w5 ⟨v2, rfl, s2, b5⟩
        have B5 := Lib.hid (bel_next B4.out b5)
        have S2 := Lib.hid (allS byName s2 (tellsName N2 w5))
        clear b5 s2 x0 x1 x2 x3 x4 x5
        obtain ⟨q3, hq3⟩ : ∃ q, N2.all nameL = q := ⟨_, rfl⟩
        rw [hq3] at HV S2
        clear hq3
        go_wp2_with fail
        refine S2.out.mono ?_
        rintro e w6 ⟨rfl, b6⟩
        have B6 := Lib.hid (bel_next B5.out b6)
        clear b6
        go_wp2_with fail
        go_ret
        exact ⟨by rw [HV.out]; rfl, bel_next B0.out B6.out⟩

/-! The names differ. -/
theorem dupN_split (L : Lay) : (!dupN L) = (!dupB L.secs && (!dupB (L.els.map (·.name)) && !dupB (L.sigs.map (·.name)))) := by
  unfold dupN
  rw [Bool.not_or, Bool.not_or]
set_option maxRecDepth 100000 in
set_option maxHeartbeats 1600000 in
theorem hasDistinct_any (L : Lay) {vs ve vj vg vb : Value} (w : World) (h : LayAt (In w) w L vs ve vj vg vb) (hn0 : L.secs.length ≤ 1000) (hn : L.els.length ≤ 1000) (hn2 : L.sigs.length ≤ 1000) :
    Calls Tryz.prog 26 #[layV L vs ve vj vg vb] w (BoolOut (!dupN L) w) := by
  have b1 := (Below.refl w.heap.size w).alloc (Nat.le_refl _) (.cells #[.string (bs L.name), vs, ve, vj, vg, vb] 28)
  have hh := h.next b1
  have hx := lbox_new w 28 L vs ve vj vg vb
  have hs0 : w.heap.size < (w.alloc (.cells #[.string (bs L.name), vs, ve, vj, vg, vb] 28)).heap.size := by simp
  obtain ⟨W, hW⟩ : ∃ W, w.alloc (.cells #[.string (bs L.name), vs, ve, vj, vg, vb] 28) = W := ⟨_, rfl⟩
  rw [hW] at b1 hh hx hs0
  have HW := Lib.hid hW
  have B0 := Lib.hid b1
  have HX := Lib.hid hx
  have HS := Lib.hid hs0
  have H1 := Lib.hid (fun w' (b : Below W.heap.size W w') => distinctS (hh.next b).secs hn0)
  have H2 := Lib.hid (fun w' (b : Below W.heap.size W w') => elNames_any L w' (hh.next b) hn)
  have H3 := Lib.hid (fun w' (b : Below W.heap.size W w') => sigNames_any L w' (hh.next b) hn2)
  unfold layV at H2 H3 ⊢
  have HV := Lib.hid (dupN_split L)
  obtain ⟨r, hr⟩ : ∃ r, (!dupN L) = r := ⟨_, rfl⟩
  obtain ⟨q1, hq1⟩ : ∃ q, (!dupB L.secs) = q := ⟨_, rfl⟩
  have hl1 : (L.els.map (·.name)).length ≤ 1000 := by rw [List.length_map]; exact hn
  have hl2 : (L.sigs.map (·.name)).length ≤ 1000 := by rw [List.length_map]; exact hn2
  obtain ⟨N1, hn1⟩ : ∃ N, L.els.map (·.name) = N := ⟨_, rfl⟩
  obtain ⟨N2, hn2'⟩ : ∃ N, L.sigs.map (·.name) = N := ⟨_, rfl⟩
  rw [hn1] at H2 hl1
  rw [hn2'] at H3 hl2
  rw [hr, hq1, hn1, hn2'] at HV
  rw [hq1] at H1
  rw [hr]
  have HL1 := Lib.hid hl1
  have HL2 := Lib.hid hl2
  clear hr hq1 hn1 hn2' h hh hx hs0 b1 hW hn hn2 hn0 hl1 hl2
  obtain ⟨x0, x1, x2, x3, x4, x5⟩ := HX.out
  go_enter Tryz.func26, Tryz.ntmps26
  go_wp2_with fail
  rw [HW.out]
  refine (H1.out _ (Below.refl _ _)).mono ?_
  rintro e w2 ⟨rfl, b2⟩
  have B2 := Lib.hid b2
  clear b2 x0 x1 x2 x3 x4 x5
  obtain ⟨x0, x1, x2, x3, x4, x5⟩ := HX.out.next B2.out HS.out
  cases q1
  · go_wp2_with fail
    go_ret
    exact ⟨by rw [HV.out]; rfl, bel_next B0.out B2.out⟩
  · go_wp2_with fail
    refine (H2.out _ B2.out).mono ?_
    rintro e w3 ⟨v1, rfl, s1, b3⟩
    have B3 := Lib.hid (bel_next B2.out b3)
    have S1 := Lib.hid (distinctS s1 HL1.out)
    clear b3 s1 x0 x1 x2 x3 x4 x5
    obtain ⟨q2, hq2⟩ : ∃ q, (!dupB N1) = q := ⟨_, rfl⟩
    rw [hq2] at HV S1
    clear hq2
    go_wp2_with fail
    refine S1.out.mono ?_
    rintro e w4 ⟨rfl, b4⟩
    have B4 := Lib.hid (bel_next B3.out b4)
    clear b4
    obtain ⟨x0, x1, x2, x3, x4, x5⟩ := HX.out.next B4.out HS.out
    cases q2
    · go_wp2_with fail
      go_ret
      exact ⟨by rw [HV.out]; rfl, bel_next B0.out B4.out⟩
    · go_wp2_with fail
      refine (H3.out _ B4.out).mono ?_
      rintro e w5 ⟨v2, rfl, s2, b5⟩
      have B5 := Lib.hid (bel_next B4.out b5)
      have S2 := Lib.hid (distinctS s2 HL2.out)
      clear b5 s2 x0 x1 x2 x3 x4 x5
      obtain ⟨q3, hq3⟩ : ∃ q, (!dupB N2) = q := ⟨_, rfl⟩
      rw [hq3] at HV S2
      clear hq3
      go_wp2_with fail
      refine S2.out.mono ?_
      rintro e w6 ⟨rfl, b6⟩
      have B6 := Lib.hid (bel_next B5.out b6)
      clear b6
      go_wp2_with fail
      go_ret
      exact ⟨by rw [HV.out]; rfl, bel_next B0.out B6.out⟩

/-! The sections are not empty. -/
set_option maxRecDepth 100000 in
set_option maxHeartbeats 1600000 in
theorem hasFull_any (L : Lay) {vs ve vj vg vb : Value} (w : World) (h : LayAt (In w) w L vs ve vj vg vb) (hn : L.els.length ≤ 1000) :
    Calls Tryz.prog 28 #[layV L vs ve vj vg vb] w (BoolOut (heldR L 0 L.secs.length) w) := by
  obtain ⟨a, cap, rfl, hm, _⟩ := h.sn
  have b1 := (Below.refl w.heap.size w).alloc (Nat.le_refl _) (.cells #[.string (bs L.name), .slice a L.secs.length cap, ve, vj, vg, vb] 28)
  have hh := h.next b1
  have hx := lbox_new w 28 L (.slice a L.secs.length cap) ve vj vg vb
  have hs0 : w.heap.size < (w.alloc (.cells #[.string (bs L.name), .slice a L.secs.length cap, ve, vj, vg, vb] 28)).heap.size := by simp
  obtain ⟨W, hW⟩ : ∃ W, w.alloc (.cells #[.string (bs L.name), .slice a L.secs.length cap, ve, vj, vg, vb] 28) = W := ⟨_, rfl⟩
  rw [hW] at b1 hh hx hs0
  have HW := Lib.hid hW
  have B0 := Lib.hid b1
  have HX := Lib.hid hx
  have HS := Lib.hid hs0
  have HM := Lib.hid (fun s (hs : s < L.secs.length) w' (b : Below W.heap.size W w') => Pmem.members_any L s w' (hh.next b) hn hs)
  obtain ⟨r, hr⟩ : ∃ r, heldR L 0 L.secs.length = r := ⟨_, rfl⟩
  rw [hr]
  have HR := Lib.hid hr
  unfold layV at HM ⊢
  clear hr h hh hx hs0 b1 hW hn
  go_enter Tryz.func28, Tryz.ntmps28
  go_wp2_with fail
  rw [HW.out]
  go_loopw [7] (fun vi wr => ∃ i : Nat, vi = .int .i64 (i : Int) ∧ i ≤ L.secs.length ∧ r = heldR L i (L.secs.length - i) ∧ Below W.heap.size W wr) (fun vi _ => L.secs.length - (RowKit.intOf vi).toNat)
  case atStart => exact ⟨0, rfl, Nat.zero_le _, by rw [← HR.out]; rfl, Below.refl _ _⟩
  case round =>
    obtain ⟨i, rfl, hi, hri, hb⟩ := hrel
    have HB := Lib.hid hb
    have HI := Lib.hid hri
    obtain ⟨x0, x1, x2, x3, x4, x5⟩ := HX.out.next hb HS.out
    clear hb hri
    by_cases hl : i < L.secs.length
    · obtain ⟨l, hml⟩ : ∃ l, membersF L (i : Int) = l := ⟨_, rfl⟩
      have HC := Lib.hid (HM.out i hl wr HB.out)
      rw [hml] at HC
      have HH := Lib.hid (show r = (!decide (l = []) && heldR L (i + 1) (L.secs.length - (i + 1))) by
        rw [HI.out, show L.secs.length - i = (L.secs.length - (i + 1)) + 1 by omega, held_step hml])
      clear hml
      go_wp2_with fail
      refine HC.out.mono ?_
      rintro e w2 ⟨v, rfl, hg, hb2⟩
      obtain ⟨ga, gc, rfl, -, -, -, -⟩ := hg.shape
      have HB2 := Lib.hid (bel_next HB.out hb2)
      rw [List.length_map]
      clear hb2 hg
      cases l with
      | nil =>
        go_wp2_with fail
        go_ret
        exact ⟨by rw [HH.out]; rfl, bel_next B0.out HB2.out⟩
      | cons y l =>
        have hq : (((y :: l).length : Int) == 0) = false := by simp; omega
        go_wp2_with fail
        go_roundw
        case rel => exact ⟨i + 1, by simp, by omega, by rw [HH.out]; simp, HB2.out⟩
        case measure => simp [RowKit.intOf]; omega
    · have he : i = L.secs.length := by omega
      subst he
      go_wp2_with fail
      go_ret
      exact ⟨by rw [HI.out, Nat.sub_self]; rfl, bel_next B0.out HB.out⟩

end Go.Proofs.YtfdipcphohhlgaaGreatDoor.Phas

/- The program's joinedEnds: a map that gives for each end that is in a joint the other end. -/
namespace Go.Proofs.YtfdipcphohhlgaaGreatDoor.Pjoe
open Go.RowKit Go.Lib Go.Proofs.YtfdipcphohhlgaaGreatDoor.Reads Go.Proofs.YtfdipcphohhlgaaGreatDoor.Rows2 Go.Proofs.YtfdipcphohhlgaaGreatDoor.Lay Go.Proofs.YtfdipcphohhlgaaGreatDoor.Layf Go.Proofs.YtfdipcphohhlgaaGreatDoor.Ldup Go.Proofs.YtfdipcphohhlgaaGreatDoor.Lext Go.Proofs.YtfdipcphohhlgaaGreatDoor.Omap Go.Proofs.YtfdipcphohhlgaaGreatDoor.Omapn Go.Proofs.YtfdipcphohhlgaaGreatDoor.Lmap Go.Proofs.YtfdipcphohhlgaaGreatDoor.Pdis
open Go.Proofs.YtfdipcphohhlgaaGreatDoor.Text hiding lineL joinR

/-- What the map holds after these joints. -/
def mapOf (js : List ((Int × Int) × (Int × Int))) : (Int × Int) → Option (Int × Int) := js.foldl (fun f j => upd (upd f j.1 j.2) j.2 j.1) (fun _ => none)
theorem mapOf_snoc (js : List ((Int × Int) × (Int × Int))) (j : (Int × Int) × (Int × Int)) : mapOf (js ++ [j]) = upd (upd (mapOf js) j.1 j.2) j.2 j.1 := by simp [mapOf, List.foldl_append]
theorem ends_snoc (js : List ((Int × Int) × (Int × Int))) (j : (Int × Int) × (Int × Int)) : endsOf (js ++ [j]) = (endsOf js ++ [j.1]) ++ [j.2] := by simp [endsOf]
theorem join_mem (e : Int × Int) : ∀ js : List ((Int × Int) × (Int × Int)), (Layf.joinR e js).2 = decide (e ∈ endsOf js)
  | [] => by simp [Layf.joinR, endsOf]
  | (a, b) :: l => by
    rw [Layf.joinR]
    have hm : e ∈ endsOf ((a, b) :: l) ↔ e = a ∨ e = b ∨ e ∈ endsOf l := by simp [endsOf]
    by_cases h1 : a = e
    · rw [if_pos h1]
      exact (decide_eq_true (hm.2 (.inl h1.symm))).symm
    · rw [if_neg h1]
      by_cases h2 : b = e
      · rw [if_pos h2]
        exact (decide_eq_true (hm.2 (.inr (.inl h2.symm)))).symm
      · rw [if_neg h2, join_mem e l]
        refine decide_eq_decide.2 (Iff.trans ?_ hm.symm)
        exact ⟨fun h => .inr (.inr h), fun h => by
          rcases h with h | h | h
          · exact absurd h.symm h1
          · exact absurd h.symm h2
          · exact h⟩
theorem join_append (e : Int × Int) (m : List ((Int × Int) × (Int × Int))) : ∀ l : List ((Int × Int) × (Int × Int)), Layf.joinR e (l ++ m) = if (Layf.joinR e l).2 = true then Layf.joinR e l else Layf.joinR e m
  | [] => by simp [Layf.joinR]
  | (a, b) :: l => by
    rw [List.cons_append, Layf.joinR, Layf.joinR]
    by_cases h1 : a = e
    · rw [if_pos h1, if_pos h1]
      rfl
    · rw [if_neg h1, if_neg h1]
      by_cases h2 : b = e
      · rw [if_pos h2, if_pos h2]
        rfl
      · rw [if_neg h2, if_neg h2]
        exact join_append e m l
/-- Where no end is in two joints, the map is the function. -/
theorem map_join (e : Int × Int) : ∀ (n : Nat) (js : List ((Int × Int) × (Int × Int))), js.length = n → dupB (endsOf js) = false → mapOf js e = if (Layf.joinR e js).2 = true then some (Layf.joinR e js).1 else none
  | 0, js, hl, _ => by
    have := List.length_eq_zero_iff.1 hl
    subst this
    simp [mapOf, Layf.joinR]
  | n + 1, js, hl, hd => by
    obtain ⟨l, x, rfl⟩ : ∃ l x, js = l ++ [x] := ⟨js.dropLast, js.getLast (by intro h; rw [h] at hl; simp at hl), (List.dropLast_concat_getLast _).symm⟩
    obtain ⟨a, b⟩ := x
    rw [ends_snoc, dup_snoc, dup_snoc, Bool.or_eq_false_iff, Bool.or_eq_false_iff] at hd
    obtain ⟨⟨h0, h1⟩, h2⟩ := hd
    simp only [decide_eq_false_iff_not, List.mem_append, List.mem_singleton, not_or] at h1 h2
    have ih := map_join e n l (by simpa using hl) h0
    rw [mapOf_snoc, join_append]
    have hjm := join_mem e l
    unfold upd
    simp only
    by_cases hb : e = b
    · subst hb
      have hne : ¬ a = e := fun h => h2.2 h.symm
      rw [if_pos rfl, if_neg (show ¬ ((Layf.joinR e l).2 = true) by rw [hjm]; simpa using h2.1)]
      simp [Layf.joinR, hne]
    · rw [if_neg hb]
      by_cases ha : e = a
      · subst ha
        rw [if_pos rfl, if_neg (show ¬ ((Layf.joinR e l).2 = true) by rw [hjm]; simpa using h1)]
        simp [Layf.joinR]
      · rw [if_neg ha, ih]
        by_cases hm : (Layf.joinR e l).2 = true
        · rw [if_pos hm, if_pos hm, if_pos hm]
        · have ha' : ¬ a = e := fun h => ha h.symm
          have hb' : ¬ b = e := fun h => hb h.symm
          rw [if_neg hm, if_neg hm]
          simp [Layf.joinR, ha', hb']

/-- What holds at the head of the loop. -/
def JRel (js : List ((Int × Int) × (Int × Int))) (w : World) (b : Nat) (vj : Value) (wr : World) : Prop :=
  ∃ j n c : Nat, vj = .int .i64 (j : Int) ∧ j ≤ js.length ∧ n ≤ 2 * j ∧ IsC endEnd wr b n c (mapOf (js.take j)) ∧ Keys (mapOf (js.take j)) (endsOf (js.take j)) ∧ Cd (endsOf (js.take j)) c ∧ Below w.heap.size w wr
theorem jrel_next {js : List ((Int × Int) × (Int × Int))} {w wr w1 w2 : World} {b j n c : Nat} {x y : Int × Int} (hx : js[j]? = some (x, y)) (hn : n ≤ 2 * j) (hk : Keys (mapOf (js.take j)) (endsOf (js.take j))) (hc : Cd (endsOf (js.take j)) c) (hb : Below w.heap.size w wr) (hbb : w.heap.size ≤ b)
    {c1 c2 : Nat} (e1 : c1 = if (mapOf (js.take j) x).isSome = true then c else c + 1) (e2 : c2 = if (upd (mapOf (js.take j)) x y y).isSome = true then c1 else c1 + 1)
    (h2 : IsC endEnd w2 b (n + 1 + 1) c2 (upd (upd (mapOf (js.take j)) x y) y x)) (g1 : wr.grownBy w1 (some b)) (g2 : w1.grownBy w2 (some b)) : JRel js w b (.int .i64 ((j : Int) + 1)) w2 := by
  have hj := (List.getElem?_eq_some_iff.1 hx).1
  refine ⟨j + 1, n + 1 + 1, c2, by simp, hj, by omega, ?_, ?_, ?_, below_map (below_map hb g1 hbb) g2 hbb⟩
  · rw [take_more hx, mapOf_snoc]
    exact h2
  · rw [take_more hx, mapOf_snoc, ends_snoc]
    exact keys_snoc (keys_snoc hk)
  · rw [take_more hx, ends_snoc, e2, e1]
    exact cd_snoc (cd_snoc hc (hk x)) (keys_snoc hk y)
/-- What the call gives. -/
def MapOut (js : List ((Int × Int) × (Int × Int))) (w : World) (e : Ending) (w' : World) : Prop :=
  ∃ b n c, e = .returned (.map (some b)) ∧ IsC endEnd w' b n c (mapOf js) ∧ Cd (endsOf js) c ∧ Below w.heap.size w w'

theorem hx4 (wr : World) (a b c d : Int) : (wr.alloc (.cells #[.int .i64 a, .int .i64 b, .int .i64 c, .int .i64 d] 49)).cell? ⟨wr.heap.size, 0, none⟩ = some (.int .i64 a) ∧ (wr.alloc (.cells #[.int .i64 a, .int .i64 b, .int .i64 c, .int .i64 d] 49)).cell? ⟨wr.heap.size, 1, none⟩ = some (.int .i64 b) ∧ (wr.alloc (.cells #[.int .i64 a, .int .i64 b, .int .i64 c, .int .i64 d] 49)).cell? ⟨wr.heap.size, 2, none⟩ = some (.int .i64 c) ∧ (wr.alloc (.cells #[.int .i64 a, .int .i64 b, .int .i64 c, .int .i64 d] 49)).cell? ⟨wr.heap.size, 3, none⟩ = some (.int .i64 d) ∧
    wr.heap.size < (wr.alloc (.cells #[.int .i64 a, .int .i64 b, .int .i64 c, .int .i64 d] 49)).heap.size := by
  refine ⟨?_, ?_, ?_, ?_, by simp⟩
  all_goals
    rw [World.cell?_alloc_at _ _ _ _ rfl]
    rfl

set_option maxRecDepth 100000 in
set_option maxHeartbeats 1600000 in
theorem ends_any (L : Lay) {vs ve vj vg vb : Value} (w : World) (h : LayAt (In w) w L vs ve vj vg vb) (hn : L.joints.length ≤ 1000000) :
    Calls Tryz.prog 30 #[layV L vs ve vj vg vb] w (MapOut L.joints w) := by
  obtain ⟨a, cap, rfl, hm, _⟩ := h.jt
  have b1 := (Below.refl w.heap.size w).alloc (Nat.le_refl _) (.cells #[.string (bs L.name), vs, ve, .slice a L.joints.length cap, vg, vb] 28)
  have H0 := h.next b1
  have hx := lbox_new w 28 L vs ve (.slice a L.joints.length cap) vg vb
  have hs : w.heap.size < (w.alloc (.cells #[.string (bs L.name), vs, ve, .slice a L.joints.length cap, vg, vb] 28)).heap.size := by simp
  have hmm := @run_makeMap Tryz.prog
  have JW := Lib.hid h.jwf
  clear h
  unfold layV
  go_enter Tryz.func30, Tryz.ntmps30
  go_wp2_with fail
  obtain ⟨W, hW⟩ : ∃ W, w.alloc (.cells #[.string (bs L.name), vs, ve, .slice a L.joints.length cap, vg, vb] 28) = W := ⟨_, rfl⟩
  have hsz : W.heap.size = w.heap.size + 1 := by rw [← hW]; simp
  rw [hW] at H0 b1 hx hs ⊢
  clear hW
  try rw [← hsz]
  have HSZ := Lib.hid hsz
  clear hsz
  have B0 := Lib.hid b1
  obtain ⟨a', cap', he, _, hel⟩ := H0.jt
  cases he
  have HE := Lib.hid hel
  clear hel H0 hx b1
  have HS := Lib.hid hs
  have HN := Lib.hid hn
  clear hs hn
  go_loopw [10] (fun vj wr => JRel L.joints W W.heap.size vj wr) (fun vj _ => L.joints.length - (RowKit.intOf vj).toNat)
  case atStart => exact ⟨0, 0, 0, rfl, Nat.zero_le _, Nat.le_refl _, by simpa [mapOf] using isC_made endEnd W, by simpa [mapOf, endsOf] using keys_nil, by simpa [endsOf] using cd_nil, (Below.refl _ _).alloc (Nat.le_refl _) _⟩
  case round =>
    obtain ⟨j, n, c, rfl, hj, hnj, hi, hk, hc, hb⟩ := hrel
    have HB := Lib.hid hb
    have HI := Lib.hid hi
    have HK := Lib.hid hk
    have HC := Lib.hid hc
    have hlt := IsC.lt _ hi
    clear hb hi hk hc
    by_cases hl : j < L.joints.length
    · obtain ⟨x, hx⟩ := at_lt hl
      obtain ⟨b, off, rfl, c0, c1, c2, c3⟩ := HE.out wr HB.out j x hx
      have HX := Lib.hid hx
      have HWF := Lib.hid (JW.out x (List.mem_of_getElem? hx))
      clear hx
      obtain ⟨⟨u1, u2⟩, ⟨v1, v2⟩⟩ := x
      simp only at c0 c1 c2 c3
      have hxc := hx4 wr u1 u2 v1 v2
      have hib := IsC.alloc endEnd HI.out (.cells #[.int .i64 u1, .int .i64 u2, .int .i64 v1, .int .i64 v2] 49)
      obtain ⟨Wx, hWx⟩ : ∃ Wx, wr.alloc (.cells #[.int .i64 u1, .int .i64 u2, .int .i64 v1, .int .i64 v2] 49) = Wx := ⟨_, rfl⟩
      rw [hWx] at hxc hib
      obtain ⟨w1, m1, i1, g1⟩ := IsC.update endEnd (t := 60) (w := Wx.drew) (IsC.drew endEnd hib) Tryz.underlying60 (show n < maxLen by have := HN.out; unfold maxLen; omega) (x := (u1, u2)) HWF.out.1 (v1, v2)
      obtain ⟨w2, m2, i2, g2⟩ := IsC.update endEnd (t := 60) i1 Tryz.underlying60 (show n + 1 < maxLen by have := HN.out; unfold maxLen; omega) (x := (v1, v2)) HWF.out.2 (u1, u2)
      change (Instr.mapUpdate 60 (.map (some W.heap.size)) (.agg #[.int .i64 u1, .int .i64 u2]) (.agg #[.int .i64 v1, .int .i64 v2])).run _ _ = _ at m1
      change (Instr.mapUpdate 60 (.map (some W.heap.size)) (.agg #[.int .i64 v1, .int .i64 v2]) (.agg #[.int .i64 u1, .int .i64 u2])).run _ _ = _ at m2
      obtain ⟨d0, d1, d2, d3, d4⟩ := hxc
      have k0 := (cell_same (g1.block wr.heap.size (by simpa using d4) (by intro e; have := Option.some.inj e; omega))).trans d0
      have k1 := (cell_same (p := ⟨wr.heap.size, 1, none⟩) (g1.block wr.heap.size (by simpa using d4) (by intro e; have := Option.some.inj e; omega))).trans d1
      have k2 := (cell_same (p := ⟨wr.heap.size, 2, none⟩) (g1.block wr.heap.size (by simpa using d4) (by intro e; have := Option.some.inj e; omega))).trans d2
      have k3 := (cell_same (p := ⟨wr.heap.size, 3, none⟩) (g1.block wr.heap.size (by simpa using d4) (by intro e; have := Option.some.inj e; omega))).trans d3
      have R2 := Lib.hid i2
      have G1 := Lib.hid g1
      have G2 := Lib.hid g2
      have HWX := Lib.hid hWx
      have BX := Lib.hid (show Below W.heap.size W Wx by rw [← hWx]; exact HB.out.alloc HB.out.size _)
      clear i1 i2 g1 g2 hib hWx
      go_wp2_with fail
      rw [HWX.out]
      go_region
      go_wp2_with fail
      go_roundw
      case rel => exact jrel_next HX.out hnj HK.out HC.out BX.out.drew (Nat.le_refl _) rfl rfl R2.out G1.out G2.out
      case measure => simp [RowKit.intOf]; omega
    · have he : j = L.joints.length := by omega
      subst he
      have hi := HI.out
      have hc := HC.out
      rw [List.take_length] at hi hc
      have R1 := Lib.hid hi
      have R2 := Lib.hid hc
      clear hi hc
      go_wp2_with fail
      go_ret
      exact ⟨_, _, _, rfl, R1.out, R2.out, bel_next B0.out HB.out⟩

end Go.Proofs.YtfdipcphohhlgaaGreatDoor.Pjoe

/- The program's conditions that go by a function literal: elements, joints, signals, sections behind signals, balises. -/
namespace Go.Proofs.YtfdipcphohhlgaaGreatDoor.Pcls
open Go.RowKit Go.Lib Go.Proofs.YtfdipcphohhlgaaGreatDoor.Numt Go.Proofs.YtfdipcphohhlgaaGreatDoor.Reads Go.Proofs.YtfdipcphohhlgaaGreatDoor.Rows2 Go.Proofs.YtfdipcphohhlgaaGreatDoor.Lay Go.Proofs.YtfdipcphohhlgaaGreatDoor.Layf Go.Proofs.YtfdipcphohhlgaaGreatDoor.Lcon Go.Proofs.YtfdipcphohhlgaaGreatDoor.Ldup Go.Proofs.YtfdipcphohhlgaaGreatDoor.Lext Go.Proofs.YtfdipcphohhlgaaGreatDoor.Lnmd Go.Proofs.YtfdipcphohhlgaaGreatDoor.Pbas Go.Proofs.YtfdipcphohhlgaaGreatDoor.Pfn Go.Proofs.YtfdipcphohhlgaaGreatDoor.Lown Go.Proofs.YtfdipcphohhlgaaGreatDoor.Pmem Go.Proofs.YtfdipcphohhlgaaGreatDoor.Omap Go.Proofs.YtfdipcphohhlgaaGreatDoor.Omapn Go.Proofs.YtfdipcphohhlgaaGreatDoor.Lmap Go.Proofs.YtfdipcphohhlgaaGreatDoor.Pjoe
open Go.Proofs.YtfdipcphohhlgaaGreatDoor.Ljoi (ne_cases)
open Go.Proofs.YtfdipcphohhlgaaGreatDoor.Text hiding lineL joinR

/-- A layout in a box that a function literal captured. -/
structure Cap (B : Nat) (w : World) (L : Lay) (vs ve vj vg vb : Value) : Prop where
  box : LBox B w L vs ve vj vg vb
  lt : B < w.heap.size
  lay : LayAt (In w) w L vs ve vj vg vb
theorem Cap.next {B : Nat} {w w' : World} {L : Lay} {vs ve vj vg vb : Value} (h : Cap B w L vs ve vj vg vb) (hb : Below w.heap.size w w') : Cap B w' L vs ve vj vg vb :=
  ⟨h.box.next hb h.lt, Nat.lt_of_lt_of_le h.lt hb.size, h.lay.next hb⟩
theorem cap_new (w : World) (L : Lay) {vs ve vj vg vb : Value} (h : LayAt (In w) w L vs ve vj vg vb) : Cap w.heap.size (w.alloc (.cells #[.string (bs L.name), vs, ve, vj, vg, vb] 28)) L vs ve vj vg vb :=
  ⟨lbox_new w _ L vs ve vj vg vb, by simp, h.box _⟩

/-! Elements. -/
def slowB (x : Elem) : Bool := if x.kind = 2 then decide (100 ≤ x.slow ∧ x.slow ≤ x.speed) else decide (x.slow = 0)
set_option maxRecDepth 100000 in
theorem slow_any (x : Elem) (w : World) : Calls Tryz.prog 67 #[elV x] w (BoolOut (slowB x) w) := by
  have HB := Lib.hid (fun o => (Below.refl w.heap.size w).alloc (Nat.le_refl _) o)
  unfold slowB
  obtain ⟨nm, kd, ln, gr, sp, sl, sc⟩ := x
  unfold elV
  simp only
  by_cases hk : kd = 2
  · subst hk
    rw [if_pos rfl]
    have H := Lib.hid (fun w => between_any sl 100 sp w)
    obtain ⟨q, hq⟩ : ∃ q, decide (100 ≤ sl ∧ sl ≤ sp) = q := ⟨_, rfl⟩
    rw [hq] at H ⊢
    clear hq
    go_enter Tryz.func67, Tryz.ntmps67
    go_wp2_with fail
    refine (H.out _).mono ?_
    rintro e w' ⟨rfl, rfl⟩
    go_wp2_with fail
    go_ret
    exact ⟨rfl, HB.out _⟩
  · rw [if_neg hk]
    have hq : (kd == 2) = false := by simpa using hk
    rw [show decide (sl = 0) = (sl == 0) from rfl]
    clear hk
    go_enter Tryz.func67, Tryz.ntmps67
    go_wp2_with fail
    go_ret
    exact ⟨rfl, HB.out _⟩
theorem right_split (n : Nat) (x : Elem) : rightB n x = (decide (0 < sidesN x.kind) && (decide (500 ≤ x.len ∧ x.len ≤ 1000000) && (decide (-50 ≤ x.grade ∧ x.grade ≤ 50) && (decide (100 ≤ x.speed ∧ x.speed ≤ 10000) && (slowB x && decide (0 ≤ x.sec ∧ x.sec < (n : Int))))))) := by
  have hs : decide (0 < sidesN x.kind) = decide (1 ≤ x.kind ∧ x.kind ≤ 3) := by
    refine decide_eq_decide.2 ?_
    unfold sidesN
    split
    · omega
    · split
      · omega
      · split <;> omega
  rw [hs, Bool.eq_iff_iff]
  unfold rightB slowB
  by_cases hk : x.kind = 2
  · rw [if_pos hk]
    simp only [Bool.and_eq_true, decide_eq_true_eq]
    omega
  · rw [if_neg hk]
    simp only [Bool.and_eq_true, decide_eq_true_eq]
    omega
set_option maxRecDepth 100000 in
set_option maxHeartbeats 1600000 in
theorem tellRight (L : Lay) {xs : List Elem} {vs ve vj vg vb : Value} (B : Nat) (w : World) (h : Cap B w L vs ve vj vg vb) :
    Tells xs 65 #[.pointer (some ⟨B, 0, none⟩)] elV (rightB L.secs.length) w := fun W x _ hb => by
  have hc := h.next hb
  obtain ⟨a, cap, rfl, hm, -⟩ := hc.lay.sn
  have HBX := Lib.hid hc.box
  have hlt := hc.lt
  have HB := Lib.hid ((Below.refl W.heap.size W).alloc (Nat.le_refl _) (.cells #[.string (bs x.name), .int .i64 x.kind, .int .i64 x.len, .int .i64 x.grade, .int .i64 x.speed, .int .i64 x.slow, .int .i64 x.sec] 45))
  have HS := Lib.hid (fun w => sides_any x.kind w)
  have H1 := Lib.hid (fun w => between_any x.len 500 1000000 w)
  have H2 := Lib.hid (fun w => between_any x.grade (-50) 50 w)
  have H3 := Lib.hid (fun w => between_any x.speed 100 10000 w)
  have H4 := Lib.hid (fun w => slow_any x w)
  have H5 := Lib.hid (fun w => index_any x.sec (L.secs.length : Int) (by omega) hm w)
  have HV := Lib.hid (right_split L.secs.length x)
  obtain ⟨r, hr⟩ : ∃ r, rightB L.secs.length x = r := ⟨_, rfl⟩
  obtain ⟨q0, hq0⟩ : ∃ q, decide (0 < sidesN x.kind) = q := ⟨_, rfl⟩
  obtain ⟨q1, hq1⟩ : ∃ q, decide (500 ≤ x.len ∧ x.len ≤ 1000000) = q := ⟨_, rfl⟩
  obtain ⟨q2, hq2⟩ : ∃ q, decide (-50 ≤ x.grade ∧ x.grade ≤ 50) = q := ⟨_, rfl⟩
  obtain ⟨q3, hq3⟩ : ∃ q, decide (100 ≤ x.speed ∧ x.speed ≤ 10000) = q := ⟨_, rfl⟩
  obtain ⟨q4, hq4⟩ : ∃ q, slowB x = q := ⟨_, rfl⟩
  obtain ⟨q5, hq5⟩ : ∃ q, decide (0 ≤ x.sec ∧ x.sec < (L.secs.length : Int)) = q := ⟨_, rfl⟩
  rw [hr, hq0, hq1, hq2, hq3, hq4, hq5] at HV
  rw [hq1] at H1
  rw [hq2] at H2
  rw [hq3] at H3
  rw [hq4] at H4
  rw [hq5] at H5
  show Calls _ _ _ _ (BoolOut (rightB L.secs.length x) W)
  rw [hr]
  obtain ⟨nm, kd, ln, gr, sp, sl, sc⟩ := x
  unfold elV at H4 ⊢
  simp only at HB HS H1 H2 H3 H4 H5 hq0 ⊢
  obtain ⟨s, hs⟩ : ∃ s, sidesN kd = s := ⟨_, rfl⟩
  rw [hs] at HS hq0
  clear hr hq1 hq2 hq3 hq4 hq5 hs h hb hc
  obtain ⟨x0, x1, x2, x3, x4, x5⟩ := HBX.out
  go_enter Tryz.func65, Tryz.ntmps65
  go_wp2_with fail
  refine (HS.out _).mono ?_
  rintro e w' ⟨rfl, rfl⟩
  cases q0
  · go_wp2_with fail
    go_ret
    exact ⟨by rw [HV.out]; rfl, HB.out⟩
  · go_wp2_with fail
    refine (H1.out _).mono ?_
    rintro e w' ⟨rfl, rfl⟩
    cases q1
    · go_wp2_with fail
      go_ret
      exact ⟨by rw [HV.out]; rfl, HB.out⟩
    · go_wp2_with fail
      refine (H2.out _).mono ?_
      rintro e w' ⟨rfl, rfl⟩
      cases q2
      · go_wp2_with fail
        go_ret
        exact ⟨by rw [HV.out]; rfl, HB.out⟩
      · go_wp2_with fail
        refine (H3.out _).mono ?_
        rintro e w' ⟨rfl, rfl⟩
        cases q3
        · go_wp2_with fail
          go_ret
          exact ⟨by rw [HV.out]; rfl, HB.out⟩
        · go_wp2_with fail
          refine (H4.out _).mono ?_
          rintro e w2 ⟨rfl, b2⟩
          have HB2 := Lib.hid (bel_next HB.out b2)
          have y1 := (b2.cell (p := ⟨W.heap.size, 6, none⟩) (by simp)).trans (show _ = some (.int .i64 sc) by rw [World.cell?_alloc_at _ _ _ _ rfl]; rfl)
          clear b2 x0 x1 x2 x3 x4 x5
          obtain ⟨x0, x1, x2, x3, x4, x5⟩ := HBX.out.next HB2.out hlt
          cases q4
          · go_wp2_with fail
            go_ret
            exact ⟨by rw [HV.out]; rfl, HB2.out⟩
          · go_wp2_with fail
            refine (H5.out _).mono ?_
            rintro e w' ⟨rfl, rfl⟩
            go_wp2_with fail
            go_ret
            exact ⟨by rw [HV.out]; rfl, HB2.out⟩
set_option maxRecDepth 100000 in
theorem hasElements_any (L : Lay) {vs ve vj vg vb : Value} (w : World) (h : LayAt (In w) w L vs ve vj vg vb) :
    Calls Tryz.prog 27 #[layV L vs ve vj vg vb] w (BoolOut (L.els.all (rightB L.secs.length)) w) := by
  have b1 := (Below.refl w.heap.size w).alloc (Nat.le_refl _) (.cells #[.string (bs L.name), vs, ve, vj, vg, vb] 28)
  have HC := Lib.hid (allE (g := 65) (fun args w => enters_of Tryz.func65 (by kernel_rfl) rfl args w) (h.next b1).els (tellRight L w.heap.size _ (cap_new w L h)))
  have HB := Lib.hid b1
  have hmf : ∀ (fn : Fn) (first cap : Array Value) (w : World), (Instr.makeFunc fn first cap).run Tryz.prog w = .ok (.func fn first cap) w := fun _ _ _ _ => rfl
  clear h b1
  unfold layV
  go_enter Tryz.func27, Tryz.ntmps27
  go_wp2_with fail
  refine HC.out.mono ?_
  rintro e w' ⟨rfl, hb⟩
  have HB2 := Lib.hid (bel_next HB.out hb)
  clear hb
  go_wp2_with fail
  go_ret
  exact ⟨rfl, HB2.out⟩

/-! Joints. -/
set_option maxRecDepth 100000 in
set_option maxHeartbeats 1600000 in
theorem tellJoint (L : Lay) {xs : List ((Int × Int) × (Int × Int))} {vs ve vj vg vb : Value} (B : Nat) (w : World) (h : Cap B w L vs ve vj vg vb) :
    Tells xs 71 #[.pointer (some ⟨B, 0, none⟩)] joV (jointB L.els) w := fun W x _ hb => by
  have hc := h.next hb
  have HBX := Lib.hid hc.box
  have hlt := hc.lt
  obtain ⟨⟨u1, u2⟩, ⟨v1, v2⟩⟩ := x
  have HB := Lib.hid ((Below.refl W.heap.size W).alloc (Nat.le_refl _) (.cells #[.int .i64 u1, .int .i64 u2, .int .i64 v1, .int .i64 v2] 49))
  have H1 := Lib.hid (fun W' (b : Below W.heap.size W W') => exists_any L (u1, u2) W' (hc.lay.next b))
  have H2 := Lib.hid (fun W' (b : Below W.heap.size W W') => exists_any L (v1, v2) W' (hc.lay.next b))
  have HV := Lib.hid (show jointB L.els ((u1, u2), (v1, v2)) = (existsB L.els (u1, u2) && (existsB L.els (v1, v2) && !decide ((u1, u2) = (v1, v2)))) from rfl)
  obtain ⟨r, hr⟩ : ∃ r, jointB L.els ((u1, u2), (v1, v2)) = r := ⟨_, rfl⟩
  obtain ⟨q1, hq1⟩ : ∃ q, existsB L.els (u1, u2) = q := ⟨_, rfl⟩
  obtain ⟨q2, hq2⟩ : ∃ q, existsB L.els (v1, v2) = q := ⟨_, rfl⟩
  rw [hr, hq1, hq2] at HV
  rw [hq1] at H1
  rw [hq2] at H2
  show Calls _ _ _ _ (BoolOut (jointB L.els ((u1, u2), (v1, v2))) W)
  rw [hr]
  unfold layV pV at H1 H2
  unfold joV
  simp only at H1 H2 ⊢
  clear hr hq1 hq2 h hb hc
  obtain ⟨x0, x1, x2, x3, x4, x5⟩ := HBX.out
  go_enter Tryz.func71, Tryz.ntmps71
  go_wp2_with fail
  refine (H1.out _ HB.out).mono ?_
  rintro e w2 ⟨rfl, b2⟩
  have HB2 := Lib.hid (bel_next HB.out b2)
  have HK := Lib.hid (fun j (hj : j < 4) => b2.cell (p := ⟨W.heap.size, j, none⟩) (by simp))
  have y0 := (b2.cell (p := ⟨W.heap.size, 0, none⟩) (by simp)).trans (show _ = some (.int .i64 u1) by rw [World.cell?_alloc_at _ _ _ _ rfl]; rfl)
  have y1 := (b2.cell (p := ⟨W.heap.size, 1, none⟩) (by simp)).trans (show _ = some (.int .i64 u2) by rw [World.cell?_alloc_at _ _ _ _ rfl]; rfl)
  have y2 := (b2.cell (p := ⟨W.heap.size, 2, none⟩) (by simp)).trans (show _ = some (.int .i64 v1) by rw [World.cell?_alloc_at _ _ _ _ rfl]; rfl)
  have y3 := (b2.cell (p := ⟨W.heap.size, 3, none⟩) (by simp)).trans (show _ = some (.int .i64 v2) by rw [World.cell?_alloc_at _ _ _ _ rfl]; rfl)
  have hlt2 : W.heap.size < w2.heap.size := Nat.lt_of_lt_of_le (by simp) b2.size
  have Y := Lib.hid (And.intro (And.intro y0 y1) (And.intro y2 y3))
  have HLT2 := Lib.hid hlt2
  clear HK b2 x0 x1 x2 x3 x4 x5 hlt2
  obtain ⟨x0, x1, x2, x3, x4, x5⟩ := HBX.out.next HB2.out hlt
  cases q1
  · go_wp2_with fail
    go_ret
    exact ⟨by rw [HV.out]; rfl, HB2.out⟩
  · go_wp2_with fail
    refine (H2.out _ HB2.out).mono ?_
    rintro e w3 ⟨rfl, b3⟩
    have HB3 := Lib.hid (bel_next HB2.out b3)
    clear y0 y1 y2 y3
    have y0 := (b3.cell (p := ⟨W.heap.size, 0, none⟩) HLT2.out).trans Y.out.1.1
    have y1 := (b3.cell (p := ⟨W.heap.size, 1, none⟩) HLT2.out).trans Y.out.1.2
    have y2 := (b3.cell (p := ⟨W.heap.size, 2, none⟩) HLT2.out).trans Y.out.2.1
    have y3 := (b3.cell (p := ⟨W.heap.size, 3, none⟩) HLT2.out).trans Y.out.2.2
    clear b3 x0 x1 x2 x3 x4 x5
    cases q2
    · go_wp2_with fail
      go_ret
      exact ⟨by rw [HV.out]; rfl, HB3.out⟩
    · by_cases he : (u1, u2) = (v1, v2)
      · cases he
        rw [decide_eq_true rfl] at HV
        go_wp2_with fail
        go_ret
        exact ⟨by rw [HV.out]; rfl, HB3.out⟩
      · rw [decide_eq_false he] at HV
        have hn := ne_cases he
        clear he
        rcases hn with hn | ⟨hn, hn2⟩
        all_goals
          go_wp2_with fail
          go_ret
          exact ⟨by rw [HV.out]; rfl, HB3.out⟩
set_option maxRecDepth 100000 in
theorem hasJoints_any (L : Lay) {vs ve vj vg vb : Value} (w : World) (h : LayAt (In w) w L vs ve vj vg vb) :
    Calls Tryz.prog 29 #[layV L vs ve vj vg vb] w (BoolOut (L.joints.all (jointB L.els)) w) := by
  have b1 := (Below.refl w.heap.size w).alloc (Nat.le_refl _) (.cells #[.string (bs L.name), vs, ve, vj, vg, vb] 28)
  have HC := Lib.hid (allJ (g := 71) (fun args w => enters_of Tryz.func71 (by kernel_rfl) rfl args w) (h.next b1).joints (tellJoint L w.heap.size _ (cap_new w L h)))
  have HB := Lib.hid b1
  have hmf : ∀ (fn : Fn) (first cap : Array Value) (w : World), (Instr.makeFunc fn first cap).run Tryz.prog w = .ok (.func fn first cap) w := fun _ _ _ _ => rfl
  clear h b1
  unfold layV
  go_enter Tryz.func29, Tryz.ntmps29
  go_wp2_with fail
  refine HC.out.mono ?_
  rintro e w' ⟨rfl, hb⟩
  have HB2 := Lib.hid (bel_next HB.out hb)
  clear hb
  go_wp2_with fail
  go_ret
  exact ⟨rfl, HB2.out⟩

/-! Signals. -/
set_option maxRecDepth 100000 in
set_option maxHeartbeats 1600000 in
theorem tellSig (L : Lay) {xs : List Sig} {vs ve vj vg vb : Value} (B : Nat) (w : World) (h : Cap B w L vs ve vj vg vb) :
    Tells xs 74 #[.pointer (some ⟨B, 0, none⟩)] sgV (sigB L.els) w := fun W x _ hb => by
  have hc := h.next hb
  have HBX := Lib.hid hc.box
  have hlt := hc.lt
  obtain ⟨nm, ⟨u1, u2⟩, ov⟩ := x
  have HB := Lib.hid ((Below.refl W.heap.size W).alloc (Nat.le_refl _) (.cells #[.string (bs nm), .int .i64 u1, .int .i64 u2, .int .i64 ov] 51))
  have H1 := Lib.hid (fun W' (b : Below W.heap.size W W') => exists_any L (u1, u2) W' (hc.lay.next b))
  have H2 := Lib.hid (fun w => between_any ov 0 1000000 w)
  have HV := Lib.hid (show sigB L.els ⟨nm, (u1, u2), ov⟩ = (existsB L.els (u1, u2) && decide (0 ≤ ov ∧ ov ≤ 1000000)) by
    unfold sigB
    rw [Bool.decide_and])
  obtain ⟨r, hr⟩ : ∃ r, sigB L.els ⟨nm, (u1, u2), ov⟩ = r := ⟨_, rfl⟩
  obtain ⟨q1, hq1⟩ : ∃ q, existsB L.els (u1, u2) = q := ⟨_, rfl⟩
  obtain ⟨q2, hq2⟩ : ∃ q, decide (0 ≤ ov ∧ ov ≤ 1000000) = q := ⟨_, rfl⟩
  rw [hr, hq1, hq2] at HV
  rw [hq1] at H1
  rw [hq2] at H2
  show Calls _ _ _ _ (BoolOut (sigB L.els ⟨nm, (u1, u2), ov⟩) W)
  rw [hr]
  unfold layV pV at H1
  unfold sgV
  simp only at H1 ⊢
  clear hr hq1 hq2 h hb hc
  obtain ⟨x0, x1, x2, x3, x4, x5⟩ := HBX.out
  go_enter Tryz.func74, Tryz.ntmps74
  go_wp2_with fail
  refine (H1.out _ HB.out).mono ?_
  rintro e w2 ⟨rfl, b2⟩
  have HB2 := Lib.hid (bel_next HB.out b2)
  have y3 := (b2.cell (p := ⟨W.heap.size, 3, none⟩) (by simp)).trans (show _ = some (.int .i64 ov) by rw [World.cell?_alloc_at _ _ _ _ rfl]; rfl)
  clear b2 x0 x1 x2 x3 x4 x5
  cases q1
  · go_wp2_with fail
    go_ret
    exact ⟨by rw [HV.out]; rfl, HB2.out⟩
  · go_wp2_with fail
    refine (H2.out _).mono ?_
    rintro e w' ⟨rfl, rfl⟩
    go_wp2_with fail
    go_ret
    exact ⟨by rw [HV.out]; rfl, HB2.out⟩
set_option maxRecDepth 100000 in
theorem hasSignals_any (L : Lay) {vs ve vj vg vb : Value} (w : World) (h : LayAt (In w) w L vs ve vj vg vb) :
    Calls Tryz.prog 31 #[layV L vs ve vj vg vb] w (BoolOut (L.sigs.all (sigB L.els)) w) := by
  have b1 := (Below.refl w.heap.size w).alloc (Nat.le_refl _) (.cells #[.string (bs L.name), vs, ve, vj, vg, vb] 28)
  have HC := Lib.hid (allG (g := 74) (fun args w => enters_of Tryz.func74 (by kernel_rfl) rfl args w) (h.next b1).sigs (tellSig L w.heap.size _ (cap_new w L h)))
  have HB := Lib.hid b1
  have hmf : ∀ (fn : Fn) (first cap : Array Value) (w : World), (Instr.makeFunc fn first cap).run Tryz.prog w = .ok (.func fn first cap) w := fun _ _ _ _ => rfl
  clear h b1
  unfold layV
  go_enter Tryz.func31, Tryz.ntmps31
  go_wp2_with fail
  refine HC.out.mono ?_
  rintro e w' ⟨rfl, hb⟩
  have HB2 := Lib.hid (bel_next HB.out hb)
  clear hb
  go_wp2_with fail
  go_ret
  exact ⟨rfl, HB2.out⟩

/-! Balises. -/
theorem bal_in {els : List Elem} {i bo id : Int} {e : Nat} {x : Elem} (hi : i = (e : Int)) (hx : els[e]? = some x) : balB els ⟨id, i, bo⟩ = (decide (1 ≤ id ∧ id ≤ 1073741824) && decide (0 ≤ bo ∧ bo ≤ x.len)) := by
  subst hi
  simp only [balB, Int.toNat_natCast, hx]
  rw [Bool.eq_iff_iff]
  simp only [Bool.and_eq_true, decide_eq_true_eq]
  omega
theorem bal_out {els : List Elem} {i bo id : Int} (h : ¬ (0 ≤ i ∧ i < (els.length : Int))) : balB els ⟨id, i, bo⟩ = false := by
  unfold balB
  simp only
  cases hx : els[i.toNat]? with
  | none => rfl
  | some x =>
    have := (List.getElem?_eq_some_iff.1 hx).1
    simp only
    refine decide_eq_false fun hc => h ?_
    omega
theorem bal_id {els : List Elem} {i bo id : Int} (h : decide (1 ≤ id ∧ id ≤ 1073741824) = false) : balB els ⟨id, i, bo⟩ = false := by
  unfold balB
  simp only
  have h2 : ¬ (1 ≤ id ∧ id ≤ 1073741824) := of_decide_eq_false h
  cases hx : els[i.toNat]? with
  | none => rfl
  | some x =>
    simp only
    refine decide_eq_false fun hc => h2 ?_
    omega
set_option maxRecDepth 100000 in
set_option maxHeartbeats 1600000 in
theorem tellBal (L : Lay) {xs : List Bal} {vs ve vj vg vb : Value} (B : Nat) (w : World) (h : Cap B w L vs ve vj vg vb) :
    Tells xs 78 #[.pointer (some ⟨B, 0, none⟩)] baV (balB L.els) w := fun W x _ hb => by
  have hc := h.next hb
  obtain ⟨a, cap, rfl, hm, hel⟩ := hc.lay.el
  have HBX := Lib.hid hc.box
  have hlt := hc.lt
  have HE := Lib.hid (hel W (Below.refl _ _))
  obtain ⟨bi, be, bo⟩ := x
  have HB := Lib.hid ((Below.refl W.heap.size W).alloc (Nat.le_refl _) (.cells #[.int .i64 bi, .int .i64 be, .int .i64 bo] 59))
  have H1 := Lib.hid (fun w => between_any bi 1 1073741824 w)
  have H2 := Lib.hid (fun w => index_any be (L.els.length : Int) (by omega) hm w)
  show Calls _ _ _ _ (BoolOut (balB L.els ⟨bi, be, bo⟩) W)
  unfold baV
  simp only
  obtain ⟨q1, hq1⟩ : ∃ q, decide (1 ≤ bi ∧ bi ≤ 1073741824) = q := ⟨_, rfl⟩
  rw [hq1] at H1
  obtain ⟨r, hr⟩ : ∃ r, balB L.els ⟨bi, be, bo⟩ = r := ⟨_, rfl⟩
  rw [hr]
  clear h hb hc hel
  obtain ⟨x0, x1, x2, x3, x4, x5⟩ := HBX.out
  cases q1
  · have HV := Lib.hid (show r = false by rw [← hr]; exact bal_id hq1)
    clear hq1 hr
    go_enter Tryz.func78, Tryz.ntmps78
    go_wp2_with fail
    go_quiet ((go_at_call 58; exact Calls.quiet_of_same (H1.out _)))
    go_wp2_with fail
    go_ret
    exact ⟨by rw [HV.out]; rfl, below_drewN HB.out _⟩
  · by_cases h0 : 0 ≤ be ∧ be < (L.els.length : Int)
    · obtain ⟨i, rfl⟩ := Int.eq_ofNat_of_zero_le h0.1
      obtain ⟨x, hx⟩ := at_lt (l := L.els) (k := i) (by omega)
      obtain ⟨b, off, rfl, _, _, c2, _⟩ := HE.out i x hx
      have HJ := Lib.hid (fun w => between_any bo 0 x.len w)
      have HV := Lib.hid (show r = decide (0 ≤ bo ∧ bo ≤ x.len) by rw [← hr, bal_in rfl hx, hq1]; rfl)
      obtain ⟨t, ht⟩ : ∃ t, decide (0 ≤ bo ∧ bo ≤ x.len) = t := ⟨_, rfl⟩
      rw [ht] at HJ HV
      obtain ⟨nm, kd, ln, gr, sp, sl, sc⟩ := x
      simp only at c2 HJ
      rw [decide_eq_true h0] at H2
      have hbl : b < W.heap.size := block_lt_of_cell c2
      have hl2 := h0.2
      clear hx h0 ht hq1 hr
      go_enter Tryz.func78, Tryz.ntmps78
      go_wp2_with fail
      go_quiet (first | (go_at_call 58; first | with_reducible exact Calls.quiet_of_same (H1.out _) | with_reducible exact Calls.quiet_of_same (HJ.out _)) | (go_at_call 68; exact Calls.quiet_of_same (H2.out _)))
      go_wp2_with fail
      go_ret
      exact ⟨by rw [HV.out]; rfl, below_drewN HB.out _⟩
    · have HV := Lib.hid (show r = false by rw [← hr]; exact bal_out h0)
      rw [decide_eq_false h0] at H2
      clear h0 hq1 hr
      go_enter Tryz.func78, Tryz.ntmps78
      go_wp2_with fail
      go_quiet (first | (go_at_call 58; exact Calls.quiet_of_same (H1.out _)) | (go_at_call 68; exact Calls.quiet_of_same (H2.out _)))
      go_wp2_with fail
      go_ret
      exact ⟨by rw [HV.out]; rfl, below_drewN HB.out _⟩
set_option maxRecDepth 100000 in
theorem hasBalises_any (L : Lay) {vs ve vj vg vb : Value} (w : World) (h : LayAt (In w) w L vs ve vj vg vb) :
    Calls Tryz.prog 36 #[layV L vs ve vj vg vb] w (BoolOut (L.bals.all (balB L.els)) w) := by
  have b1 := (Below.refl w.heap.size w).alloc (Nat.le_refl _) (.cells #[.string (bs L.name), vs, ve, vj, vg, vb] 28)
  have HC := Lib.hid (allB (g := 78) (fun args w => enters_of Tryz.func78 (by kernel_rfl) rfl args w) (h.next b1).bals (tellBal L w.heap.size _ (cap_new w L h)))
  have HB := Lib.hid b1
  have hmf : ∀ (fn : Fn) (first cap : Array Value) (w : World), (Instr.makeFunc fn first cap).run Tryz.prog w = .ok (.func fn first cap) w := fun _ _ _ _ => rfl
  clear h b1
  unfold layV
  go_enter Tryz.func36, Tryz.ntmps36
  go_wp2_with fail
  refine HC.out.mono ?_
  rintro e w' ⟨rfl, hb⟩
  have HB2 := Lib.hid (bel_next HB.out hb)
  clear hb
  go_wp2_with fail
  go_ret
  exact ⟨rfl, HB2.out⟩

end Go.Proofs.YtfdipcphohhlgaaGreatDoor.Pcls

/- The program's condition that another section begins at each signal. -/
namespace Go.Proofs.YtfdipcphohhlgaaGreatDoor.Pbeh
open Go.RowKit Go.Lib Go.Proofs.YtfdipcphohhlgaaGreatDoor.Numt Go.Proofs.YtfdipcphohhlgaaGreatDoor.Reads Go.Proofs.YtfdipcphohhlgaaGreatDoor.Rows2 Go.Proofs.YtfdipcphohhlgaaGreatDoor.Lay Go.Proofs.YtfdipcphohhlgaaGreatDoor.Layf Go.Proofs.YtfdipcphohhlgaaGreatDoor.Lcon Go.Proofs.YtfdipcphohhlgaaGreatDoor.Ldup Go.Proofs.YtfdipcphohhlgaaGreatDoor.Lext Go.Proofs.YtfdipcphohhlgaaGreatDoor.Lnmd Go.Proofs.YtfdipcphohhlgaaGreatDoor.Pbas Go.Proofs.YtfdipcphohhlgaaGreatDoor.Pfn Go.Proofs.YtfdipcphohhlgaaGreatDoor.Lown Go.Proofs.YtfdipcphohhlgaaGreatDoor.Pmem Go.Proofs.YtfdipcphohhlgaaGreatDoor.Omap Go.Proofs.YtfdipcphohhlgaaGreatDoor.Omapn Go.Proofs.YtfdipcphohhlgaaGreatDoor.Lmap Go.Proofs.YtfdipcphohhlgaaGreatDoor.Pjoe Go.Proofs.YtfdipcphohhlgaaGreatDoor.Pcls
open Go.Proofs.YtfdipcphohhlgaaGreatDoor.Text hiding lineL joinR

/-- Whether another section begins at an end. -/
def behindB (L : Lay) (e : Int × Int) : Bool := (joinedF L e).2 && !decide (sectionF L (joinedF L e).1.1 = sectionF L e.1)
theorem behind_safe {L : Lay} {e : Int × Int} (hj : L.joints.all (jointB L.els) = true) (he : existsB L.els e = true) : behindB L e = safeB L e := by
  unfold behindB safeB
  cases h2 : (joinedF L e).2 with
  | false => rfl
  | true =>
    have hf : existsB L.els (joinedF L e).1 = true := Lsig.join_exists hj h2
    obtain ⟨i, x, hi, hx, _⟩ := Lsig.exists_at he
    obtain ⟨j, y, hj, hy, _⟩ := Lsig.exists_at hf
    rw [Bool.true_and, Bool.true_and]
    congr 1
    refine decide_eq_decide.2 ?_
    rw [hi, hj, section_at hx, section_at hy]
    simp [secAt, hx, hy]

set_option maxRecDepth 100000 in
set_option maxHeartbeats 3200000 in
theorem tellBehind (L : Lay) {xs : List Sig} {vs ve vj vg vb : Value} (B M mb n : Nat) (w : World) (h : Cap B w L vs ve vj vg vb) (hM : M < w.heap.size) (hcell : w.cell? ⟨M, 0, none⟩ = some (.map (some mb))) (hm : endEnd.Is w mb n (mapOf L.joints)) (hd : dupB (endsOf L.joints) = false) (hx : ∀ x ∈ xs, pWf x.spot) :
    Tells xs 75 #[.pointer (some ⟨M, 0, none⟩), .pointer (some ⟨B, 0, none⟩)] sgV (fun s => behindB L s.spot) w := fun W x hxm hb => by
  have hwf := hx x hxm
  have hc := h.next hb
  have HBX := Lib.hid hc.box
  have hlt := hc.lt
  have hMW : M < W.heap.size := Nat.lt_of_lt_of_le hM hb.size
  have m0 := (hb.cell (p := ⟨M, 0, none⟩) hM).trans hcell
  obtain ⟨nm, ⟨u1, u2⟩, ov⟩ := x
  have b1 := (Below.refl W.heap.size W).alloc (Nat.le_refl _) (.cells #[.string (bs nm), .int .i64 u1, .int .i64 u2, .int .i64 ov] 51)
  have hmW := MapForm.alloc endEnd (MapForm.same endEnd hm (hb.block mb (MapForm.lt endEnd hm))) (.cells #[.string (bs nm), .int .i64 u1, .int .i64 u2, .int .i64 ov] 51)
  have hlk := MapForm.look_ok endEnd hmW (t := 60) Tryz.underlying60 (x := (u1, u2)) hwf
  have hmj := map_join (u1, u2) _ L.joints rfl hd
  obtain ⟨⟨⟨v1, v2⟩, ok⟩, hj⟩ : ∃ r, joinedF L (u1, u2) = r := ⟨_, rfl⟩
  rw [show Layf.joinR (u1, u2) L.joints = joinedF L (u1, u2) from rfl, hj] at hmj
  simp only at hmj
  rw [hmj] at hlk
  have HV := Lib.hid (show behindB L (u1, u2) = (ok && !decide (sectionF L v1 = sectionF L u1)) by unfold behindB; rw [hj])
  show Calls _ _ _ _ (BoolOut (behindB L (u1, u2)) W)
  rw [HV.out]
  unfold sgV
  simp only
  have HB := Lib.hid b1
  have HQ := Lib.hid (fun W' (b : Below W.heap.size W W') i => section_any L i W' (hc.lay.next b))
  have y1 : (W.alloc (.cells #[.string (bs nm), .int .i64 u1, .int .i64 u2, .int .i64 ov] 51)).cell? ⟨W.heap.size, 1, none⟩ = some (.int .i64 u1) := by rw [World.cell?_alloc_at _ _ _ _ rfl]; rfl
  have HY := Lib.hid y1
  clear h hb hc hm hmj hj hx hxm hcell hM hd HV hwf b1 y1 hmW
  obtain ⟨x0, x1, x2, x3, x4, x5⟩ := HBX.out
  cases ok
  · change (Instr.lookup 60 (.map (some mb)) (.agg #[.int .i64 u1, .int .i64 u2]) true).run _ _ = .ok (.tuple #[.agg #[.int .i64 0, .int .i64 0], .bool false]) _ at hlk
    go_enter Tryz.func75, Tryz.ntmps75
    go_wp2_with fail
    go_quiet (fail)
    go_wp2_with fail
    go_ret
    exact ⟨rfl, below_drewN (HB.out.alloc HB.out.size _) _⟩
  · change (Instr.lookup 60 (.map (some mb)) (.agg #[.int .i64 u1, .int .i64 u2]) true).run _ _ = .ok (.tuple #[.agg #[.int .i64 v1, .int .i64 v2], .bool true]) _ at hlk
    obtain ⟨t1, ht1⟩ : ∃ t, sectionF L v1 = t := ⟨_, rfl⟩
    obtain ⟨t2, ht2⟩ : ∃ t, sectionF L u1 = t := ⟨_, rfl⟩
    rw [ht1, ht2]
    have HT1 := Lib.hid ht1
    have HT2 := Lib.hid ht2
    clear ht1 ht2
    go_enter Tryz.func75, Tryz.ntmps75
    go_wp2_with fail
    clear hlk x0 x1 x2 x3 x4 x5
    obtain ⟨W1, hW1⟩ : ∃ W1, W.alloc (.cells #[.string (bs nm), .int .i64 u1, .int .i64 u2, .int .i64 ov] 51) = W1 := ⟨_, rfl⟩
    have hs1 : W1.heap.size = W.heap.size + 1 := by rw [← hW1]; simp
    rw [hW1] at HB HY ⊢
    have HW1 := Lib.hid hW1
    clear hW1
    have y1 := (((Below.refl W1.heap.size W1).alloc (Nat.le_refl _) (.cells #[.int .i64 v1, .int .i64 v2] 47)).cell (p := ⟨W.heap.size, 1, none⟩) (by rw [hs1]; simp)).trans HY.out
    have z0 : (W1.alloc (.cells #[.int .i64 v1, .int .i64 v2] 47)).cell? ⟨W1.heap.size, 0, none⟩ = some (.int .i64 v1) := by rw [World.cell?_alloc_at _ _ _ _ rfl]; rfl
    rw [hs1] at z0
    have bb := (Below.refl W1.heap.size W1).alloc (Nat.le_refl _) (.cells #[.int .i64 v1, .int .i64 v2] 47)
    obtain ⟨wB, hwB⟩ : ∃ wB, W1.alloc (.cells #[.int .i64 v1, .int .i64 v2] 47) = wB := ⟨_, rfl⟩
    rw [hwB] at y1 z0 bb ⊢
    have B2 := Lib.hid (bel_next HB.out bb)
    have k6 := cell_regrown y1
    have k7 := cell_regrown z0
    clear hwB y1 z0 bb hs1
    obtain ⟨x0, x1, x2, x3, x4, x5⟩ := HBX.out.next B2.out hlt
    have k0 := cell_regrown x0
    have k1 := cell_regrown x1
    have k2 := cell_regrown x2
    have k3 := cell_regrown x3
    have k4 := cell_regrown x4
    have k5 := cell_regrown x5
    clear x0 x1 x2 x3 x4 x5
    have C1 := Lib.hid (fun d os => Calls.regrown_of (w := wB) (d := d) (os := os) (HQ.out _ (bel_next B2.out (below_regrown wB d os)) v1))
    have C2 := Lib.hid (fun d os => Calls.regrown_of (w := wB) (d := d) (os := os) (HQ.out _ (bel_next B2.out (below_regrown wB d os)) u1))
    rw [HT1.out] at C1
    rw [HT2.out] at C2
    unfold layV at C1 C2
    by_cases ht : t1 = t2
    · subst ht
      rw [decide_eq_true rfl]
      refine wp_region_quiet_below (by kernel_rfl) (by kernel_rfl) ?_
      repeat (go_big_quiet_step (first | with_reducible exact C1.out _ _ | with_reducible exact C2.out _ _))
      refine wpQuiet_nil ?_
      intro _ hw'
      obtain ⟨⟨dq, osq⟩, hw''⟩ := hw'
      subst hw''
      have B6 := Lib.hid (bel_next B2.out (below_regrown wB dq osq))
      go_wp2_with fail
      go_ret
      exact ⟨rfl, B6.out⟩
    · rw [decide_eq_false ht]
      have hcc : (t1 == t2) = false := by simpa using ht
      clear ht
      refine wp_region_quiet_below (by kernel_rfl) (by kernel_rfl) ?_
      repeat (go_big_quiet_step (first | with_reducible exact C1.out _ _ | with_reducible exact C2.out _ _))
      refine wpQuiet_nil ?_
      intro _ hw'
      obtain ⟨⟨dq, osq⟩, hw''⟩ := hw'
      subst hw''
      have B6 := Lib.hid (bel_next B2.out (below_regrown wB dq osq))
      go_wp2_with fail
      go_ret
      exact ⟨rfl, B6.out⟩

set_option maxRecDepth 100000 in
set_option maxHeartbeats 800000 in
theorem hasBehind_any (L : Lay) {vs ve vj vg vb : Value} (w : World) (h : LayAt (In w) w L vs ve vj vg vb) {mb n : Nat} (hm : endEnd.Is w mb n (mapOf L.joints)) (hd : dupB (endsOf L.joints) = false) (hj : L.joints.all (jointB L.els) = true) (hg : L.sigs.all (sigB L.els) = true) :
    Calls Tryz.prog 35 #[layV L vs ve vj vg vb, .map (some mb)] w (BoolOut ((L.sigs.map (·.spot)).all (safeB L)) w) := by
  obtain ⟨x0, x1, x2, x3⟩ := box_two w #[.string (bs L.name), vs, ve, vj, vg, vb] #[.map (some mb)] 28 60
  have hcap : Cap w.heap.size ((w.alloc (.cells #[.string (bs L.name), vs, ve, vj, vg, vb] 28)).alloc (.cells #[.map (some mb)] 60)) L vs ve vj vg vb := (cap_new w L h).next ((Below.refl _ _).alloc (Nat.le_refl _) _)
  have HC := Lib.hid (allG (g := 75) (fun args w => enters_of Tryz.func75 (by kernel_rfl) rfl args w) (h.next x3).sigs (tellBehind L w.heap.size (w.heap.size + 1) mb n _ hcap x2 (x1 0) (MapForm.same endEnd hm (x3.block mb (MapForm.lt endEnd hm))) hd (fun x hx => (h.swf x hx).1)))
  have HE := Lib.hid (show (L.sigs.all fun s => behindB L s.spot) = (L.sigs.map (·.spot)).all (safeB L) by
    rw [List.all_map]
    refine Bool.eq_iff_iff.2 ?_
    rw [List.all_eq_true, List.all_eq_true]
    have hs : ∀ x ∈ L.sigs, behindB L x.spot = safeB L x.spot := fun x hx => behind_safe hj (by
      have := List.all_eq_true.1 hg x hx
      unfold sigB at this
      exact (Bool.and_eq_true _ _ ▸ this).1)
    exact ⟨fun hh x hx => by
      have := hh x hx
      rw [hs x hx] at this
      exact this, fun hh x hx => by rw [hs x hx]; exact hh x hx⟩)
  rw [HE.out] at HC
  obtain ⟨r, hr⟩ : ∃ r, (L.sigs.map (·.spot)).all (safeB L) = r := ⟨_, rfl⟩
  rw [hr] at HC ⊢
  clear hr
  have HB := Lib.hid x3
  have hmf : ∀ (fn : Fn) (first cap : Array Value) (w : World), (Instr.makeFunc fn first cap).run Tryz.prog w = .ok (.func fn first cap) w := fun _ _ _ _ => rfl
  clear h hm hd hj hg HE x0 x1 x2 x3 hcap
  unfold layV
  go_enter Tryz.func35, Tryz.ntmps35
  go_wp2_with fail
  refine HC.out.mono ?_
  rintro e w' ⟨rfl, hb⟩
  have HB2 := Lib.hid (bel_next HB.out hb)
  clear hb
  go_wp2_with fail
  go_ret
  exact ⟨rfl, HB2.out⟩

end Go.Proofs.YtfdipcphohhlgaaGreatDoor.Pbeh
