/- The program's conditions of a layout, one function each. -/
import Derived.Test.YtieoegodhhiiiaaPeac
import Derived.Test.YtieoegodhhiiiaaPdis
import Derived.Test.YtieoegodhhiiiaaPpar
import Derived.Test.YtieoegodhhiiiaaNamew
import Derived.Test.YtieoegodhhiiiaaLopen
namespace Go.Proofs.Ytieoegodhhiiiaa.Phas
open Go.RowKit Go.Lib Go.Proofs.Ytieoegodhhiiiaa.Numt Go.Proofs.Ytieoegodhhiiiaa.Reads Go.Proofs.Ytieoegodhhiiiaa.Rows2 Go.Proofs.Ytieoegodhhiiiaa.Lay Go.Proofs.Ytieoegodhhiiiaa.Layf Go.Proofs.Ytieoegodhhiiiaa.Lcon Go.Proofs.Ytieoegodhhiiiaa.Ldup Go.Proofs.Ytieoegodhhiiiaa.Lext Go.Proofs.Ytieoegodhhiiiaa.Lnmd Go.Proofs.Ytieoegodhhiiiaa.Pbas Go.Proofs.Ytieoegodhhiiiaa.Pfn Go.Proofs.Ytieoegodhhiiiaa.Peac Go.Proofs.Ytieoegodhhiiiaa.Pdis Go.Proofs.Ytieoegodhhiiiaa.Lsev
open Go.Proofs.Ytieoegodhhiiiaa.Ljoi (ne_cases)
open Go.Proofs.Ytieoegodhhiiiaa.Lopen (grid_strs)
open Go.Proofs.Ytieoegodhhiiiaa.Text hiding lineL joinR

/-! The sizes. -/
theorem limit_split (L : Lay) : limitB L = (decide (1 ≤ (L.els.length : Int) ∧ (L.els.length : Int) ≤ 32) && (decide (1 ≤ (L.secs.length : Int) ∧ (L.secs.length : Int) ≤ 24) && (decide ((L.sigs.length : Int) ≤ 20) && decide ((L.bals.length : Int) ≤ 24)))) := by
  unfold limitB
  rw [Bool.eq_iff_iff]
  simp only [Bool.and_eq_true, decide_eq_true_eq]
  omega
set_option maxRecDepth 100000 in
set_option maxHeartbeats 800000 in
theorem sizes_any (L : Lay) {vs ve vj vg vb : Value} (w : World) (h : LayAt (In w) w L vs ve vj vg vb) :
    Calls Try.prog 18 #[layV L vs ve vj vg vb] w (BoolOut (limitB L) w) := by
  obtain ⟨a1, c1, a2, c2, a3, c3, a4, c4, a5, c5, rfl, rfl, rfl, rfl, rfl⟩ := shapes h
  have HB := Lib.hid ((Below.refl w.heap.size w).alloc (Nat.le_refl _) (.cells #[.string (bs L.name), .slice a1 L.secs.length c1, .slice a2 L.els.length c2, .slice a3 L.joints.length c3, .slice a4 L.sigs.length c4, .slice a5 L.bals.length c5] 28))
  have H1 := Lib.hid (fun w => between_any (L.els.length : Int) 1 32 w)
  have H2 := Lib.hid (fun w => between_any (L.secs.length : Int) 1 24 w)
  have HV := Lib.hid (limit_split L)
  obtain ⟨r, hr⟩ : ∃ r, limitB L = r := ⟨_, rfl⟩
  obtain ⟨q1, hq1⟩ : ∃ q, decide (1 ≤ (L.els.length : Int) ∧ (L.els.length : Int) ≤ 32) = q := ⟨_, rfl⟩
  obtain ⟨q2, hq2⟩ : ∃ q, decide (1 ≤ (L.secs.length : Int) ∧ (L.secs.length : Int) ≤ 24) = q := ⟨_, rfl⟩
  obtain ⟨q3, hq3⟩ : ∃ q, decide ((L.sigs.length : Int) ≤ 20) = q := ⟨_, rfl⟩
  obtain ⟨q4, hq4⟩ : ∃ q, decide ((L.bals.length : Int) ≤ 24) = q := ⟨_, rfl⟩
  rw [hr, hq1, hq2, hq3, hq4] at HV
  rw [hq1] at H1
  rw [hq2] at H2
  rw [hr]
  clear hr hq1 hq2 h
  unfold layV
  go_enter Try.func18, Try.ntmps18
  go_wp2_with fail
  refine (H1.out _).mono ?_
  rintro e w' ⟨rfl, rfl⟩
  cases q1
  · go_wp2_with fail
    go_ret
    exact ⟨by rw [HV.out]; rfl, HB.out⟩
  · go_wp2_with fail
    refine (H2.out _).mono ?_
    rintro e w' ⟨rfl, rfl⟩
    cases q2
    · go_wp2_with fail
      go_ret
      exact ⟨by rw [HV.out]; rfl, HB.out⟩
    · cases q3
      · go_wp2_with fail
        go_ret
        exact ⟨by rw [HV.out]; rfl, HB.out⟩
      · cases q4
        · go_wp2_with fail
          go_ret
          exact ⟨by rw [HV.out]; rfl, HB.out⟩
        · go_wp2_with fail
          go_ret
          exact ⟨by rw [HV.out]; rfl, HB.out⟩

/-! The names. -/
/-- What a call gives that returns a list of texts. -/
def StrsOut (ss : List (List UInt8)) (w : World) (e : Ending) (w' : World) : Prop := ∃ v, e = .returned v ∧ Strs (In w') w' v ss ∧ Below w.heap.size w w'
set_option maxRecDepth 100000 in
theorem elNames_any (L : Lay) {vs ve vj vg vb : Value} (w : World) (h : LayAt (In w) w L vs ve vj vg vb) (hn : L.els.length ≤ 1000) :
    Calls Try.prog 50 #[layV L vs ve vj vg vb] w (StrsOut (L.els.map (·.name)) w) := by
  have b1 := (Below.refl w.heap.size w).alloc (Nat.le_refl _) (.cells #[.string (bs L.name), vs, ve, vj, vg, vb] 28)
  have HC := Lib.hid (eachEN (h.next b1).els hn)
  have HB := Lib.hid b1
  have HN := Lib.hid h.elName
  clear h hn b1
  unfold layV
  go_enter Try.func50, Try.ntmps50
  go_wp2_with fail
  refine HC.out.mono ?_
  rintro e w' ⟨v, rfl, hg, hb⟩
  have HG := Lib.hid (grid_strs (ss := L.els.map (·.name)) (by rw [List.map_map]; exact hg) (by
    intro s hs
    obtain ⟨x, hx, rfl⟩ := List.mem_map.1 hs
    exact HN.out x hx))
  have HB2 := Lib.hid (bel_next HB.out hb)
  clear hg hb
  go_wp2_with fail
  go_ret
  exact ⟨v, rfl, HG.out, HB2.out⟩
set_option maxRecDepth 100000 in
theorem sigNames_any (L : Lay) {vs ve vj vg vb : Value} (w : World) (h : LayAt (In w) w L vs ve vj vg vb) (hn : L.sigs.length ≤ 1000) :
    Calls Try.prog 51 #[layV L vs ve vj vg vb] w (StrsOut (L.sigs.map (·.name)) w) := by
  have b1 := (Below.refl w.heap.size w).alloc (Nat.le_refl _) (.cells #[.string (bs L.name), vs, ve, vj, vg, vb] 28)
  have HC := Lib.hid (eachGN (h.next b1).sigs hn)
  have HB := Lib.hid b1
  have HN := Lib.hid h.sigName
  clear h hn b1
  unfold layV
  go_enter Try.func51, Try.ntmps51
  go_wp2_with fail
  refine HC.out.mono ?_
  rintro e w' ⟨v, rfl, hg, hb⟩
  have HG := Lib.hid (grid_strs (ss := L.sigs.map (·.name)) (by rw [List.map_map]; exact hg) (by
    intro s hs
    obtain ⟨x, hx, rfl⟩ := List.mem_map.1 hs
    exact HN.out x hx))
  have HB2 := Lib.hid (bel_next HB.out hb)
  clear hg hb
  go_wp2_with fail
  go_ret
  exact ⟨v, rfl, HG.out, HB2.out⟩
theorem nameCall (s : List UInt8) (w : World) : Calls Try.prog 48 #[.string (bs s)] w (BoolOut (nameL s) w) := (Namew.name_any (bs s) w).mono fun _ _ h => h
theorem tellsName (xs : List (List UInt8)) (w : World) : Tells xs 48 #[] stV nameL w := fun W x _ _ => nameCall x W
theorem byName : ByVal 48 := fun args w => enters_of Try.func48 (by kernel_rfl) rfl args w
theorem names_split (L : Lay) : (allNames L).all nameL = (nameL L.name && (L.secs.all nameL && ((L.els.map (·.name)).all nameL && (L.sigs.map (·.name)).all nameL))) := by
  simp [allNames, List.all_append]
set_option maxRecDepth 100000 in
set_option maxHeartbeats 1600000 in
theorem hasNames_any (L : Lay) {vs ve vj vg vb : Value} (w : World) (h : LayAt (In w) w L vs ve vj vg vb) (hn : L.els.length ≤ 1000) (hn2 : L.sigs.length ≤ 1000) :
    Calls Try.prog 19 #[layV L vs ve vj vg vb] w (BoolOut ((allNames L).all nameL) w) := by
  have b1 := (Below.refl w.heap.size w).alloc (Nat.le_refl _) (.cells #[.string (bs L.name), vs, ve, vj, vg, vb] 28)
  have hh := h.next b1
  have hx := lbox_new w 28 L vs ve vj vg vb
  have hs0 : w.heap.size < (w.alloc (.cells #[.string (bs L.name), vs, ve, vj, vg, vb] 28)).heap.size := by simp
  obtain ⟨W, hW⟩ : ∃ W, w.alloc (.cells #[.string (bs L.name), vs, ve, vj, vg, vb] 28) = W := ⟨_, rfl⟩
  rw [hW] at b1 hh hx hs0
  have HW := Lib.hid hW
  have B0 := Lib.hid b1
  have HX := Lib.hid hx
  have HS := Lib.hid hs0
  have H0 := Lib.hid (fun w' => nameCall L.name w')
  have H1 := Lib.hid (fun w' (b : Below W.heap.size W w') => allS byName (hh.next b).secs (tellsName L.secs w'))
  have H2 := Lib.hid (fun w' (b : Below W.heap.size W w') => elNames_any L w' (hh.next b) hn)
  have H3 := Lib.hid (fun w' (b : Below W.heap.size W w') => sigNames_any L w' (hh.next b) hn2)
  unfold layV at H2 H3 ⊢
  have HV := Lib.hid (names_split L)
  obtain ⟨r, hr⟩ : ∃ r, (allNames L).all nameL = r := ⟨_, rfl⟩
  obtain ⟨q0, hq0⟩ : ∃ q, nameL L.name = q := ⟨_, rfl⟩
  obtain ⟨q1, hq1⟩ : ∃ q, L.secs.all nameL = q := ⟨_, rfl⟩
  obtain ⟨N1, hn1⟩ : ∃ N, L.els.map (·.name) = N := ⟨_, rfl⟩
  obtain ⟨N2, hn2'⟩ : ∃ N, L.sigs.map (·.name) = N := ⟨_, rfl⟩
  rw [hn1] at H2
  rw [hn2'] at H3
  rw [hr, hq0, hq1, hn1, hn2'] at HV
  rw [hq0] at H0
  rw [hq1] at H1
  rw [hr]
  clear hr hq0 hq1 hn1 hn2' h hh hx hs0 b1 hW hn hn2
  go_enter Try.func19, Try.ntmps19
  go_wp2_with fail
  rw [HW.out]
  refine (H0.out _).mono ?_
  rintro e w1 ⟨rfl, b1⟩
  obtain ⟨x0, x1, x2, x3, x4, x5⟩ := HX.out.next b1 HS.out
  have B1 := Lib.hid b1
  clear b1
  cases q0
  · go_wp2_with fail
    go_ret
    exact ⟨by rw [HV.out]; rfl, bel_next B0.out B1.out⟩
  · go_wp2_with fail
    refine (H1.out _ B1.out).mono ?_
    rintro e w2 ⟨rfl, b2⟩
    have B2 := Lib.hid (bel_next B1.out b2)
    clear b2 x0 x1 x2 x3 x4 x5
    obtain ⟨x0, x1, x2, x3, x4, x5⟩ := HX.out.next B2.out HS.out
    cases q1
    · go_wp2_with fail
      go_ret
      exact ⟨by rw [HV.out]; rfl, bel_next B0.out B2.out⟩
    · go_wp2_with fail
      refine (H2.out _ B2.out).mono ?_
      rintro e w3 ⟨v1, rfl, s1, b3⟩
      have B3 := Lib.hid (bel_next B2.out b3)
      have S1 := Lib.hid (allS byName s1 (tellsName N1 w3))
      clear b3 s1 x0 x1 x2 x3 x4 x5
      obtain ⟨q2, hq2⟩ : ∃ q, N1.all nameL = q := ⟨_, rfl⟩
      rw [hq2] at HV S1
      clear hq2
      go_wp2_with fail
      refine S1.out.mono ?_
      rintro e w4 ⟨rfl, b4⟩
      have B4 := Lib.hid (bel_next B3.out b4)
      clear b4
      obtain ⟨x0, x1, x2, x3, x4, x5⟩ := HX.out.next B4.out HS.out
      cases q2
      · go_wp2_with fail
        go_ret
        exact ⟨by rw [HV.out]; rfl, bel_next B0.out B4.out⟩
      · go_wp2_with fail
        refine (H3.out _ B4.out).mono ?_
        rintro e w5 ⟨v2, rfl, s2, b5⟩
        have B5 := Lib.hid (bel_next B4.out b5)
        have S2 := Lib.hid (allS byName s2 (tellsName N2 w5))
        clear b5 s2 x0 x1 x2 x3 x4 x5
        obtain ⟨q3, hq3⟩ : ∃ q, N2.all nameL = q := ⟨_, rfl⟩
        rw [hq3] at HV S2
        clear hq3
        go_wp2_with fail
        refine S2.out.mono ?_
        rintro e w6 ⟨rfl, b6⟩
        have B6 := Lib.hid (bel_next B5.out b6)
        clear b6
        go_wp2_with fail
        go_ret
        exact ⟨by rw [HV.out]; rfl, bel_next B0.out B6.out⟩

/-! The names differ. -/
theorem dupN_split (L : Lay) : (!dupN L) = (!dupB L.secs && (!dupB (L.els.map (·.name)) && !dupB (L.sigs.map (·.name)))) := by
  unfold dupN
  rw [Bool.not_or, Bool.not_or]
set_option maxRecDepth 100000 in
set_option maxHeartbeats 1600000 in
theorem hasDistinct_any (L : Lay) {vs ve vj vg vb : Value} (w : World) (h : LayAt (In w) w L vs ve vj vg vb) (hn0 : L.secs.length ≤ 1000) (hn : L.els.length ≤ 1000) (hn2 : L.sigs.length ≤ 1000) :
    Calls Try.prog 20 #[layV L vs ve vj vg vb] w (BoolOut (!dupN L) w) := by
  have b1 := (Below.refl w.heap.size w).alloc (Nat.le_refl _) (.cells #[.string (bs L.name), vs, ve, vj, vg, vb] 28)
  have hh := h.next b1
  have hx := lbox_new w 28 L vs ve vj vg vb
  have hs0 : w.heap.size < (w.alloc (.cells #[.string (bs L.name), vs, ve, vj, vg, vb] 28)).heap.size := by simp
  obtain ⟨W, hW⟩ : ∃ W, w.alloc (.cells #[.string (bs L.name), vs, ve, vj, vg, vb] 28) = W := ⟨_, rfl⟩
  rw [hW] at b1 hh hx hs0
  have HW := Lib.hid hW
  have B0 := Lib.hid b1
  have HX := Lib.hid hx
  have HS := Lib.hid hs0
  have H1 := Lib.hid (fun w' (b : Below W.heap.size W w') => distinctS (hh.next b).secs hn0)
  have H2 := Lib.hid (fun w' (b : Below W.heap.size W w') => elNames_any L w' (hh.next b) hn)
  have H3 := Lib.hid (fun w' (b : Below W.heap.size W w') => sigNames_any L w' (hh.next b) hn2)
  unfold layV at H2 H3 ⊢
  have HV := Lib.hid (dupN_split L)
  obtain ⟨r, hr⟩ : ∃ r, (!dupN L) = r := ⟨_, rfl⟩
  obtain ⟨q1, hq1⟩ : ∃ q, (!dupB L.secs) = q := ⟨_, rfl⟩
  have hl1 : (L.els.map (·.name)).length ≤ 1000 := by rw [List.length_map]; exact hn
  have hl2 : (L.sigs.map (·.name)).length ≤ 1000 := by rw [List.length_map]; exact hn2
  obtain ⟨N1, hn1⟩ : ∃ N, L.els.map (·.name) = N := ⟨_, rfl⟩
  obtain ⟨N2, hn2'⟩ : ∃ N, L.sigs.map (·.name) = N := ⟨_, rfl⟩
  rw [hn1] at H2 hl1
  rw [hn2'] at H3 hl2
  rw [hr, hq1, hn1, hn2'] at HV
  rw [hq1] at H1
  rw [hr]
  have HL1 := Lib.hid hl1
  have HL2 := Lib.hid hl2
  clear hr hq1 hn1 hn2' h hh hx hs0 b1 hW hn hn2 hn0 hl1 hl2
  obtain ⟨x0, x1, x2, x3, x4, x5⟩ := HX.out
  go_enter Try.func20, Try.ntmps20
  go_wp2_with fail
  rw [HW.out]
  refine (H1.out _ (Below.refl _ _)).mono ?_
  rintro e w2 ⟨rfl, b2⟩
  have B2 := Lib.hid b2
  clear b2 x0 x1 x2 x3 x4 x5
  obtain ⟨x0, x1, x2, x3, x4, x5⟩ := HX.out.next B2.out HS.out
  cases q1
  · go_wp2_with fail
    go_ret
    exact ⟨by rw [HV.out]; rfl, bel_next B0.out B2.out⟩
  · go_wp2_with fail
    refine (H2.out _ B2.out).mono ?_
    rintro e w3 ⟨v1, rfl, s1, b3⟩
    have B3 := Lib.hid (bel_next B2.out b3)
    have S1 := Lib.hid (distinctS s1 HL1.out)
    clear b3 s1 x0 x1 x2 x3 x4 x5
    obtain ⟨q2, hq2⟩ : ∃ q, (!dupB N1) = q := ⟨_, rfl⟩
    rw [hq2] at HV S1
    clear hq2
    go_wp2_with fail
    refine S1.out.mono ?_
    rintro e w4 ⟨rfl, b4⟩
    have B4 := Lib.hid (bel_next B3.out b4)
    clear b4
    obtain ⟨x0, x1, x2, x3, x4, x5⟩ := HX.out.next B4.out HS.out
    cases q2
    · go_wp2_with fail
      go_ret
      exact ⟨by rw [HV.out]; rfl, bel_next B0.out B4.out⟩
    · go_wp2_with fail
      refine (H3.out _ B4.out).mono ?_
      rintro e w5 ⟨v2, rfl, s2, b5⟩
      have B5 := Lib.hid (bel_next B4.out b5)
      have S2 := Lib.hid (distinctS s2 HL2.out)
      clear b5 s2 x0 x1 x2 x3 x4 x5
      obtain ⟨q3, hq3⟩ : ∃ q, (!dupB N2) = q := ⟨_, rfl⟩
      rw [hq3] at HV S2
      clear hq3
      go_wp2_with fail
      refine S2.out.mono ?_
      rintro e w6 ⟨rfl, b6⟩
      have B6 := Lib.hid (bel_next B5.out b6)
      clear b6
      go_wp2_with fail
      go_ret
      exact ⟨by rw [HV.out]; rfl, bel_next B0.out B6.out⟩

/-! The sections are not empty. -/
set_option maxRecDepth 100000 in
set_option maxHeartbeats 1600000 in
theorem hasFull_any (L : Lay) {vs ve vj vg vb : Value} (w : World) (h : LayAt (In w) w L vs ve vj vg vb) (hn : L.els.length ≤ 1000) :
    Calls Try.prog 22 #[layV L vs ve vj vg vb] w (BoolOut (heldR L 0 L.secs.length) w) := by
  obtain ⟨a, cap, rfl, hm, _⟩ := h.sn
  have b1 := (Below.refl w.heap.size w).alloc (Nat.le_refl _) (.cells #[.string (bs L.name), .slice a L.secs.length cap, ve, vj, vg, vb] 28)
  have hh := h.next b1
  have hx := lbox_new w 28 L (.slice a L.secs.length cap) ve vj vg vb
  have hs0 : w.heap.size < (w.alloc (.cells #[.string (bs L.name), .slice a L.secs.length cap, ve, vj, vg, vb] 28)).heap.size := by simp
  obtain ⟨W, hW⟩ : ∃ W, w.alloc (.cells #[.string (bs L.name), .slice a L.secs.length cap, ve, vj, vg, vb] 28) = W := ⟨_, rfl⟩
  rw [hW] at b1 hh hx hs0
  have HW := Lib.hid hW
  have B0 := Lib.hid b1
  have HX := Lib.hid hx
  have HS := Lib.hid hs0
  have HM := Lib.hid (fun s (hs : s < L.secs.length) w' (b : Below W.heap.size W w') => Ppar.members_any L s w' (hh.next b) hn hs)
  obtain ⟨r, hr⟩ : ∃ r, heldR L 0 L.secs.length = r := ⟨_, rfl⟩
  rw [hr]
  have HR := Lib.hid hr
  unfold layV at HM ⊢
  clear hr h hh hx hs0 b1 hW hn
  go_enter Try.func22, Try.ntmps22
  go_wp2_with fail
  rw [HW.out]
  go_loopw [7] (fun vi wr => ∃ i : Nat, vi = .int .i64 (i : Int) ∧ i ≤ L.secs.length ∧ r = heldR L i (L.secs.length - i) ∧ Below W.heap.size W wr) (fun vi _ => L.secs.length - (RowKit.intOf vi).toNat)
  case atStart => exact ⟨0, rfl, Nat.zero_le _, by rw [← HR.out]; rfl, Below.refl _ _⟩
  case round =>
    obtain ⟨i, rfl, hi, hri, hb⟩ := hrel
    have HB := Lib.hid hb
    have HI := Lib.hid hri
    obtain ⟨x0, x1, x2, x3, x4, x5⟩ := HX.out.next hb HS.out
    clear hb hri
    by_cases hl : i < L.secs.length
    · obtain ⟨l, hml⟩ : ∃ l, membersF L (i : Int) = l := ⟨_, rfl⟩
      have HC := Lib.hid (HM.out i hl wr HB.out)
      rw [hml] at HC
      have HH := Lib.hid (show r = (!decide (l = []) && heldR L (i + 1) (L.secs.length - (i + 1))) by
        rw [HI.out, show L.secs.length - i = (L.secs.length - (i + 1)) + 1 by omega, held_step hml])
      clear hml
      go_wp2_with fail
      refine HC.out.mono ?_
      rintro e w2 ⟨v, rfl, hg, hb2⟩
      obtain ⟨ga, gc, rfl, -, -, -, -⟩ := hg.shape
      have HB2 := Lib.hid (bel_next HB.out hb2)
      rw [List.length_map]
      clear hb2 hg
      cases l with
      | nil =>
        go_wp2_with fail
        go_ret
        exact ⟨by rw [HH.out]; rfl, bel_next B0.out HB2.out⟩
      | cons y l =>
        have hq : (((y :: l).length : Int) == 0) = false := by simp; omega
        go_wp2_with fail
        go_roundw
        case rel => exact ⟨i + 1, by simp, by omega, by rw [HH.out]; simp, HB2.out⟩
        case measure => simp [RowKit.intOf]; omega
    · have he : i = L.secs.length := by omega
      subst he
      go_wp2_with fail
      go_ret
      exact ⟨by rw [HI.out, Nat.sub_self]; rfl, bel_next B0.out HB.out⟩

end Go.Proofs.Ytieoegodhhiiiaa.Phas
