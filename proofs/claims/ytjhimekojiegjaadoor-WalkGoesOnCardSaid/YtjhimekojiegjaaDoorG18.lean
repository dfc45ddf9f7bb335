/- Texts of this proof, merged: Wgon. -/
import Derived.Test.YtjhimekojiegjaaDoorG12
import Derived.Test.YtjhimekojiegjaaDoorG17

/- WalkGoesOn: the walk. -/
namespace Go.Proofs.YtjhimekojiegjaaDoor.Wgon
open Go.RowKit Go.Lib Go.Proofs.YtjhimekojiegjaaDoor.Reads Go.Proofs.YtjhimekojiegjaaDoor.Rows2 Go.Proofs.YtjhimekojiegjaaDoor.Lay Go.Proofs.YtjhimekojiegjaaDoor.Layf Go.Proofs.YtjhimekojiegjaaDoor.Ldup Go.Proofs.YtjhimekojiegjaaDoor.Lext Go.Proofs.YtjhimekojiegjaaDoor.Ljoi Go.Proofs.YtjhimekojiegjaaDoor.Lnmd Go.Proofs.YtjhimekojiegjaaDoor.Lcon Go.Proofs.YtjhimekojiegjaaDoor.Way Go.Proofs.YtjhimekojiegjaaDoor.Wrf Go.Proofs.YtjhimekojiegjaaDoor.Wlst Go.Proofs.YtjhimekojiegjaaDoor.Wbra Go.Proofs.YtjhimekojiegjaaDoor.Wmea Go.Proofs.YtjhimekojiegjaaDoor.Wele Go.Proofs.YtjhimekojiegjaaDoor.Wsou Go.Proofs.YtjhimekojiegjaaDoor.Wali Go.Proofs.YtjhimekojiegjaaDoor.Wstp Go.Proofs.YtjhimekojiegjaaDoor.Wmsr Go.Proofs.YtjhimekojiegjaaDoor.Wplg Go.Proofs.YtjhimekojiegjaaDoor.Wgor
open Go.Proofs.YtjhimekojiegjaaDoor.Rtab (RTab rtab_next)
open Go.Proofs.YtjhimekojiegjaaDoor.Text hiding lineL joinR

set_option maxRecDepth 100000 in
set_option maxHeartbeats 12800000 in
theorem goes_law (L : Lay) {way : List Stp} {vs ve vj vg vb v : Value} (w : World) (h : LayAt (In w) w L vs ve vj vg vb) (hj : L.joints.length ≤ 4398046510976) (hv : Grid (In w) w v 3 (way.map stCells)) (hd : RTab w) :
    Calls Tryd.prog 7 #[layV L vs ve vj vg vb, v] w (BoolOut true w) := by
  obtain ⟨a2, cap2, rfl, hm2, _⟩ := way_cells hv
  obtain ⟨n, hn⟩ : ∃ n, way.length = n := ⟨_, rfl⟩
  rw [hn] at hv hm2 ⊢
  have b0 := (Below.refl w.heap.size w).alloc (Nat.le_refl _) (.cells #[.string (bs L.name), vs, ve, vj, vg, vb] 28)
  have h0 := h.next b0
  have d0 := rtab_next hd b0
  have v0 := grid_next hv b0
  have HX := lbox_new w 28 L vs ve vj vg vb
  have hs0 : w.heap.size < (w.alloc (.cells #[.string (bs L.name), vs, ve, vj, vg, vb] 28)).heap.size := by simp
  clear h hd hv
  unfold layV
  go_enter Tryd.func7, Tryd.ntmps7
  go_wp2_with fail
  obtain ⟨W, hW⟩ : ∃ W, w.alloc (.cells #[.string (bs L.name), vs, ve, vj, vg, vb] 28) = W := ⟨_, rfl⟩
  rw [hW] at b0 h0 d0 v0 HX hs0 ⊢
  clear hW
  have B0 := Lib.hid b0
  have HLY := Lib.hid (fun w' (b : Below W.heap.size W w') => h0.next b)
  have HDY := Lib.hid (fun w' (b : Below W.heap.size W w') => rtab_next d0 b)
  have HVY := Lib.hid (fun w' (b : Below W.heap.size W w') => grid_next v0 b)
  obtain ⟨_, _, he, _, hcw⟩ := way_cells v0
  simp only [Value.slice.injEq] at he
  obtain ⟨rfl, he2, rfl⟩ := he
  clear he2
  have HC := Lib.hid hcw
  clear hcw
  have HL6 : Hid (∀ w', Below W.heap.size W w' → w'.cell? ⟨w.heap.size, 0, none⟩ = some (.string (bs L.name)) ∧ w'.cell? ⟨w.heap.size, 1, none⟩ = some vs ∧ w'.cell? ⟨w.heap.size, 2, none⟩ = some ve ∧ w'.cell? ⟨w.heap.size, 3, none⟩ = some vj ∧ w'.cell? ⟨w.heap.size, 4, none⟩ = some vg ∧ w'.cell? ⟨w.heap.size, 5, none⟩ = some vb) := fun w' b => HX.next b hs0
  have HS0 := Lib.hid hs0
  have C1 := Lib.hid (sound_any L (n := n) (cap := cap2) (a := a2) W h0 hj hm2)
  unfold layV at C1
  clear HX h0 d0 v0 b0 hj
  obtain ⟨x0, x1, x2, x3, x4, x5⟩ := HL6.out W (Below.refl _ _)
  obtain ⟨q, hq⟩ : ∃ q, soundB L n = q := ⟨_, rfl⟩
  rw [hq] at C1
  have HQ := Lib.hid hq
  have HN := Lib.hid hn
  clear hq hn
  go_wp2_with fail
  refine C1.out.mono ?_
  rintro e w1 ⟨rfl, b⟩
  have E0 := Lib.hid b
  clear b C1 x0 x1 x2 x3 x4 x5 hs0
  have hcase : q = false ∨ (q = true ∧ decide ((64 : Int) ≤ (n : Int)) = true) ∨ (q = true ∧ decide ((64 : Int) ≤ (n : Int)) = false) := by
    cases q
    · exact .inl rfl
    · cases decide ((64 : Int) ≤ (n : Int))
      · exact .inr (.inr ⟨rfl, rfl⟩)
      · exact .inr (.inl ⟨rfl, rfl⟩)
  rcases hcase with rfl | ⟨rfl, g1⟩ | ⟨rfl, g1⟩
  · have HA := Lib.hid (alive_any w1 (HDY.out w1 E0.out))
    go_wp2_with fail
    refine HA.out.mono ?_
    rintro e w9 ⟨rfl, b⟩
    have B9 := Lib.hid (bel_next (bel_next B0.out E0.out) b)
    clear b
    go_wp2_with fail
    go_ret
    exact ⟨rfl, B9.out⟩
  · have HA := Lib.hid (alive_any w1 (HDY.out w1 E0.out))
    go_wp2_with fail
    refine HA.out.mono ?_
    rintro e w9 ⟨rfl, b⟩
    have B9 := Lib.hid (bel_next (bel_next B0.out E0.out) b)
    clear b
    go_wp2_with fail
    go_ret
    exact ⟨rfl, B9.out⟩
  · obtain ⟨hn200, hc⟩ := sound_check HQ.out
    have hn64 : n < 64 := by
      have := of_decide_eq_false g1
      omega
    have C2 := Lib.hid (Wval.pvalid_any L w1 (HLY.out w1 E0.out) (HVY.out w1 E0.out) (HDY.out w1 E0.out))
    obtain ⟨q, hq⟩ : ∃ q, validF L way = q := ⟨_, rfl⟩
    rw [hq] at C2
    have HQV := Lib.hid hq
    have HCK := Lib.hid hc
    unfold layV at C2
    obtain ⟨x0, x1, x2, x3, x4, x5⟩ := HL6.out w1 E0.out
    clear HQ hq hc
    go_wp2_with fail
    refine C2.out.mono ?_
    rintro e w2 ⟨rfl, b⟩
    have E1 := Lib.hid (E0.out.trans (b.mono E0.out.size))
    clear b C2 x0 x1 x2 x3 x4 x5
    cases q with
    | false =>
      have HA := Lib.hid (alive_any w2 (HDY.out w2 E1.out))
      go_wp2_with fail
      refine HA.out.mono ?_
      rintro e w9 ⟨rfl, b⟩
      have B9 := Lib.hid (bel_next (bel_next B0.out E1.out) b)
      clear b
      go_wp2_with fail
      go_ret
      exact ⟨rfl, B9.out⟩
    | true =>
      have hn1 : 1 ≤ way.length := by
        have := HQV.out
        unfold validF at this
        simp only [Bool.and_eq_true, decide_eq_true_eq] at this
        omega
      rw [HN.out] at hn1
      obtain ⟨m, rfl⟩ : ∃ m, n = m + 1 := ⟨n - 1, by omega⟩
      obtain ⟨p, hp⟩ := at_lt (l := way) (k := m) (by rw [HN.out]; omega)
      have hlast : way.getLast? = some p := by rw [List.getLast?_eq_getElem?, HN.out]; exact hp
      obtain ⟨b, off, rfl, hbl, c0, c1, c2⟩ := HC.out W (Below.refl _ _) m p hp
      obtain ⟨⟨⟨n1, n2⟩, n3⟩, hnx⟩ : ∃ q, nextS L p = q := ⟨_, rfl⟩
      have HLONG := Lib.hid (fun (h3 : n3 = true) => longer HQV.out (by rw [HN.out]; exact hn64) hlast (by rw [hnx, h3]))
      have HSOME := Lib.hid (fun (h3 : n3 = true) => some_branch (at2 := (n1, n2)) HCK.out (p := p) (by rw [hnx, h3]))
      obtain ⟨p1, p2, p3⟩ := p
      simp only at c0 c1 c2
      have HK : Hid (∀ w', Below W.heap.size W w' → w'.cell? ⟨w.heap.size, 0, none⟩ = some (.string (bs L.name)) ∧ w'.cell? ⟨w.heap.size, 1, none⟩ = some vs ∧ w'.cell? ⟨w.heap.size, 2, none⟩ = some ve ∧ w'.cell? ⟨w.heap.size, 3, none⟩ = some vj ∧ w'.cell? ⟨w.heap.size, 4, none⟩ = some vg ∧ w'.cell? ⟨w.heap.size, 5, none⟩ = some vb ∧ w'.cell? ⟨b, off + m * 3, none⟩ = some (.int .i64 p1) ∧ w'.cell? ⟨b, off + m * 3 + 1, none⟩ = some (.int .i64 p2) ∧ w'.cell? ⟨b, off + m * 3 + 2, none⟩ = some (.int .i64 p3)) := fun w' b' => by
        obtain ⟨x0, x1, x2, x3, x4, x5⟩ := HL6.out w' b'
        exact ⟨x0, x1, x2, x3, x4, x5, (b'.cell (p := ⟨b, off + m * 3, none⟩) hbl).trans c0, (b'.cell (p := ⟨b, off + m * 3 + 1, none⟩) hbl).trans c1, (b'.cell (p := ⟨b, off + m * 3 + 2, none⟩) hbl).trans c2⟩
      have C3 := Lib.hid (fun w' (b : Below w2.heap.size w2 w') => Wnxt.pnext_any L (p1, p2, p3) w' (HLY.out w' (bel_next E1.out b)))
      rw [hnx] at C3
      have C4 := Lib.hid (fun w' (b : Below W.heap.size W w') => Ppar.joined_any L (p1, p3) w' (HLY.out w' b))
      rw [show joinedF L (p1, p3) = ((n1, n2), n3) from hnx] at C4
      unfold layV stV EndOut pV at C3
      unfold layV EndOut pV at C4
      try simp only at C3
      try simp only at C4
      have z0 : (((m + 1 : Nat) : Int) == 0) = false := beq_eq_false_iff_ne.2 (by omega)
      have z1 : ((m : Int) + 1 == 0) = false := beq_eq_false_iff_ne.2 (by omega)
      have hi0 : (0 : Int) ≤ (m : Int) := by omega
      have hi1 : (m : Int) < (m : Int) + 1 := by omega
      have hi2 : IntKind.i64.wrap (m : Int) = (m : Int) := by simp [IntKind.wrap, IntKind.bits, IntKind.signed]; omega
      clear hp hnx hlast c0 c1 c2 hn1 hn200 g1
      obtain ⟨x0, x1, x2, x3, x4, x5, y0, y1, y2⟩ := HK.out _ E1.out
      go_upto_region 5 with fail
      go_cut [5, 6] (fun va vc wx => ∃ A, va = .pointer (some ⟨A, 0, none⟩) ∧ vc = .bool n3 ∧ wx.cell? ⟨A, 0, none⟩ = some (.int .i64 n1) ∧ wx.cell? ⟨A, 1, none⟩ = some (.int .i64 n2) ∧ A < wx.heap.size ∧ Below w2.heap.size w2 wx)
      case first =>
        go_region_held3 (fun w' => w'.cell? ⟨w.heap.size, 0, none⟩ = some (.string (bs L.name)) ∧ w'.cell? ⟨w.heap.size, 1, none⟩ = some vs ∧ w'.cell? ⟨w.heap.size, 2, none⟩ = some ve ∧ w'.cell? ⟨w.heap.size, 3, none⟩ = some vj ∧ w'.cell? ⟨w.heap.size, 4, none⟩ = some vg ∧ w'.cell? ⟨w.heap.size, 5, none⟩ = some vb ∧ w'.cell? ⟨b, off + m * 3, none⟩ = some (.int .i64 p1) ∧ w'.cell? ⟨b, off + m * 3 + 1, none⟩ = some (.int .i64 p2) ∧ w'.cell? ⟨b, off + m * 3 + 2, none⟩ = some (.int .i64 p3))
          (first
            | with_reducible exact HK.out _ (bel_next E1.out E7.out)
            | with_reducible exact HK.out _ (bel_next E1.out (E7.out.alloc E7.out.size _))
            | with_reducible exact HK.out _ (bel_next E1.out ((E7.out.setCell (Nat.le_refl _) _).setCell (Nat.le_refl _) _))
            | with_reducible exact HK.out _ (bel_next E1.out ((Below.refl w2.heap.size w2).alloc (Nat.le_refl _) _).drew)
            | go_keep)
          (first
            | (go_at_call 11; (with_reducible refine (C3.out _ (Below.refl w2.heap.size w2).drew).mono ?_); rintro e w7 ⟨rfl, b7⟩; have E7 := Lib.hid ((Below.refl w2.heap.size w2).drew.trans (b7.mono (Below.refl w2.heap.size w2).drew.size)); clear b7)
            | (go_at_call 11; (with_reducible refine (C3.out _ ((Below.refl w2.heap.size w2).alloc (Nat.le_refl _) _).drew).mono ?_); rintro e w7 ⟨rfl, b7⟩; have E7 := Lib.hid (((Below.refl w2.heap.size w2).alloc (Nat.le_refl _) _).drew.trans (b7.mono ((Below.refl w2.heap.size w2).alloc (Nat.le_refl _) _).drew.size)); have HLT7 := Lib.hid (Nat.lt_of_lt_of_le (show w2.heap.size < ((w2.alloc (.cells #[.int .i64 0, .int .i64 0] 32)).drew).heap.size by simp) b7.size); have g3 := (b7.block w2.heap.size (by simp)).trans (heap_alloc_new w2 _); have g4 := cell_of_row w7 _ 0 _ _ _ g3; have g5 := cell_of_row w7 _ 1 _ _ _ g3; have g6 := frozen_of_row w7 _ 0 _ _ g3; have g7 := frozen_of_row w7 _ 1 _ _ g3; clear b7 g3))
        · go_wp2_with fail
          go_meet
          exact ⟨_, rfl, rfl, by rw [World.cell?_alloc_at _ _ _ _ rfl]; rfl, by rw [World.cell?_alloc_at _ _ _ _ rfl]; rfl, by simp, E7.out.alloc E7.out.size _⟩
        · go_wp2_with fail
          go_meet
          exact ⟨_, rfl, rfl, by rw [World.cell?_setCell_other _ _ _ _ (by simp)]; exact World.cell?_setCell_same' _ _ _ (by rw [g4]; rfl), World.cell?_setCell_same' _ _ _ (by rw [World.cell?_setCell_other _ _ _ _ (by simp), g5]; rfl), by simpa [World.setCell] using HLT7.out, (E7.out.setCell (Nat.le_refl _) _).setCell (Nat.le_refl _) _⟩
      case rest =>
        obtain ⟨A5, rfl, rfl, f0, f1, hA5, hb5⟩ := hcut
        have E5 := Lib.hid (bel_next E1.out hb5)
        have H5 := Lib.hid (fun w' (b : Below wc.heap.size wc w') => (⟨(b.cell (p := ⟨A5, 0, none⟩) hA5).trans f0, (b.cell (p := ⟨A5, 1, none⟩) hA5).trans f1, Nat.lt_of_lt_of_le hA5 b.size⟩ : w'.cell? ⟨A5, 0, none⟩ = some (.int .i64 n1) ∧ w'.cell? ⟨A5, 1, none⟩ = some (.int .i64 n2) ∧ A5 < w'.heap.size))
        obtain ⟨w5, hw5⟩ : ∃ W, W = wc := ⟨_, rfl⟩
        subst hw5
        have C5 := Lib.hid (fun w' (b : Below w5.heap.size w5 w') => C4.out w' (bel_next E5.out b))
        clear f0 f1 hA5 hb5 x0 x1 x2 x3 x4 x5 y0 y1 y2 C3 C4
        obtain ⟨x0, x1, x2, x3, x4, x5, y0, y1, y2⟩ := HK.out _ E5.out
        go_upto_region 6 with fail
        go_cut [7, 8] (fun va vc wx => ∃ A, va = .pointer (some ⟨A, 0, none⟩) ∧ vc = .bool n3 ∧ wx.cell? ⟨A, 0, none⟩ = some (.int .i64 n1) ∧ wx.cell? ⟨A, 1, none⟩ = some (.int .i64 n2) ∧ A < wx.heap.size ∧ Below w5.heap.size w5 wx)
        case first =>
          go_region_held3 (fun w' => w'.cell? ⟨w.heap.size, 0, none⟩ = some (.string (bs L.name)) ∧ w'.cell? ⟨w.heap.size, 1, none⟩ = some vs ∧ w'.cell? ⟨w.heap.size, 2, none⟩ = some ve ∧ w'.cell? ⟨w.heap.size, 3, none⟩ = some vj ∧ w'.cell? ⟨w.heap.size, 4, none⟩ = some vg ∧ w'.cell? ⟨w.heap.size, 5, none⟩ = some vb ∧ w'.cell? ⟨b, off + m * 3, none⟩ = some (.int .i64 p1) ∧ w'.cell? ⟨b, off + m * 3 + 1, none⟩ = some (.int .i64 p2) ∧ w'.cell? ⟨b, off + m * 3 + 2, none⟩ = some (.int .i64 p3))
            (first
              | with_reducible exact HK.out _ (bel_next E5.out E7.out)
              | with_reducible exact HK.out _ (bel_next E5.out (E7.out.alloc E7.out.size _))
              | with_reducible exact HK.out _ (bel_next E5.out ((E7.out.setCell (Nat.le_refl _) _).setCell (Nat.le_refl _) _))
              | with_reducible exact HK.out _ (bel_next E5.out ((Below.refl w5.heap.size w5).alloc (Nat.le_refl _) _).drew)
              | go_keep)
            (first
              | (go_at_call 29; (with_reducible refine (C5.out _ (Below.refl w5.heap.size w5).drew).mono ?_); rintro e w7 ⟨rfl, b7⟩; have E7 := Lib.hid ((Below.refl w5.heap.size w5).drew.trans (b7.mono (Below.refl w5.heap.size w5).drew.size)); clear b7)
              | (go_at_call 29; (with_reducible refine (C5.out _ ((Below.refl w5.heap.size w5).alloc (Nat.le_refl _) _).drew).mono ?_); rintro e w7 ⟨rfl, b7⟩; have E7 := Lib.hid (((Below.refl w5.heap.size w5).alloc (Nat.le_refl _) _).drew.trans (b7.mono ((Below.refl w5.heap.size w5).alloc (Nat.le_refl _) _).drew.size)); have HLT7 := Lib.hid (Nat.lt_of_lt_of_le (show w5.heap.size < ((w5.alloc (.cells #[.int .i64 0, .int .i64 0] 32)).drew).heap.size by simp) b7.size); have g3 := (b7.block w5.heap.size (by simp)).trans (heap_alloc_new w5 _); have g4 := cell_of_row w7 _ 0 _ _ _ g3; have g5 := cell_of_row w7 _ 1 _ _ _ g3; have g6 := frozen_of_row w7 _ 0 _ _ g3; have g7 := frozen_of_row w7 _ 1 _ _ g3; clear b7 g3))
          · go_wp2_with fail
            go_meet
            exact ⟨_, rfl, rfl, by rw [World.cell?_alloc_at _ _ _ _ rfl]; rfl, by rw [World.cell?_alloc_at _ _ _ _ rfl]; rfl, by simp, E7.out.alloc E7.out.size _⟩
          · go_wp2_with fail
            go_meet
            exact ⟨_, rfl, rfl, by rw [World.cell?_setCell_other _ _ _ _ (by simp)]; exact World.cell?_setCell_same' _ _ _ (by rw [g4]; rfl), World.cell?_setCell_same' _ _ _ (by rw [World.cell?_setCell_other _ _ _ _ (by simp), g5]; rfl), by simpa [World.setCell] using HLT7.out, (E7.out.setCell (Nat.le_refl _) _).setCell (Nat.le_refl _) _⟩
        case rest =>
          obtain ⟨A7, rfl, rfl, f2, f3, hA7, hb7⟩ := hcut
          have E6 := Lib.hid (bel_next E5.out hb7)
          obtain ⟨w6, hw6⟩ : ∃ W, W = wc := ⟨_, rfl⟩
          subst hw6
          obtain ⟨f0, f1, hA5⟩ := H5.out _ hb7
          have H6 := Lib.hid (fun w' (b : Below w6.heap.size w6 w') => H5.out w' (bel_next hb7 b))
          have e1 : (n1 != n1) = false := by simp
          have e2 : (n2 != n2) = false := by simp
          have e3 : (n3 != n3) = false := by simp
          clear x0 x1 x2 x3 x4 x5 y0 y1 y2 C5 hi0 hi1 hi2 z0 z1 hb7
          cases n3 with
          | false =>
            have HA := Lib.hid (alive_any w6 (HDY.out w6 E6.out))
            go_wp2_with fail
            refine HA.out.mono ?_
            rintro e w9 ⟨rfl, b⟩
            have B9 := Lib.hid (bel_next (bel_next B0.out E6.out) b)
            clear b
            go_wp2_with fail
            go_ret
            exact ⟨rfl, B9.out⟩
          | true =>
            have HLO := Lib.hid (HLONG.out rfl)
            have HSO := Lib.hid (HSOME.out rfl)
            clear HLONG HSOME
            go_wp2_with fail
            clear f0 f1 f2 f3 hA5 hA7 e1 e2 e3
            obtain ⟨N, hN⟩ : ∃ N : Nat, m + 1 = N := ⟨_, rfl⟩
            have hN2 : (m : Int) + 1 = (N : Int) := by omega
            try rw [hN]
            try rw [hN2]
            rw [hN] at HN hm2 hn64
            clear hN hN2
            go_loopw [9, 79] (fun vi vk wr => ∃ k : Nat, vi = .bool ((way.take k).any fun x => decide (x.1 = n1)) ∧ vk = .int .i64 (k : Int) ∧ k ≤ N ∧ Below w6.heap.size w6 wr) (fun _ vk _ => N - (RowKit.intOf vk).toNat)
            case atStart => exact ⟨0, by simp, rfl, Nat.zero_le _, Below.refl _ _⟩
            case round =>
              obtain ⟨k, rfl, rfl, hk, hb⟩ := hrel
              have B7 := Lib.hid hb
              have E7 := Lib.hid (bel_next E6.out hb)
              obtain ⟨f0, f1, hA5⟩ := H6.out _ hb
              clear hb
              by_cases hlt : k < N
              · obtain ⟨x, hx⟩ := at_lt (l := way) (k := k) (by rw [HN.out]; exact hlt)
                obtain ⟨_, _, e', hbq, c0, c1, c2⟩ := HC.out _ E7.out k x hx
                cases e'
                have HAT := Lib.hid (any_take (p := fun x => decide (x.1 = n1)) hx)
                obtain ⟨q1, q2, q3⟩ := x
                simp only at c0 c1 c2 HAT
                obtain ⟨bb, hbb⟩ : ∃ q, ((way.take k).any fun x => decide (x.1 = n1)) = q := ⟨_, rfl⟩
                rw [hbb] at HAT ⊢
                have hbr : b < wr.heap.size := Nat.lt_of_lt_of_le hbq E7.out.size
                have BX := Lib.hid (B7.out.alloc B7.out.size (.cells #[.int .i64 q1, .int .i64 q2, .int .i64 q3] 30))
                clear hx hbb hbq
                cases bb with
                | true =>
                  go_wp2_with fail
                  go_roundw
                  case rel => exact ⟨k + 1, by rw [HAT.out]; rfl, by simp, by omega, BX.out⟩
                  case measure => simp [RowKit.intOf]; omega
                | false =>
                  by_cases hq : q1 = n1
                  · subst hq
                    have HT := Lib.hid (show ((way.take (k + 1)).any fun x => decide (x.1 = q1)) = true by rw [HAT.out]; simp)
                    go_wp2_with fail
                    go_roundw
                    case rel => exact ⟨k + 1, by rw [HT.out], by simp, by omega, BX.out⟩
                    case measure => simp [RowKit.intOf]; omega
                  · have hqf : (q1 == n1) = false := beq_eq_false_iff_ne.2 hq
                    have HT := Lib.hid (show ((way.take (k + 1)).any fun x => decide (x.1 = n1)) = false by rw [HAT.out]; simp [hq])
                    clear hq
                    go_wp2_with fail
                    go_roundw
                    case rel => exact ⟨k + 1, by rw [HT.out], by simp, by omega, BX.out⟩
                    case measure => simp [RowKit.intOf]; omega
              · have hke : N = k := by omega
                subst hke
                rw [show way.take N = way by rw [← HN.out, List.take_length]]
                obtain ⟨bi, hbi⟩ : ∃ q, (way.any fun x => decide (x.1 = n1)) = q := ⟨_, rfl⟩
                rw [hbi] at HLO ⊢
                obtain ⟨br, hbrr⟩ : ∃ q, branchesF L (n1, n2) = q := ⟨_, rfl⟩
                have C8 := Lib.hid (Wpbr.pbranches_any L (n1, n2) wr (HLY.out _ E7.out) (HDY.out _ E7.out))
                rw [hbrr] at C8 HLO HSO
                unfold layV pV at C8
                try simp only at C8
                obtain ⟨x0, x1, x2, x3, x4, x5, y0, y1, y2⟩ := HK.out _ E7.out
                clear hbi hbrr hlt hk
                go_wp2_with fail
                refine C8.out.mono ?_
                rintro e w8 ⟨v12, rfl, g12, b8⟩
                have E8 := Lib.hid (bel_next E7.out b8)
                obtain ⟨a12, cap12, rfl, hm12, hc12⟩ := way_cells (grid_in g12)
                have HB := Lib.hid hc12
                clear b8 C8 x0 x1 x2 x3 x4 x5 y0 y1 y2 g12 hc12 f0 f1 hA5
                go_wp2_with fail
                go_loopw [97] (fun vk wr => ∃ k : Nat, vk = .int .i64 (k : Int) ∧ k ≤ br.length ∧ Below w8.heap.size w8 wr) (fun vk _ => br.length - (RowKit.intOf vk).toNat)
                case atStart => exact ⟨0, rfl, Nat.zero_le _, Below.refl _ _⟩
                case round =>
                  obtain ⟨k, rfl, hk, hb⟩ := hrel
                  have B9 := Lib.hid hb
                  have E9 := Lib.hid (bel_next E8.out hb)
                  clear hb
                  by_cases hlt : k < br.length
                  · obtain ⟨s, hs⟩ := at_lt hlt
                    have hval := HLO.out s (List.mem_of_getElem? hs)
                    obtain ⟨b9, off9, rfl, hb9, c0, c1, c2⟩ := HB.out _ B9.out k s hs
                    obtain ⟨s1, s2, s3⟩ := s
                    simp only at c0 c1 c2
                    have hbr : b9 < wr.heap.size := Nat.lt_of_lt_of_le hb9 B9.out.size
                    clear hs hb9
                    have bA := (Below.refl wr.heap.size wr).alloc (Nat.le_refl _) (.cells #[.int .i64 s1, .int .i64 s2, .int .i64 s3] 30)
                    have BA := Lib.hid (bel_next B9.out bA)
                    have EA := Lib.hid (bel_next E9.out bA)
                    have u0 : (wr.alloc (.cells #[.int .i64 s1, .int .i64 s2, .int .i64 s3] 30)).cell? ⟨wr.heap.size, 0, none⟩ = some (.int .i64 s1) := by rw [World.cell?_alloc_at _ _ _ _ rfl]; rfl
                    have u1 : (wr.alloc (.cells #[.int .i64 s1, .int .i64 s2, .int .i64 s3] 30)).cell? ⟨wr.heap.size, 1, none⟩ = some (.int .i64 s2) := by rw [World.cell?_alloc_at _ _ _ _ rfl]; rfl
                    have u2 : (wr.alloc (.cells #[.int .i64 s1, .int .i64 s2, .int .i64 s3] 30)).cell? ⟨wr.heap.size, 2, none⟩ = some (.int .i64 s3) := by rw [World.cell?_alloc_at _ _ _ _ rfl]; rfl
                    have hz : wr.heap.size < (wr.alloc (.cells #[.int .i64 s1, .int .i64 s2, .int .i64 s3] 30)).heap.size := by simp
                    go_upto_region 21 with fail
                    obtain ⟨wA, hwA⟩ : ∃ W, wr.alloc (.cells #[.int .i64 s1, .int .i64 s2, .int .i64 s3] 30) = W := ⟨_, rfl⟩
                    rw [hwA] at BA EA u0 u1 u2 hz ⊢
                    clear hwA c0 c1 c2 bA
                    go_cut [15] (fun vl wx => ∃ A C, vl = .slice A (N + 1) C ∧ Grid (In wx) wx vl 3 ((way ++ [(s1, s2, s3)]).map stCells) ∧ Below wA.heap.size wA wx)
                    case first =>
                      obtain ⟨i0, hif, hz0, hz1, hz2⟩ := info_parts infoT
                      have HI0 := Lib.hid hif
                      have HZ0 := Lib.hid hz0
                      have HZ1 := Lib.hid hz1
                      have HZ2 := Lib.hid hz2
                      clear hif hz0 hz1 hz2
                      have HWF : Hid (∀ w', Below W.heap.size W w' → ∀ (i : Nat) (u : Value), (way.flatMap stCells)[i]? = some u → w'.cell? ((⟨b, off, none⟩ : Addr).add i) = some u) := fun w' hb' => way_flat fun k x hx => by
                        obtain ⟨_, _, e', _, d0, d1, d2⟩ := HC.out w' hb' k x hx
                        cases e'
                        exact ⟨d0, d1, d2⟩
                      have HKA : Hid (∀ w', Below wA.heap.size wA w' → w'.cell? ⟨wr.heap.size, 0, none⟩ = some (.int .i64 s1) ∧ w'.cell? ⟨wr.heap.size, 1, none⟩ = some (.int .i64 s2) ∧ w'.cell? ⟨wr.heap.size, 2, none⟩ = some (.int .i64 s3)) := fun w' hb' => ⟨(hb'.cell (p := ⟨wr.heap.size, 0, none⟩) hz).trans u0, (hb'.cell (p := ⟨wr.heap.size, 1, none⟩) hz).trans u1, (hb'.cell (p := ⟨wr.heap.size, 2, none⟩) hz).trans u2⟩
                      have BE1 := Lib.hid ((Below.refl wA.heap.size wA).alloc (Nat.le_refl _) (.cells #[] 30)).drew
                      have OE1 := Lib.hid (own_none wA 30).drew
                      have BE2 := Lib.hid (((Below.refl wA.heap.size wA).alloc (Nat.le_refl _) (.cells #[] 30)).alloc (by simp) (.cells #[.int .i64 s1, .int .i64 s2, .int .i64 s3] 30)).drew
                      have OE2 := Lib.hid ((own_none wA 30).alloc (.cells #[.int .i64 s1, .int .i64 s2, .int .i64 s3] 30)).drew
                      have RE2 : Hid (((wA.alloc (.cells #[] 30)).alloc (.cells #[.int .i64 s1, .int .i64 s2, .int .i64 s3] 30)).drew.heap[wA.heap.size + 1]? = some (.cells #[.int .i64 s1, .int .i64 s2, .int .i64 s3] 30)) := by
                        have := heap_alloc_new (wA.alloc (.cells #[] 30)) (.cells #[.int .i64 s1, .int .i64 s2, .int .i64 s3] 30)
                        rwa [show (wA.alloc (.cells #[] 30)).heap.size = wA.heap.size + 1 by simp] at this
                      have LE2 : Hid (wA.heap.size + 1 < ((wA.alloc (.cells #[] 30)).alloc (.cells #[.int .i64 s1, .int .i64 s2, .int .i64 s3] 30)).drew.heap.size) := by
                        show wA.heap.size + 1 < ((wA.alloc (.cells #[] 30)).alloc (.cells #[.int .i64 s1, .int .i64 s2, .int .i64 s3] 30)).heap.size
                        simp
                      have BE3 := Lib.hid (((Below.refl wA.heap.size wA).alloc (Nat.le_refl _) (.cells #[.int .i64 s1, .int .i64 s2, .int .i64 s3] 30)).alloc (by simp) (.cells #[] 30)).drew
                      have OE3 := Lib.hid (own_none2 (wA.alloc (.cells #[.int .i64 s1, .int .i64 s2, .int .i64 s3] 30)) 30 (B := wA.heap.size) (g := wA.heap.size + 1) (by simp) (by simp)).drew
                      have RE3 : Hid (((wA.alloc (.cells #[.int .i64 s1, .int .i64 s2, .int .i64 s3] 30)).alloc (.cells #[] 30)).drew.heap[wA.heap.size]? = some (.cells #[.int .i64 s1, .int .i64 s2, .int .i64 s3] 30)) := by
                        show ((wA.alloc (.cells #[.int .i64 s1, .int .i64 s2, .int .i64 s3] 30)).alloc (.cells #[] 30)).heap[wA.heap.size]? = some (.cells #[.int .i64 s1, .int .i64 s2, .int .i64 s3] 30)
                        rw [heap_alloc_old _ _ (by simp)]
                        exact heap_alloc_new wA (.cells #[.int .i64 s1, .int .i64 s2, .int .i64 s3] 30)
                      have LE3 : Hid (wA.heap.size < ((wA.alloc (.cells #[.int .i64 s1, .int .i64 s2, .int .i64 s3] 30)).alloc (.cells #[] 30)).drew.heap.size) := by
                        show wA.heap.size < ((wA.alloc (.cells #[.int .i64 s1, .int .i64 s2, .int .i64 s3] 30)).alloc (.cells #[] 30)).heap.size
                        simp
                        omega
                      have HL1 := Lib.hid (show (([] : List Stp).length + way.length) * 24 ≤ 140737488355328 by rw [HN.out, List.length_nil]; omega)
                      have HL2 := Lib.hid (show ([] : List Stp).length + way.length ≤ maxLen by rw [HN.out, List.length_nil]; unfold maxLen; omega)
                      have HL3 := Lib.hid (show (way.length + 1) * 24 ≤ 140737488355328 by rw [HN.out]; omega)
                      have HL4 := Lib.hid (show way.length + 1 ≤ maxLen by rw [HN.out]; unfold maxLen; omega)
                      go_region_held3 (fun w' => w'.cell? ⟨wr.heap.size, 0, none⟩ = some (.int .i64 s1) ∧ w'.cell? ⟨wr.heap.size, 1, none⟩ = some (.int .i64 s2) ∧ w'.cell? ⟨wr.heap.size, 2, none⟩ = some (.int .i64 s3))
                        (first
                          | with_reducible exact HKA.out _ F15.out
                          | with_reducible exact HKA.out _ F4.out
                          | with_reducible exact HKA.out _ (F4.out.alloc F4.out.size _)
                          | with_reducible exact HKA.out _ F4.out.drew
                          | with_reducible exact HKA.out _ BE1.out
                          | with_reducible exact HKA.out _ BE2.out
                          | with_reducible exact HKA.out _ BE3.out
                          | with_reducible exact HKA.out _ (BE1.out.alloc BE1.out.size _)
                          | go_keep)
                        (first
                          | (refine step_rows rfl (.tmp 101) (.tmp 102) 38 rfl 30 i0 (.agg #[.int .i64 0, .int .i64 0, .int .i64 0]) 3 24 Tryd.underlying38 HI0.out HZ0.out HZ1.out HZ2.out rfl (by decide) stCells st_len st_one [] way rfl rfl HN.out.symm (HWF.out _ (bel_next EA.out BE1.out)) wA.heap.size OE1.out BE1.out.size HL1.out HL2.out ?_; intro v4 w4 o4 g4; rw [List.nil_append, HN.out] at o4; obtain ⟨A4, C4, rfl⟩ := own_some o4; have O4 := Lib.hid (HN.out.symm ▸ o4 : w4.ownsRow wA.heap.size 30 3 (.slice A4 N C4) way.length (way.flatMap stCells)); have F4 := Lib.hid (BE1.out.grown g4 BE1.out.size (fun g hg => (OE1.out.lt g hg).1)); clear o4 g4)
                          | (refine step_append_row rfl (.tmp 103) (.tmp 105) 38 rfl wA 30 i0 (.agg #[.int .i64 0, .int .i64 0, .int .i64 0]) 3 24 Tryd.underlying38 HI0.out HZ0.out HZ1.out HZ2.out rfl (by decide) stCells st_len st_one (s1, s2, s3) rfl rfl (by simp) rfl O4.out F4.out HL3.out HL4.out ?_; intro v15 w15 o15 f15; have O15 := Lib.hid o15; have F15 := Lib.hid f15; clear o15 f15)
                          | (refine step_append_row rfl (.tmp 103) (.tmp 105) 38 rfl wA 30 i0 (.agg #[.int .i64 0, .int .i64 0, .int .i64 0]) 3 24 Tryd.underlying38 HI0.out HZ0.out HZ1.out HZ2.out rfl (by decide) stCells st_len st_one (s1, s2, s3) rfl rfl (by simp) rfl O4.out.drew F4.out.drew HL3.out HL4.out ?_; intro v15 w15 o15 f15; have O15 := Lib.hid o15; have F15 := Lib.hid f15; clear o15 f15)
                          | (refine step_rows rfl (.tmp 101) (.tmp 102) 38 rfl 30 i0 (.agg #[.int .i64 0, .int .i64 0, .int .i64 0]) 3 24 Tryd.underlying38 HI0.out HZ0.out HZ1.out HZ2.out rfl (by decide) stCells st_len st_one [] way rfl rfl HN.out.symm (HWF.out _ (bel_next EA.out BE2.out)) wA.heap.size OE2.out BE2.out.size HL1.out HL2.out ?_; intro v4 w4 o4 g4; have R4 := Lib.hid (row_grown g4 RE2.out LE2.out (by omega)); rw [List.nil_append, HN.out] at o4; obtain ⟨A4, C4, rfl⟩ := own_some o4; have O4 := Lib.hid (HN.out.symm ▸ o4 : w4.ownsRow wA.heap.size 30 3 (.slice A4 N C4) way.length (way.flatMap stCells)); have F4 := Lib.hid (BE2.out.grown g4 BE2.out.size (fun g hg => (OE2.out.lt g hg).1)); clear o4 g4)
                          | (refine step_rows rfl (.tmp 101) (.tmp 102) 38 rfl 30 i0 (.agg #[.int .i64 0, .int .i64 0, .int .i64 0]) 3 24 Tryd.underlying38 HI0.out HZ0.out HZ1.out HZ2.out rfl (by decide) stCells st_len st_one [] way rfl rfl HN.out.symm (HWF.out _ (bel_next EA.out BE3.out)) wA.heap.size OE3.out BE3.out.size HL1.out HL2.out ?_; intro v4 w4 o4 g4; have R4 := Lib.hid (row_grown g4 RE3.out LE3.out (by omega)); rw [List.nil_append, HN.out] at o4; obtain ⟨A4, C4, rfl⟩ := own_some o4; have O4 := Lib.hid (HN.out.symm ▸ o4 : w4.ownsRow wA.heap.size 30 3 (.slice A4 N C4) way.length (way.flatMap stCells)); have F4 := Lib.hid (BE3.out.grown g4 BE3.out.size (fun g hg => (OE3.out.lt g hg).1)); clear o4 g4)
                          | (refine step_rows rfl (.tmp 103) (.tmp 105) 38 rfl 30 i0 (.agg #[.int .i64 0, .int .i64 0, .int .i64 0]) 3 24 Tryd.underlying38 HI0.out HZ0.out HZ1.out HZ2.out rfl (by decide) stCells st_len st_one way [(s1, s2, s3)] rfl rfl rfl (lit_cells R4.out) wA.heap.size O4.out F4.out.size HL3.out HL4.out ?_; intro v15 w15 o15 g15; have O15 := Lib.hid o15; have F15 := Lib.hid (F4.out.grown g15 F4.out.size (fun g hg => (O4.out.lt g hg).1)); clear o15 g15))
                      all_goals
                        go_wp2_with fail
                        go_meet
                        obtain ⟨A15, C15, e15⟩ := own_some O15.out
                        exact ⟨A15, C15, by rw [e15, List.length_append, List.length_singleton, HN.out], (Go.Proofs.YtjhimekojiegjaaDoor.Lown.grid_of_own stCells st_len O15.out).keep (fun _ hb' => ⟨hb'.2, rfl⟩), F15.out⟩
                    case rest =>
                      obtain ⟨A15, C15, rfl, g15, hb15⟩ := hcut
                      have EC := Lib.hid (bel_next EA.out hb15)
                      have BC := Lib.hid (bel_next BA.out hb15)
                      have C16 := Lib.hid (Wval.pvalid_any L wc (HLY.out wc EC.out) g15 (HDY.out wc EC.out))
                      rw [hval] at C16
                      unfold layV at C16
                      obtain ⟨x0, x1, x2, x3, x4, x5⟩ := HL6.out _ EC.out
                      clear hval g15 hb15 u0 u1 u2 hz
                      have hne : (!bi == bi) = false := by cases bi <;> rfl
                      go_wp2_with fail
                      refine C16.out.mono ?_
                      rintro e w17 ⟨rfl, b17⟩
                      have BD := Lib.hid (bel_next BC.out b17)
                      clear b17 x0 x1 x2 x3 x4 x5 C16
                      cases bi with
                      | false =>
                        go_wp2_with fail
                        go_roundw
                        case rel => exact ⟨k + 1, by simp, by omega, BD.out⟩
                        case measure => simp [RowKit.intOf]; omega
                      | true =>
                        go_wp2_with fail
                        go_roundw
                        case rel => exact ⟨k + 1, by simp, by omega, BD.out⟩
                        case measure => simp [RowKit.intOf]; omega
                  · have hke : k = br.length := by omega
                    subst hke
                    have hgt : decide ((0 : Int) < (br.length : Int)) = true := by
                      rw [decide_eq_true_eq]
                      have := HSO.out
                      omega
                    have HA := Lib.hid (alive_any wr (HDY.out wr E9.out))
                    go_wp2_with fail
                    refine HA.out.mono ?_
                    rintro e w9 ⟨rfl, b⟩
                    have B9 := Lib.hid (bel_next (bel_next B0.out E9.out) b)
                    clear b
                    go_wp2_with fail
                    go_ret
                    exact ⟨rfl, B9.out⟩

end Go.Proofs.YtjhimekojiegjaaDoor.Wgon
