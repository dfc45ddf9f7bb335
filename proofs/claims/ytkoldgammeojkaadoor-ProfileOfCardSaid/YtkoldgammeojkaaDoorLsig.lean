/- The call of the reference's signals. -/
import Derived.Test.YtkoldgammeojkaaDoorLele
namespace Go.Proofs.YtkoldgammeojkaaDoor.Lsig
open Go.RowKit Go.Lib Go.Proofs.YtkoldgammeojkaaDoor.Text Go.Proofs.YtkoldgammeojkaaDoor.Reads Go.Proofs.YtkoldgammeojkaaDoor.Rows2 Go.Proofs.YtkoldgammeojkaaDoor.Lay Go.Proofs.YtkoldgammeojkaaDoor.Layf Go.Proofs.YtkoldgammeojkaaDoor.Ldup Go.Proofs.YtkoldgammeojkaaDoor.Lext Go.Proofs.YtkoldgammeojkaaDoor.Ljoi Go.Proofs.YtkoldgammeojkaaDoor.Lnmd Go.Proofs.YtkoldgammeojkaaDoor.Lnam Go.Proofs.YtkoldgammeojkaaDoor.Lmem Go.Proofs.YtkoldgammeojkaaDoor.Lele

theorem exists_at {els : List Elem} {p : Int × Int} (h : existsB els p = true) : ∃ (i : Nat) (x : Elem), p.1 = (i : Int) ∧ els[i]? = some x ∧ i < els.length := by
  unfold existsB at h
  cases hx : els[p.1.toNat]? with
  | none => rw [hx] at h; cases h
  | some x =>
    rw [hx] at h
    simp only [Bool.and_eq_true, decide_eq_true_eq] at h
    exact ⟨p.1.toNat, x, by omega, hx, (List.getElem?_eq_some_iff.1 hx).1⟩
theorem join_exists {els : List Elem} {e : Int × Int} : ∀ {js : List ((Int × Int) × (Int × Int))}, js.all (jointB els) = true → (Layf.joinR e js).2 = true → existsB els (Layf.joinR e js).1 = true
  | [], _, h => by cases h
  | (a, b) :: js, hj, h => by
    rw [List.all_cons, Bool.and_eq_true] at hj
    obtain ⟨h1, h2⟩ := hj
    simp only [jointB, Bool.and_eq_true] at h1
    rw [Layf.joinR] at h ⊢
    split
    · exact h1.2.1
    · rename_i hn
      rw [if_neg hn] at h
      split
      · exact h1.1
      · rename_i hn2
        rw [if_neg hn2] at h
        exact join_exists h2 h
theorem all_at {L : Lay} {N : List (Int × Int)} (h : L.sigs.all (sigB L.els) = true) (hN : L.sigs.map (·.spot) = N) {j : Nat} {x : Int × Int} (hx : N[j]? = some x) : existsB L.els x = true := by
  rw [← hN, List.getElem?_map, Option.map_eq_some_iff] at hx
  obtain ⟨s, hs, rfl⟩ := hx
  have := List.all_eq_true.1 h s (List.mem_of_getElem? hs)
  simp only [sigB, Bool.and_eq_true] at this
  exact this.1
theorem ebox_at (w : World) (u1 u2 : Int) {w' : World} (b : Below (w.alloc (.cells #[.int .i64 u1, .int .i64 u2] 64)).heap.size (w.alloc (.cells #[.int .i64 u1, .int .i64 u2] 64)) w') :
    w'.cell? ⟨w.heap.size, 0, none⟩ = some (.int .i64 u1) ∧ w'.cell? ⟨w.heap.size, 1, none⟩ = some (.int .i64 u2) := by
  refine ⟨?_, ?_⟩
  all_goals
    rw [b.cell (by simp), World.cell?_alloc_at _ _ _ _ rfl]
    rfl
/-- What holds at the head of the loop over the signals. -/
def SRel (L : Lay) (G : Bool) (W : World) (vout vj : Value) (wr : World) : Prop :=
  ∃ j : Nat, vj = .int .i64 (j : Int) ∧ j ≤ L.sigs.length ∧ (L.sigs.drop j).all (sigB L.els) = G ∧ wr.ownsRow W.heap.size 64 2 vout ((L.sigs.take j).map (·.spot)).length (((L.sigs.take j).map (·.spot)).flatMap pCells) ∧ Below W.heap.size W wr
theorem srel_next {L : Lay} {G : Bool} {W w1 w2 : World} {v v' : Value} {j : Nat} {x : Sig} {o : Obj} (hx : L.sigs[j]? = some x) (hG : (L.sigs.drop (j + 1)).all (sigB L.els) = G) (ho : w1.ownsRow W.heap.size 64 2 v ((L.sigs.take j).map (·.spot)).length (((L.sigs.take j).map (·.spot)).flatMap pCells)) (hb : Below W.heap.size W w1)
    (h1 : w2.ownsRow W.heap.size 64 2 v' (((L.sigs.take j).map (·.spot)).length + 1) (((L.sigs.take j).map (·.spot)).flatMap pCells ++ pCells x.spot)) (hg : (w1.alloc o).grownBy w2 v.ownBlock) : SRel L G W v' (.int .i64 ((j : Int) + 1)) w2 := by
  refine ⟨j + 1, by simp, (List.getElem?_eq_some_iff.1 hx).1, hG, ?_, (hb.alloc hb.size o).grown hg (by have := hb.size; simp; omega) (fun g hg => (ho.lt g hg).1)⟩
  obtain ⟨hj, rfl⟩ := List.getElem?_eq_some_iff.1 hx
  rw [List.take_succ_eq_append_getElem hj, List.map_append, List.flatMap_append, List.length_append]
  simpa using h1
theorem sbox_at (w : World) (s : ByteArray) (u1 u2 ov : Int) {w' : World} (b : Below (w.alloc (.cells #[.string s, .int .i64 u1, .int .i64 u2, .int .i64 ov] 70)).heap.size (w.alloc (.cells #[.string s, .int .i64 u1, .int .i64 u2, .int .i64 ov] 70)) w') :
    w'.cell? ⟨w.heap.size, 0, none⟩ = some (.string s) ∧ w'.cell? ⟨w.heap.size, 1, none⟩ = some (.int .i64 u1) ∧ w'.cell? ⟨w.heap.size, 2, none⟩ = some (.int .i64 u2) ∧ w'.cell? ⟨w.heap.size, 3, none⟩ = some (.int .i64 ov) := by
  refine ⟨?_, ?_, ?_, ?_⟩
  all_goals
    rw [b.cell (by simp), World.cell?_alloc_at _ _ _ _ rfl]
    rfl

set_option maxRecDepth 100000 in
set_option maxHeartbeats 3200000 in
theorem rsignals_any (L : Lay) {vs ve vj vg vb : Value} (w : World) (h : LayAt (In w) w L vs ve vj vg vb) (hn4 : L.sigs.length ≤ 1000) (hjs : L.joints.all (jointB L.els) = true) :
    Calls Tryd.prog 13 #[layV L vs ve vj vg vb] w (NumOut (signalsF L) w) := by
  have HJS := Lib.hid hjs
  clear hjs
  obtain ⟨a, cap, rfl, hm, _⟩ := h.el
  obtain ⟨a3, cap3, rfl, hm3, _⟩ := h.sg
  have B0 := Lib.hid ((Below.refl w.heap.size w).alloc (Nat.le_refl _) (.cells #[.string (bs L.name), vs, .slice a L.els.length cap, vj, .slice a3 L.sigs.length cap3, vb] 28))
  have HH := Lib.hid (h.box (.cells #[.string (bs L.name), vs, .slice a L.els.length cap, vj, .slice a3 L.sigs.length cap3, vb] 28))
  have HX := Lib.hid (lbox_new w 28 L vs (.slice a L.els.length cap) vj (.slice a3 L.sigs.length cap3) vb)
  have HS0 : Hid (w.heap.size < (w.alloc (.cells #[.string (bs L.name), vs, .slice a L.els.length cap, vj, .slice a3 L.sigs.length cap3, vb] 28)).heap.size) := by simp [Hid]
  clear h
  unfold layV
  go_enter Tryd.func13, Tryd.ntmps13
  go_wp2_with fail
  obtain ⟨W, hW⟩ : ∃ W, w.alloc (.cells #[.string (bs L.name), vs, .slice a L.els.length cap, vj, .slice a3 L.sigs.length cap3, vb] 28) = W := ⟨_, rfl⟩
  rw [hW] at B0 HH HX HS0 ⊢
  clear hW
  obtain ⟨a', cap', he, _, hel⟩ := HH.out.el
  cases he
  have HE := Lib.hid hel
  obtain ⟨a', cap', he, _, hsg⟩ := HH.out.sg
  cases he
  have HJ := Lib.hid hsg
  clear hel hsg
  obtain ⟨J, hJ⟩ : ∃ J, L.sigs.all (sigB L.els) = J := ⟨_, rfl⟩
  have HJA := Lib.hid hJ
  clear hJ
  obtain ⟨i0, hi, hz0, hz1, hz2⟩ := info_parts infoE
  have HI0 := Lib.hid hi
  have HZ0 := Lib.hid hz0
  have HZ1 := Lib.hid hz1
  have HZ2 := Lib.hid hz2
  clear hi hz0 hz1 hz2
  go_loopw [3, 13] (fun vout vj wr => SRel L J W vout vj wr) (fun _ vj _ => L.sigs.length - (RowKit.intOf vj).toNat)
  case atStart => exact ⟨0, rfl, Nat.zero_le _, HJA.out, World.ownsRow_nil _ _ _ _, Below.refl _ _⟩
  case round =>
    obtain ⟨j, rfl, hj, hr, ho, hb⟩ := hrel
    have HR := Lib.hid hr
    have HO := Lib.hid ho
    have HB := Lib.hid hb
    clear hr ho hb
    obtain ⟨x0, x1, x2, x3, x4, x5⟩ := HX.out.next HB.out HS0.out
    have hlt0 : w.heap.size < wr.heap.size := Nat.lt_of_lt_of_le HS0.out HB.out.size
    by_cases hlt : j < L.sigs.length
    · obtain ⟨x, hx⟩ := at_lt hlt
      obtain ⟨b, off, rfl, c0, c1, c2, c3⟩ := HJ.out wr HB.out j x hx
      have HXX := Lib.hid hx
      rw [drop_at hx, List.all_cons] at HR
      clear hx
      obtain ⟨nm, ⟨u1, u2⟩, ov⟩ := x
      simp only at c0 c1 c2 c3
      have HBA := Lib.hid ((Below.refl wr.heap.size wr).alloc (Nat.le_refl _) (.cells #[.string (bs nm), .int .i64 u1, .int .i64 u2, .int .i64 ov] 70))
      have K1 := Lib.hid (fun w' (b' : Below wr.heap.size wr w') => rexists_any L (u1, u2) w' ((HH.out.next HB.out).next b'))
      have hjb : sigB L.els ⟨nm, (u1, u2), ov⟩ = (existsB L.els (u1, u2) && (decide (0 ≤ ov) && decide (ov ≤ 1000000))) := rfl
      rw [hjb] at HR
      obtain ⟨q1, hq1⟩ : ∃ q, existsB L.els (u1, u2) = q := ⟨_, rfl⟩
      rw [hq1] at K1 HR
      clear hjb hq1
      have bx := Lib.hid (fun w' (b' : Below (wr.alloc (.cells #[.string (bs nm), .int .i64 u1, .int .i64 u2, .int .i64 ov] 70)).heap.size (wr.alloc (.cells #[.string (bs nm), .int .i64 u1, .int .i64 u2, .int .i64 ov] 70)) w') => sbox_at wr (bs nm) u1 u2 ov b')
      cases q1
      · have HF := Lib.hid (signals_arg (L := L) (by rw [HJA.out]; have := HR.out; rwa [Bool.false_and, Bool.false_and, eq_comm] at this))
        go_wp2_with fail
        refine (K1.out _ HBA.out).mono ?_
        rintro e w3 ⟨rfl, b3⟩
        have B3 := Lib.hid (bel_next (bel_next B0.out HB.out) (bel_next HBA.out b3))
        clear b3
        go_wp2_with fail
        go_ret
        exact ⟨by rw [HF.out]; rfl, B3.out⟩
      · by_cases hov : 0 ≤ ov ∧ ov ≤ 1000000
        · have HF := Lib.hid (show (L.sigs.drop (j + 1)).all (sigB L.els) = J by
            have := HR.out
            rwa [decide_eq_true hov.1, decide_eq_true hov.2, Bool.true_and, Bool.true_and, Bool.true_and] at this)
          obtain ⟨h1, h2⟩ := hov
          go_wp2_with fail
          refine (K1.out _ HBA.out).mono ?_
          rintro e w4 ⟨rfl, b3⟩
          obtain ⟨y0, y1, y2, y3⟩ := bx.out w4 b3
          have B3 := Lib.hid (bel_next HBA.out b3)
          have HO4 := Lib.hid (own_below HO.out B3.out)
          have hnl : ((L.sigs.take j).map (·.spot)).length ≤ 1000 := by rw [List.length_map, List.length_take]; omega
          have HS4 := Lib.hid (Nat.le_trans HB.out.size B3.out.size)
          have HBJ := Lib.hid (bel_next HB.out B3.out)
          clear b3 x0 x1 x2 x3 x4 x5
          go_wp2_with (at_builtin; refine wpList_append_own_at _ rfl (.tmp 32) (.tmp 35) 62 rfl W.heap.size 64 i0 (.agg #[.int .i64 0, .int .i64 0]) 2 16 Tryd.underlying62 HI0.out HZ0.out HZ1.out HZ2.out rfl (by decide) _ _ _ rfl (HO4.out.alloc _) ⟨w4.heap.size, 0, none⟩ 1 1 [.int .i64 u1, .int .i64 u2] rfl rfl (cells_new w4 #[.int .i64 u1, .int .i64 u2] 64) (by intro u hu; simp at hu; rcases hu with rfl | rfl <;> rfl) (by unfold maxLen; omega) (by omega) (by have := HS4.out; simp; omega) ?_; intro v5 w5 h1own hg1 _ _; have R1 := Lib.hid h1own; have R2 := Lib.hid hg1; clear h1own hg1)
          go_roundw
          case rel => exact srel_next HXX.out HF.out HO4.out HBJ.out R1.out R2.out
          case measure => simp [RowKit.intOf]; omega
        · have HF := Lib.hid (signals_arg (L := L) (by
            rw [HJA.out]
            have := HR.out
            rwa [Bool.true_and, show (decide (0 ≤ ov) && decide (ov ≤ 1000000)) = false by rw [← Bool.not_eq_true]; simpa using hov, Bool.false_and, eq_comm] at this))
          go_wp2_with fail
          refine (K1.out _ HBA.out).mono ?_
          rintro e w4 ⟨rfl, b3⟩
          obtain ⟨y0, y1, y2, y3⟩ := bx.out w4 b3
          have B3 := Lib.hid (bel_next (bel_next B0.out HB.out) (bel_next HBA.out b3))
          clear b3
          go_wp2_with fail
          all_goals first
            | (go_ret
               exact ⟨by rw [HF.out]; rfl, B3.out⟩)
            | (exfalso; omega)
    · have he : j = L.sigs.length := by omega
      subst he
      have HAJ := Lib.hid (show L.sigs.all (sigB L.els) = true by
        rw [HJA.out, ← HR.out, List.drop_length]
        rfl)
      have ho := HO.out
      rw [List.take_length] at ho
      have HG := Lib.hid ((grid_own ho).keep (ok' := In wr) fun b hb => ⟨hb.2, rfl⟩)
      have HE2 := Lib.hid (ends_any (l := L.sigs.map (·.spot)) (w := wr) HG.out)
      obtain ⟨N, hN⟩ : ∃ N, L.sigs.map (·.spot) = N := ⟨_, rfl⟩
      have hNl : N.length = L.sigs.length := by rw [← hN, List.length_map]
      rw [hN] at HG HE2
      have HN := Lib.hid hN
      obtain ⟨q, hq⟩ : ∃ q, dupB N = q := ⟨_, rfl⟩
      have HQ := Lib.hid (show dupB (L.sigs.map (·.spot)) = q by rw [hN]; exact hq)
      rw [hq] at HE2
      have HNL := Lib.hid hNl
      obtain ⟨A, C, hv, hm4, _⟩ := pairs_shape HG.out
      have hN3 : N.length ≤ 1000 := by omega
      clear hq ho hj hlt hN hNl
      subst hv
      cases q
      · go_wp2_with fail
        refine HE2.out.mono ?_
        rintro e w6 ⟨rfl, b6⟩
        have B6 := Lib.hid (bel_next HB.out b6)
        have HG6 := Lib.hid (HG.out.keep (ok' := In w6) (keep_next b6))
        clear b6 x0 x1 x2 x3 x4 x5
        obtain ⟨A', C', he, _, hc⟩ := pairs_shape HG6.out
        cases he
        have HC := Lib.hid hc
        obtain ⟨T, hT⟩ : ∃ T, N.all (safeB L) = T := ⟨_, rfl⟩
        have HT := Lib.hid hT
        clear hT hc
        go_wp2_with fail
        go_loopw [42] (fun vj wr => ∃ j : Nat, vj = .int .i64 (j : Int) ∧ j ≤ N.length ∧ (N.drop j).all (safeB L) = T ∧ Below w6.heap.size w6 wr) (fun vj _ => N.length - (RowKit.intOf vj).toNat)
        case atStart => exact ⟨0, rfl, Nat.zero_le _, HT.out, Below.refl _ _⟩
        case round =>
          obtain ⟨j, rfl, hj, hr, hb⟩ := hrel
          have HR := Lib.hid hr
          have HB7 := Lib.hid (bel_next B6.out hb)
          obtain ⟨x0, x1, x2, x3, x4, x5⟩ := HX.out.next HB7.out HS0.out
          have hlt0 : w.heap.size < wr.heap.size := Nat.lt_of_lt_of_le HS0.out HB7.out.size
          have HBJ := Lib.hid hb
          clear hr hb
          by_cases hlt : j < N.length
          · obtain ⟨x, hx⟩ := at_lt hlt
            obtain ⟨b, off, rfl, hbl, c0, c1⟩ := HC.out j x hx
            have d0 := (HBJ.out.cell (p := ⟨b, off + j * 2, none⟩) hbl).trans c0
            have d1 := (HBJ.out.cell (p := ⟨b, off + j * 2 + 1, none⟩) hbl).trans c1
            rw [drop_at hx, List.all_cons] at HR
            have hxe := all_at HAJ.out HN.out hx
            obtain ⟨i, y, hi, hy, hil⟩ := exists_at hxe
            obtain ⟨u1, u2⟩ := x
            simp only at d0 d1 hi
            subst hi
            have K1 := Lib.hid (fun w' (b' : Below wr.heap.size wr w') => rjoined_any L ((i : Int), u2) w' ((HH.out.next HB7.out).next b'))
            have hsafe : safeB L ((i : Int), u2) = ((joinedF L ((i : Int), u2)).2 && !decide (secAt L.els (joinedF L ((i : Int), u2)).1.1 = secAt L.els (i : Int))) := rfl
            have hje := join_exists (e := ((i : Int), u2)) HJS.out
            rw [hsafe] at HR
            have hjd : joinedF L ((i : Int), u2) = Layf.joinR ((i : Int), u2) L.joints := rfl
            rw [← hjd] at hje
            obtain ⟨⟨⟨f1, f2⟩, ok⟩, hjf⟩ : ∃ r, joinedF L ((i : Int), u2) = r := ⟨_, rfl⟩
            rw [hjf] at K1 HR hje
            have HBA := Lib.hid ((Below.refl wr.heap.size wr).alloc (Nat.le_refl _) (.cells #[.int .i64 (i : Int), .int .i64 u2] 64))
            clear hx hxe hsafe hjf hjd c0 c1 hbl
            cases ok
            · have HF := Lib.hid (signals_safe HAJ.out HQ.out (by rw [HN.out, HT.out]; have := HR.out; rwa [Bool.false_and, Bool.false_and, eq_comm] at this))
              go_wp2_with fail
              refine (K1.out _ HBA.out).mono ?_
              rintro e w7 ⟨rfl, b7⟩
              have B7 := Lib.hid (bel_next (bel_next B0.out HB7.out) (bel_next HBA.out b7))
              clear b7 hje
              unfold pV
              go_wp2_with fail
              go_quiet (fail)
              go_wp2_with fail
              go_ret
              exact ⟨by rw [HF.out]; rfl, below_drewN (B7.out.alloc B7.out.size _) _⟩
            · obtain ⟨fi, z, hfi, hz, hfl⟩ := exists_at (hje rfl)
              simp only at hfi
              subst hfi
              have hsi : secAt L.els (i : Int) = some y.sec := by simp [secAt, hy]
              have hsf : secAt L.els (fi : Int) = some z.sec := by simp [secAt, hz]
              rw [hsi, hsf] at HR
              have HY := Lib.hid (fun w' (b' : Below W.heap.size W w') => HE.out w' b' i y hy)
              have HZ := Lib.hid (fun w' (b' : Below W.heap.size W w') => HE.out w' b' fi z hz)
              obtain ⟨ny, ky, ly, gy, py, oy, sy⟩ := y
              obtain ⟨nz, kz, lz, gz, pz, oz, sz⟩ := z
              simp only at HY HZ HR
              clear hy hz hsi hsf hje
              by_cases hs : sz = sy
              · have HF := Lib.hid (signals_safe HAJ.out HQ.out (by rw [HN.out, HT.out]; have := HR.out; rwa [hs, decide_eq_true rfl, Bool.not_true, Bool.and_false, Bool.false_and, eq_comm] at this))
                subst hs
                go_wp2_with fail
                refine (K1.out _ HBA.out).mono ?_
                rintro e w7 ⟨rfl, b7⟩
                have B7 := Lib.hid (bel_next (bel_next B0.out HB7.out) (bel_next HBA.out b7))
                obtain ⟨z0, z1, z2, z3, z4, z5⟩ := HX.out.next (bel_next HB7.out (bel_next HBA.out b7)) HS0.out
                obtain ⟨bb, oo, e1, _, _, _, _, _, _, s1⟩ := HY.out w7 (bel_next HB7.out (bel_next HBA.out b7))
                obtain ⟨bb', oo', e2, _, _, _, _, _, _, s2⟩ := HZ.out w7 (bel_next HB7.out (bel_next HBA.out b7))
                subst e1
                cases e2
                have r1 := ebox_at wr (i : Int) u2 b7
                obtain ⟨r1, r2⟩ := r1
                have hb7 : w.heap.size < w7.heap.size := Nat.lt_of_lt_of_le hlt0 (Nat.le_trans HBA.out.size b7.size)
                have hb8 : wr.heap.size < w7.heap.size := Nat.lt_of_lt_of_le (by simp) b7.size
                have hb9 : bb < w7.heap.size := block_lt_of_cell s1
                clear b7 x0 x1 x2 x3 x4 x5
                unfold pV
                go_wp2_with fail
                go_quiet (fail)
                go_wp2_with fail
                go_ret
                exact ⟨by rw [HF.out]; rfl, below_drewN (B7.out.alloc B7.out.size _) _⟩
              · have HF := Lib.hid (show (N.drop (j + 1)).all (safeB L) = T by
                  have := HR.out
                  rwa [decide_eq_false (by simpa using hs), Bool.not_false, Bool.true_and, Bool.true_and] at this)
                have hq : (sz == sy) = false := by simp [hs]
                clear hs
                go_wp2_with fail
                refine (K1.out _ HBA.out).mono ?_
                rintro e w7 ⟨rfl, b7⟩
                have B7 := Lib.hid (bel_next HBJ.out (bel_next HBA.out b7))
                obtain ⟨z0, z1, z2, z3, z4, z5⟩ := HX.out.next (bel_next HB7.out (bel_next HBA.out b7)) HS0.out
                obtain ⟨bb, oo, e1, _, _, _, _, _, _, s1⟩ := HY.out w7 (bel_next HB7.out (bel_next HBA.out b7))
                obtain ⟨bb', oo', e2, _, _, _, _, _, _, s2⟩ := HZ.out w7 (bel_next HB7.out (bel_next HBA.out b7))
                subst e1
                cases e2
                obtain ⟨r1, r2⟩ := ebox_at wr (i : Int) u2 b7
                have hb7 : w.heap.size < w7.heap.size := Nat.lt_of_lt_of_le hlt0 (Nat.le_trans HBA.out.size b7.size)
                have hb8 : wr.heap.size < w7.heap.size := Nat.lt_of_lt_of_le (by simp) b7.size
                have hb9 : bb < w7.heap.size := block_lt_of_cell s1
                clear b7 x0 x1 x2 x3 x4 x5
                unfold pV
                go_wp2_with fail
                go_quiet (fail)
                go_wp2_with fail
                go_roundw
                case rel => exact ⟨j + 1, by simp, by omega, HF.out, below_drewN (B7.out.alloc B7.out.size _) _⟩
                case measure => simp [RowKit.intOf]; omega
          · have he : j = N.length := by omega
            subst he
            have HF := Lib.hid (signals_ok HAJ.out HQ.out (by
              rw [HN.out, HT.out, ← HR.out, List.drop_length]
              rfl))
            go_wp2_with fail
            go_ret
            exact ⟨by rw [HF.out]; rfl, bel_next B0.out HB7.out⟩
      · have HF := Lib.hid (signals_dup HAJ.out HQ.out)
        go_wp2_with fail
        refine HE2.out.mono ?_
        rintro e w6 ⟨rfl, b6⟩
        have B6 := Lib.hid (bel_next (bel_next B0.out HB.out) b6)
        clear b6
        go_wp2_with fail
        go_ret
        exact ⟨by rw [HF.out]; rfl, B6.out⟩

end Go.Proofs.YtkoldgammeojkaaDoor.Lsig
