/- Texts of this proof, merged: Lsig, Lbal, Lcon, Pidx, Wpse, Wbak, Wprv. -/
import Derived.Test.YtjhimekojiegjaaDoorG03
import Derived.Test.YtjhimekojiegjaaDoorG01
import Derived.Test.YtjhimekojiegjaaDoorG05
import Derived.Test.YtjhimekojiegjaaDoorG06
import Derived.RangeFuncNested
import Derived.RangeFuncBox
import Derived.RangeFuncLeaves
import Derived.Shelf.Abstract
import Derived.WalkKit
import Derived.OwnWalkIn
import Derived.TacticsInMore
import Derived.LoopNIn
import Derived.LoopIn
import Derived.Maps.AppendAt

/- The call of the reference's signals. -/
namespace Go.Proofs.YtjhimekojiegjaaDoor.Lsig
open Go.RowKit Go.Lib Go.Proofs.YtjhimekojiegjaaDoor.Text Go.Proofs.YtjhimekojiegjaaDoor.Reads Go.Proofs.YtjhimekojiegjaaDoor.Rows2 Go.Proofs.YtjhimekojiegjaaDoor.Lay Go.Proofs.YtjhimekojiegjaaDoor.Layf Go.Proofs.YtjhimekojiegjaaDoor.Ldup Go.Proofs.YtjhimekojiegjaaDoor.Lext Go.Proofs.YtjhimekojiegjaaDoor.Ljoi Go.Proofs.YtjhimekojiegjaaDoor.Lnmd Go.Proofs.YtjhimekojiegjaaDoor.Lnam Go.Proofs.YtjhimekojiegjaaDoor.Lmem Go.Proofs.YtjhimekojiegjaaDoor.Lele

theorem exists_at {els : List Elem} {p : Int × Int} (h : existsB els p = true) : ∃ (i : Nat) (x : Elem), p.1 = (i : Int) ∧ els[i]? = some x ∧ i < els.length := by
  unfold existsB at h
  cases hx : els[p.1.toNat]? with
  | none => rw [hx] at h; cases h
  | some x =>
    rw [hx] at h
    simp only [Bool.and_eq_true, decide_eq_true_eq] at h
    exact ⟨p.1.toNat, x, by omega, hx, (List.getElem?_eq_some_iff.1 hx).1⟩
theorem join_exists {els : List Elem} {e : Int × Int} : ∀ {js : List ((Int × Int) × (Int × Int))}, js.all (jointB els) = true → (Layf.joinR e js).2 = true → existsB els (Layf.joinR e js).1 = true
  | [], _, h => by cases h
  | (a, b) :: js, hj, h => by
    rw [List.all_cons, Bool.and_eq_true] at hj
    obtain ⟨h1, h2⟩ := hj
    simp only [jointB, Bool.and_eq_true] at h1
    rw [Layf.joinR] at h ⊢
    split
    · exact h1.2.1
    · rename_i hn
      rw [if_neg hn] at h
      split
      · exact h1.1
      · rename_i hn2
        rw [if_neg hn2] at h
        exact join_exists h2 h
theorem all_at {L : Lay} {N : List (Int × Int)} (h : L.sigs.all (sigB L.els) = true) (hN : L.sigs.map (·.spot) = N) {j : Nat} {x : Int × Int} (hx : N[j]? = some x) : existsB L.els x = true := by
  rw [← hN, List.getElem?_map, Option.map_eq_some_iff] at hx
  obtain ⟨s, hs, rfl⟩ := hx
  have := List.all_eq_true.1 h s (List.mem_of_getElem? hs)
  simp only [sigB, Bool.and_eq_true] at this
  exact this.1
theorem ebox_at (w : World) (u1 u2 : Int) {w' : World} (b : Below (w.alloc (.cells #[.int .i64 u1, .int .i64 u2] 32)).heap.size (w.alloc (.cells #[.int .i64 u1, .int .i64 u2] 32)) w') :
    w'.cell? ⟨w.heap.size, 0, none⟩ = some (.int .i64 u1) ∧ w'.cell? ⟨w.heap.size, 1, none⟩ = some (.int .i64 u2) := by
  refine ⟨?_, ?_⟩
  all_goals
    rw [b.cell (by simp), World.cell?_alloc_at _ _ _ _ rfl]
    rfl
/-- What holds at the head of the loop over the signals. -/
def SRel (L : Lay) (G : Bool) (W : World) (vout vj : Value) (wr : World) : Prop :=
  ∃ j : Nat, vj = .int .i64 (j : Int) ∧ j ≤ L.sigs.length ∧ (L.sigs.drop j).all (sigB L.els) = G ∧ wr.ownsRow W.heap.size 32 2 vout ((L.sigs.take j).map (·.spot)).length (((L.sigs.take j).map (·.spot)).flatMap pCells) ∧ Below W.heap.size W wr
theorem srel_next {L : Lay} {G : Bool} {W w1 w2 : World} {v v' : Value} {j : Nat} {x : Sig} {o : Obj} (hx : L.sigs[j]? = some x) (hG : (L.sigs.drop (j + 1)).all (sigB L.els) = G) (ho : w1.ownsRow W.heap.size 32 2 v ((L.sigs.take j).map (·.spot)).length (((L.sigs.take j).map (·.spot)).flatMap pCells)) (hb : Below W.heap.size W w1)
    (h1 : w2.ownsRow W.heap.size 32 2 v' (((L.sigs.take j).map (·.spot)).length + 1) (((L.sigs.take j).map (·.spot)).flatMap pCells ++ pCells x.spot)) (hg : (w1.alloc o).grownBy w2 v.ownBlock) : SRel L G W v' (.int .i64 ((j : Int) + 1)) w2 := by
  refine ⟨j + 1, by simp, (List.getElem?_eq_some_iff.1 hx).1, hG, ?_, (hb.alloc hb.size o).grown hg (by have := hb.size; simp; omega) (fun g hg => (ho.lt g hg).1)⟩
  obtain ⟨hj, rfl⟩ := List.getElem?_eq_some_iff.1 hx
  rw [List.take_succ_eq_append_getElem hj, List.map_append, List.flatMap_append, List.length_append]
  simpa using h1
theorem sbox_at (w : World) (s : ByteArray) (u1 u2 ov : Int) {w' : World} (b : Below (w.alloc (.cells #[.string s, .int .i64 u1, .int .i64 u2, .int .i64 ov] 102)).heap.size (w.alloc (.cells #[.string s, .int .i64 u1, .int .i64 u2, .int .i64 ov] 102)) w') :
    w'.cell? ⟨w.heap.size, 0, none⟩ = some (.string s) ∧ w'.cell? ⟨w.heap.size, 1, none⟩ = some (.int .i64 u1) ∧ w'.cell? ⟨w.heap.size, 2, none⟩ = some (.int .i64 u2) ∧ w'.cell? ⟨w.heap.size, 3, none⟩ = some (.int .i64 ov) := by
  refine ⟨?_, ?_, ?_, ?_⟩
  all_goals
    rw [b.cell (by simp), World.cell?_alloc_at _ _ _ _ rfl]
    rfl

set_option maxRecDepth 100000 in
set_option maxHeartbeats 3200000 in
theorem rsignals_any (L : Lay) {vs ve vj vg vb : Value} (w : World) (h : LayAt (In w) w L vs ve vj vg vb) (hn4 : L.sigs.length ≤ 1000) (hjs : L.joints.all (jointB L.els) = true) :
    Calls Tryd.prog 56 #[layV L vs ve vj vg vb] w (NumOut (signalsF L) w) := by
  have HJS := Lib.hid hjs
  clear hjs
  obtain ⟨a, cap, rfl, hm, _⟩ := h.el
  obtain ⟨a3, cap3, rfl, hm3, _⟩ := h.sg
  have B0 := Lib.hid ((Below.refl w.heap.size w).alloc (Nat.le_refl _) (.cells #[.string (bs L.name), vs, .slice a L.els.length cap, vj, .slice a3 L.sigs.length cap3, vb] 28))
  have HH := Lib.hid (h.box (.cells #[.string (bs L.name), vs, .slice a L.els.length cap, vj, .slice a3 L.sigs.length cap3, vb] 28))
  have HX := Lib.hid (lbox_new w 28 L vs (.slice a L.els.length cap) vj (.slice a3 L.sigs.length cap3) vb)
  have HS0 : Hid (w.heap.size < (w.alloc (.cells #[.string (bs L.name), vs, .slice a L.els.length cap, vj, .slice a3 L.sigs.length cap3, vb] 28)).heap.size) := by simp [Hid]
  clear h
  unfold layV
  go_enter Tryd.func56, Tryd.ntmps56
  go_wp2_with fail
  obtain ⟨W, hW⟩ : ∃ W, w.alloc (.cells #[.string (bs L.name), vs, .slice a L.els.length cap, vj, .slice a3 L.sigs.length cap3, vb] 28) = W := ⟨_, rfl⟩
  rw [hW] at B0 HH HX HS0 ⊢
  clear hW
  obtain ⟨a', cap', he, _, hel⟩ := HH.out.el
  cases he
  have HE := Lib.hid hel
  obtain ⟨a', cap', he, _, hsg⟩ := HH.out.sg
  cases he
  have HJ := Lib.hid hsg
  clear hel hsg
  obtain ⟨J, hJ⟩ : ∃ J, L.sigs.all (sigB L.els) = J := ⟨_, rfl⟩
  have HJA := Lib.hid hJ
  clear hJ
  obtain ⟨i0, hi, hz0, hz1, hz2⟩ := info_parts infoE
  have HI0 := Lib.hid hi
  have HZ0 := Lib.hid hz0
  have HZ1 := Lib.hid hz1
  have HZ2 := Lib.hid hz2
  clear hi hz0 hz1 hz2
  go_loopw [3, 13] (fun vout vj wr => SRel L J W vout vj wr) (fun _ vj _ => L.sigs.length - (RowKit.intOf vj).toNat)
  case atStart => exact ⟨0, rfl, Nat.zero_le _, HJA.out, World.ownsRow_nil _ _ _ _, Below.refl _ _⟩
  case round =>
    obtain ⟨j, rfl, hj, hr, ho, hb⟩ := hrel
    have HR := Lib.hid hr
    have HO := Lib.hid ho
    have HB := Lib.hid hb
    clear hr ho hb
    obtain ⟨x0, x1, x2, x3, x4, x5⟩ := HX.out.next HB.out HS0.out
    have hlt0 : w.heap.size < wr.heap.size := Nat.lt_of_lt_of_le HS0.out HB.out.size
    by_cases hlt : j < L.sigs.length
    · obtain ⟨x, hx⟩ := at_lt hlt
      obtain ⟨b, off, rfl, c0, c1, c2, c3⟩ := HJ.out wr HB.out j x hx
      have HXX := Lib.hid hx
      rw [Go.Proofs.YtjhimekojiegjaaDoor.Layf.drop_at hx, List.all_cons] at HR
      clear hx
      obtain ⟨nm, ⟨u1, u2⟩, ov⟩ := x
      simp only at c0 c1 c2 c3
      have HBA := Lib.hid ((Below.refl wr.heap.size wr).alloc (Nat.le_refl _) (.cells #[.string (bs nm), .int .i64 u1, .int .i64 u2, .int .i64 ov] 102))
      have K1 := Lib.hid (fun w' (b' : Below wr.heap.size wr w') => rexists_any L (u1, u2) w' ((HH.out.next HB.out).next b'))
      have hjb : sigB L.els ⟨nm, (u1, u2), ov⟩ = (existsB L.els (u1, u2) && (decide (0 ≤ ov) && decide (ov ≤ 1000000))) := rfl
      rw [hjb] at HR
      obtain ⟨q1, hq1⟩ : ∃ q, existsB L.els (u1, u2) = q := ⟨_, rfl⟩
      rw [hq1] at K1 HR
      clear hjb hq1
      have bx := Lib.hid (fun w' (b' : Below (wr.alloc (.cells #[.string (bs nm), .int .i64 u1, .int .i64 u2, .int .i64 ov] 102)).heap.size (wr.alloc (.cells #[.string (bs nm), .int .i64 u1, .int .i64 u2, .int .i64 ov] 102)) w') => sbox_at wr (bs nm) u1 u2 ov b')
      cases q1
      · have HF := Lib.hid (signals_arg (L := L) (by rw [HJA.out]; have := HR.out; rwa [Bool.false_and, Bool.false_and, eq_comm] at this))
        go_wp2_with fail
        refine (K1.out _ HBA.out).mono ?_
        rintro e w3 ⟨rfl, b3⟩
        have B3 := Lib.hid (bel_next (bel_next B0.out HB.out) (bel_next HBA.out b3))
        clear b3
        go_wp2_with fail
        go_ret
        exact ⟨by rw [HF.out]; rfl, B3.out⟩
      · by_cases hov : 0 ≤ ov ∧ ov ≤ 1000000
        · have HF := Lib.hid (show (L.sigs.drop (j + 1)).all (sigB L.els) = J by
            have := HR.out
            rwa [decide_eq_true hov.1, decide_eq_true hov.2, Bool.true_and, Bool.true_and, Bool.true_and] at this)
          obtain ⟨h1, h2⟩ := hov
          go_wp2_with fail
          refine (K1.out _ HBA.out).mono ?_
          rintro e w4 ⟨rfl, b3⟩
          obtain ⟨y0, y1, y2, y3⟩ := bx.out w4 b3
          have B3 := Lib.hid (bel_next HBA.out b3)
          have HO4 := Lib.hid (own_below HO.out B3.out)
          have hnl : ((L.sigs.take j).map (·.spot)).length ≤ 1000 := by rw [List.length_map, List.length_take]; omega
          have HS4 := Lib.hid (Nat.le_trans HB.out.size B3.out.size)
          have HBJ := Lib.hid (bel_next HB.out B3.out)
          clear b3 x0 x1 x2 x3 x4 x5
          go_wp2_with (at_builtin; refine wpList_append_own_at _ rfl (.tmp 32) (.tmp 35) 98 rfl W.heap.size 32 i0 (.agg #[.int .i64 0, .int .i64 0]) 2 16 Tryd.underlying98 HI0.out HZ0.out HZ1.out HZ2.out rfl (by decide) _ _ _ rfl (HO4.out.alloc _) ⟨w4.heap.size, 0, none⟩ 1 1 [.int .i64 u1, .int .i64 u2] rfl rfl (cells_new w4 #[.int .i64 u1, .int .i64 u2] 32) (by intro u hu; simp at hu; rcases hu with rfl | rfl <;> rfl) (by unfold maxLen; omega) (by omega) (by have := HS4.out; simp; omega) ?_; intro v5 w5 h1own hg1 _ _; have R1 := Lib.hid h1own; have R2 := Lib.hid hg1; clear h1own hg1)
          go_roundw
          case rel => exact srel_next HXX.out HF.out HO4.out HBJ.out R1.out R2.out
          case measure => simp [RowKit.intOf]; omega
        · have HF := Lib.hid (signals_arg (L := L) (by
            rw [HJA.out]
            have := HR.out
            rwa [Bool.true_and, show (decide (0 ≤ ov) && decide (ov ≤ 1000000)) = false by rw [← Bool.not_eq_true]; simpa using hov, Bool.false_and, eq_comm] at this))
          go_wp2_with fail
          refine (K1.out _ HBA.out).mono ?_
          rintro e w4 ⟨rfl, b3⟩
          obtain ⟨y0, y1, y2, y3⟩ := bx.out w4 b3
          have B3 := Lib.hid (bel_next (bel_next B0.out HB.out) (bel_next HBA.out b3))
          clear b3
          go_wp2_with fail
          all_goals first
            | (go_ret
               exact ⟨by rw [HF.out]; rfl, B3.out⟩)
            | (exfalso; omega)
    · have he : j = L.sigs.length := by omega
      subst he
      have HAJ := Lib.hid (show L.sigs.all (sigB L.els) = true by
        rw [HJA.out, ← HR.out, List.drop_length]
        rfl)
      have ho := HO.out
      rw [List.take_length] at ho
      have HG := Lib.hid ((grid_own ho).keep (ok' := In wr) fun b hb => ⟨hb.2, rfl⟩)
      have HE2 := Lib.hid (ends_any (l := L.sigs.map (·.spot)) (w := wr) HG.out)
      obtain ⟨N, hN⟩ : ∃ N, L.sigs.map (·.spot) = N := ⟨_, rfl⟩
      have hNl : N.length = L.sigs.length := by rw [← hN, List.length_map]
      rw [hN] at HG HE2
      have HN := Lib.hid hN
      obtain ⟨q, hq⟩ : ∃ q, dupB N = q := ⟨_, rfl⟩
      have HQ := Lib.hid (show dupB (L.sigs.map (·.spot)) = q by rw [hN]; exact hq)
      rw [hq] at HE2
      have HNL := Lib.hid hNl
      obtain ⟨A, C, hv, hm4, _⟩ := pairs_shape HG.out
      have hN3 : N.length ≤ 1000 := by omega
      clear hq ho hj hlt hN hNl
      subst hv
      cases q
      · go_wp2_with fail
        refine HE2.out.mono ?_
        rintro e w6 ⟨rfl, b6⟩
        have B6 := Lib.hid (bel_next HB.out b6)
        have HG6 := Lib.hid (HG.out.keep (ok' := In w6) (keep_next b6))
        clear b6 x0 x1 x2 x3 x4 x5
        obtain ⟨A', C', he, _, hc⟩ := pairs_shape HG6.out
        cases he
        have HC := Lib.hid hc
        obtain ⟨T, hT⟩ : ∃ T, N.all (safeB L) = T := ⟨_, rfl⟩
        have HT := Lib.hid hT
        clear hT hc
        go_wp2_with fail
        go_loopw [42] (fun vj wr => ∃ j : Nat, vj = .int .i64 (j : Int) ∧ j ≤ N.length ∧ (N.drop j).all (safeB L) = T ∧ Below w6.heap.size w6 wr) (fun vj _ => N.length - (RowKit.intOf vj).toNat)
        case atStart => exact ⟨0, rfl, Nat.zero_le _, HT.out, Below.refl _ _⟩
        case round =>
          obtain ⟨j, rfl, hj, hr, hb⟩ := hrel
          have HR := Lib.hid hr
          have HB7 := Lib.hid (bel_next B6.out hb)
          obtain ⟨x0, x1, x2, x3, x4, x5⟩ := HX.out.next HB7.out HS0.out
          have hlt0 : w.heap.size < wr.heap.size := Nat.lt_of_lt_of_le HS0.out HB7.out.size
          have HBJ := Lib.hid hb
          clear hr hb
          by_cases hlt : j < N.length
          · obtain ⟨x, hx⟩ := at_lt hlt
            obtain ⟨b, off, rfl, hbl, c0, c1⟩ := HC.out j x hx
            have d0 := (HBJ.out.cell (p := ⟨b, off + j * 2, none⟩) hbl).trans c0
            have d1 := (HBJ.out.cell (p := ⟨b, off + j * 2 + 1, none⟩) hbl).trans c1
            rw [Go.Proofs.YtjhimekojiegjaaDoor.Layf.drop_at hx, List.all_cons] at HR
            have hxe := all_at HAJ.out HN.out hx
            obtain ⟨i, y, hi, hy, hil⟩ := exists_at hxe
            obtain ⟨u1, u2⟩ := x
            simp only at d0 d1 hi
            subst hi
            have K1 := Lib.hid (fun w' (b' : Below wr.heap.size wr w') => rjoined_any L ((i : Int), u2) w' ((HH.out.next HB7.out).next b'))
            have hsafe : safeB L ((i : Int), u2) = ((joinedF L ((i : Int), u2)).2 && !decide (secAt L.els (joinedF L ((i : Int), u2)).1.1 = secAt L.els (i : Int))) := rfl
            have hje := join_exists (e := ((i : Int), u2)) HJS.out
            rw [hsafe] at HR
            have hjd : joinedF L ((i : Int), u2) = Layf.joinR ((i : Int), u2) L.joints := rfl
            rw [← hjd] at hje
            obtain ⟨⟨⟨f1, f2⟩, ok⟩, hjf⟩ : ∃ r, joinedF L ((i : Int), u2) = r := ⟨_, rfl⟩
            rw [hjf] at K1 HR hje
            have HBA := Lib.hid ((Below.refl wr.heap.size wr).alloc (Nat.le_refl _) (.cells #[.int .i64 (i : Int), .int .i64 u2] 32))
            clear hx hxe hsafe hjf hjd c0 c1 hbl
            cases ok
            · have HF := Lib.hid (signals_safe HAJ.out HQ.out (by rw [HN.out, HT.out]; have := HR.out; rwa [Bool.false_and, Bool.false_and, eq_comm] at this))
              go_wp2_with fail
              refine (K1.out _ HBA.out).mono ?_
              rintro e w7 ⟨rfl, b7⟩
              have B7 := Lib.hid (bel_next (bel_next B0.out HB7.out) (bel_next HBA.out b7))
              clear b7 hje
              unfold pV
              go_wp2_with fail
              go_quiet (fail)
              go_wp2_with fail
              go_ret
              exact ⟨by rw [HF.out]; rfl, below_drewN (B7.out.alloc B7.out.size _) _⟩
            · obtain ⟨fi, z, hfi, hz, hfl⟩ := exists_at (hje rfl)
              simp only at hfi
              subst hfi
              have hsi : secAt L.els (i : Int) = some y.sec := by simp [secAt, hy]
              have hsf : secAt L.els (fi : Int) = some z.sec := by simp [secAt, hz]
              rw [hsi, hsf] at HR
              have HY := Lib.hid (fun w' (b' : Below W.heap.size W w') => HE.out w' b' i y hy)
              have HZ := Lib.hid (fun w' (b' : Below W.heap.size W w') => HE.out w' b' fi z hz)
              obtain ⟨ny, ky, ly, gy, py, oy, sy⟩ := y
              obtain ⟨nz, kz, lz, gz, pz, oz, sz⟩ := z
              simp only at HY HZ HR
              clear hy hz hsi hsf hje
              by_cases hs : sz = sy
              · have HF := Lib.hid (signals_safe HAJ.out HQ.out (by rw [HN.out, HT.out]; have := HR.out; rwa [hs, decide_eq_true rfl, Bool.not_true, Bool.and_false, Bool.false_and, eq_comm] at this))
                subst hs
                go_wp2_with fail
                refine (K1.out _ HBA.out).mono ?_
                rintro e w7 ⟨rfl, b7⟩
                have B7 := Lib.hid (bel_next (bel_next B0.out HB7.out) (bel_next HBA.out b7))
                obtain ⟨z0, z1, z2, z3, z4, z5⟩ := HX.out.next (bel_next HB7.out (bel_next HBA.out b7)) HS0.out
                obtain ⟨bb, oo, e1, _, _, _, _, _, _, s1⟩ := HY.out w7 (bel_next HB7.out (bel_next HBA.out b7))
                obtain ⟨bb', oo', e2, _, _, _, _, _, _, s2⟩ := HZ.out w7 (bel_next HB7.out (bel_next HBA.out b7))
                subst e1
                cases e2
                have r1 := ebox_at wr (i : Int) u2 b7
                obtain ⟨r1, r2⟩ := r1
                have hb7 : w.heap.size < w7.heap.size := Nat.lt_of_lt_of_le hlt0 (Nat.le_trans HBA.out.size b7.size)
                have hb8 : wr.heap.size < w7.heap.size := Nat.lt_of_lt_of_le (by simp) b7.size
                have hb9 : bb < w7.heap.size := block_lt_of_cell s1
                clear b7 x0 x1 x2 x3 x4 x5
                unfold pV
                go_wp2_with fail
                go_quiet (fail)
                go_wp2_with fail
                go_ret
                exact ⟨by rw [HF.out]; rfl, below_drewN (B7.out.alloc B7.out.size _) _⟩
              · have HF := Lib.hid (show (N.drop (j + 1)).all (safeB L) = T by
                  have := HR.out
                  rwa [decide_eq_false (by simpa using hs), Bool.not_false, Bool.true_and, Bool.true_and] at this)
                have hq : (sz == sy) = false := by simp [hs]
                clear hs
                go_wp2_with fail
                refine (K1.out _ HBA.out).mono ?_
                rintro e w7 ⟨rfl, b7⟩
                have B7 := Lib.hid (bel_next HBJ.out (bel_next HBA.out b7))
                obtain ⟨z0, z1, z2, z3, z4, z5⟩ := HX.out.next (bel_next HB7.out (bel_next HBA.out b7)) HS0.out
                obtain ⟨bb, oo, e1, _, _, _, _, _, _, s1⟩ := HY.out w7 (bel_next HB7.out (bel_next HBA.out b7))
                obtain ⟨bb', oo', e2, _, _, _, _, _, _, s2⟩ := HZ.out w7 (bel_next HB7.out (bel_next HBA.out b7))
                subst e1
                cases e2
                obtain ⟨r1, r2⟩ := ebox_at wr (i : Int) u2 b7
                have hb7 : w.heap.size < w7.heap.size := Nat.lt_of_lt_of_le hlt0 (Nat.le_trans HBA.out.size b7.size)
                have hb8 : wr.heap.size < w7.heap.size := Nat.lt_of_lt_of_le (by simp) b7.size
                have hb9 : bb < w7.heap.size := block_lt_of_cell s1
                clear b7 x0 x1 x2 x3 x4 x5
                unfold pV
                go_wp2_with fail
                go_quiet (fail)
                go_wp2_with fail
                go_roundw
                case rel => exact ⟨j + 1, by simp, by omega, HF.out, below_drewN (B7.out.alloc B7.out.size _) _⟩
                case measure => simp [RowKit.intOf]; omega
          · have he : j = N.length := by omega
            subst he
            have HF := Lib.hid (signals_ok HAJ.out HQ.out (by
              rw [HN.out, HT.out, ← HR.out, List.drop_length]
              rfl))
            go_wp2_with fail
            go_ret
            exact ⟨by rw [HF.out]; rfl, bel_next B0.out HB7.out⟩
      · have HF := Lib.hid (signals_dup HAJ.out HQ.out)
        go_wp2_with fail
        refine HE2.out.mono ?_
        rintro e w6 ⟨rfl, b6⟩
        have B6 := Lib.hid (bel_next (bel_next B0.out HB.out) b6)
        clear b6
        go_wp2_with fail
        go_ret
        exact ⟨by rw [HF.out]; rfl, B6.out⟩

end Go.Proofs.YtjhimekojiegjaaDoor.Lsig

/- The calls of the reference's balises and Check. -/
namespace Go.Proofs.YtjhimekojiegjaaDoor.Lbal
open Go.RowKit Go.Lib Go.Proofs.YtjhimekojiegjaaDoor.Text Go.Proofs.YtjhimekojiegjaaDoor.Reads Go.Proofs.YtjhimekojiegjaaDoor.Rows2 Go.Proofs.YtjhimekojiegjaaDoor.Lay Go.Proofs.YtjhimekojiegjaaDoor.Layf Go.Proofs.YtjhimekojiegjaaDoor.Ldup Go.Proofs.YtjhimekojiegjaaDoor.Lext Go.Proofs.YtjhimekojiegjaaDoor.Ljoi Go.Proofs.YtjhimekojiegjaaDoor.Lnmd Go.Proofs.YtjhimekojiegjaaDoor.Lnam Go.Proofs.YtjhimekojiegjaaDoor.Lmem Go.Proofs.YtjhimekojiegjaaDoor.Lele Go.Proofs.YtjhimekojiegjaaDoor.Lsig

theorem bal_no {els : List Elem} {b : Bal} (h : b.id < 1 ∨ 1073741824 < b.id ∨ b.el < 0 ∨ (els.length : Int) ≤ b.el ∨ b.off < 0) : balB els b = false := by
  unfold balB
  cases hx : els[b.el.toNat]? with
  | none => rfl
  | some x =>
    have := (List.getElem?_eq_some_iff.1 hx).1
    exact decide_eq_false (by omega)
theorem bal_at {els : List Elem} {b : Bal} {x : Elem} (h1 : 1 ≤ b.id) (h2 : b.id ≤ 1073741824) (h3 : 0 ≤ b.el) (h5 : 0 ≤ b.off) (hx : els[b.el.toNat]? = some x) : balB els b = decide (b.off ≤ x.len) := by
  simp [balB, hx, h1, h2, h3, h5]
/-- What holds at the head of the loop over the balises. -/
def BRel (L : Lay) (G : Bool) (W : World) (vout vj : Value) (wr : World) : Prop :=
  ∃ j : Nat, vj = .int .i64 (j : Int) ∧ j ≤ L.bals.length ∧ (L.bals.drop j).all (balB L.els) = G ∧ (∀ x ∈ (L.bals.take j).map (·.id), (Lit.int .i64 x).wf = true) ∧ wr.ownsRow W.heap.size 3 1 vout ((L.bals.take j).map (·.id)).length (((L.bals.take j).map (·.id)).map (Value.int .i64)) ∧ Below W.heap.size W wr
theorem brel_next {L : Lay} {G : Bool} {W w1 w2 : World} {v v' : Value} {j : Nat} {x : Bal} {o : Obj} (hx : L.bals[j]? = some x) (hG : (L.bals.drop (j + 1)).all (balB L.els) = G) (hw : ∀ x ∈ (L.bals.take j).map (·.id), (Lit.int .i64 x).wf = true) (h1 : 1 ≤ x.id) (h2 : x.id ≤ 1073741824)
    (ho : w1.ownsRow W.heap.size 3 1 v ((L.bals.take j).map (·.id)).length (((L.bals.take j).map (·.id)).map (Value.int .i64))) (hb : Below W.heap.size W w1)
    (h3 : w2.ownsRow W.heap.size 3 1 v' (((L.bals.take j).map (·.id)).length + 1) (((L.bals.take j).map (·.id)).map (Value.int .i64) ++ [.int .i64 x.id])) (hg : (w1.alloc o).grownBy w2 v.ownBlock) : BRel L G W v' (.int .i64 ((j : Int) + 1)) w2 := by
  obtain ⟨hj, e⟩ := List.getElem?_eq_some_iff.1 hx
  have ht : (L.bals.take (j + 1)).map (·.id) = (L.bals.take j).map (·.id) ++ [x.id] := by
    rw [List.take_succ_eq_append_getElem hj, List.map_append, e]
    rfl
  refine ⟨j + 1, by simp, hj, hG, ?_, ?_, (hb.alloc hb.size o).grown hg (by have := hb.size; simp; omega) (fun g hg => (ho.lt g hg).1)⟩
  · rw [ht]
    intro y hy
    rcases List.mem_append.1 hy with hy | hy
    · exact hw y hy
    · rw [List.mem_singleton.1 hy]; exact WalkArith.wf_i64 (by omega)
  · rw [ht, List.map_append, List.length_append]
    exact h3
theorem bbox_new (w : World) (u1 u2 u3 : Int) : (w.alloc (.cells #[.int .i64 u1, .int .i64 u2, .int .i64 u3] 104)).heap.size = w.heap.size + 1 := by simp

theorem elements_joints {L : Lay} (h : elementsF L = 0) : L.joints.all (jointB L.els) = true := by
  unfold elementsF at h
  split at h
  · cases h
  · split at h
    · cases h
    · split at h
      · cases h
      · rename_i h3
        simpa using h3

set_option maxRecDepth 100000 in
set_option maxHeartbeats 3200000 in
theorem rbalises_any (L : Lay) {vs ve vj vg vb : Value} (w : World) (h : LayAt (In w) w L vs ve vj vg vb) (hn4 : L.bals.length ≤ 1000) :
    Calls Tryd.prog 57 #[layV L vs ve vj vg vb] w (NumOut (balisesF L) w) := by
  obtain ⟨a, cap, rfl, hm, _⟩ := h.el
  obtain ⟨a3, cap3, rfl, hm3, _⟩ := h.bl
  have B0 := Lib.hid ((Below.refl w.heap.size w).alloc (Nat.le_refl _) (.cells #[.string (bs L.name), vs, .slice a L.els.length cap, vj, vg, .slice a3 L.bals.length cap3] 28))
  have HH := Lib.hid (h.box (.cells #[.string (bs L.name), vs, .slice a L.els.length cap, vj, vg, .slice a3 L.bals.length cap3] 28))
  have HX := Lib.hid (lbox_new w 28 L vs (.slice a L.els.length cap) vj vg (.slice a3 L.bals.length cap3))
  have HS0 : Hid (w.heap.size < (w.alloc (.cells #[.string (bs L.name), vs, .slice a L.els.length cap, vj, vg, .slice a3 L.bals.length cap3] 28)).heap.size) := by simp [Hid]
  clear h
  unfold layV
  go_enter Tryd.func57, Tryd.ntmps57
  go_wp2_with fail
  obtain ⟨W, hW⟩ : ∃ W, w.alloc (.cells #[.string (bs L.name), vs, .slice a L.els.length cap, vj, vg, .slice a3 L.bals.length cap3] 28) = W := ⟨_, rfl⟩
  rw [hW] at B0 HH HX HS0 ⊢
  clear hW
  obtain ⟨a', cap', he, _, hel⟩ := HH.out.el
  cases he
  have HE := Lib.hid hel
  obtain ⟨a', cap', he, _, hbl⟩ := HH.out.bl
  cases he
  have HJ := Lib.hid hbl
  clear hel hbl
  obtain ⟨J, hJ⟩ : ∃ J, L.bals.all (balB L.els) = J := ⟨_, rfl⟩
  have HJA := Lib.hid hJ
  clear hJ
  obtain ⟨i0, hi, hz0, hz1, hz2⟩ := info_parts infoI
  have HI0 := Lib.hid hi
  have HZ0 := Lib.hid hz0
  have HZ1 := Lib.hid hz1
  have HZ2 := Lib.hid hz2
  clear hi hz0 hz1 hz2
  go_loopw [3, 9] (fun vout vj wr => BRel L J W vout vj wr) (fun _ vj _ => L.bals.length - (RowKit.intOf vj).toNat)
  case atStart => exact ⟨0, rfl, Nat.zero_le _, HJA.out, by simp, World.ownsRow_nil _ _ _ _, Below.refl _ _⟩
  case round =>
    obtain ⟨j, rfl, hj, hr, hw, ho, hb⟩ := hrel
    have HR := Lib.hid hr
    have HO := Lib.hid ho
    have HB := Lib.hid hb
    have HWF := Lib.hid hw
    clear hr ho hb hw
    obtain ⟨x0, x1, x2, x3, x4, x5⟩ := HX.out.next HB.out HS0.out
    have hlt0 : w.heap.size < wr.heap.size := Nat.lt_of_lt_of_le HS0.out HB.out.size
    by_cases hlt : j < L.bals.length
    · obtain ⟨x, hx⟩ := at_lt hlt
      obtain ⟨b, off, rfl, c0, c1, c2⟩ := HJ.out wr HB.out j x hx
      have HXX := Lib.hid hx
      rw [Go.Proofs.YtjhimekojiegjaaDoor.Layf.drop_at hx, List.all_cons] at HR
      clear hx
      obtain ⟨d, e, o⟩ := x
      simp only at c0 c1 c2
      have HBO := Lib.hid (bel_next B0.out (HB.out.alloc HB.out.size (.cells #[.int .i64 d, .int .i64 e, .int .i64 o] 104)))
      have bad : (d < 1 ∨ 1073741824 < d ∨ e < 0 ∨ (L.els.length : Int) ≤ e ∨ o < 0) → Hid (balisesF L = 1) := fun hb => balises_arg (L := L) (by
        rw [HJA.out]
        have := HR.out
        rwa [bal_no (b := ⟨d, e, o⟩) hb, Bool.false_and, eq_comm] at this)
      by_cases h1 : d < 1
      · have HF := bad (.inl h1)
        have k1 : decide (d < 1) = true := decide_eq_true h1
        clear bad
        go_wp2_with fail
        go_quiet (fail)
        go_wp2_with fail
        go_ret
        exact ⟨by rw [HF.out]; rfl, below_drewN HBO.out _⟩
      · have k1 : decide (d < 1) = false := decide_eq_false h1
        by_cases h2 : 1073741824 < d
        · have HF := bad (.inr (.inl h2))
          have k2 : decide (1073741824 < d) = true := decide_eq_true h2
          clear bad
          go_wp2_with fail
          go_quiet (fail)
          go_wp2_with fail
          go_ret
          exact ⟨by rw [HF.out]; rfl, below_drewN HBO.out _⟩
        · have k2 : decide (1073741824 < d) = false := decide_eq_false h2
          by_cases h3 : e < 0
          · have HF := bad (.inr (.inr (.inl h3)))
            have k3 : decide (e < 0) = true := decide_eq_true h3
            clear bad
            go_wp2_with fail
            go_quiet (fail)
            go_wp2_with fail
            go_ret
            exact ⟨by rw [HF.out]; rfl, below_drewN HBO.out _⟩
          · have k3 : decide (e < 0) = false := decide_eq_false h3
            by_cases h4 : (L.els.length : Int) ≤ e
            · have HF := bad (.inr (.inr (.inr (.inl h4))))
              have k4 : decide ((L.els.length : Int) ≤ e) = true := decide_eq_true h4
              clear bad
              go_wp2_with fail
              go_quiet (fail)
              go_wp2_with fail
              go_ret
              exact ⟨by rw [HF.out]; rfl, below_drewN HBO.out _⟩
            · have k4 : decide ((L.els.length : Int) ≤ e) = false := decide_eq_false h4
              by_cases h5 : o < 0
              · have HF := bad (.inr (.inr (.inr (.inr h5))))
                have k5 : decide (o < 0) = true := decide_eq_true h5
                clear bad
                go_wp2_with fail
                go_quiet (fail)
                go_wp2_with fail
                go_ret
                exact ⟨by rw [HF.out]; rfl, below_drewN HBO.out _⟩
              · have k5 : decide (o < 0) = false := decide_eq_false h5
                obtain ⟨i, rfl⟩ := Int.eq_ofNat_of_zero_le (show 0 ≤ e by omega)
                obtain ⟨y, hy⟩ := at_lt (l := L.els) (k := i) (by omega)
                obtain ⟨bb, oo, rfl, _, _, s2, _⟩ := HE.out wr HB.out i y hy
                have HV := Lib.hid (bal_at (els := L.els) (b := ⟨d, (i : Int), o⟩) (x := y) (by simp only; omega) (by simp only; omega) (by simp only; omega) (by simp only; omega) (by simpa using hy))
                have hbb : bb < wr.heap.size := block_lt_of_cell s2
                obtain ⟨ny, ky, ly, gy, py, oy, sy⟩ := y
                simp only at s2 HV
                have g0 : (0 : Int) ≤ (i : Int) := by omega
                have g2 : i < L.els.length := by omega
                have m1 : decide (L.els.length ≤ i) = false := decide_eq_false (by omega)
                have m2 : decide ((i : Int) < 0) = false := decide_eq_false (by omega)
                have g1 : (i : Int) < (L.els.length : Int) := by omega
                clear bad hy h3 h4 k3 k4
                by_cases h6 : ly < o
                · have HF := Lib.hid (balises_arg (L := L) (by rw [HJA.out]; have := HR.out; rwa [HV.out, decide_eq_false (by omega), Bool.false_and, eq_comm] at this))
                  have k6 : decide (ly < o) = true := decide_eq_true h6
                  go_wp2_with fail
                  go_quiet (fail)
                  go_wp2_with fail
                  go_ret
                  exact ⟨by rw [HF.out]; rfl, below_drewN HBO.out _⟩
                · have k6 : decide (ly < o) = false := decide_eq_false h6
                  have HF := Lib.hid (show (L.bals.drop (j + 1)).all (balB L.els) = J by have := HR.out; rwa [HV.out, decide_eq_true (by omega), Bool.true_and] at this)
                  have hnl : ((L.bals.take j).map (·.id)).length ≤ 1000 := by rw [List.length_map, List.length_take]; omega
                  go_wp2_with fail
                  go_quiet (fail)
                  have bq := below_drewN ((Below.refl wr.heap.size wr).alloc (Nat.le_refl _) (.cells #[.int .i64 d, .int .i64 (i : Int), .int .i64 o] 104)) nq
                  have y0 : ((wr.alloc (.cells #[.int .i64 d, .int .i64 (i : Int), .int .i64 o] 104)).drewN nq).cell? ⟨wr.heap.size, 0, none⟩ = some (.int .i64 d) := by
                    show (wr.alloc (.cells #[.int .i64 d, .int .i64 (i : Int), .int .i64 o] 104)).cell? ⟨wr.heap.size, 0, none⟩ = _
                    rw [World.cell?_alloc_at _ _ _ _ rfl]
                    rfl
                  have HXX2 := Lib.hid (show L.bals[j]? = some ⟨d, (i : Int), o⟩ from HXX.out)
                  obtain ⟨W7, hW7⟩ : ∃ W7, (wr.alloc (.cells #[.int .i64 d, .int .i64 (i : Int), .int .i64 o] 104)).drewN nq = W7 := ⟨_, rfl⟩
                  rw [hW7] at bq y0 ⊢
                  have HO4 := Lib.hid (own_below HO.out bq)
                  have HS4 := Lib.hid (Nat.le_trans HB.out.size bq.size)
                  have HBJ := Lib.hid (bel_next HB.out bq)
                  have HD1 := Lib.hid (show 1 ≤ d by omega)
                  have HD2 := Lib.hid (show d ≤ 1073741824 by omega)
                  clear hW7 bq x0 x1 x2 x3 x4 x5
                  go_wp2_with (at_builtin; refine wpList_append_own_at _ rfl (.tmp 51) (.tmp 54) 43 rfl W.heap.size 3 i0 (.int .i64 0) 1 8 Tryd.underlying43 HI0.out HZ0.out HZ1.out HZ2.out rfl (by decide) _ _ _ rfl (HO4.out.alloc _) ⟨W7.heap.size, 0, none⟩ 1 1 [.int .i64 d] rfl rfl (cell_one_new _ _ _) (by intro u hu; simp at hu; subst hu; rfl) (by unfold maxLen; omega) (by omega) (by have := HS4.out; simp; omega) ?_; intro v5 w5 h1own hg1 _ _; have R1 := Lib.hid h1own; have R2 := Lib.hid hg1; clear h1own hg1)
                  go_roundw
                  case rel => exact brel_next HXX2.out HF.out HWF.out HD1.out HD2.out HO4.out HBJ.out R1.out R2.out
                  case measure => simp [RowKit.intOf]; omega
    · have he : j = L.bals.length := by omega
      subst he
      have HAJ := Lib.hid (show L.bals.all (balB L.els) = true by
        rw [HJA.out, ← HR.out, List.drop_length]
        rfl)
      have ho := HO.out
      have hw := HWF.out
      rw [List.take_length] at ho hw
      have HE2 := Lib.hid (numbers_any (l := L.bals.map (·.id)) (w := wr) (reads_own ho hw (Nat.le_refl _)))
      obtain ⟨q, hq⟩ : ∃ q, dupB (L.bals.map (·.id)) = q := ⟨_, rfl⟩
      have HQ := Lib.hid hq
      rw [hq] at HE2
      clear hq ho hw hj hlt
      cases q
      · have HF := Lib.hid (balises_ok HAJ.out HQ.out)
        go_wp2_with fail
        refine HE2.out.mono ?_
        rintro e w6 ⟨rfl, b6⟩
        have B6 := Lib.hid (bel_next (bel_next B0.out HB.out) b6)
        clear b6
        go_wp2_with fail
        go_ret
        exact ⟨by rw [HF.out]; rfl, B6.out⟩
      · have HF := Lib.hid (balises_dup HAJ.out HQ.out)
        go_wp2_with fail
        refine HE2.out.mono ?_
        rintro e w6 ⟨rfl, b6⟩
        have B6 := Lib.hid (bel_next (bel_next B0.out HB.out) b6)
        clear b6
        go_wp2_with fail
        go_ret
        exact ⟨by rw [HF.out]; rfl, B6.out⟩

theorem limit_parts {L : Lay} (h : limitB L = true) : L.els.length ≤ 32 ∧ L.secs.length ≤ 24 ∧ L.sigs.length ≤ 20 ∧ L.bals.length ≤ 24 := by
  simp only [limitB, decide_eq_true_eq] at h
  exact ⟨h.2.1, h.2.2.2.1, h.2.2.2.2.1, h.2.2.2.2.2⟩
theorem limit_named {L : Lay} (h : namedF L = 0) : limitB L = true := by
  cases hl : limitB L with
  | true => rfl
  | false => rw [named_limit hl] at h; exact absurd h (by decide)

set_option maxRecDepth 100000 in
set_option maxHeartbeats 1600000 in
theorem rcheck_big (L : Lay) {vs ve vj vg vb : Value} (w : World) (h : LayAt (In w) w L vs ve vj vg vb) (hn5 : L.joints.length ≤ 4398046510976) :
    Calls Tryd.prog 31 #[layV L vs ve vj vg vb] w (NumOut (checkF L) w) := by
  have B0 := Lib.hid ((Below.refl w.heap.size w).alloc (Nat.le_refl _) (.cells #[.string (bs L.name), vs, ve, vj, vg, vb] 28))
  have HH := Lib.hid (h.box (.cells #[.string (bs L.name), vs, ve, vj, vg, vb] 28))
  have HX := Lib.hid (lbox_new w 28 L vs ve vj vg vb)
  have HS0 : Hid (w.heap.size < (w.alloc (.cells #[.string (bs L.name), vs, ve, vj, vg, vb] 28)).heap.size) := by simp [Hid]
  clear h
  obtain ⟨W, hW⟩ : ∃ W, w.alloc (.cells #[.string (bs L.name), vs, ve, vj, vg, vb] 28) = W := ⟨_, rfl⟩
  rw [hW] at B0 HH HX HS0
  have HW := Lib.hid hW
  clear hW
  have H1 := Lib.hid (fun w' (b : Below W.heap.size W w') => rnamed_any L w' (HH.out.next b))
  have H2 := Lib.hid (fun (hl : limitB L = true) w' (b : Below W.heap.size W w') => relements_any L w' (HH.out.next b) (by have := limit_parts hl; omega) (by have := limit_parts hl; omega) hn5)
  have H3 := Lib.hid (fun (hl : limitB L = true) w' (b : Below W.heap.size W w') => rsignals_any L w' (HH.out.next b) (by have := limit_parts hl; omega))
  have H4 := Lib.hid (fun (hl : limitB L = true) w' (b : Below W.heap.size W w') => rbalises_any L w' (HH.out.next b) (by have := limit_parts hl; omega))
  have HC := Lib.hid (show checkF L = if namedF L ≠ 0 then namedF L else if elementsF L ≠ 0 then elementsF L else if signalsF L ≠ 0 then signalsF L else balisesF L from rfl)
  obtain ⟨r, hr⟩ : ∃ r, checkF L = r := ⟨_, rfl⟩
  rw [hr] at HC ⊢
  have HJS := Lib.hid (fun h : elementsF L = 0 => elements_joints h)
  have HLB := Lib.hid (fun h : namedF L = 0 => limit_named h)
  obtain ⟨a, ha⟩ : ∃ a, namedF L = a := ⟨_, rfl⟩
  obtain ⟨b, hb⟩ : ∃ a, elementsF L = a := ⟨_, rfl⟩
  obtain ⟨c, hc⟩ : ∃ a, signalsF L = a := ⟨_, rfl⟩
  obtain ⟨d, hd⟩ : ∃ a, balisesF L = a := ⟨_, rfl⟩
  rw [ha] at H1 HC HLB
  rw [hb] at H2 HC HJS
  rw [hc] at H3 HC
  rw [hd] at H4 HC
  clear hr ha hb hc hd hn5
  unfold layV
  have fin : ∀ (x : Int) (w' : World), Below W.heap.size W w' → x = r → NumOut r w (.returned (.int .i64 x)) w' := fun x w' hb hx => ⟨by rw [hx], bel_next B0.out hb⟩
  have FIN := Lib.hid fin
  clear fin
  go_enter Tryd.func31, Tryd.ntmps31
  go_wp2_with fail
  rw [HW.out]
  obtain ⟨x0, x1, x2, x3, x4, x5⟩ := HX.out
  refine (H1.out W (Below.refl _ _)).mono ?_
  rintro e w1 ⟨rfl, b1⟩
  have B1 := Lib.hid b1
  obtain ⟨y0, y1, y2, y3, y4, y5⟩ := HX.out.next b1 HS0.out
  clear b1
  by_cases h1 : a = 0
  · subst h1
    have hlim := Lib.hid (HLB.out rfl)
    go_wp2_with fail
    refine (H2.out hlim.out w1 B1.out).mono ?_
    rintro e w2 ⟨rfl, b2⟩
    have B2 := Lib.hid (bel_next B1.out b2)
    obtain ⟨z0, z1, z2, z3, z4, z5⟩ := HX.out.next B2.out HS0.out
    clear b2
    by_cases h2 : b = 0
    · subst h2
      have hj := HJS.out rfl
      go_wp2_with fail
      refine (H3.out hlim.out w2 B2.out hj).mono ?_
      rintro e w3 ⟨rfl, b3⟩
      have B3 := Lib.hid (bel_next B2.out b3)
      obtain ⟨t0, t1, t2, t3, t4, t5⟩ := HX.out.next B3.out HS0.out
      clear b3 hj
      by_cases h3 : c = 0
      · subst h3
        have HF := Lib.hid (show d = r by have := HC.out; simpa using this.symm)
        go_wp2_with fail
        refine (H4.out hlim.out w3 B3.out).mono ?_
        rintro e w4 ⟨rfl, b4⟩
        have B4 := Lib.hid (bel_next B3.out b4)
        clear b4
        go_wp2_with fail
        go_ret
        exact FIN.out _ _ B4.out HF.out
      · have HF := Lib.hid (show c = r by have := HC.out; rw [if_neg (by simp), if_neg (by simp), if_pos h3] at this; exact this.symm)
        have hq : (c != 0) = true := by simp [h3]
        go_wp2_with fail
        go_ret
        exact FIN.out _ _ B3.out HF.out
    · have HF := Lib.hid (show b = r by have := HC.out; rw [if_neg (by simp), if_pos h2] at this; exact this.symm)
      have hq : (b != 0) = true := by simp [h2]
      go_wp2_with fail
      go_ret
      exact FIN.out _ _ B2.out HF.out
  · have HF := Lib.hid (show a = r by have := HC.out; rw [if_pos h1] at this; exact this.symm)
    have hq : (a != 0) = true := by simp [h1]
    go_wp2_with fail
    go_ret
    exact FIN.out _ _ B1.out HF.out

theorem rcheck_any (L : Lay) {vs ve vj vg vb : Value} (w : World) (h : LayAt (In w) w L vs ve vj vg vb) (_hn : L.secs.length ≤ 1000) (_hn2 : L.els.length ≤ 1000) (_hn3 : L.sigs.length ≤ 1000) (_hn4 : L.bals.length ≤ 1000) (hn5 : L.joints.length ≤ 1000) :
    Calls Tryd.prog 31 #[layV L vs ve vj vg vb] w (NumOut (checkF L) w) := rcheck_big L w h (by omega)

end Go.Proofs.YtjhimekojiegjaaDoor.Lbal

/- What follows from a layout's being valid: plain mathematics, of no program. -/
namespace Go.Proofs.YtjhimekojiegjaaDoor.Lcon
open Go.Proofs.YtjhimekojiegjaaDoor.Lay Go.Proofs.YtjhimekojiegjaaDoor.Numt Go.Proofs.YtjhimekojiegjaaDoor.Layf

theorem check_split {L : Lay} : checkF L = 0 ↔ namedF L = 0 ∧ elementsF L = 0 ∧ signalsF L = 0 ∧ balisesF L = 0 := by
  unfold checkF
  constructor
  · intro h
    split at h
    · contradiction
    split at h
    · contradiction
    split at h
    · contradiction
    · exact ⟨by omega, by omega, by omega, h⟩
  · rintro ⟨h1, h2, h3, h4⟩
    rw [if_neg (by omega), if_neg (by omega), if_neg (by omega), h4]
theorem named_split {L : Lay} : namedF L = 0 ↔ limitB L = true ∧ (allNames L).all nameL = true ∧ dupN L = false := by
  unfold namedF
  cases limitB L <;> cases (allNames L).all nameL <;> cases dupN L <;> simp
theorem elements_split {L : Lay} : elementsF L = 0 ↔ L.els.all (rightB L.secs.length) = true ∧ heldR L 0 L.secs.length = true ∧ L.joints.all (jointB L.els) = true ∧ dupB (endsOf L.joints) = false := by
  unfold elementsF
  cases L.els.all (rightB L.secs.length) <;> cases heldR L 0 L.secs.length <;> cases L.joints.all (jointB L.els) <;> cases dupB (endsOf L.joints) <;> simp
theorem signals_split {L : Lay} : signalsF L = 0 ↔ L.sigs.all (sigB L.els) = true ∧ dupB (L.sigs.map (·.spot)) = false ∧ (L.sigs.map (·.spot)).all (safeB L) = true := by
  unfold signalsF
  cases L.sigs.all (sigB L.els) <;> cases dupB (L.sigs.map (·.spot)) <;> cases (L.sigs.map (·.spot)).all (safeB L) <;> simp
theorem balises_split {L : Lay} : balisesF L = 0 ↔ L.bals.all (balB L.els) = true ∧ dupB (L.bals.map (·.id)) = false := by
  unfold balisesF
  cases L.bals.all (balB L.els) <;> cases dupB (L.bals.map (·.id)) <;> simp

theorem dup_nodup {α : Type} [DecidableEq α] : ∀ {l : List α}, dupB l = false ↔ l.Nodup
  | [] => by simp [dupB]
  | x :: l => by simp [dupB, dup_nodup (l := l)]
theorem dup_sub {α : Type} [DecidableEq α] {l m : List α} (h : List.Sublist m l) (hd : dupB l = false) : dupB m = false := dup_nodup.2 ((dup_nodup.1 hd).sublist h)
theorem all_sub {α : Type} {p : α → Bool} {l m : List α} (h : List.Sublist m l) (ha : l.all p = true) : m.all p = true := by
  rw [List.all_eq_true] at ha ⊢
  exact fun x hx => ha x (h.subset hx)

/-! The joined end of a joined end. -/
theorem join_mem {e : Int × Int} : ∀ {js : List ((Int × Int) × (Int × Int))}, (joinR e js).2 = true → (joinR e js).1 ∈ endsOf js
  | [], h => by cases h
  | (a, b) :: l, h => by
    rw [joinR] at h ⊢
    split
    · simp [endsOf]
    · rename_i h1
      rw [if_neg h1] at h
      split
      · simp [endsOf]
      · rename_i h2
        rw [if_neg h2] at h
        have := join_mem h
        simp only [endsOf, List.flatMap_cons, List.mem_append] at this ⊢
        exact .inr this
theorem join_back {e : Int × Int} : ∀ {js : List ((Int × Int) × (Int × Int))}, dupB (endsOf js) = false → (joinR e js).2 = true → joinR (joinR e js).1 js = (e, true) ∧ (joinR e js).1 ≠ e
  | [], _, h => by cases h
  | (a, b) :: l, hd, h => by
    have hd' : dupB (a :: b :: endsOf l) = false := hd
    simp only [dupB, Bool.or_eq_false_iff, decide_eq_false_iff_not, List.mem_cons, not_or] at hd'
    obtain ⟨⟨hab, ha⟩, hb, hl⟩ := hd'
    by_cases h1 : a = e
    · subst h1
      rw [joinR_a]
      exact ⟨joinR_b hab, fun h => hab h.symm⟩
    by_cases h2 : b = e
    · subst h2
      rw [joinR_b h1]
      exact ⟨joinR_a, h1⟩
    rw [joinR_no h1 h2] at h ⊢
    obtain ⟨i1, i2⟩ := join_back hl h
    have hm := join_mem h
    refine ⟨?_, i2⟩
    have x1 : a ≠ (joinR e l).1 := fun h => ha (by rw [h]; exact hm)
    have x2 : b ≠ (joinR e l).1 := fun h => hb (by rw [h]; exact hm)
    rw [joinR_no x1 x2]
    exact i1
theorem joined_back {L : Lay} {e f : Int × Int} (hc : checkF L = 0) (h : joinedF L e = (f, true)) : joinedF L f = (e, true) ∧ f ≠ e := by
  obtain ⟨_, he, _, _⟩ := check_split.1 hc
  obtain ⟨_, _, _, hd⟩ := elements_split.1 he
  have h2 : (joinR e L.joints).2 = true := by rw [show joinR e L.joints = (f, true) from h]
  have := join_back hd h2
  rw [show joinR e L.joints = (f, true) from h] at this
  exact this

/-! The first part that meets a condition. -/
def firstI {α : Type} (p : α → Bool) : Nat → List α → Int
  | _, [] => -1
  | i, x :: l => if p x = true then (i : Int) else firstI p (i + 1) l
theorem firstI_yes {α : Type} {p : α → Bool} {i : Nat} {x : α} {l : List α} (h : p x = true) : firstI p i (x :: l) = (i : Int) := by rw [firstI, if_pos h]
theorem firstI_no {α : Type} {p : α → Bool} {i : Nat} {x : α} {l : List α} (h : p x = false) : firstI p i (x :: l) = firstI p (i + 1) l := by rw [firstI, if_neg (by simp [h])]
theorem firstI_mem {α : Type} {p : α → Bool} : ∀ {l : List α} {i : Nat}, 0 ≤ firstI p i l → ∃ x ∈ l, p x = true
  | [], _, h => by simp [firstI] at h
  | x :: l, i, h => by
    cases hp : p x with
    | true => exact ⟨x, List.mem_cons_self, hp⟩
    | false =>
      rw [firstI_no hp] at h
      obtain ⟨y, hy, hq⟩ := firstI_mem h
      exact ⟨y, List.mem_cons_of_mem _ hy, hq⟩
theorem firstI_at {α : Type} {p : α → Bool} : ∀ {l : List α} {i k : Nat} {x : α}, l[k]? = some x → p x = true → (∀ j y, j < k → l[j]? = some y → p y = false) → firstI p i l = ((i + k : Nat) : Int)
  | [], _, _, _, h, _, _ => by simp at h
  | y :: l, i, 0, x, h, hp, _ => by
    cases h
    rw [firstI_yes hp]
    rfl
  | y :: l, i, k + 1, x, h, hp, hn => by
    rw [firstI_no (hn 0 y (by omega) rfl), firstI_at (l := l) (k := k) (x := x) h hp fun j z hj hz => hn (j + 1) z (by omega) hz]
    congr 1
    omega
def isSpot (e : Int × Int) (s : Sig) : Bool := decide (s.spot = e)
def signalF (L : Lay) (e : Int × Int) : Int := firstI (isSpot e) 0 L.sigs
def isName (n : List UInt8) (x : Elem) : Bool := decide (x.name = n)
def elementF (L : Lay) (n : List UInt8) : Int := firstI (isName n) 0 L.els
def sectionF (L : Lay) (i : Int) : Int := if i < 0 ∨ (L.els.length : Int) ≤ i then -1 else ((secAt L.els i).getD (-1))
theorem section_at {L : Lay} {i : Nat} {x : Elem} (h : L.els[i]? = some x) : sectionF L (i : Int) = x.sec := by
  have := (List.getElem?_eq_some_iff.1 h).1
  simp [sectionF, secAt, h]
  omega
/-- At a joined end with a signal another section begins. -/
theorem signal_safe {L : Lay} {e : Int × Int} (hc : checkF L = 0) (h : 0 ≤ signalF L e) : safeB L e = true := by
  obtain ⟨_, _, hs, _⟩ := check_split.1 hc
  obtain ⟨_, _, hs⟩ := signals_split.1 hs
  obtain ⟨s, hm, hp⟩ := firstI_mem h
  have he : s.spot = e := of_decide_eq_true hp
  rw [← he]
  exact List.all_eq_true.1 hs _ (List.mem_map_of_mem hm)
theorem joined_exists {L : Lay} {e f : Int × Int} (hc : checkF L = 0) (h : joinedF L e = (f, true)) : existsB L.els f = true := by
  obtain ⟨_, he, _, _⟩ := check_split.1 hc
  obtain ⟨_, _, hj, _⟩ := elements_split.1 he
  have h2 : (Layf.joinR e L.joints).2 = true := by rw [show joinR e L.joints = (f, true) from h]
  have := Lsig.join_exists hj h2
  rwa [show joinR e L.joints = (f, true) from h] at this
theorem sections_apart {L : Lay} {e f : Int × Int} (hc : checkF L = 0) (h : joinedF L e = (f, true)) (he : existsB L.els e = true) (hg : 0 ≤ signalF L e) : sectionF L f.1 ≠ sectionF L e.1 := by
  have hs := signal_safe hc hg
  have hf := joined_exists hc h
  obtain ⟨i, x, hi, hx, _⟩ := Lsig.exists_at he
  obtain ⟨j, y, hj, hy, _⟩ := Lsig.exists_at hf
  unfold safeB at hs
  rw [h] at hs
  simp [secAt, hi, hj, hx, hy] at hs
  rw [hi, hj, section_at hx, section_at hy]
  exact hs
/-- Each element is found by its name. -/
theorem element_name {L : Lay} {i : Nat} {x : Elem} (hc : checkF L = 0) (h : L.els[i]? = some x) : elementF L x.name = (i : Int) := by
  obtain ⟨hn, _, _, _⟩ := check_split.1 hc
  obtain ⟨_, _, hd⟩ := named_split.1 hn
  have hd : dupB (L.els.map (·.name)) = false := by
    simp only [dupN, Bool.or_eq_false_iff] at hd
    exact hd.2.1
  unfold elementF
  rw [firstI_at h (by simp [isName]) fun j y hj hy => ?_]
  · simp
  · cases hq : isName x.name y with
    | false => rfl
    | true =>
      exfalso
      have e : y.name = x.name := of_decide_eq_true hq
      have : dupB (L.els.map (·.name)) = true := dup_iff.2 ⟨j, i, x.name, hj, by simp [hy, e], by simp [h]⟩
      rw [hd] at this
      cases this
theorem right_at {L : Lay} {x : Elem} (hc : checkF L = 0) (h : x ∈ L.els) : rightB L.secs.length x = true := by
  obtain ⟨_, he, _, _⟩ := check_split.1 hc
  exact List.all_eq_true.1 (elements_split.1 he).1 _ h

/-! Points have a slow speed. -/
def isSlow (x : Elem) : Bool := decide (0 < x.slow)
theorem pick_congr {α : Type} {p q : α → Bool} : ∀ {l : List α} {i : Nat}, (∀ x ∈ l, p x = q x) → pick p i l = pick q i l
  | [], _, _ => rfl
  | x :: l, i, h => by
    rw [pick, pick, h x List.mem_cons_self, pick_congr fun y hy => h y (List.mem_cons_of_mem _ hy)]
theorem points_slow {L : Lay} (hc : checkF L = 0) : pointsF L = pick isSlow 0 L.els := by
  refine pick_congr fun x hx => ?_
  have h := of_decide_eq_true (right_at hc hx)
  unfold isPoint isSlow
  rw [Bool.eq_iff_iff, beq_iff_eq, decide_eq_true_eq]
  omega

/-! Each element is a member of one section. -/
def sumTo (f : Nat → Nat) : Nat → Nat
  | 0 => 0
  | n + 1 => sumTo f n + f n
theorem sumTo_add (f g : Nat → Nat) : ∀ n, sumTo (fun s => f s + g s) n = sumTo f n + sumTo g n
  | 0 => rfl
  | n + 1 => by rw [sumTo, sumTo, sumTo, sumTo_add f g n]; omega
theorem sumTo_zero {f : Nat → Nat} : ∀ {n : Nat}, (∀ s, s < n → f s = 0) → sumTo f n = 0
  | 0, _ => rfl
  | n + 1, h => by rw [sumTo, sumTo_zero fun s hs => h s (by omega), h n (by omega)]
theorem sumTo_one {f : Nat → Nat} {k : Nat} : ∀ {n : Nat}, k < n → f k = 1 → (∀ s, s < n → s ≠ k → f s = 0) → sumTo f n = 1
  | 0, h, _, _ => by omega
  | n + 1, h, h1, h2 => by
    rw [sumTo]
    by_cases hk : k = n
    · subst hk
      rw [sumTo_zero fun s hs => h2 s (by omega) (by omega), h1]
    · rw [sumTo_one (k := k) (by omega) h1 fun s hs hne => h2 s (by omega) hne, h2 n (by omega) (by omega)]
theorem sumTo_congr {f g : Nat → Nat} : ∀ {n : Nat}, (∀ s, s < n → f s = g s) → sumTo f n = sumTo g n
  | 0, _ => rfl
  | n + 1, h => by rw [sumTo, sumTo, sumTo_congr fun s hs => h s (by omega), h n (by omega)]
/-- All members of the first n sections. -/
def allMem (L : Lay) : Nat → List Int
  | 0 => []
  | n + 1 => allMem L n ++ membersF L (n : Int)
theorem allMem_len (L : Lay) : ∀ n, (allMem L n).length = sumTo (fun s => (membersF L (s : Int)).length) n
  | 0 => rfl
  | n + 1 => by rw [allMem, sumTo, List.length_append, allMem_len L n]
theorem allMem_count (L : Lay) (x : Int) : ∀ n, (allMem L n).count x = sumTo (fun s => (membersF L (s : Int)).count x) n
  | 0 => rfl
  | n + 1 => by rw [allMem, sumTo, List.count_append, allMem_count L x n]
theorem pick_count {α : Type} {p : α → Bool} : ∀ {l : List α} {i k : Nat}, (pick p i l).count ((i + k : Nat) : Int) = match l[k]? with | some x => if p x = true then 1 else 0 | none => 0
  | [], i, k => by simp [pick]
  | x :: l, i, 0 => by
    have h0 : (pick p (i + 1) l).count (i : Int) = 0 := List.count_eq_zero.2 fun h => by
      have : ∀ {l : List α} {j : Nat} {a : Int}, a ∈ pick p j l → (j : Int) ≤ a := by
        intro l
        induction l with
        | nil => intro j a h; simp [pick] at h
        | cons y l ih =>
          intro j a h
          rw [pick] at h
          split at h
          · rcases List.mem_cons.1 h with rfl | h
            · exact Int.le_refl _
            · have := ih h
              omega
          · have := ih h
            omega
      have := this h
      omega
    rw [pick]
    cases hp : p x <;> simp [hp, h0]
  | x :: l, i, k + 1 => by
    have ih := pick_count (p := p) (l := l) (i := i + 1) (k := k)
    rw [show i + 1 + k = i + (k + 1) by omega] at ih
    rw [pick, List.getElem?_cons_succ, ← ih]
    split
    · rw [List.count_cons_of_ne (by omega)]
    · rfl
theorem members_one {L : Lay} {i : Nat} {x : Elem} (hc : checkF L = 0) (h : L.els[i]? = some x) : (allMem L L.secs.length).count (i : Int) = 1 := by
  have hr := of_decide_eq_true (right_at hc (List.mem_of_getElem? h))
  rw [allMem_count]
  have hcnt : ∀ s : Nat, (membersF L (s : Int)).count (i : Int) = if isMember L.secs.length (s : Int) x = true then 1 else 0 := fun s => by
    have := pick_count (p := isMember L.secs.length (s : Int)) (l := L.els) (i := 0) (k := i)
    rw [h, Nat.zero_add] at this
    exact this
  rw [sumTo_congr fun s _ => hcnt s]
  refine sumTo_one (k := x.sec.toNat) (by omega) ?_ fun s hs hne => ?_
  · rw [if_pos]
    simp [isMember]
    omega
  · rw [if_neg]
    simp [isMember]
    omega
theorem pick_len {α : Type} {p : α → Bool} : ∀ {l : List α} {i j : Nat}, (pick p i l).length = (pick p j l).length
  | [], _, _ => rfl
  | x :: l, i, j => by
    rw [pick, pick]
    split
    · rw [List.length_cons, List.length_cons, pick_len (l := l) (i := i + 1) (j := j + 1)]
    · exact pick_len
theorem pick_all {n : Nat} : ∀ {l : List Elem}, (∀ x ∈ l, 0 ≤ x.sec ∧ x.sec < (n : Int)) → sumTo (fun s => (pick (isMember n (s : Int)) 0 l).length) n = l.length
  | [], _ => sumTo_zero fun _ _ => rfl
  | x :: l, h => by
    have ih := pick_all (n := n) (l := l) fun y hy => h y (List.mem_cons_of_mem _ hy)
    have hx := h x List.mem_cons_self
    rw [sumTo_congr (g := fun s => (if isMember n (s : Int) x = true then 1 else 0) + (pick (isMember n (s : Int)) 0 l).length) fun s _ => by
      rw [pick]
      split
      · rw [List.length_cons, pick_len (j := 0)]; omega
      · rw [pick_len (j := 0)]; omega]
    rw [sumTo_add, ih, sumTo_one (k := x.sec.toNat) (by omega) (by rw [if_pos]; simp [isMember]; omega) fun s hs hne => by rw [if_neg]; simp [isMember]; omega]
    rw [List.length_cons]
    omega
theorem members_all {L : Lay} (hc : checkF L = 0) : (allMem L L.secs.length).length = L.els.length := by
  rw [allMem_len]
  refine pick_all fun x hx => ?_
  have hr := of_decide_eq_true (right_at hc hx)
  omega
theorem held_at {L : Lay} : ∀ {n i s : Nat}, heldR L i n = true → i ≤ s → s < i + n → membersF L (s : Int) ≠ []
  | 0, i, s, _, h1, h2 => by omega
  | n + 1, i, s, h, h1, h2 => by
    rw [heldR] at h
    simp only [Bool.and_eq_true, Bool.not_eq_true', decide_eq_false_iff_not] at h
    by_cases e : s = i
    · subst e; exact h.1
    · exact held_at h.2 (by omega) (by omega)
theorem members_some {L : Lay} (hc : checkF L = 0) {s : Nat} (h : s < L.secs.length) : membersF L (s : Int) ≠ [] := by
  obtain ⟨_, he, _, _⟩ := check_split.1 hc
  exact held_at (elements_split.1 he).2.1 (Nat.zero_le _) (by omega)
theorem pick_at {α : Type} {p : α → Bool} : ∀ {l : List α} {i : Nat} {a : Int}, a ∈ pick p i l → ∃ (k : Nat) (x : α), a = ((i + k : Nat) : Int) ∧ l[k]? = some x ∧ p x = true
  | [], _, _, h => by simp [pick] at h
  | x :: l, i, a, h => by
    rw [pick] at h
    have rest : a ∈ pick p (i + 1) l → ∃ (k : Nat) (y : α), a = ((i + k : Nat) : Int) ∧ (x :: l)[k]? = some y ∧ p y = true := fun h => by
      obtain ⟨k, y, e, hy, hp⟩ := pick_at h
      exact ⟨k + 1, y, by rw [e]; congr 1; omega, by simpa using hy, hp⟩
    split at h
    · rename_i hp
      rcases List.mem_cons.1 h with rfl | h
      · exact ⟨0, x, rfl, rfl, hp⟩
      · exact rest h
    · exact rest h
/-- A member of a section is an element of it. -/
theorem member_at {L : Lay} {s a : Int} (h : a ∈ membersF L s) : ∃ (k : Nat) (x : Elem), a = (k : Int) ∧ L.els[k]? = some x ∧ x.sec = s := by
  obtain ⟨k, x, e, hx, hp⟩ := pick_at h
  refine ⟨k, x, by rw [e, Nat.zero_add], hx, ?_⟩
  simp only [isMember, Bool.and_eq_true, beq_iff_eq] at hp
  exact hp.1

/-! What stays valid when something is removed. -/
theorem held_congr {L M : Lay} (h1 : M.secs = L.secs) (h2 : M.els = L.els) : ∀ n i, heldR M i n = heldR L i n
  | 0, _ => rfl
  | n + 1, i => by
    rw [heldR, heldR, held_congr h1 h2 n (i + 1)]
    unfold membersF
    rw [h1, h2]
theorem remove_bals {L : Lay} {m : List Bal} (hm : List.Sublist m L.bals) (hc : checkF L = 0) : checkF { L with bals := m } = 0 := by
  obtain ⟨hn, he, hs, hb⟩ := check_split.1 hc
  obtain ⟨n1, n2, n3⟩ := named_split.1 hn
  obtain ⟨e1, e2, e3, e4⟩ := elements_split.1 he
  obtain ⟨s1, s2, s3⟩ := signals_split.1 hs
  obtain ⟨b1, b2⟩ := balises_split.1 hb
  refine check_split.2 ⟨named_split.2 ⟨?_, n2, n3⟩, elements_split.2 ⟨e1, ?_, e3, e4⟩, signals_split.2 ⟨s1, s2, s3⟩, balises_split.2 ⟨all_sub hm b1, dup_sub (hm.map _) b2⟩⟩
  · have := of_decide_eq_true n1
    have := hm.length_le
    refine decide_eq_true ?_
    simp only
    omega
  · exact (held_congr (L := L) (M := { L with bals := m }) rfl rfl _ _).trans e2
theorem remove_sigs {L : Lay} {m : List Sig} (hm : List.Sublist m L.sigs) (hc : checkF L = 0) : checkF { L with sigs := m } = 0 := by
  obtain ⟨hn, he, hs, hb⟩ := check_split.1 hc
  obtain ⟨n1, n2, n3⟩ := named_split.1 hn
  obtain ⟨e1, e2, e3, e4⟩ := elements_split.1 he
  obtain ⟨s1, s2, s3⟩ := signals_split.1 hs
  obtain ⟨b1, b2⟩ := balises_split.1 hb
  refine check_split.2 ⟨named_split.2 ⟨?_, ?_, ?_⟩, elements_split.2 ⟨e1, ?_, e3, e4⟩, signals_split.2 ⟨all_sub hm s1, dup_sub (hm.map _) s2, all_sub (hm.map _) s3⟩, balises_split.2 ⟨b1, b2⟩⟩
  · have := of_decide_eq_true n1
    have := hm.length_le
    refine decide_eq_true ?_
    simp only
    omega
  · refine all_sub ?_ n2
    exact List.Sublist.cons_cons _ ((List.Sublist.refl _).append ((List.Sublist.refl _).append (hm.map _)))
  · simp only [dupN, Bool.or_eq_false_iff] at n3 ⊢
    exact ⟨n3.1, n3.2.1, dup_sub (hm.map _) n3.2.2⟩
  · exact (held_congr (L := L) (M := { L with sigs := m }) rfl rfl _ _).trans e2
theorem join_skip {e a b : Int × Int} (h1 : a ≠ e) (h2 : b ≠ e) : ∀ {l m : List ((Int × Int) × (Int × Int))}, joinR e (l ++ (a, b) :: m) = joinR e (l ++ m)
  | [], m => joinR_no h1 h2
  | (c, d) :: l, m => by
    rw [List.cons_append, List.cons_append, joinR, joinR, join_skip h1 h2]
theorem signal_none {L : Lay} {e : Int × Int} : ∀ {l : List Sig} {i : Nat}, firstI (isSpot e) i l < 0 → ∀ s ∈ l, s.spot ≠ e
  | [], _, _, s, hs => by simp at hs
  | x :: l, i, h, s, hs => by
    cases hp : isSpot e x with
    | true =>
      rw [firstI_yes hp] at h
      omega
    | false =>
      rw [firstI_no hp] at h
      rcases List.mem_cons.1 hs with rfl | hs
      · exact of_decide_eq_false hp
      · exact signal_none (L := L) h s hs
theorem remove_joint {L : Lay} {l m : List ((Int × Int) × (Int × Int))} {a b : Int × Int} (hj : L.joints = l ++ (a, b) :: m) (ha : signalF L a < 0) (hb' : signalF L b < 0) (hc : checkF L = 0) : checkF { L with joints := l ++ m } = 0 := by
  obtain ⟨hn, he, hs, hb⟩ := check_split.1 hc
  obtain ⟨n1, n2, n3⟩ := named_split.1 hn
  obtain ⟨e1, e2, e3, e4⟩ := elements_split.1 he
  obtain ⟨s1, s2, s3⟩ := signals_split.1 hs
  obtain ⟨b1, b2⟩ := balises_split.1 hb
  have hsub : List.Sublist (l ++ m) L.joints := by
    rw [hj]
    exact (List.Sublist.refl _).append (List.sublist_cons_self _ _)
  refine check_split.2 ⟨named_split.2 ⟨n1, n2, n3⟩, elements_split.2 ⟨e1, ?_, all_sub hsub e3, ?_⟩, signals_split.2 ⟨s1, s2, ?_⟩, balises_split.2 ⟨b1, b2⟩⟩
  · exact (held_congr (L := L) (M := { L with joints := l ++ m }) rfl rfl _ _).trans e2
  · refine dup_sub ?_ e4
    show List.Sublist (endsOf (l ++ m)) (endsOf L.joints)
    rw [hj]
    simp only [endsOf, List.flatMap_append, List.flatMap_cons]
    exact (List.Sublist.refl _).append (List.sublist_append_right _ _)
  · rw [List.all_eq_true] at s3 ⊢
    intro e h
    have h3 := s3 e h
    obtain ⟨s, hs, rfl⟩ := List.mem_map.1 h
    have q1 := signal_none (L := L) ha s hs
    have q2 := signal_none (L := L) hb' s hs
    unfold safeB joinedF at h3 ⊢
    rw [hj, join_skip (fun h => q1 h.symm) (fun h => q2 h.symm)] at h3
    exact h3

end Go.Proofs.YtjhimekojiegjaaDoor.Lcon

/- The program's small functions: between, isIndex, Section. -/
namespace Go.Proofs.YtjhimekojiegjaaDoor.Pbas
open Go.RowKit Go.Lib Go.Proofs.YtjhimekojiegjaaDoor.Reads Go.Proofs.YtjhimekojiegjaaDoor.Rows2 Go.Proofs.YtjhimekojiegjaaDoor.Lay Go.Proofs.YtjhimekojiegjaaDoor.Layf Go.Proofs.YtjhimekojiegjaaDoor.Lcon Go.Proofs.YtjhimekojiegjaaDoor.Ldup Go.Proofs.YtjhimekojiegjaaDoor.Lext Go.Proofs.YtjhimekojiegjaaDoor.Lnmd Go.Proofs.YtjhimekojiegjaaDoor.Lsid
open Go.Proofs.YtjhimekojiegjaaDoor.Text hiding lineL joinR

theorem between_any (n lo hi : Int) (w : World) :
    Calls Tryd.prog 79 #[.int .i64 n, .int .i64 lo, .int .i64 hi] w fun e w' => e = .returned (.bool (decide (lo ≤ n ∧ n ≤ hi))) ∧ w' = w := by
  by_cases h1 : lo ≤ n
  · go_enter Tryd.func79, Tryd.ntmps79
    go_wp2
    go_ret
    refine ⟨?_, rfl⟩
    simp [h1]
  · have h2 : decide (lo ≤ n) = false := by simp; omega
    go_enter Tryd.func79, Tryd.ntmps79
    go_wp2
    go_ret
    exact ⟨rfl, rfl⟩
theorem index_any (i s : Int) (h0 : 0 ≤ s) (h1 : s ≤ 9223372036854775807) (w : World) :
    Calls Tryd.prog 63 #[.int .i64 i, .int .i64 s] w fun e w' => e = .returned (.bool (decide (0 ≤ i ∧ i < s))) ∧ w' = w := by
  have H := Lib.hid (fun w => between_any i 0 (s - 1) w)
  have h3 : (0 ≤ i ∧ i ≤ s - 1) ↔ (0 ≤ i ∧ i < s) := by omega
  rw [decide_eq_decide.2 h3] at H
  obtain ⟨q, hq⟩ : ∃ q, decide (0 ≤ i ∧ i < s) = q := ⟨_, rfl⟩
  rw [hq] at H ⊢
  clear h3 hq
  go_enter Tryd.func63, Tryd.ntmps63
  go_wp2_with fail
  refine (H.out _).mono ?_
  rintro e w' ⟨rfl, rfl⟩
  go_wp2_with fail
  go_ret
  exact ⟨rfl, rfl⟩
set_option maxRecDepth 100000 in
set_option maxHeartbeats 800000 in
theorem section_any (L : Lay) (i : Int) {vs ve vj vg vb : Value} (w : World) (h : LayAt (In w) w L vs ve vj vg vb) :
    Calls Tryd.prog 43 #[layV L vs ve vj vg vb, .int .i64 i] w (NumOut (sectionF L i) w) := by
  obtain ⟨a, cap, rfl, hm, hel⟩ := h.el
  have HB := Lib.hid ((Below.refl w.heap.size w).alloc (Nat.le_refl _) (.cells #[.string (bs L.name), vs, .slice a L.els.length cap, vj, vg, vb] 28))
  have HE := Lib.hid (hel w (Below.refl _ _))
  have HI := Lib.hid (fun w => index_any i (L.els.length : Int) (by omega) hm w)
  clear h hel
  unfold layV
  by_cases h0 : 0 ≤ i ∧ i < (L.els.length : Int)
  · obtain ⟨j, rfl⟩ := Int.eq_ofNat_of_zero_le h0.1
    obtain ⟨x, hx⟩ := at_lt (l := L.els) (k := j) (by omega)
    obtain ⟨b, off, rfl, _, _, _, _, _, _, c6⟩ := HE.out j x hx
    have HV := Lib.hid (section_at hx)
    have hbl : b < w.heap.size := block_lt_of_cell c6
    rw [decide_eq_true h0] at HI
    obtain ⟨nm, kd, ln, gr, sp, sl, sc⟩ := x
    simp only at c6 HV
    have hlt := h0.2
    clear hx h0
    go_enter Tryd.func43, Tryd.ntmps43
    go_wp2_with fail
    refine (HI.out _).mono ?_
    rintro e w' ⟨rfl, rfl⟩
    go_wp2_with fail
    go_ret
    exact ⟨by rw [HV.out]; rfl, HB.out⟩
  · have HV := Lib.hid (show sectionF L i = -1 by unfold sectionF; rw [if_pos (by omega)])
    rw [decide_eq_false h0] at HI
    clear h0
    go_enter Tryd.func43, Tryd.ntmps43
    go_wp2_with fail
    refine (HI.out _).mono ?_
    rintro e w' ⟨rfl, rfl⟩
    go_wp2_with fail
    go_ret
    exact ⟨by rw [HV.out]; rfl, HB.out⟩

end Go.Proofs.YtjhimekojiegjaaDoor.Pbas

/- The program's Sections (walk). -/
namespace Go.Proofs.YtjhimekojiegjaaDoor.Wpse
open Go.RowKit Go.Lib Go.Proofs.YtjhimekojiegjaaDoor.Reads Go.Proofs.YtjhimekojiegjaaDoor.Rows2 Go.Proofs.YtjhimekojiegjaaDoor.Lay Go.Proofs.YtjhimekojiegjaaDoor.Layf Go.Proofs.YtjhimekojiegjaaDoor.Lcon Go.Proofs.YtjhimekojiegjaaDoor.Ldup Go.Proofs.YtjhimekojiegjaaDoor.Lext Go.Proofs.YtjhimekojiegjaaDoor.Lnmd Go.Proofs.YtjhimekojiegjaaDoor.Way Go.Proofs.YtjhimekojiegjaaDoor.Wrf Go.Proofs.YtjhimekojiegjaaDoor.Wlst Go.Proofs.YtjhimekojiegjaaDoor.Wmea Go.Proofs.YtjhimekojiegjaaDoor.Wele Go.Proofs.YtjhimekojiegjaaDoor.Wsec
open Go.Proofs.YtjhimekojiegjaaDoor.Text hiding lineL joinR
open Go.Proofs.YtjhimekojiegjaaDoor.Lmem (ListOut)

theorem containsI_any {B : Nat} {w : World} {v : Value} {xs : List Int} (x : Int) (h : Reads B w v xs) :
    Calls Tryd.prog 44 #[v, .int .i64 x] w fun e w' => e = .returned (.bool (xs.contains x)) ∧ w' = w := by
  by_cases h0 : xs = []
  · subst h0
    obtain ⟨a, cap, rfl, _⟩ := h.empty
    exact Tryd.slices_Contains_int_empty a cap x w
  · have hm := h.len
    obtain ⟨b, off, cap, rfl, hl, hc, hb, hcell⟩ := h.at h0
    have := Tryd.slices_Contains_int b off xs.length cap xs x w (Nat.le_refl _) (by unfold maxLen at hm; omega) hcell
    rwa [List.take_length] at this

theorem sectionF_none {L : Lay} {i : Int} (h : inB L.els i = false) : sectionF L i = -1 := by
  unfold sectionF
  rw [if_pos]
  simp only [inB, Bool.and_eq_false_iff, decide_eq_false_iff_not] at h
  omega
theorem sectionF_some {L : Lay} {i : Nat} {x : Elem} (h : L.els[i]? = some x) : sectionF L (i : Int) = x.sec := section_at h

set_option maxRecDepth 100000 in
set_option maxHeartbeats 3200000 in
theorem psections_any (L : Lay) {way : List Stp} {vs ve vj vg vb v : Value} (w : World) (h : LayAt (In w) w L vs ve vj vg vb) (hv : Grid (In w) w v 3 (way.map stCells)) (hn : way.length ≤ 1000) (hsec : ∀ x ∈ L.els, 0 ≤ x.sec) :
    Calls Tryd.prog 21 #[layV L vs ve vj vg vb, v] w (ListOut (sectionsF L.els way) w) := by
  obtain ⟨a2, cap2, rfl, hm2, _⟩ := way_cells hv
  obtain ⟨r, hr⟩ : ∃ r, sectionsF L.els way = r := ⟨_, rfl⟩
  rw [hr]
  have HR := Lib.hid (show secR L.els [] (way.drop 0) = r by rw [List.drop_zero]; exact hr)
  have HEW := Lib.hid h.ewf
  have HSE := Lib.hid hsec
  have b0 := (Below.refl w.heap.size w).alloc (Nat.le_refl _) (.cells #[.string (bs L.name), vs, ve, vj, vg, vb] 28)
  have HH := Lib.hid (h.next b0)
  have HV := Lib.hid (hv.keep (keep_next b0))
  have B0 := Lib.hid b0
  have HX := Lib.hid (lbox_new w 28 L vs ve vj vg vb)
  have HS0 : Hid (w.heap.size < (w.alloc (.cells #[.string (bs L.name), vs, ve, vj, vg, vb] 28)).heap.size) := by simp [Hid]
  obtain ⟨i0, hi0, hz0, hz1, hz2⟩ := info_parts infoI
  have HI0 := Lib.hid hi0
  have HZ0 := Lib.hid hz0
  have HZ1 := Lib.hid hz1
  have HZ2 := Lib.hid hz2
  clear hi0 hz0 hz1 hz2
  clear h hv hr b0 hsec
  unfold layV
  go_enter Tryd.func21, Tryd.ntmps21
  go_wp2_with fail
  obtain ⟨W, hW⟩ : ∃ W, w.alloc (.cells #[.string (bs L.name), vs, ve, vj, vg, vb] 28) = W := ⟨_, rfl⟩
  rw [hW] at B0 HH HX HS0 HV ⊢
  clear hW
  obtain ⟨_, _, he, _, hcw⟩ := way_cells HV.out
  cases he
  have HC := Lib.hid hcw
  clear hcw
  go_loopw [5, 11] (fun vout vj2 wr => SRel L way r W vout vj2 wr) (fun _ vj2 _ => way.length - (RowKit.intOf vj2).toNat)
  case atStart => exact ⟨0, [], rfl, Nat.zero_le _, HR.out, Nat.le_refl _, by simp, World.ownsRow_nil _ _ _ _, Below.refl _ _⟩
  case round =>
    obtain ⟨j, acc, rfl, hj, hr, ha, hw, ho, hb⟩ := hrel
    have HJ := Lib.hid hr
    have HA := Lib.hid ha
    have HW := Lib.hid hw
    have HO := Lib.hid ho
    have HB := Lib.hid hb
    clear hr ha hw ho hb
    by_cases hlt : j < way.length
    · obtain ⟨x, hx⟩ := at_lt hlt
      rw [Layf.drop_at hx] at HJ
      obtain ⟨a0, a1, a2, a3, a4, a5⟩ := HX.out.next HB.out HS0.out
      obtain ⟨b, off, rfl, hbl, c0, c1, c2⟩ := HC.out wr HB.out j x hx
      obtain ⟨s1, s2, s3⟩ := x
      simp only at c0 c1 c2
      have b1 := HB.out.alloc HB.out.size (.cells #[.int .i64 s1, .int .i64 s2, .int .i64 s3] 30)
      have hlt0 : w.heap.size < wr.heap.size := Nat.lt_of_lt_of_le HS0.out HB.out.size
      have C1 := Lib.hid (Pbas.section_any L s1 _ (HH.out.next b1))
      unfold layV at C1
      have B1 := Lib.hid b1
      have D1 := Lib.hid ((Below.refl wr.heap.size wr).alloc (Nat.le_refl _) (.cells #[.int .i64 s1, .int .i64 s2, .int .i64 s3] 30))
      clear hx b1
      cases hq : inB L.els s1 with
      | false =>
        rw [sectionF_none hq] at C1
        have HF := Lib.hid (show secR L.els acc (way.drop (j + 1)) = r by rw [← HJ.out, sec_none hq])
        clear hq
        go_wp2_with fail
        refine C1.out.mono ?_
        rintro e w1 ⟨rfl, b2⟩
        have B2 := Lib.hid (bel_next B1.out b2)
        have HO6 := Lib.hid (Lele.own_below HO.out (bel_next D1.out b2))
        clear b2
        go_wp2_with fail
        go_roundw
        case rel => exact ⟨j + 1, acc, by simp, hlt, HF.out, Nat.le_succ_of_le HA.out, HW.out, HO6.out, B2.out⟩
        case measure => simp [RowKit.intOf]; omega
      | true =>
        obtain ⟨i, y, rfl, hi, hy, hel⟩ := el_some hq
        rw [sectionF_some hy] at C1
        have hy0 : 0 ≤ y.sec := HSE.out y (List.mem_of_getElem? hy)
        have hyw : (Lit.int .i64 y.sec).wf = true := (HEW.out y (List.mem_of_getElem? hy)).2.2.2.2.2
        have HSI := Lib.hid (fun hc => sec_in (els := L.els) (acc := acc) (s := ((i : Int), s2, s3)) (r := way.drop (j + 1)) hel hc)
        have HSN := Lib.hid (fun hc => sec_new (els := L.els) (acc := acc) (s := ((i : Int), s2, s3)) (r := way.drop (j + 1)) hel hc)
        have HYW := Lib.hid hyw
        obtain ⟨sc, hsc⟩ : ∃ sc, y.sec = sc := ⟨_, rfl⟩
        rw [hsc] at C1 hy0 HSI HSN HYW
        have hne : (sc != (-1 : Int)) = true := by simp; omega
        clear hq hel hy hsc hyw
        cases hc : acc.contains sc with
        | true =>
          have HF := Lib.hid (show secR L.els acc (way.drop (j + 1)) = r by rw [← HJ.out, HSI.out hc])
          have HQC := Lib.hid hc
          clear hc
          go_wp2_with fail
          refine C1.out.mono ?_
          rintro e w1 ⟨rfl, b2⟩
          have B2 := Lib.hid (bel_next B1.out b2)
          have HO6 := Lib.hid (Lele.own_below HO.out (bel_next D1.out b2))
          have ho2 := HO6.out
          rw [flat_ints] at ho2
          have C2 := Lib.hid (containsI_any sc (reads_own ho2 HW.out (Nat.le_refl _)))
          rw [HQC.out] at C2
          clear b2 ho2
          go_wp2_with fail
          refine C2.out.mono ?_
          rintro e w2 ⟨rfl, rfl⟩
          go_wp2_with fail
          go_roundw
          case rel => exact ⟨j + 1, acc, by simp, hlt, HF.out, Nat.le_succ_of_le HA.out, HW.out, HO6.out, B2.out⟩
          case measure => simp [RowKit.intOf]; omega
        | false =>
          have HF := Lib.hid (show secR L.els (acc ++ [sc]) (way.drop (j + 1)) = r by rw [← HJ.out, HSN.out hc])
          have HQC := Lib.hid hc
          clear hc
          go_wp2_with fail
          refine C1.out.mono ?_
          rintro e w1 ⟨rfl, b2⟩
          have B2 := Lib.hid (bel_next B1.out b2)
          have HO6 := Lib.hid (Lele.own_below HO.out (bel_next D1.out b2))
          have ho2 := HO6.out
          rw [flat_ints] at ho2
          have C2 := Lib.hid (containsI_any sc (reads_own ho2 HW.out (Nat.le_refl _)))
          rw [HQC.out] at C2
          clear b2 ho2
          go_wp2_with fail
          refine C2.out.mono ?_
          rintro e w2 ⟨rfl, rfl⟩
          go_wp2_with (at_builtin; refine wp_append_row rfl (.tmp 27) (.tmp 29) 43 rfl W 3 i0 (.int .i64 0) 1 8 Tryd.underlying43 HI0.out HZ0.out HZ1.out HZ2.out rfl (by decide) iCells i_len i_one sc rfl rfl (by simp) rfl HO6.out B2.out (by have := HA.out; omega) (by have := HA.out; unfold maxLen; omega) ?_; intro v5 w5 o5 f5; have O5 := Lib.hid o5; have F5 := Lib.hid f5; clear o5 f5)
          go_roundw
          case rel => exact ⟨j + 1, acc ++ [sc], by simp, hlt, HF.out, by have := HA.out; simp; omega, by
            intro z hz
            rcases List.mem_append.1 hz with hz | hz
            · exact HW.out z hz
            · rw [List.mem_singleton.1 hz]; exact HYW.out, O5.out, F5.out⟩
          case measure => simp [RowKit.intOf]; omega
    · have he : j = way.length := by omega
      subst he
      have HF := Lib.hid (show acc = r by rw [← HJ.out, List.drop_length]; rfl)
      go_wp2_with fail
      go_ret
      rw [← HF.out]
      exact ⟨_, rfl, reads_own (by rw [← flat_ints]; exact HO.out) HW.out (Nat.le_refl _), bel_next B0.out HB.out⟩

end Go.Proofs.YtjhimekojiegjaaDoor.Wpse

/- slices.Backward at steps: its iterator's contract. -/
namespace Go.Proofs.YtjhimekojiegjaaDoor.Wbak
open Go.RowKit Go.Lib Go.Shelf Go.Proofs.YtjhimekojiegjaaDoor.Reads Go.Proofs.YtjhimekojiegjaaDoor.Rows2 Go.Proofs.YtjhimekojiegjaaDoor.Lay Go.Proofs.YtjhimekojiegjaaDoor.Way Go.Proofs.YtjhimekojiegjaaDoor.Wmea

attribute [local go_sem] Oper.semAt_some

/-- The steps in the opposite order, with their places. -/
def gB (i : Nat) : List Stp → List (Nat × Stp)
  | [] => []
  | s :: r => gB (i + 1) r ++ [(i, s)]
theorem gB_next {way : List Stp} {k : Nat} {x : Stp} (h : way[k]? = some x) : gB k (way.drop k) = gB (k + 1) (way.drop (k + 1)) ++ [(k, x)] := by rw [Layf.drop_at h, gB]
theorem gB_len : ∀ {l : List Stp} {i : Nat}, (gB i l).length = l.length
  | [], _ => rfl
  | s :: r, i => by rw [gB, List.length_append, gB_len]; simp
theorem gB_pre {way : List Stp} : ∀ {k : Nat}, k ≤ way.length → gB k (way.drop k) <+: gB 0 way
  | 0, _ => List.prefix_rfl
  | k + 1, h => by
    obtain ⟨x, hx⟩ := at_lt (l := way) (k := k) (by omega)
    exact List.IsPrefix.trans ⟨[(k, x)], (gB_next hx).symm⟩ (gB_pre (by omega))
theorem gB_map : ∀ {l : List Stp} {i : Nat}, (gB i l).map (fun x => turned x.2) = reverseF l
  | [], _ => rfl
  | s :: r, i => by rw [gB, List.map_append, gB_map, reverseF, reverseF]; simp [turned]

/-- A way's cells, whose blocks lie below n₀, in each later world. -/
theorem cells_below {n₀ : Nat} {w : World} {v : Value} {way : List Stp} (h : Grid (fun b => b < n₀) w v 3 (way.map stCells)) :
    ∃ a cap, v = .slice a way.length cap ∧ (way.length : Int) ≤ 9223372036854775807 ∧ ∀ (wr : World), Below n₀ w wr → ∀ (k : Nat) (x : Stp), way[k]? = some x → ∃ b off, a = some ⟨b, off, none⟩ ∧ b < n₀ ∧ wr.cell? ⟨b, off + k * 3, none⟩ = some (.int .i64 x.1) ∧ wr.cell? ⟨b, off + k * 3 + 1, none⟩ = some (.int .i64 x.2.1) ∧ wr.cell? ⟨b, off + k * 3 + 2, none⟩ = some (.int .i64 x.2.2) := by
  obtain ⟨a, cap, h1, h2, _, _, h5⟩ := h.shape
  rw [List.length_map] at h1 h2
  refine ⟨a, cap, h1, h2, fun wr hb k x hx => ?_⟩
  obtain ⟨b, off, e, hbl, hc⟩ := h5 k _ (by rw [List.getElem?_map, hx]; rfl)
  exact ⟨b, off, e, hbl, (hb.cell (p := ⟨b, off + k * 3, none⟩) hbl).trans (hc 0 _ rfl), (hb.cell (p := ⟨b, off + k * 3 + 1, none⟩) hbl).trans (hc 1 _ rfl), (hb.cell (p := ⟨b, off + k * 3 + 2, none⟩) hbl).trans (hc 2 _ rfl)⟩

/-- What a round keeps: all blocks below n₀, and a box's cell. -/
def KpB (n₀ Bs : Nat) (W W' : World) : Prop := Below n₀ W W' ∧ W'.cell? ⟨Bs, 0, none⟩ = W.cell? ⟨Bs, 0, none⟩
theorem kpB_trans {n₀ Bs : Nat} {A B C : World} (h : KpB n₀ Bs A B) (k : KpB n₀ Bs B C) : KpB n₀ Bs A C := ⟨h.1.trans k.1, k.2.trans h.2⟩
theorem kpB_put {n₀ Bs m : Nat} (hn : n₀ ≤ m) (hB : Bs < m) (W : World) (l : Nat) (o o' : Obj) (hl : m ≤ l) (ho : W.heap[l]? = some o) (_ : o.isCells = false) (_ : o.isWalk = false) : KpB n₀ Bs W (W.putObj l o') := by
  have hlt := (Array.getElem?_eq_some_iff.1 ho).1
  have hg := grownBy_putObj' W l o'
  refine ⟨⟨hg.os, hg.tape, hg.output, hg.size, fun k hk => hg.block k (by omega) (fun e => by cases e; omega)⟩, cell_same (hg.block Bs (by omega) (fun e => by cases e; omega))⟩

set_option maxRecDepth 100000 in
set_option maxHeartbeats 2000000 in
theorem back1_in (F : Fence) (n : Nat) (h7 : F.fn 69) (hro : F.round = none) (hn : 1 ≤ n) (l Bs n₀ : Nat) (sv : Value) (way : List Stp) (J Jx : List (Nat × Stp) → World → Prop)
    (hY : ∀ pre x W, J pre W → pre.length < way.length → YieldAt F (n - 1) Tryd.prog l #[.int .i64 ((x.1 : Nat) : Int), .agg #[.int .i64 x.2.1, .int .i64 x.2.2.1, .int .i64 x.2.2.2]] W fun e W' =>
      (e = .returned (.bool true) ∧ J (pre ++ [x]) W' ∧ KpB n₀ Bs W W') ∨ (e = .returned (.bool false) ∧ Jx (pre ++ [x]) W'))
    (W : World) (hBs : W.cell? ⟨Bs, 0, none⟩ = some sv) (hG : Grid (fun b => b < n₀) W sv 3 (way.map stCells)) (h0 : J [] W) :
    CallsIn F n Tryd.prog 69 #[.func (.yield l) #[] #[], .pointer (some ⟨Bs, 0, none⟩)] W fun e W' => (∃ v, e = .returned v) ∧
      ((∃ ys, ys = gB 0 way ∧ J ys W') ∨ (∃ pre, pre <+: gB 0 way ∧ Jx pre W')) := by
  obtain ⟨a, cap, rfl, hm, hc⟩ := cells_below hG
  have HC := Lib.hid hc
  clear hG hc
  refine callsIn_of_wp Tryd.func69 rfl h7 ?_ hro
  simp only [Tryd.ntmps69, List.size_toArray, List.length_cons, List.length_nil, Nat.reduceAdd, Nat.reduceSub, Array.replicate_succ, Array.replicate_zero, List.push_toArray, List.append_toArray, List.nil_append, List.cons_append]
  gi_wp2
  gi_loopw [3] (fun i wr => ∃ k : Nat, k ≤ way.length ∧ i = .int .i64 ((k : Int) - 1) ∧ J (gB k (way.drop k)) wr ∧ Below n₀ W wr ∧ wr.cell? ⟨Bs, 0, none⟩ = some (.slice a way.length cap))
    (fun i _ => (RowKit.intOf i + 1).toNat)
  case atStart => exact ⟨way.length, Nat.le_refl _, rfl, by rw [List.drop_length]; exact h0, Below.refl _ _, hBs⟩
  case round =>
    obtain ⟨k, hk, rfl, hJs, hnx, hbox⟩ := hrel
    rcases k with _ | k
    · gi_wp2
      go_end0
      exact ⟨⟨_, rfl⟩, .inl ⟨_, rfl, by simpa using hJs⟩⟩
    · rw [show (((k + 1 : Nat) : Int) - 1) = (k : Int) by omega]
      have hlt : k < way.length := hk
      obtain ⟨x, hx⟩ := at_lt hlt
      obtain ⟨b, off, rfl, hbl, c0, c1, c2⟩ := HC.out wr hnx k x hx
      have HN := Lib.hid (gB_next hx)
      have HLE := Lib.hid (gB_pre (way := way) (k := k) (by omega))
      obtain ⟨fn, tmps, assign, body, hy, hR⟩ := hY _ (k, x) wr hJs (by rw [gB_len, List.length_drop]; omega)
      dsimp only at hy
      obtain ⟨x1, x2, x3⟩ := x
      simp only at c0 c1 c2 hy hR
      have HBX := Lib.hid hbox
      clear hx
      gi_wp2
      refine hR.mono ?_
      rintro e W3 (⟨rfl, hJ3, hk3⟩ | ⟨rfl, hJx3⟩)
      · have hbx3 := hk3.2.trans HBX.out
        gi_wp2
        go_roundw
        case rel => exact ⟨k, by omega, rfl, by rw [HN.out]; exact hJ3, hnx.trans hk3.1, hbx3⟩
        case measure => simp [RowKit.intOf]
      · gi_wp2
        refine bodyPost_ret (results_none rfl _ _ _) rfl ?_
        exact ⟨⟨_, rfl⟩, .inr ⟨_, by rw [← HN.out]; exact HLE.out, hJx3⟩⟩

set_option maxHeartbeats 1000000 in
theorem back_in (F : Fence) (n : Nat) (h5 : F.fn 53) (hro : F.round = none) (v : Value) (w : World) (hv : ∃ a m c, v = .slice a m c) :
    CallsIn F n Tryd.prog 53 #[v] w fun e w' => e = .returned (.func (.func 69) #[] #[.pointer (some ⟨w.heap.size, 0, none⟩)]) ∧ w' = w.alloc (.cells #[v] 38) := by
  obtain ⟨a, m, c, rfl⟩ := hv
  refine callsIn_of_wp Tryd.func53 rfl h5 ?_ hro
  simp only [Tryd.ntmps53, List.size_toArray, List.length_cons, List.length_nil, Nat.reduceAdd, Nat.reduceSub, Array.replicate_succ, Array.replicate_zero, List.push_toArray, List.append_toArray, List.nil_append, List.cons_append]
  gi_wp2
  go_ret
  exact ⟨rfl, rfl⟩

/-- slices.Backward's value hands over all the steps in the opposite order, or a beginning of them. -/
theorem back_stops (F : Fence) (n : Nat) (h7 : F.fn 69) (hro : F.round = none) (hn : 1 ≤ n) (Bs n₀ : Nat) (sv : Value) (way : List Stp) (w : World) (hBs : Bs < w.heap.size) (hn₀ : n₀ ≤ w.heap.size)
    (hc : w.cell? ⟨Bs, 0, none⟩ = some sv) (hG : Grid (fun b => b < n₀) w sv 3 (way.map stCells)) :
    SeqStopsK F n Tryd.prog 69 #[.pointer (some ⟨Bs, 0, none⟩)] (fun x : Nat × Stp => #[.int .i64 ((x.1 : Nat) : Int), .agg #[.int .i64 x.2.1, .int .i64 x.2.2.1, .int .i64 x.2.2.2]]) (KpB n₀ Bs) (fun ys => ys = gB 0 way) (fun pre => pre <+: gB 0 way) way.length w := fun l J Jx W hW _ _ hY h0 =>
  back1_in F n h7 hro hn l Bs n₀ sv way J Jx hY W ((hW.cell (p := ⟨Bs, 0, none⟩) hBs).trans hc) (hG.keep fun b hb => ⟨hb, hW.block b (Nat.lt_of_lt_of_le hb hn₀)⟩) h0

end Go.Proofs.YtjhimekojiegjaaDoor.Wbak

/- The program's Reverse (walk). -/
namespace Go.Proofs.YtjhimekojiegjaaDoor.Wprv
open Go.RowKit Go.Lib Go.Shelf Go.Proofs.YtjhimekojiegjaaDoor.Reads Go.Proofs.YtjhimekojiegjaaDoor.Rows2 Go.Proofs.YtjhimekojiegjaaDoor.Lay Go.Proofs.YtjhimekojiegjaaDoor.Way Go.Proofs.YtjhimekojiegjaaDoor.Wlst Go.Proofs.YtjhimekojiegjaaDoor.Wmea Go.Proofs.YtjhimekojiegjaaDoor.Wbak

attribute [local go_sem] Oper.semAt_some

/-- A box of three cells. -/
theorem box_kept {W W' : World} {row : Option Nat} {B : Nat} {cs : Array Value} {t : TypeId} (h : W.heap[B]? = some (.cells cs t (0, 0))) (hg : W.grownBy W' row) (hr : ∀ r, row = some r → ∃ o : Obj, W.heap[r]? = some o ∧ o.isCells = false) : W'.heap[B]? = some (.cells cs t (0, 0)) := by
  refine (hg.block B (Array.getElem?_eq_some_iff.1 h).1 (fun e => ?_)).trans h
  obtain ⟨o, ho, hc⟩ := hr B e.symm
  rw [h] at ho
  cases ho
  cases hc

set_option maxRecDepth 100000 in
set_option maxHeartbeats 4000000 in
theorem preverse_in (F : Fence) (n : Nat) (h3 : F.fn 26) (h4 : F.fn 53) (h5 : F.fn 69) (hro : F.round = none) (hn : 3 ≤ n) (way : List Stp) (v : Value) (w : World) (hG : Grid (In w) w v 3 (way.map stCells)) (hlen : way.length ≤ 1000) :
    CallsIn F n Tryd.prog 26 #[v] w (MadeOut stCells 3 (reverseF way) w) := by
  have h1 : 1 ≤ n := by omega
  obtain ⟨i0, hi, hz0, hz1, hz2⟩ := info_parts infoT
  obtain ⟨a, cap, rfl, hm, _⟩ := way_cells hG
  refine callsIn_of_wp_marks Tryd.func26 rfl h3 ?_ hro
  simp only [Tryd.ntmps26, List.size_toArray, List.length_cons, List.length_nil, Nat.reduceAdd, Nat.reduceSub, Array.replicate_succ, Array.replicate_zero, List.push_toArray, List.append_toArray, List.nil_append, List.cons_append]
  gi_wp2_with (gi_at_call 53; refine (back_in F (n - 1) h4 hro _ _ ⟨_, _, _, rfl⟩).mono ?_; rintro e w' ⟨rfl, rfl⟩)
  have bO := Boxed.new w 38 (.slice none 0 0)
  have bN := Boxed.new (w.alloc (.cells #[.slice none 0 0] 38)) 38 (.slice a way.length cap)
  rw [World.size_alloc] at bN
  have hB0 : Below w.heap.size w ((w.alloc (.cells #[.slice none 0 0] 38)).alloc (.cells #[.slice a way.length cap] 38)) := ((Below.refl _ w).alloc (Nat.le_refl _) _).alloc (by simp) _
  have hsz : ((w.alloc (.cells #[.slice none 0 0] 38)).alloc (.cells #[.slice a way.length cap] 38)).heap.size = w.heap.size + 2 := by simp
  have bO2 := bO.alloc (.cells #[.slice a way.length cap] 38)
  obtain ⟨W0, hW0⟩ : ∃ W0, (w.alloc (.cells #[.slice none 0 0] 38)).alloc (.cells #[.slice a way.length cap] 38) = W0 := ⟨_, rfl⟩
  rw [hW0] at bO2 bN hB0 hsz ⊢
  clear hW0 bO
  refine wpIn_rangeFunc_ownH hro h1 (gf := 69) (lb := #[.pointer (some ⟨w.heap.size + 1, 0, none⟩)]) rfl h5 (enters_of Tryd.func69 (by kernel_rfl) rfl)
    (back_stops F (n - 1) h5 hro (by omega) (w.heap.size + 1) w.heap.size (.slice a way.length cap) way W0 (by omega) (by omega) bN.cell (hG.keep fun b hb => ⟨hb, hB0.block b hb⟩)) kpB_trans (kpB_put (by omega) (by omega)) (Below.refl _ _) (fun _ => rfl)
    (fun pre W => ((∃ v, Boxed W w.heap.size 38 v ∧ W.ownsRow w.heap.size 30 3 v (pre.map fun x => turned x.2).length ((pre.map fun x => turned x.2).flatMap stCells) ∧ True) ∧ Boxed W (w.heap.size + 1) 38 (.slice a way.length cap)) ∧ Below w.heap.size w W)
    (fun _ _ _ => False)
    (OwnFrom.and (OwnFrom.and (Own.from (holdsRow_own w.heap.size w.heap.size 38 30 3 (fun pre : List (Nat × Stp) => (pre.map fun x => turned x.2).length) (fun pre => (pre.map fun x => turned x.2).flatMap stCells) (fun _ _ => True)) _) (Own.from (boxed_own _ _ _) _)) (ownFrom_below (Nat.le_refl _) (by omega)))
    (fun _ _ _ _ _ hs _ _ => hs)
    ⟨⟨⟨_, bO2, World.ownsRow_nil _ _ _ _, trivial⟩, bN⟩, hB0⟩
    (fun x a' W => ∃ Bx, w.heap.size + 1 < Bx ∧ W.heap[Bx]? = some (.cells #[.int .i64 x.2.1, .int .i64 x.2.2.1, .int .i64 x.2.2.2] 30 (0, 0)) ∧ a' = { tmps := #[.slice a way.length cap, undef, .slice none 0 0, .pointer (some ⟨w.heap.size, 0, none⟩), undef, .pointer (some ⟨Bx, 0, none⟩), .slice a way.length cap, .func (.func 69) #[] #[.pointer (some ⟨w.heap.size + 1, 0, none⟩)], .int .i64 ((x.1 : Nat) : Int), .agg #[.int .i64 x.2.1, .int .i64 x.2.2.1, .int .i64 x.2.2.2], undef, undef, undef, undef, undef, undef, undef, undef, undef, undef, undef], defers := [] })
    (fun x a' _ X Y row hs hg hr => by obtain ⟨Bx, h1, h2, h3⟩ := hs; exact ⟨Bx, h1, box_kept h2 hg (fun r e => (hr r e).2), h3⟩)
    ?assign ?body ?done ?stop
  case assign =>
    rintro l pre x W K ⟨⟨⟨v, hv, hrow, _⟩, hbs⟩, hB⟩ hK
    gi_wp2
    refine hK _ _ ((KeepsOthers.alloc _ _).from _) ⟨(Below.refl _ W).alloc hB.size _, ?_⟩ ⟨⟨⟨v, hv.alloc _, hrow.alloc _, trivial⟩, hbs.alloc _⟩, hB.alloc hB.size _⟩ ⟨W.heap.size, hbs.lt, heap_alloc_new _ _, rfl⟩
    rw [(hbs.alloc _).cell, hbs.cell]
  case body =>
    rintro l pre x a' W hl _ ⟨⟨⟨v, hv, hrow, _⟩, hbs⟩, hB⟩ ⟨Bx, hBx, bX, rfl⟩ hlt
    have hc := hv.cell
    rw [show (pre.map fun x => turned x.2).length = pre.length by simp] at hrow
    have y0 := cell_of_row W Bx 0 _ _ _ bX
    have y1 := cell_of_row W Bx 1 _ _ _ bX
    have y2 := cell_of_row W Bx 2 _ _ _ bX
    have hbx := (Array.getElem?_eq_some_iff.1 bX).1
    have hnr := hbs.not_row (by decide : 38 ≠ 30) hrow
    gi_wp2_with (gi_at_builtin; refine wpListIn_append_own _ rfl _ _ 38 rfl w.heap.size 30 i0 (.agg #[.int .i64 0, .int .i64 0, .int .i64 0]) 3 24 Tryd.underlying38 hi hz0 hz1 hz2 rfl (by decide) _ _ _ rfl (hrow.alloc _) ⟨W.heap.size, 0, none⟩ 1 1 (stCells (turned x.2)) rfl rfl (Lele.cells_new _ _ _) (st_one _) (by unfold maxLen; omega) (by omega) (by have := hB.size; simp; omega) ?_; intro v' w1 hown' hgrow _; obtain ⟨g', cap', rfl⟩ := ownsRow_succ hown'; obtain ⟨hv1, hv2, hr2, hk2, hb2⟩ := hv.appended (by decide) hrow hB.size (Nat.le_refl _) hown' hgrow; have hbs2 := (hbs.alloc _).kept hgrow hnr; have hc1 := hv1.cell; have hf1 := hv1.frozen)
    have hbs3 := hbs2.other (B' := w.heap.size) (by omega) (.slice (some ⟨g', 0, none⟩) (pre.length + 1) cap')
    refine ⟨hk2.from _, ⟨hb2, ?_⟩, ⟨⟨_, hv2, ?_, trivial⟩, hbs3⟩, hB.trans hb2⟩
    · rw [hbs3.cell, hbs.cell]
    · simpa [List.map_append, List.flatMap_append] using hr2
  case done =>
    rintro D ys W hD rfl ⟨⟨⟨v, hv, hrow, _⟩, hbs⟩, hB⟩ hK
    have hc := hv.cell
    rw [gB_map] at hrow
    gi_wp2
    refine ⟨by simp, .inl ⟨_, _, rfl, run_takeDeferred hK, ?_⟩⟩
    exact ⟨_, results_tmp rfl _ _ _, made_own stCells st_len (Below.refl _ _) (ownsRow_putObj hrow _ hK rfl) (hB.trans (belowK_b (w := w) (Nat.le_refl _) W D _ _ (by omega) hK rfl rfl))⟩
  case stop =>
    rintro D c pre W _ _ h _
    exact h.elim

theorem preverse_any {way : List Stp} {v : Value} {w : World} (hG : Grid (In w) w v 3 (way.map stCells)) (hlen : way.length ≤ 1000) :
    Calls Tryd.prog 26 #[v] w (MadeOut stCells 3 (reverseF way) w) :=
  (callsIn_wide (n := 3)).1 (preverse_in Fence.wide 3 trivial trivial trivial rfl (Nat.le_refl _) way v w hG hlen)

end Go.Proofs.YtjhimekojiegjaaDoor.Wprv
