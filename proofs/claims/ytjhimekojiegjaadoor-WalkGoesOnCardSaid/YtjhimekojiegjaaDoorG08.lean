/- Texts of this proof, merged: Wali, Wsou, Wstp, Wcmp, Wcp0, Wcpt, Wsrt. -/
import Derived.Test.YtjhimekojiegjaaDoorG04
import Derived.Test.YtjhimekojiegjaaDoorG06
import Derived.Test.YtjhimekojiegjaaDoorG07
import Derived.Deep.RegionHeld3
import Derived.Deep.DeepCutAuto
import Derived.Test.YtjhimekojiegjaaDoorG05
import Derived.Test.YtjhimekojiegjaaDoorG01
import Derived.Lib.SliceRun

/- The examples of layer 9's statements (walk). -/
namespace Go.Proofs.YtjhimekojiegjaaDoor.Wali
open Go.RowKit Go.Lib Go.Proofs.YtjhimekojiegjaaDoor.Reads Go.Proofs.YtjhimekojiegjaaDoor.Rows2 Go.Proofs.YtjhimekojiegjaaDoor.Lay Go.Proofs.YtjhimekojiegjaaDoor.Layf Go.Proofs.YtjhimekojiegjaaDoor.Ldup Go.Proofs.YtjhimekojiegjaaDoor.Lext Go.Proofs.YtjhimekojiegjaaDoor.Ljoi Go.Proofs.YtjhimekojiegjaaDoor.Lnmd Go.Proofs.YtjhimekojiegjaaDoor.Way Go.Proofs.YtjhimekojiegjaaDoor.Wrf Go.Proofs.YtjhimekojiegjaaDoor.Wlst Go.Proofs.YtjhimekojiegjaaDoor.Wmea Go.Proofs.YtjhimekojiegjaaDoor.Wele Go.Proofs.YtjhimekojiegjaaDoor.Wlin Go.Proofs.YtjhimekojiegjaaDoor.Wnxt Go.Proofs.YtjhimekojiegjaaDoor.Wval Go.Proofs.YtjhimekojiegjaaDoor.Wpbr Go.Proofs.YtjhimekojiegjaaDoor.Wple Go.Proofs.YtjhimekojiegjaaDoor.Wpse Go.Proofs.YtjhimekojiegjaaDoor.Wprv
open Go.Proofs.YtjhimekojiegjaaDoor.Rtab (RTab rtab_next)
open Go.Proofs.YtjhimekojiegjaaDoor.Text hiding lineL joinR

def way2 : List Stp := [(0, 0, 1), (1, 0, 1)]
def way3 : List Stp := [(0, 0, 1), (2, 0, 1)]
/-- What the examples say of the line. -/
structure Said (L : Lay) : Prop where
  n1 : nextS L (0, 0, 1) = ((1, 0), true)
  n2 : (nextS L (2, 0, 1)).2 = false
  br : branchesF L (1, 0) = [(1, 0, 1)]
  va : validF L way2 = true
  vb : validF L way3 = false
  le : lengthF L.els way2 = 40000
  se : sectionsF L.els way2 = [0, 1]
  ls : ∀ x ∈ L.els, (0 ≤ x.len ∧ x.len ≤ 1000000) ∧ 0 ≤ x.sec
theorem said : Said lineL := by
  constructor
  all_goals decide +kernel
theorem back2 : reverseF way2 = [(1, 1, 0), (0, 1, 0)] := by decide

/-- A literal slice of two steps. -/
theorem grid_two {w : World} {g : Nat} {a b : Stp} {T : TypeId} (h : w.heap[g]? = some (.cells #[.int .i64 a.1, .int .i64 a.2.1, .int .i64 a.2.2, .int .i64 b.1, .int .i64 b.2.1, .int .i64 b.2.2] T (0, 0))) : Grid (In w) w (.slice (some ⟨g, 0, none⟩) 2 2) 3 ([a, b].map stCells) := by
  refine ⟨_, 2, rfl, Nat.le_refl _, by decide, .inr ⟨g, 0, rfl, (Array.getElem?_eq_some_iff.1 h).1, fun i r hr j x hx => ?_⟩⟩
  rw [Nat.zero_add, cell_of_row _ _ _ _ _ _ h, ← Array.getElem?_toList]
  exact Lown.flat_of stCells 3 (fun _ => rfl) (l := [a, b]) hr hx

/-- The second of them. -/
theorem grid_snd {w : World} {g : Nat} {a b : Stp} {T : TypeId} (h : w.heap[g]? = some (.cells #[.int .i64 a.1, .int .i64 a.2.1, .int .i64 a.2.2, .int .i64 b.1, .int .i64 b.2.1, .int .i64 b.2.2] T (0, 0))) : Grid (In w) w (.slice (some ⟨g, 3, none⟩) 1 1) 3 ([b].map stCells) := by
  refine ⟨_, 1, rfl, Nat.le_refl _, by decide, .inr ⟨g, 3, rfl, (Array.getElem?_eq_some_iff.1 h).1, fun i r hr j x hx => ?_⟩⟩
  rw [cell_of_row _ _ _ _ _ _ h, ← Array.getElem?_toList]
  have := Lown.flat_of stCells 3 (fun _ => rfl) (l := [a, b]) (i := i + 1) (j := j) (r := r) (x := x) (by simpa using hr) hx
  rw [show 3 + i * 3 + j = (i + 1) * 3 + j by omega]
  exact this

set_option maxRecDepth 100000 in
set_option maxHeartbeats 6400000 in
theorem alive_any (w : World) (hd : RTab w) : Calls Tryd.prog 10 #[] w (BoolOut true w) := by
  have HLN := Lib.hid (line_any w)
  have HD0 := Lib.hid hd
  obtain ⟨L, hL⟩ : ∃ L, lineL = L := ⟨_, rfl⟩
  have HSD := Lib.hid (show Said L by rw [← hL]; exact said)
  rw [hL] at HLN
  clear hd hL
  go_enter Tryd.func10, Tryd.ntmps10
  go_wp2_with fail
  refine HLN.out.mono ?_
  rintro e w1 ⟨vs, ve, vj, vg, vb, rfl, hl1, b1⟩
  obtain ⟨sa, sc, rfl, _, _⟩ := hl1.sn
  obtain ⟨ea, ec, rfl, _, _⟩ := hl1.el
  obtain ⟨ja, jc, rfl, _, _⟩ := hl1.jt
  obtain ⟨ga, gc, rfl, _, _⟩ := hl1.sg
  obtain ⟨ba, bc, rfl, _, _⟩ := hl1.bl
  have HL1 := Lib.hid hl1
  have B1 := Lib.hid b1
  unfold layV
  clear hl1 b1
  go_upto_region 3 with fail
  obtain ⟨vs, hvs⟩ : ∃ v, Value.slice sa L.secs.length sc = v := ⟨_, rfl⟩
  obtain ⟨ve, hve⟩ : ∃ v, Value.slice ea L.els.length ec = v := ⟨_, rfl⟩
  obtain ⟨vj, hvj⟩ : ∃ v, Value.slice ja L.joints.length jc = v := ⟨_, rfl⟩
  obtain ⟨vg, hvg⟩ : ∃ v, Value.slice ga L.sigs.length gc = v := ⟨_, rfl⟩
  obtain ⟨vb, hvb⟩ : ∃ v, Value.slice ba L.bals.length bc = v := ⟨_, rfl⟩
  rw [hvs, hve, hvj, hvg, hvb] at HL1 ⊢
  clear hvs hve hvj hvg hvb
  have X := two_boxes w1 #[.string (bs L.name), vs, ve, vj, vg, vb] #[.int .i64 0, .int .i64 0, .int .i64 1, .int .i64 1, .int .i64 0, .int .i64 1] 28 30
  have XN := heap_alloc_new (w1.alloc (.cells #[.string (bs L.name), vs, ve, vj, vg, vb] 28)) (.cells #[.int .i64 0, .int .i64 0, .int .i64 1, .int .i64 1, .int .i64 0, .int .i64 1] 30)
  rw [show (w1.alloc (.cells #[.string (bs L.name), vs, ve, vj, vg, vb] 28)).heap.size = w1.heap.size + 1 by simp] at XN
  obtain ⟨W, hW⟩ : ∃ W, (w1.alloc (.cells #[.string (bs L.name), vs, ve, vj, vg, vb] 28)).alloc (.cells #[.int .i64 0, .int .i64 0, .int .i64 1, .int .i64 1, .int .i64 0, .int .i64 1] 30) = W := ⟨_, rfl⟩
  rw [hW] at X XN ⊢
  clear hW
  obtain ⟨x1, x2, xs, xb⟩ := X
  have HX : Hid (LBox w1.heap.size W L vs ve vj vg vb) := ⟨x1 0, x1 1, x1 2, x1 3, x1 4, x1 5⟩
  have hlt0 : w1.heap.size < W.heap.size := by omega
  have hlt1 : w1.heap.size + 1 < W.heap.size := by omega
  have HLT := Lib.hid (⟨hlt0, hlt1⟩ : w1.heap.size < W.heap.size ∧ w1.heap.size + 1 < W.heap.size)
  have BW := Lib.hid (bel_next B1.out xb)
  have HLW := Lib.hid (HL1.out.next xb)
  have HDW := Lib.hid (rtab_next HD0.out BW.out)
  have HGW := Lib.hid (grid_two (a := (0, 0, 1)) (b := (1, 0, 1)) XN)
  have HSW := Lib.hid (grid_snd (a := (0, 0, 1)) (b := (1, 0, 1)) XN)
  have HSY := Lib.hid (fun w' (b : Below W.heap.size W w') => (show Grid (In w') w' (.slice (some ⟨w1.heap.size + 1, 3, none⟩) 1 1) 3 ([((1, 0, 1) : Stp)].map stCells) from HSW.out.keep (keep_next b)))
  have HLY := Lib.hid (fun w' (b : Below W.heap.size W w') => HLW.out.next b)
  have HDY := Lib.hid (fun w' (b : Below W.heap.size W w') => rtab_next HDW.out b)
  have HGY := Lib.hid (fun w' (b : Below W.heap.size W w') => (show Grid (In w') w' (.slice (some ⟨w1.heap.size + 1, 0, none⟩) 2 2) 3 (way2.map stCells) from HGW.out.keep (keep_next b)))
  have y0 : W.cell? ⟨w1.heap.size + 1, 0, none⟩ = some (.int .i64 0) := x2 0
  have y1 : W.cell? ⟨w1.heap.size + 1, 1, none⟩ = some (.int .i64 0) := x2 1
  have y2 : W.cell? ⟨w1.heap.size + 1, 2, none⟩ = some (.int .i64 1) := x2 2
  have HK : Hid (∀ w', Below W.heap.size W w' → w'.cell? ⟨w1.heap.size, 0, none⟩ = some (.string (bs L.name)) ∧ w'.cell? ⟨w1.heap.size, 1, none⟩ = some vs ∧ w'.cell? ⟨w1.heap.size, 2, none⟩ = some ve ∧ w'.cell? ⟨w1.heap.size, 3, none⟩ = some vj ∧ w'.cell? ⟨w1.heap.size, 4, none⟩ = some vg ∧ w'.cell? ⟨w1.heap.size, 5, none⟩ = some vb ∧ w'.cell? ⟨w1.heap.size + 1, 0, none⟩ = some (.int .i64 0) ∧ w'.cell? ⟨w1.heap.size + 1, 1, none⟩ = some (.int .i64 0) ∧ w'.cell? ⟨w1.heap.size + 1, 2, none⟩ = some (.int .i64 1)) := fun w' b' => by
    obtain ⟨x0, x1, x2, x3, x4, x5⟩ := HX.out.next b' HLT.out.1
    exact ⟨x0, x1, x2, x3, x4, x5, (b'.cell (p := ⟨w1.heap.size + 1, 0, none⟩) HLT.out.2).trans y0, (b'.cell (p := ⟨w1.heap.size + 1, 1, none⟩) HLT.out.2).trans y1, (b'.cell (p := ⟨w1.heap.size + 1, 2, none⟩) HLT.out.2).trans y2⟩
  have C1 := Lib.hid (fun w' (b' : Below W.heap.size W w') => pnext_any L (0, 0, 1) w' (HLY.out w' b'))
  rw [HSD.out.n1] at C1
  unfold layV stV EndOut pV at C1
  try simp only at C1
  clear x1 x2 xs xb XN y0 y1 y2 HL1 HD0
  obtain ⟨x0, x1, x2, x3, x4, x5, y0, y1, y2⟩ := HK.out _ (Below.refl _ _)
  go_cut [3, 4] (fun v3 v4 wx => ∃ A, v3 = .pointer (some ⟨A, 0, none⟩) ∧ v4 = .bool true ∧ wx.cell? ⟨A, 0, none⟩ = some (.int .i64 1) ∧ wx.cell? ⟨A, 1, none⟩ = some (.int .i64 0) ∧ A < wx.heap.size ∧ Below W.heap.size W wx)
  case first =>
    go_region_held3 (fun w' => w'.cell? ⟨w1.heap.size, 0, none⟩ = some (.string (bs L.name)) ∧ w'.cell? ⟨w1.heap.size, 1, none⟩ = some vs ∧ w'.cell? ⟨w1.heap.size, 2, none⟩ = some ve ∧ w'.cell? ⟨w1.heap.size, 3, none⟩ = some vj ∧ w'.cell? ⟨w1.heap.size, 4, none⟩ = some vg ∧ w'.cell? ⟨w1.heap.size, 5, none⟩ = some vb ∧ w'.cell? ⟨w1.heap.size + 1, 0, none⟩ = some (.int .i64 0) ∧ w'.cell? ⟨w1.heap.size + 1, 1, none⟩ = some (.int .i64 0) ∧ w'.cell? ⟨w1.heap.size + 1, 2, none⟩ = some (.int .i64 1))
      (first
        | with_reducible exact HK.out _ E7.out
        | with_reducible exact HK.out _ (E7.out.alloc E7.out.size _)
        | with_reducible exact HK.out _ ((E7.out.setCell (Nat.le_refl _) _).setCell (Nat.le_refl _) _)
        | with_reducible exact HK.out _ ((Below.refl W.heap.size W).alloc (Nat.le_refl _) _).drew
        | go_keep)
      (first
        | (go_at_call 11; (with_reducible refine (C1.out _ (Below.refl W.heap.size W).drew).mono ?_); rintro e w7 ⟨rfl, b7⟩; have E7 := Lib.hid ((Below.refl W.heap.size W).drew.trans (b7.mono (Below.refl W.heap.size W).drew.size)); clear b7)
        | (go_at_call 11; (with_reducible refine (C1.out _ ((Below.refl W.heap.size W).alloc (Nat.le_refl _) _).drew).mono ?_); rintro e w7 ⟨rfl, b7⟩; have E7 := Lib.hid (((Below.refl W.heap.size W).alloc (Nat.le_refl _) _).drew.trans (b7.mono ((Below.refl W.heap.size W).alloc (Nat.le_refl _) _).drew.size)); have HLT7 := Lib.hid (Nat.lt_of_lt_of_le (show W.heap.size < ((W.alloc (.cells #[.int .i64 0, .int .i64 0] 32)).drew).heap.size by simp) b7.size); have g3 := (b7.block W.heap.size (by simp)).trans (heap_alloc_new W _); have g4 := cell_of_row w7 _ 0 _ _ _ g3; have g5 := cell_of_row w7 _ 1 _ _ _ g3; have g6 := frozen_of_row w7 _ 0 _ _ g3; have g7 := frozen_of_row w7 _ 1 _ _ g3; clear b7 g3))
    · go_wp2_with fail
      go_meet
      exact ⟨_, rfl, rfl, by rw [World.cell?_alloc_at _ _ _ _ rfl]; rfl, by rw [World.cell?_alloc_at _ _ _ _ rfl]; rfl, by simp, E7.out.alloc E7.out.size _⟩
    · go_wp2_with fail
      go_meet
      exact ⟨_, rfl, rfl, by rw [World.cell?_setCell_other _ _ _ _ (by simp)]; exact World.cell?_setCell_same' _ _ _ (by rw [g4]; rfl), World.cell?_setCell_same' _ _ _ (by rw [World.cell?_setCell_other _ _ _ _ (by simp), g5]; rfl), by simpa [World.setCell] using HLT7.out, (E7.out.setCell (Nat.le_refl _) _).setCell (Nat.le_refl _) _⟩
  case rest =>
    obtain ⟨A, rfl, rfl, f0, f1, hA, hb2⟩ := hcut
    have B2 := Lib.hid hb2
    have HA := Lib.hid (fun w' (b : Below wc.heap.size wc w') => (⟨(b.cell (p := ⟨A, 0, none⟩) hA).trans f0, (b.cell (p := ⟨A, 1, none⟩) hA).trans f1, Nat.lt_of_lt_of_le hA b.size⟩ : w'.cell? ⟨A, 0, none⟩ = some (.int .i64 1) ∧ w'.cell? ⟨A, 1, none⟩ = some (.int .i64 0) ∧ A < w'.heap.size))
    clear f0 f1 hA hb2 hlt0 hlt1 x0 x1 x2 x3 x4 x5 y0 y1 y2
    obtain ⟨x0, x1, x2, x3, x4, x5, y0, y1, y2⟩ := HK.out _ B2.out
    have hlt0 := Nat.lt_of_lt_of_le HLT.out.1 B2.out.size
    have hlt1 := Nat.lt_of_lt_of_le HLT.out.2 B2.out.size
    have C2 := Lib.hid (pnext_any L (2, 0, 1) wc (HLY.out wc B2.out))
    obtain ⟨⟨⟨n1, n2⟩, n3⟩, hn⟩ : ∃ q, nextS L (2, 0, 1) = q := ⟨_, rfl⟩
    obtain rfl : n3 = false := by have := HSD.out.n2; rw [hn] at this; exact this
    rw [hn] at C2
    unfold layV stV EndOut pV at C2
    try simp only at C2
    clear hn
    go_wp2_with fail
    refine C2.out.mono ?_
    rintro e w3 ⟨rfl, b3⟩
    have B3 := Lib.hid ((B2.out.trans (b3.mono B2.out.size)).alloc (Nat.le_trans B2.out.size b3.size) (.cells #[.int .i64 n1, .int .i64 n2] 32))
    have D3 := Lib.hid (b3.alloc b3.size (.cells #[.int .i64 n1, .int .i64 n2] 32))
    have C3 := Lib.hid (pbranches_any L (1, 0) _ (HLY.out _ B3.out) (HDY.out _ B3.out))
    rw [HSD.out.br] at C3
    unfold layV pV at C3
    try simp only at C3
    clear x0 x1 x2 x3 x4 x5 y0 y1 y2 hlt0 hlt1 b3 C1
    obtain ⟨x0, x1, x2, x3, x4, x5, y0, y1, y2⟩ := HK.out _ B3.out
    have hlt0 := Nat.lt_of_lt_of_le HLT.out.1 B3.out.size
    have hlt1 := Nat.lt_of_lt_of_le HLT.out.2 B3.out.size
    go_wp2_with fail
    refine C3.out.mono ?_
    rintro e w4 ⟨v7, rfl, g7, b4⟩
    have B4 := Lib.hid (B3.out.trans (b4.mono B3.out.size))
    have D4 := Lib.hid (D3.out.trans (b4.mono D3.out.size))
    have G7 := Lib.hid (show Grid (In w4) w4 v7 3 ([((1, 0, 1) : Stp)].map stCells) from g7.keep fun b hb => ⟨hb.2, rfl⟩)
    have C4 := Lib.hid (preverse_any (HGY.out w4 B4.out) (by decide))
    rw [back2] at C4
    have HL2 := Lib.hid (show way2.length = 2 from rfl)
    clear g7 b4 C3 C2
    go_wp2_with fail
    refine C4.out.mono ?_
    rintro e w5 ⟨v8, rfl, g8, b5⟩
    have B5 := Lib.hid (B4.out.trans (b5.mono B4.out.size))
    have D5 := Lib.hid (D4.out.trans (b5.mono D4.out.size))
    have G7b := Lib.hid (G7.out.keep (keep_next b5))
    have G8 := Lib.hid (show Grid (In w5) w5 v8 3 ([((1, 1, 0) : Stp), (0, 1, 0)].map stCells) from g8.keep fun b hb => ⟨hb.2, rfl⟩)
    obtain ⟨a8, c8, hv8, _, hc8⟩ := way_cells G8.out
    obtain ⟨b8, off8, ha8, hb8, _, _, _⟩ := hc8 w5 (Below.refl _ _) 0 _ rfl
    subst ha8
    subst hv8
    have HC8 : Hid (∀ w', Below w5.heap.size w5 w' → w'.cell? ⟨b8, off8, none⟩ = some (Value.int .i64 1) ∧ w'.cell? ⟨b8, off8 + 1, none⟩ = some (Value.int .i64 1) ∧ w'.cell? ⟨b8, off8 + 2, none⟩ = some (Value.int .i64 0) ∧ b8 < w'.heap.size) := fun w' b => by
      obtain ⟨_, _, e', _, c0, c1, c2⟩ := hc8 w' b 0 _ rfl
      cases e'
      simp only [Nat.zero_mul, Nat.add_zero] at c0 c1 c2
      exact ⟨c0, c1, c2, Nat.lt_of_lt_of_le hb8 b.size⟩
    clear g8 b5 hc8 hb8 G7 C4 hlt0 hlt1 x0 x1 x2 x3 x4 x5 y0 y1 y2
    obtain ⟨x0, x1, x2, x3, x4, x5, y0, y1, y2⟩ := HK.out _ B5.out
    have hlt0 := Nat.lt_of_lt_of_le HLT.out.1 B5.out.size
    have hlt1 := Nat.lt_of_lt_of_le HLT.out.2 B5.out.size
    obtain ⟨f0, f1, hA⟩ := HA.out _ D5.out
    go_wp2_with fail
    refine (Wsam.steps_any G7b.out (HSY.out w5 B5.out)).mono ?_
    rintro e w6 ⟨rfl, b6⟩
    have B6 := Lib.hid (B5.out.trans (b6.mono B5.out.size))
    have E6 := Lib.hid b6
    rw [decide_eq_true (rfl : ([((1, 0, 1) : Stp)]) = [(1, 0, 1)])]
    have C6 := Lib.hid (pvalid_any L w6 (HLY.out _ B6.out) (HGY.out _ B6.out) (HDY.out _ B6.out))
    rw [HSD.out.va] at C6
    unfold layV at C6
    clear b6 G7b f0 f1 hA
    clear x0 x1 x2 x3 x4 x5 y0 y1 y2 hlt0 hlt1
    obtain ⟨x0, x1, x2, x3, x4, x5, y0, y1, y2⟩ := HK.out _ B6.out
    have hlt0 := Nat.lt_of_lt_of_le HLT.out.1 B6.out.size
    have hlt1 := Nat.lt_of_lt_of_le HLT.out.2 B6.out.size
    go_wp2_with fail
    refine C6.out.mono ?_
    rintro e w7 ⟨rfl, b7⟩
    have B7 := Lib.hid (B6.out.trans (b7.mono B6.out.size))
    have E7 := Lib.hid (E6.out.trans (b7.mono E6.out.size))
    have HN7 := Lib.hid (heap_alloc_new w7 (.cells #[.int .i64 0, .int .i64 0, .int .i64 1, .int .i64 2, .int .i64 0, .int .i64 1] 30))
    have B8 := Lib.hid (B7.out.alloc B7.out.size (.cells #[.int .i64 0, .int .i64 0, .int .i64 1, .int .i64 2, .int .i64 0, .int .i64 1] 30))
    have E8 := Lib.hid (E7.out.alloc E7.out.size (.cells #[.int .i64 0, .int .i64 0, .int .i64 1, .int .i64 2, .int .i64 0, .int .i64 1] 30))
    have C7 := Lib.hid (pvalid_any L _ (HLY.out _ B8.out) (show Grid _ _ _ 3 (way3.map stCells) from grid_two (a := (0, 0, 1)) (b := (2, 0, 1)) HN7.out) (HDY.out _ B8.out))
    rw [HSD.out.vb] at C7
    unfold layV at C7
    clear b7 C6
    clear x0 x1 x2 x3 x4 x5 y0 y1 y2 hlt0 hlt1
    obtain ⟨x0, x1, x2, x3, x4, x5, y0, y1, y2⟩ := HK.out _ B7.out
    have hlt0 := Nat.lt_of_lt_of_le HLT.out.1 B7.out.size
    have hlt1 := Nat.lt_of_lt_of_le HLT.out.2 B7.out.size
    go_wp2_with fail
    refine C7.out.mono ?_
    rintro e w9 ⟨rfl, b9⟩
    have B9 := Lib.hid (B8.out.trans (b9.mono B8.out.size))
    have E9 := Lib.hid (E8.out.trans (b9.mono E8.out.size))
    have C9 := Lib.hid (plength_any L w9 (HLY.out _ B9.out) (HGY.out _ B9.out) (by decide) (fun x hx => (HSD.out.ls x hx).1))
    rw [HSD.out.le] at C9
    unfold layV at C9
    clear b9 C7
    clear x0 x1 x2 x3 x4 x5 y0 y1 y2 hlt0 hlt1
    obtain ⟨x0, x1, x2, x3, x4, x5, y0, y1, y2⟩ := HK.out _ B9.out
    have hlt0 := Nat.lt_of_lt_of_le HLT.out.1 B9.out.size
    have hlt1 := Nat.lt_of_lt_of_le HLT.out.2 B9.out.size
    go_wp2_with fail
    refine C9.out.mono ?_
    rintro e w10 ⟨rfl, b10⟩
    have B10 := Lib.hid (B9.out.trans (b10.mono B9.out.size))
    have E10 := Lib.hid (E9.out.trans (b10.mono E9.out.size))
    have C10 := Lib.hid (psections_any L w10 (HLY.out _ B10.out) (HGY.out _ B10.out) (by decide) (fun x hx => (HSD.out.ls x hx).2))
    rw [HSD.out.se] at C10
    unfold layV at C10
    clear b10 C9
    clear x0 x1 x2 x3 x4 x5 y0 y1 y2 hlt0 hlt1
    obtain ⟨x0, x1, x2, x3, x4, x5, y0, y1, y2⟩ := HK.out _ B10.out
    have hlt0 := Nat.lt_of_lt_of_le HLT.out.1 B10.out.size
    have hlt1 := Nat.lt_of_lt_of_le HLT.out.2 B10.out.size
    go_wp2_with fail
    refine C10.out.mono ?_
    rintro e w11 ⟨v11, rfl, r11, b11⟩
    have E11 := Lib.hid (E10.out.trans (b11.mono E10.out.size))
    have B11 := Lib.hid (B10.out.trans (b11.mono B10.out.size))
    have R11 := Lib.hid r11
    clear b11 C10 r11
    clear x0 x1 x2 x3 x4 x5 y0 y1 y2 hlt0 hlt1
    go_wp2_with fail
    refine (Ints.same_any (Ints.next_alloc R11.out _) (Ints.reads_lit [0, 1] rfl rfl rfl (by decide) (by decide))).mono ?_
    rintro e w12 ⟨rfl, b12⟩
    have E12 := Lib.hid ((E11.out.alloc E11.out.size (.cells #[.int .i64 0, .int .i64 1] 3)).trans (b12.mono (E11.out.alloc E11.out.size _).size))
    have B12 := Lib.hid ((B11.out.alloc B11.out.size (.cells #[.int .i64 0, .int .i64 1] 3)).trans (b12.mono (B11.out.alloc B11.out.size _).size))
    rw [show Ints.sameB [0, 1] [0, 1] = true from by decide]
    clear b12
    obtain ⟨c0, c1, c2, hb8⟩ := HC8.out _ E12.out
    go_wp2_with fail
    go_ret
    exact ⟨rfl, bel_next BW.out B12.out⟩

end Go.Proofs.YtjhimekojiegjaaDoor.Wali

/- The statements' sound and within (walk). -/
namespace Go.Proofs.YtjhimekojiegjaaDoor.Wsou
open Go.RowKit Go.Lib Go.Proofs.YtjhimekojiegjaaDoor.Reads Go.Proofs.YtjhimekojiegjaaDoor.Rows2 Go.Proofs.YtjhimekojiegjaaDoor.Lay Go.Proofs.YtjhimekojiegjaaDoor.Layf Go.Proofs.YtjhimekojiegjaaDoor.Ldup Go.Proofs.YtjhimekojiegjaaDoor.Lext Go.Proofs.YtjhimekojiegjaaDoor.Lnmd Go.Proofs.YtjhimekojiegjaaDoor.Lbal Go.Proofs.YtjhimekojiegjaaDoor.Way Go.Proofs.YtjhimekojiegjaaDoor.Wrf Go.Proofs.YtjhimekojiegjaaDoor.Wmea
open Go.Proofs.YtjhimekojiegjaaDoor.Text hiding lineL joinR

/-- A valid layout, and a list of at most 200. -/
def soundB (L : Lay) (n : Nat) : Bool := decide (n ≤ 200) && decide (checkF L = 0)

set_option maxRecDepth 100000 in
set_option maxHeartbeats 800000 in
theorem sound_any (L : Lay) {n cap : Nat} {a : Option Addr} {vs ve vj vg vb : Value} (w : World) (h : LayAt (In w) w L vs ve vj vg vb) (hj : L.joints.length ≤ 4398046510976) (hn : (n : Int) ≤ 9223372036854775807) :
    Calls Tryd.prog 9 #[layV L vs ve vj vg vb, .slice a n cap] w (BoolOut (soundB L n) w) := by
  have b0 := (Below.refl w.heap.size w).alloc (Nat.le_refl _) (.cells #[.string (bs L.name), vs, ve, vj, vg, vb] 28)
  have HC := Lib.hid (rcheck_big L _ (h.next b0) hj)
  have B0 := Lib.hid b0
  unfold layV at HC
  unfold layV
  clear h b0 hj
  by_cases h2 : n ≤ 200
  · have d2 : decide ((n : Int) ≤ 200) = true := by simp; omega
    have HS := Lib.hid (show soundB L n = decide (checkF L = 0) by rw [soundB, decide_eq_true h2, Bool.true_and])
    obtain ⟨c, hc⟩ : ∃ c, checkF L = c := ⟨_, rfl⟩
    rw [hc] at HC HS
    clear hc
    by_cases h3 : c = 0
    · subst h3
      go_enter Tryd.func9, Tryd.ntmps9
      go_wp2_with fail
      refine HC.out.mono ?_
      rintro e w1 ⟨rfl, b1⟩
      have B1 := Lib.hid (bel_next B0.out b1)
      clear b1
      go_wp2_with fail
      go_ret
      exact ⟨by rw [HS.out]; rfl, B1.out⟩
    · have e3 : (c == 0) = false := by simpa using h3
      have HS2 := Lib.hid (HS.out.trans (decide_eq_false h3))
      clear h3
      go_enter Tryd.func9, Tryd.ntmps9
      go_wp2_with fail
      refine HC.out.mono ?_
      rintro e w1 ⟨rfl, b1⟩
      have B1 := Lib.hid (bel_next B0.out b1)
      clear b1
      go_wp2_with fail
      go_ret
      exact ⟨by rw [HS2.out]; rfl, B1.out⟩
  · have d2 : decide ((n : Int) ≤ 200) = false := by simp; omega
    have HS := Lib.hid (show soundB L n = false by rw [soundB, decide_eq_false h2, Bool.false_and])
    go_enter Tryd.func9, Tryd.ntmps9
    go_wp2_with fail
    go_ret
    exact ⟨by rw [HS.out]; rfl, B0.out⟩

end Go.Proofs.YtjhimekojiegjaaDoor.Wsou

/- WalkSteps: the walk. -/
namespace Go.Proofs.YtjhimekojiegjaaDoor.Wstp
open Go.RowKit Go.Lib Go.Proofs.YtjhimekojiegjaaDoor.Reads Go.Proofs.YtjhimekojiegjaaDoor.Rows2 Go.Proofs.YtjhimekojiegjaaDoor.Lay Go.Proofs.YtjhimekojiegjaaDoor.Layf Go.Proofs.YtjhimekojiegjaaDoor.Ldup Go.Proofs.YtjhimekojiegjaaDoor.Lext Go.Proofs.YtjhimekojiegjaaDoor.Ljoi Go.Proofs.YtjhimekojiegjaaDoor.Lnmd Go.Proofs.YtjhimekojiegjaaDoor.Way Go.Proofs.YtjhimekojiegjaaDoor.Wrf Go.Proofs.YtjhimekojiegjaaDoor.Wlst Go.Proofs.YtjhimekojiegjaaDoor.Wbra Go.Proofs.YtjhimekojiegjaaDoor.Wmea Go.Proofs.YtjhimekojiegjaaDoor.Wnxt Go.Proofs.YtjhimekojiegjaaDoor.Wpbr Go.Proofs.YtjhimekojiegjaaDoor.Wsou Go.Proofs.YtjhimekojiegjaaDoor.Wali
open Go.Proofs.YtjhimekojiegjaaDoor.Rtab (RTab rtab_next)
open Go.Proofs.YtjhimekojiegjaaDoor.Text hiding lineL joinR

theorem grid_next {w w' : World} {v : Value} {sz : Nat} {rows : List (List Value)} (h : Grid (In w) w v sz rows) (hb : Below w.heap.size w w') : Grid (In w') w' v sz rows := h.keep (keep_next hb)
theorem same_self {va vb : Value} {xs : List Stp} {w : World} (h : Grid (In w) w va 3 (xs.map stCells)) (hy : Grid (In w) w vb 3 (xs.map stCells)) :
    Calls Tryd.prog 13 #[va, vb] w (BoolOut true w) := by
  have := Wsam.steps_any h hy
  rwa [decide_eq_true rfl] at this

set_option maxRecDepth 100000 in
set_option maxHeartbeats 6400000 in
theorem steps_law (L : Lay) (s : Stp) (p : Int × Int) {vs ve vj vg vb : Value} (w : World) (h : LayAt (In w) w L vs ve vj vg vb) (hj : L.joints.length ≤ 4398046510976) (hd : RTab w) :
    Calls Tryd.prog 3 #[layV L vs ve vj vg vb, stV s, pV p] w (BoolOut true w) := by
  obtain ⟨s1, s2, s3⟩ := s
  obtain ⟨p1, p2⟩ := p
  have X := box3 w #[.string (bs L.name), vs, ve, vj, vg, vb] #[.int .i64 s1, .int .i64 s2, .int .i64 s3] #[.int .i64 p1, .int .i64 p2] 28 30 32
  have b1 := (Below.refl w.heap.size w).alloc (Nat.le_refl _) (.cells #[.string (bs L.name), vs, ve, vj, vg, vb] 28)
  have b2 := b1.alloc b1.size (.cells #[.int .i64 s1, .int .i64 s2, .int .i64 s3] 30)
  have b3 := b2.alloc b2.size (.cells #[.int .i64 p1, .int .i64 p2] 32)
  have h3 := h.next b3
  have d3 := rtab_next hd b3
  clear h hd b1 b2
  unfold layV stV pV
  go_enter Tryd.func3, Tryd.ntmps3
  go_wp2_with fail
  obtain ⟨W, hW⟩ : ∃ W, ((w.alloc (.cells #[.string (bs L.name), vs, ve, vj, vg, vb] 28)).alloc (.cells #[.int .i64 s1, .int .i64 s2, .int .i64 s3] 30)).alloc (.cells #[.int .i64 p1, .int .i64 p2] 32) = W := ⟨_, rfl⟩
  rw [hW] at X b3 h3 d3 ⊢
  clear hW
  obtain ⟨x0, x1, x2, x3⟩ := X
  have HX : LBox w.heap.size W L vs ve vj vg vb := ⟨x0 0, x0 1, x0 2, x0 3, x0 4, x0 5⟩
  have y0 : W.cell? ⟨w.heap.size + 1, 0, none⟩ = some (.int .i64 s1) := x1 0
  have y1 : W.cell? ⟨w.heap.size + 1, 1, none⟩ = some (.int .i64 s2) := x1 1
  have y2 : W.cell? ⟨w.heap.size + 1, 2, none⟩ = some (.int .i64 s3) := x1 2
  have z0 : W.cell? ⟨w.heap.size + 1 + 1, 0, none⟩ = some (.int .i64 p1) := cell_of_row W _ 0 _ _ _ x2
  have z1 : W.cell? ⟨w.heap.size + 1 + 1, 1, none⟩ = some (.int .i64 p2) := cell_of_row W _ 1 _ _ _ x2
  have HLT := Lib.hid (⟨by omega, by omega, by omega⟩ : w.heap.size < W.heap.size ∧ w.heap.size + 1 < W.heap.size ∧ w.heap.size + 1 + 1 < W.heap.size)
  have B0 := Lib.hid b3
  have HLY := Lib.hid (fun w' (b : Below W.heap.size W w') => h3.next b)
  have HDY := Lib.hid (fun w' (b : Below W.heap.size W w') => rtab_next d3 b)
  have HK : Hid (∀ w', Below W.heap.size W w' → (w'.cell? ⟨w.heap.size, 0, none⟩ = some (.string (bs L.name)) ∧ w'.cell? ⟨w.heap.size, 1, none⟩ = some vs ∧ w'.cell? ⟨w.heap.size, 2, none⟩ = some ve ∧ w'.cell? ⟨w.heap.size, 3, none⟩ = some vj ∧ w'.cell? ⟨w.heap.size, 4, none⟩ = some vg ∧ w'.cell? ⟨w.heap.size, 5, none⟩ = some vb) ∧ (w'.cell? ⟨w.heap.size + 1, 0, none⟩ = some (.int .i64 s1) ∧ w'.cell? ⟨w.heap.size + 1, 1, none⟩ = some (.int .i64 s2) ∧ w'.cell? ⟨w.heap.size + 1, 2, none⟩ = some (.int .i64 s3)) ∧ (w'.cell? ⟨w.heap.size + 1 + 1, 0, none⟩ = some (.int .i64 p1) ∧ w'.cell? ⟨w.heap.size + 1 + 1, 1, none⟩ = some (.int .i64 p2)) ∧ w.heap.size < w'.heap.size ∧ w.heap.size + 1 < w'.heap.size ∧ w.heap.size + 1 + 1 < w'.heap.size) := fun w' b => by
    obtain ⟨h0, h1, h2⟩ := HLT.out
    exact ⟨HX.next b h0, ⟨(b.cell (p := ⟨w.heap.size + 1, 0, none⟩) h1).trans y0, (b.cell (p := ⟨w.heap.size + 1, 1, none⟩) h1).trans y1, (b.cell (p := ⟨w.heap.size + 1, 2, none⟩) h1).trans y2⟩, ⟨(b.cell (p := ⟨w.heap.size + 1 + 1, 0, none⟩) h2).trans z0, (b.cell (p := ⟨w.heap.size + 1 + 1, 1, none⟩) h2).trans z1⟩, Nat.lt_of_lt_of_le h0 b.size, Nat.lt_of_lt_of_le h1 b.size, Nat.lt_of_lt_of_le h2 b.size⟩
  have C1 := Lib.hid (sound_any L (n := 0) (cap := 0) (a := none) W h3 hj (by decide))
  unfold layV at C1
  clear x0 x1 x2 x3 HX y0 y1 y2 z0 z1 h3 d3 b3
  obtain ⟨⟨x0, x1, x2, x3, x4, x5⟩, ⟨y0, y1, y2⟩, ⟨z0, z1⟩, l0, l1, l2⟩ := HK.out W (Below.refl _ _)
  obtain ⟨q, hq⟩ : ∃ q, soundB L 0 = q := ⟨_, rfl⟩
  rw [hq] at C1
  clear hq
  go_wp2_with fail
  refine C1.out.mono ?_
  rintro e w1 ⟨rfl, b⟩
  have B1 := Lib.hid b
  clear b C1 x0 x1 x2 x3 x4 x5 y0 y1 y2 z0 z1 l0 l1 l2
  cases q with
  | false =>
    have HA := Lib.hid (alive_any w1 (HDY.out w1 B1.out))
    go_wp2_with fail
    refine HA.out.mono ?_
    rintro e w2 ⟨rfl, b⟩
    have B2 := Lib.hid (bel_next (bel_next B0.out B1.out) b)
    clear b
    go_wp2_with fail
    go_ret
    exact ⟨rfl, B2.out⟩
  | true =>
    obtain ⟨⟨⟨r1, r2⟩, r3⟩, hr⟩ : ∃ r, nextS L (s1, s2, s3) = r := ⟨_, rfl⟩
    have C2 := Lib.hid (fun w' (b : Below W.heap.size W w') => pnext_any L (s1, s2, s3) w' (HLY.out w' b))
    have C3 := Lib.hid (fun w' (b : Below W.heap.size W w') => wnext_any L (s1, s2, s3) w' (HLY.out w' b))
    rw [hr] at C2 C3
    unfold layV stV EndOut pV at C2 C3
    try simp only at C2 C3
    clear hr
    obtain ⟨⟨x0, x1, x2, x3, x4, x5⟩, ⟨y0, y1, y2⟩, _, l0, l1, l2⟩ := HK.out w1 B1.out
    go_wp2_with fail
    refine (C2.out _ B1.out).mono ?_
    rintro e w2 ⟨rfl, b⟩
    have B2 := Lib.hid (B1.out.trans (b.mono B1.out.size))
    have hn2 := heap_alloc_new w2 (.cells #[.int .i64 r1, .int .i64 r2] 32)
    have B3 := Lib.hid (B2.out.alloc B2.out.size (.cells #[.int .i64 r1, .int .i64 r2] 32))
    have HN2 := Lib.hid hn2
    clear b hn2 x0 x1 x2 x3 x4 x5 y0 y1 y2 l0 l1 l2
    obtain ⟨⟨x0, x1, x2, x3, x4, x5⟩, ⟨y0, y1, y2⟩, _, l0, l1, l2⟩ := HK.out w2 B2.out
    go_wp2_with fail
    refine (C3.out _ B3.out).mono ?_
    rintro e w4 ⟨rfl, b⟩
    have B4 := Lib.hid (B3.out.trans (b.mono B3.out.size))
    have hn4 := heap_alloc_new w4 (.cells #[.int .i64 r1, .int .i64 r2] 32)
    have B5 := Lib.hid (B4.out.alloc B4.out.size (.cells #[.int .i64 r1, .int .i64 r2] 32))
    have h7 := (b.block w2.heap.size (by simp)).trans HN2.out
    have hl7 : w2.heap.size < w4.heap.size := Nat.lt_of_lt_of_le (by simp) b.size
    have F0 := Lib.hid (cell_of_row w4 _ 0 _ _ _ h7)
    have F1 := Lib.hid (cell_of_row w4 _ 1 _ _ _ h7)
    clear b h7 x0 x1 x2 x3 x4 x5 y0 y1 y2 l0 l1 l2 HN2
    go_upto_region 5 with fail
    obtain ⟨W5, hW5⟩ : ∃ W5, w4.alloc (.cells #[.int .i64 r1, .int .i64 r2] 32) = W5 := ⟨_, rfl⟩
    have bw5 : Below w4.heap.size w4 W5 := by rw [← hW5]; exact (Below.refl _ _).alloc (Nat.le_refl _) _
    have hs5 : w4.heap.size < W5.heap.size := by rw [← hW5]; simp
    rw [hW5] at hn4 B5 ⊢
    clear hW5
    have HK2 : Hid (∀ w', Below W5.heap.size W5 w' → w'.cell? ⟨w.heap.size, 0, none⟩ = some (.string (bs L.name)) ∧ w'.cell? ⟨w.heap.size, 1, none⟩ = some vs ∧ w'.cell? ⟨w.heap.size, 2, none⟩ = some ve ∧ w'.cell? ⟨w.heap.size, 3, none⟩ = some vj ∧ w'.cell? ⟨w.heap.size, 4, none⟩ = some vg ∧ w'.cell? ⟨w.heap.size, 5, none⟩ = some vb ∧ w'.cell? ⟨w.heap.size + 1 + 1, 0, none⟩ = some (.int .i64 p1) ∧ w'.cell? ⟨w.heap.size + 1 + 1, 1, none⟩ = some (.int .i64 p2) ∧ w'.cell? ⟨w2.heap.size, 0, none⟩ = some (.int .i64 r1) ∧ w'.cell? ⟨w2.heap.size, 1, none⟩ = some (.int .i64 r2) ∧ w'.cell? ⟨w4.heap.size, 0, none⟩ = some (.int .i64 r1) ∧ w'.cell? ⟨w4.heap.size, 1, none⟩ = some (.int .i64 r2)) := fun w' b => by
      obtain ⟨⟨x0, x1, x2, x3, x4, x5⟩, _, ⟨z0, z1⟩, _⟩ := HK.out w' (B5.out.trans (b.mono B5.out.size))
      exact ⟨x0, x1, x2, x3, x4, x5, z0, z1, (b.cell (p := ⟨w2.heap.size, 0, none⟩) (Nat.lt_trans hl7 hs5)).trans ((bw5.cell (p := ⟨w2.heap.size, 0, none⟩) hl7).trans F0.out), (b.cell (p := ⟨w2.heap.size, 1, none⟩) (Nat.lt_trans hl7 hs5)).trans ((bw5.cell (p := ⟨w2.heap.size, 1, none⟩) hl7).trans F1.out), (b.cell (p := ⟨w4.heap.size, 0, none⟩) hs5).trans (cell_of_row W5 _ 0 _ _ _ hn4), (b.cell (p := ⟨w4.heap.size, 1, none⟩) hs5).trans (cell_of_row W5 _ 1 _ _ _ hn4)⟩
    have hr3 : (r3 == r3) = true := by simp
    have C4 := Lib.hid (fun w' (b : Below W.heap.size W w') => pbranches_any L (p1, p2) w' (HLY.out w' b) (HDY.out w' b))
    have C5 := Lib.hid (fun w' (b : Below W.heap.size W w') => wbranches_any L (p1, p2) w' (HLY.out w' b))
    obtain ⟨l, hl⟩ : ∃ l, branchesF L (p1, p2) = l := ⟨_, rfl⟩
    rw [hl] at C4 C5
    unfold layV pV at C4 C5
    try simp only at C4 C5
    have HA := Lib.hid (fun w' (b : Below W.heap.size W w') => alive_any w' (HDY.out w' b))
    clear hl hn4 bw5 hs5 hl7
    obtain ⟨x0, x1, x2, x3, x4, x5, z0, z1, f0, f1, g0, g1⟩ := HK2.out _ (Below.refl _ _)
    go_region_held3 (fun w' => w'.cell? ⟨w.heap.size, 0, none⟩ = some (.string (bs L.name)) ∧ w'.cell? ⟨w.heap.size, 1, none⟩ = some vs ∧ w'.cell? ⟨w.heap.size, 2, none⟩ = some ve ∧ w'.cell? ⟨w.heap.size, 3, none⟩ = some vj ∧ w'.cell? ⟨w.heap.size, 4, none⟩ = some vg ∧ w'.cell? ⟨w.heap.size, 5, none⟩ = some vb ∧ w'.cell? ⟨w.heap.size + 1 + 1, 0, none⟩ = some (.int .i64 p1) ∧ w'.cell? ⟨w.heap.size + 1 + 1, 1, none⟩ = some (.int .i64 p2) ∧ w'.cell? ⟨w2.heap.size, 0, none⟩ = some (.int .i64 r1) ∧ w'.cell? ⟨w2.heap.size, 1, none⟩ = some (.int .i64 r2) ∧ w'.cell? ⟨w4.heap.size, 0, none⟩ = some (.int .i64 r1) ∧ w'.cell? ⟨w4.heap.size, 1, none⟩ = some (.int .i64 r2))
      (first
        | with_reducible exact HK2.out _ E9.out
        | with_reducible exact HK2.out _ E8.out
        | with_reducible exact HK2.out _ E7.out
        | with_reducible exact HK2.out _ E6.out
        | go_keep)
      (first
        | (go_at_call 14; (with_reducible refine (C4.out _ B5.out.drew).mono ?_); rintro e w6 ⟨v6, rfl, g6, b6⟩; have E6 := Lib.hid ((Below.refl W5.heap.size W5).drew.trans b6); have D6 := Lib.hid (B5.out.drew.trans (b6.mono B5.out.drew.size)); have G6 := Lib.hid (show Grid (In w6) w6 v6 3 (l.map stCells) from g6.keep fun b hb => ⟨hb.2, rfl⟩); clear g6 b6)
        | (go_at_call 15; (with_reducible refine (C5.out _ D6.out).mono ?_); rintro e w7 ⟨v7, rfl, g7, b7⟩; have E7 := Lib.hid (E6.out.trans (b7.mono E6.out.size)); have D7 := Lib.hid (D6.out.trans (b7.mono D6.out.size)); have G7 := Lib.hid (show Grid (In w7) w7 v7 3 (l.map stCells) from g7.keep fun b hb => ⟨hb.2, rfl⟩); have G6b := Lib.hid (grid_next G6.out b7); clear g7 b7)
        | (go_at_call 10; (with_reducible refine (HA.out _ D8.out).mono ?_); rintro e w9 ⟨rfl, b9⟩; have E9 := Lib.hid (E8.out.trans (b9.mono E8.out.size)); have D9 := Lib.hid (D8.out.trans (b9.mono D8.out.size)); clear b9)
        | (go_at_call 13; (with_reducible refine (same_self G6b.out G7.out).mono ?_); rintro e w8 ⟨rfl, b8⟩; have E8 := Lib.hid (E7.out.trans (b8.mono E7.out.size)); have D8 := Lib.hid (D7.out.trans (b8.mono D7.out.size)); clear b8))
    go_wp2_with fail
    go_ret
    exact ⟨rfl, bel_next B0.out D9.out⟩

end Go.Proofs.YtjhimekojiegjaaDoor.Wstp

/- cmp.Or of two, and the comparison of settings that the program sorts by (walk). -/
namespace Go.Proofs.YtjhimekojiegjaaDoor.Wcmp
open Go.RowKit Go.Lib Go.Sort Go.Proofs.YtjhimekojiegjaaDoor.Reads Go.Proofs.YtjhimekojiegjaaDoor.Rows2 Go.Proofs.YtjhimekojiegjaaDoor.Lay Go.Proofs.YtjhimekojiegjaaDoor.Layf Go.Proofs.YtjhimekojiegjaaDoor.Ldup Go.Proofs.YtjhimekojiegjaaDoor.Way Go.Proofs.YtjhimekojiegjaaDoor.Wlst Go.Proofs.YtjhimekojiegjaaDoor.Wrf

/-- The first that is not 0. -/
def orF (a b : Int) : Int := if a = 0 then b else a

set_option maxRecDepth 100000 in
set_option maxHeartbeats 800000 in
theorem or_any (a b : Int) (g : Nat) (w : World) (h0 : w.cell? ⟨g, 0, none⟩ = some (.int .i64 a)) (h1 : w.cell? ⟨g, 1, none⟩ = some (.int .i64 b)) :
    Calls Tryd.prog 49 #[.slice (some ⟨g, 0, none⟩) 2 2] w fun e w' => e = .returned (.int .i64 (orF a b)) ∧ w' = w := by
  by_cases ha : a = 0
  · subst ha
    have HO := Lib.hid (show orF 0 b = b from rfl)
    have hn0 : ((0 : Int) != 0) = false := rfl
    by_cases hb : b = 0
    · subst hb
      go_enter Tryd.func49, Tryd.ntmps49
      go_wp2_with fail
      go_loopw [8] (fun vj wr => ∃ j : Nat, j ≤ 2 ∧ vj = .int .i64 (j : Int) ∧ wr = w) (fun vj _ => 2 - (RowKit.intOf vj).toNat)
      case atStart => exact ⟨0, by omega, rfl, rfl⟩
      case round =>
        obtain ⟨j, hj, rfl, rfl⟩ := hrel
        rcases (show j = 0 ∨ j = 1 ∨ j = 2 by omega) with rfl | rfl | rfl
        · go_wp2_with fail
          go_roundw
          case rel => exact ⟨1, by omega, by simp, by simp⟩
          case measure => simp [RowKit.intOf]
        · go_wp2_with fail
          go_roundw
          case rel => exact ⟨2, by omega, by simp, by simp⟩
          case measure => simp [RowKit.intOf]
        · go_wp2_with fail
          go_ret
          exact ⟨rfl, rfl⟩
    · have hnb : (b != 0) = true := by simpa using hb
      go_enter Tryd.func49, Tryd.ntmps49
      go_wp2_with fail
      go_loopw [8] (fun vj wr => ∃ j : Nat, j ≤ 1 ∧ vj = .int .i64 (j : Int) ∧ wr = w) (fun vj _ => 2 - (RowKit.intOf vj).toNat)
      case atStart => exact ⟨0, by omega, rfl, rfl⟩
      case round =>
        obtain ⟨j, hj, rfl, rfl⟩ := hrel
        rcases (show j = 0 ∨ j = 1 by omega) with rfl | rfl
        · go_wp2_with fail
          go_roundw
          case rel => exact ⟨1, by omega, by simp, by simp⟩
          case measure => simp [RowKit.intOf]
        · go_wp2_with fail
          go_ret
          exact ⟨by rw [HO.out]; rfl, rfl⟩
  · have HO := Lib.hid (show orF a b = a from if_neg ha)
    have hna : (a != 0) = true := by simpa using ha
    go_enter Tryd.func49, Tryd.ntmps49
    go_wp2_with fail
    go_loopw [8] (fun vj wr => vj = .int .i64 0 ∧ wr = w) (fun _ _ => 0)
    case atStart => exact ⟨rfl, rfl⟩
    case round =>
      obtain ⟨rfl, rfl⟩ := hrel
      go_wp2_with fail
      go_ret
      exact ⟨by rw [HO.out]; rfl, rfl⟩

/-- The comparison of two settings. -/
def cmpS (x y : Int × Int) : Int := orF (Lib.compareInt x.1 y.1) (Lib.compareInt x.2 y.2)

set_option maxRecDepth 100000 in
set_option maxHeartbeats 1600000 in
theorem closure_any (x y : Int × Int) (W : World) : Calls Tryd.prog 48 #[.agg #[.int .i64 x.1, .int .i64 x.2], .agg #[.int .i64 y.1, .int .i64 y.2]] W fun e w' => e = .returned (.int .i64 (cmpS x y)) ∧ ∃ q os', w' = grow (W.drewN q) os' := by
  obtain ⟨x1, x2⟩ := x
  obtain ⟨y1, y2⟩ := y
  have HC := Lib.hid (fun u v w' => Tryd.cmp_Compare_int u v w')
  have HQ := Lib.hid (show cmpS (x1, x2) (y1, y2) = orF (Lib.compareInt x1 y1) (Lib.compareInt x2 y2) from rfl)
  obtain ⟨c1, hc1⟩ : ∃ c, Lib.compareInt x1 y1 = c := ⟨_, rfl⟩
  obtain ⟨c2, hc2⟩ : ∃ c, Lib.compareInt x2 y2 = c := ⟨_, rfl⟩
  have HA := Lib.hid (fun w' => HC.out x1 y1 w')
  have HB := Lib.hid (fun w' => HC.out x2 y2 w')
  rw [hc1] at HA HQ
  rw [hc2] at HB HQ
  have X := two_boxes W #[.int .i64 x1, .int .i64 x2] #[.int .i64 y1, .int .i64 y2] 52 52
  have HX := Lib.hid X
  clear hc1 hc2 X
  go_enter Tryd.func48, Tryd.ntmps48
  go_wp2_with fail
  have HG : Hid (∃ os', (W.alloc (.cells #[.int .i64 x1, .int .i64 x2] 52)).alloc (.cells #[.int .i64 y1, .int .i64 y2] 52) = grow W os') := ⟨_, by rw [alloc_eq_grow, alloc_eq_grow, grow_grow]⟩
  obtain ⟨V, hV⟩ : ∃ V, (W.alloc (.cells #[.int .i64 x1, .int .i64 x2] 52)).alloc (.cells #[.int .i64 y1, .int .i64 y2] 52) = V := ⟨_, rfl⟩
  rw [hV] at HX HG ⊢
  clear hV
  obtain ⟨h1, h2, h3, _⟩ := HX.out
  have f0 : V.cell? ⟨W.heap.size, 0, none⟩ = some (.int .i64 x1) := h1 0
  have f1 : V.cell? ⟨W.heap.size, 1, none⟩ = some (.int .i64 x2) := h1 1
  have f2 : V.cell? ⟨W.heap.size + 1, 0, none⟩ = some (.int .i64 y1) := h2 0
  have f3 : V.cell? ⟨W.heap.size + 1, 1, none⟩ = some (.int .i64 y2) := h2 1
  have HO := Lib.hid (or_any c1 c2 V.heap.size (V.alloc (.cells #[.int .i64 c1, .int .i64 c2] 3)).drew (by show (V.alloc _).cell? _ = _; rw [World.cell?_alloc_at _ _ _ _ rfl]; rfl) (by show (V.alloc _).cell? _ = _; rw [World.cell?_alloc_at _ _ _ _ rfl]; rfl))
  clear h1 h2 h3 HX
  go_region_held3 (fun w' => w'.cell? ⟨W.heap.size, 0, none⟩ = some (.int .i64 x1) ∧ w'.cell? ⟨W.heap.size, 1, none⟩ = some (.int .i64 x2) ∧ w'.cell? ⟨W.heap.size + 1, 0, none⟩ = some (.int .i64 y1) ∧ w'.cell? ⟨W.heap.size + 1, 1, none⟩ = some (.int .i64 y2))
    (first | assumption | go_keep)
    (first
      | (go_at_call 50; (with_reducible refine (HA.out _).mono ?_); rintro e w' ⟨rfl, rfl⟩)
      | (go_at_call 50; (with_reducible refine (HB.out _).mono ?_); rintro e w' ⟨rfl, rfl⟩)
      | (go_at_call 49; (with_reducible refine HO.out.mono ?_); rintro e w' ⟨rfl, rfl⟩))
  go_wp2_with fail
  go_ret
  obtain ⟨os', hos⟩ := HG.out
  have hw : ∃ os2, (V.alloc (.cells #[.int .i64 c1, .int .i64 c2] 3)).drew = grow (W.drewN 1) os2 := by
    rw [hos, alloc_eq_grow, grow_grow]
    exact ⟨_, rfl⟩
  obtain ⟨os2, hos2⟩ := hw
  exact ⟨by rw [HQ.out]; rfl, 1, os2, hos2⟩

theorem cmpLays (blk off size : Nat) (w : World) : CmpLays Tryd.prog 48 #[] pCells 2 cmpS blk off size w := fun _ _ _ _ x y => closure_any x y _

theorem ltS (x y : Int × Int) : ltOf cmpS x y = lessB x y := by
  unfold ltOf cmpS orF Lib.compareInt lessB
  by_cases h1 : x.1 < y.1
  · simp [h1]
  · by_cases h2 : y.1 < x.1
    · have h3 : ¬ x.1 = y.1 := by omega
      simp [h1, h2, h3]
    · have h3 : x.1 = y.1 := by omega
      by_cases h4 : x.2 < y.2
      · simp [h3, h4]
      · by_cases h5 : y.2 < x.2 <;> simp [h3, h4, h5]
theorem less_iff (x y : Int × Int) : lessB x y = true ↔ x.1 < y.1 ∨ (x.1 = y.1 ∧ x.2 < y.2) := by simp [lessB]
theorem less_not (x y : Int × Int) : lessB x y = false ↔ ¬ (x.1 < y.1 ∨ (x.1 = y.1 ∧ x.2 < y.2)) := by
  rw [← less_iff]; simp
theorem swoS : SWO (ltOf cmpS) where
  irrefl x := by rw [ltS, less_not]; omega
  trans x y z h1 h2 := by rw [ltS, less_iff] at *; omega
  ntrans x y z h1 h2 := by rw [ltS, less_not] at *; omega
theorem totS (x y : Int × Int) (h1 : ltOf cmpS x y = false) (h2 : ltOf cmpS y x = false) : x = y := by
  rw [ltS, less_not] at h1 h2
  exact Prod.ext (by omega) (by omega)

end Go.Proofs.YtjhimekojiegjaaDoor.Wcmp

/- Rows of settings that a call writes. -/
namespace Go.Proofs.YtjhimekojiegjaaDoor.Wcpt
open Go.RowKit Go.Lib Go.Proofs.YtjhimekojiegjaaDoor.Reads Go.Proofs.YtjhimekojiegjaaDoor.Rows2 Go.Proofs.YtjhimekojiegjaaDoor.Lay Go.Proofs.YtjhimekojiegjaaDoor.Layf Go.Proofs.YtjhimekojiegjaaDoor.Ldup Go.Proofs.YtjhimekojiegjaaDoor.Way Go.Proofs.YtjhimekojiegjaaDoor.Wlst

/-- What is left of a list behind p, where neighbours that are equal are one. -/
def compR (p : Int × Int) : List (Int × Int) → List (Int × Int)
  | [] => []
  | y :: r => if y = p then compR p r else y :: compR y r
def compF : List (Int × Int) → List (Int × Int)
  | [] => []
  | x :: r => x :: compR x r
theorem compR_le : ∀ (l : List (Int × Int)) (p : Int × Int), (compR p l).length ≤ l.length
  | [], _ => Nat.le_refl _
  | y :: r, p => by
    rw [compR]
    split
    · exact Nat.le_succ_of_le (compR_le r p)
    · exact Nat.succ_le_succ (compR_le r y)

/-- The row from ⟨g, off⟩ on holds these settings, and can be written. -/
def HRow (g off : Nat) (w : World) (l : List (Int × Int)) : Prop :=
  ∀ (i : Nat) (x : Int × Int), l[i]? = some x → w.cell? ⟨g, off + i * 2, none⟩ = some (.int .i64 x.1) ∧ w.cell? ⟨g, off + i * 2 + 1, none⟩ = some (.int .i64 x.2) ∧ w.frozen? ⟨g, off + i * 2, none⟩ = false ∧ w.frozen? ⟨g, off + i * 2 + 1, none⟩ = false
theorem HRow.take {g off : Nat} {w : World} {l : List (Int × Int)} (h : HRow g off w l) (k : Nat) : HRow g off w (l.take k) := fun i x hx => h i x (by
  rw [List.getElem?_take] at hx
  split at hx
  · exact hx
  · cases hx)
theorem HRow.drewN {g off : Nat} {w : World} {l : List (Int × Int)} (h : HRow g off w l) (q : Nat) : HRow g off (w.drewN q) l := h
theorem HRow.set {g off : Nat} {w : World} {l : List (Int × Int)} (h : HRow g off w l) {k : Nat} (hk : k < l.length) (x : Int × Int) :
    HRow g off ((w.setCell ⟨g, off + k * 2, none⟩ (.int .i64 x.1)).setCell ⟨g, off + k * 2 + 1, none⟩ (.int .i64 x.2)) (l.set k x) := by
  intro i y hy
  obtain ⟨z, hz⟩ := at_lt hk
  obtain ⟨z0, z1, z2, z3⟩ := h k z hz
  simp only [World.frozen?_setCell]
  by_cases hik : k = i
  · subst hik
    rw [List.getElem?_set_self hk] at hy
    cases hy
    refine ⟨?_, ?_, z2, z3⟩
    · rw [World.cell?_setCell_other _ _ _ _ (fun e => by simp at e)]
      exact World.cell?_setCell_same' _ _ _ (by rw [z0]; rfl)
    · exact World.cell?_setCell_same' _ _ _ (by rw [World.cell?_setCell_other _ _ _ _ (fun e => by simp at e), z1]; rfl)
  · rw [List.getElem?_set_ne hik] at hy
    obtain ⟨y0, y1, y2, y3⟩ := h i y hy
    refine ⟨?_, ?_, y2, y3⟩
    · rw [World.cell?_setCell_other _ _ _ _ (fun e => by simp at e <;> omega), World.cell?_setCell_other _ _ _ _ (fun e => by simp at e <;> omega)]
      exact y0
    · rw [World.cell?_setCell_other _ _ _ _ (fun e => by simp at e <;> omega), World.cell?_setCell_other _ _ _ _ (fun e => by simp at e <;> omega)]
      exact y1

theorem but_setCells {g B : Nat} (b : Nat) (hb : b = g) {a : World} : ∀ (vs : List Value) (o : Nat) (w : World), But g B a w → But g B a (w.setCells b o vs)
  | [], _, _, h => h
  | v :: r, o, w, h => by
    rw [World.setCells]
    exact but_setCells b hb r (o + 1) _ (h.setCell (.inl hb) v)
theorem frozen_setCells (b : Nat) (p : Addr) : ∀ (vs : List Value) (o : Nat) (w : World), (w.setCells b o vs).frozen? p = w.frozen? p
  | [], _, _ => rfl
  | v :: r, o, w => by rw [World.setCells, frozen_setCells b p r, World.frozen?_setCell]

/-- clear of a row's end: its beginning stays. -/
theorem clear_any {g off k m c : Nat} {w : World} {l : List (Int × Int)} (h : HRow g off w l) (hk : k + m = l.length) (hm : 0 < m) (B : Nat) :
    ∃ w', (∀ ty, (Builtin.clear_ #[46] ty #[.slice (some ⟨g, off + k * 2, none⟩) m c]).run Tryd.prog w = .ok (.tuple #[]) w') ∧ HRow g off w' (l.take k) ∧ But g B w w' := by
  obtain ⟨n, rfl⟩ : ∃ n, m = n + 1 := ⟨m - 1, by omega⟩
  have hzl : ∀ q, (Builtin.zeroCells (Value.agg #[.int .i64 0, .int .i64 0]).cells q).toList.length = q * 2 := by
    intro q
    simp [Builtin.zeroCells, Value.cells]
  have hz1 : ∀ v ∈ (Builtin.zeroCells (Value.agg #[.int .i64 0, .int .i64 0]).cells (n + 1)).toList, v.oneCell' = true := by
    intro v hv
    simp only [Builtin.zeroCells, Value.cells, Array.toList_map, List.mem_map] at hv
    obtain ⟨j, _, rfl⟩ := hv
    rcases Nat.mod_two_eq_zero_or_one j with e | e <;> simp [e] <;> rfl
  have hat : ∀ j, j < (n + 1) * 2 → ∃ x, l[k + j / 2]? = some x := fun j hj => at_lt (by omega)
  have hst := run_storeCells_cells (P := Tryd.prog) g (off + k * 2) (Builtin.zeroCells (Value.agg #[.int .i64 0, .int .i64 0]).cells (n + 1)).toList 0 w (by
    intro j hj
    rw [hzl] at hj
    obtain ⟨x, hx⟩ := hat j hj
    obtain ⟨x0, x1, _, _⟩ := h _ x hx
    rcases Nat.mod_two_eq_zero_or_one j with e | e
    · rw [show off + k * 2 + 0 + j = off + (k + j / 2) * 2 by omega, x0]; rfl
    · rw [show off + k * 2 + 0 + j = off + (k + j / 2) * 2 + 1 by omega, x1]; rfl) (by
    intro j hj
    rw [hzl] at hj
    obtain ⟨x, hx⟩ := hat j hj
    obtain ⟨_, _, x2, x3⟩ := h _ x hx
    rcases Nat.mod_two_eq_zero_or_one j with e | e
    · rw [show off + k * 2 + 0 + j = off + (k + j / 2) * 2 by omega, x2]
    · rw [show off + k * 2 + 0 + j = off + (k + j / 2) * 2 + 1 by omega, x3]) hz1
  rw [Nat.add_zero] at hst
  refine ⟨w.setCells g (off + k * 2) (Builtin.zeroCells (Value.agg #[.int .i64 0, .int .i64 0]).cells (n + 1)).toList, fun ty => ?_, fun i x hx => ?_, but_setCells g rfl _ _ _ (But.refl g B w)⟩
  · simp [Builtin.clear_, run_underlying Tryd.underlying46, Tryd.zeroValue52, hst]
  · rw [List.getElem?_take] at hx
    split at hx
    · obtain ⟨x0, x1, x2, x3⟩ := h i x hx
      rw [World.cell?_setCells_out g _ _ _ _ (fun _ _ => .inl (by simp only; omega)), World.cell?_setCells_out g _ _ _ _ (fun _ _ => .inl (by simp only; omega)), frozen_setCells, frozen_setCells]
      exact ⟨x0, x1, x2, x3⟩
    · cases hx

end Go.Proofs.YtjhimekojiegjaaDoor.Wcpt

/- slices.Compact at settings (walk). -/
namespace Go.Proofs.YtjhimekojiegjaaDoor.Wcpt
open Go.RowKit Go.Lib Go.Proofs.YtjhimekojiegjaaDoor.Reads Go.Proofs.YtjhimekojiegjaaDoor.Rows2 Go.Proofs.YtjhimekojiegjaaDoor.Lay Go.Proofs.YtjhimekojiegjaaDoor.Layf Go.Proofs.YtjhimekojiegjaaDoor.Ldup Go.Proofs.YtjhimekojiegjaaDoor.Way Go.Proofs.YtjhimekojiegjaaDoor.Wlst

theorem HRow.back {g off : Nat} {w : World} {l : List (Int × Int)} (h : HRow g off w l) {i : Nat} {x : Int × Int} (hx : l[i]? = some x) : w.cell? ⟨g, off + i * 2, none⟩ = some (.int .i64 x.1) ∧ w.cell? ⟨g, off + i * 2 + 1, none⟩ = some (.int .i64 x.2) := ⟨(h i x hx).1, (h i x hx).2.1⟩

theorem comp_few : ∀ {l : List (Int × Int)}, l.length < 2 → compF l = l
  | [], _ => rfl
  | [_], _ => rfl
  | _ :: _ :: _, h => absurd h (by simp)

/-- What a call gives that writes a row and returns its beginning. -/
def CutOut (g off cap : Nat) (l : List (Int × Int)) (w : World) (e : Ending) (w' : World) : Prop :=
  e = .returned (.slice (some ⟨g, off, none⟩) l.length cap) ∧ HRow g off w' l ∧ But g w.heap.size w w'

theorem but_drewN {g B : Nat} {a w : World} (h : But g B a w) (n : Nat) : But g B a (w.drewN n) := ⟨h.os, h.tape, h.output, h.size, h.block⟩

/-- What holds at the head of the second loop. -/
def CRel (g off j : Nat) (l : List (Int × Int)) (r : List (Int × Int)) (w : World) (v3 v5 : Value) (wr : World) : Prop :=
  ∃ (K m : Nat) (M : List (Int × Int)), v3 = .int .i64 (K : Int) ∧ v5 = .int .i64 ((m : Int) + 1) ∧ K ≤ j + 1 + m ∧ j + 1 + (m + 1) ≤ l.length ∧ M.length = l.length ∧ (∀ i, j + 1 + m ≤ i → M[i]? = l[i]?) ∧ (∀ p, l[j + 1 + m]? = some p → M.take K ++ compR p (l.drop (j + 1 + (m + 1))) = r) ∧ HRow g off wr M ∧ But g w.heap.size w wr

set_option maxRecDepth 100000 in
set_option maxHeartbeats 3200000 in
theorem compact_any {g off cap : Nat} {l : List (Int × Int)} {w : World} (h : HRow g off w l) (hl : l.length ≤ cap) (hc : cap ≤ maxLen) :
    Calls Tryd.prog 51 #[.slice (some ⟨g, off, none⟩) l.length cap] w (CutOut g off cap (compF l) w) := by
  have HH := Lib.hid h
  have HM : Hid (cap ≤ 9223372036854775807) := by unfold maxLen at hc; exact hc
  obtain ⟨r, hr⟩ : ∃ r, compF l = r := ⟨_, rfl⟩
  rw [hr]
  have HR := Lib.hid hr
  have hm : (l.length : Int) ≤ 9223372036854775807 := by have := HM.out; omega
  clear h hr hc
  by_cases h2 : l.length < 2
  · have HF := Lib.hid (HR.out.symm.trans (comp_few h2))
    go_enter Tryd.func51, Tryd.ntmps51
    go_wp2_with fail
    go_ret
    rw [HF.out]
    exact ⟨rfl, HH.out, But.refl _ _ _⟩
  · have HR1 : Hid (∀ p, l[0]? = some p → l.take 1 ++ compR p (l.drop 1) = r) := fun p hp => by
      rw [← HR.out]
      cases l with
      | nil => cases hp
      | cons x q => cases hp; rfl
    go_enter Tryd.func51, Tryd.ntmps51
    go_wp2_with fail
    go_loopw [3] (fun vk wr => ∃ j q : Nat, vk = .int .i64 ((j : Int) + 1) ∧ j + 1 ≤ l.length ∧ (∀ p, l[j]? = some p → l.take (j + 1) ++ compR p (l.drop (j + 1)) = r) ∧ wr = w.drewN q) (fun vk _ => l.length - (RowKit.intOf vk).toNat)
    case atStart => exact ⟨0, 0, rfl, by omega, HR1.out, rfl⟩
    case round =>
      obtain ⟨j, q, rfl, hj, hjr, rfl⟩ := hrel
      have HJ := Lib.hid hjr
      clear hjr
      by_cases hlt : j + 1 < l.length
      · obtain ⟨p, hp⟩ := at_lt (l := l) (k := j) (by omega)
        obtain ⟨x, hx⟩ := at_lt hlt
        obtain ⟨p0, p1⟩ := HH.out.back hp
        obtain ⟨x0, x1⟩ := HH.out.back hx
        have hjr := HJ.out p hp
        rw [Layf.drop_at hx, compR] at hjr
        have HXX := Lib.hid hx
        have HP := Lib.hid hp
        obtain ⟨pa, pb⟩ := p
        obtain ⟨xa, xb⟩ := x
        simp only at p0 p1 x0 x1
        have hcj : ¬ cap = j + 1 := by omega
        clear hp hx
        by_cases hq : (xa, xb) = (pa, pb)
        · cases hq
          rw [if_pos rfl] at hjr
          have HF := Lib.hid hjr
          clear hjr
          go_wp2_with fail
          go_quiet (fail)
          go_wp2_with fail
          go_loopw [3, 5] (fun v3 v5 wr => CRel g off j l r w v3 v5 wr) (fun _ v5 _ => l.length - (RowKit.intOf v5).toNat)
          case atStart =>
            refine ⟨j + 1, 0, l, by simp, rfl, by omega, by omega, rfl, fun _ _ => rfl, fun p hp => ?_, HH.out, ?_⟩
            · rw [Nat.add_zero, HXX.out] at hp
              cases hp
              exact HF.out
            · exact but_drewN (But.refl _ _ _) _
          case round =>
            obtain ⟨K, m, M, rfl, rfl, hK, hmm, hML, hhi, hMr, hrow, hb⟩ := hrel
            have HRW := Lib.hid hrow
            have HB := Lib.hid hb
            have HI := Lib.hid hhi
            have HMR := Lib.hid hMr
            have HLM := Lib.hid hML
            clear hrow hb hhi hMr
            by_cases hlt2 : j + 1 + (m + 1) < l.length
            · obtain ⟨p, hp⟩ := at_lt (l := l) (k := j + 1 + m) (by omega)
              obtain ⟨x, hx⟩ := at_lt hlt2
              obtain ⟨c0, c1⟩ := HRW.out.back ((HI.out _ (Nat.le_refl _)).trans hp)
              obtain ⟨d0, d1⟩ := HRW.out.back ((HI.out _ (by omega)).trans hx)
              rw [show off + (j + 1 + m) * 2 = off + (j + 1) * 2 + m * 2 by omega] at c0 c1
              rw [show off + (j + 1 + (m + 1)) * 2 = off + (j + 1) * 2 + (m + 1) * 2 by omega] at d0 d1
              have hmr := HMR.out p hp
              rw [Layf.drop_at hx, compR] at hmr
              have HX2 := Lib.hid hx
              obtain ⟨z, hz⟩ := at_lt (l := M) (k := K) (by omega)
              obtain ⟨e0, e1, e2, e3⟩ := HRW.out K z hz
              obtain ⟨za, zb⟩ := z
              obtain ⟨qa, qb⟩ := p
              obtain ⟨ya, yb⟩ := x
              simp only at c0 c1 d0 d1 e0 e1
              have hml : m + 1 < l.length - (j + 1) := by omega
              clear hp hx hz p0 p1 x0 x1
              by_cases hq2 : (ya, yb) = (qa, qb)
              · cases hq2
                rw [if_pos rfl] at hmr
                have HF2 := Lib.hid hmr
                clear hmr
                go_wp2_with fail
                go_quiet (fail)
                go_wp2_with fail
                go_roundw
                case rel =>
                  refine ⟨K, m + 1, M, rfl, by simp, by omega, by omega, hML, fun i hi => HI.out i (by omega), fun p hp => ?_, HRW.out.drewN _, but_drewN HB.out _⟩
                  rw [show j + 1 + (m + 1) = j + 1 + (m + 1) from rfl, HX2.out] at hp
                  cases hp
                  exact HF2.out
                case measure => simp [RowKit.intOf]; omega
              · rw [if_neg hq2] at hmr
                have HF2 := Lib.hid hmr
                have hne := Ljoi.ne_cases hq2
                clear hmr hq2
                rcases hne with hne | ⟨hne, hne2⟩
                all_goals
                  go_wp2_with fail
                  go_quiet (fail)
                  go_wp2_with fail
                  go_roundw
                  case rel =>
                    refine ⟨K + 1, m + 1, M.set K (ya, yb), by simp, by simp, by omega, by omega, by rw [List.length_set]; exact hML, fun i hi => ?_, fun p hp => ?_, (HRW.out.drewN _).set (by omega) (ya, yb), ((but_drewN HB.out _).setCell (.inl rfl) _).setCell (.inl rfl) _⟩
                    · rw [List.getElem?_set_ne (by omega)]
                      exact HI.out i (by omega)
                    · rw [HX2.out] at hp
                      cases hp
                      rw [← HF2.out, List.take_add_one, List.take_set_of_le (Nat.le_refl _), List.getElem?_set_self (by omega), List.append_assoc]
                      rfl
                  case measure => simp [RowKit.intOf]; omega
            · obtain ⟨p, hp⟩ := at_lt (l := l) (k := j + 1 + m) (by omega)
              have hmr := HMR.out p hp
              rw [List.drop_eq_nil_of_le (by omega)] at hmr
              have HF2 := Lib.hid (show M.take K = r by rw [← hmr]; simp [compR])
              obtain ⟨w5, hcl, hr5, hb5⟩ := clear_any (c := cap - K) HRW.out (k := K) (m := l.length - K) (by omega) (by omega) w.heap.size
              have HR5 := Lib.hid hr5
              have HB5 := Lib.hid hb5
              have hcK : ¬ cap = K := by omega
              have hml : ¬ m + 1 < l.length - (j + 1) := by omega
              have hKl : K ≤ l.length := by omega
              have HKL : Hid ((M.take K).length = K) := by rw [List.length_take]; show _ = _; omega
              clear hp hmr hr5 hb5 p0 p1 x0 x1
              go_wp2_with fail
              go_ret
              rw [← HF2.out]
              refine ⟨by rw [HKL.out]; rfl, HR5.out, ?_⟩
              exact ⟨HB5.out.os.trans HB.out.os, HB5.out.tape.trans HB.out.tape, HB5.out.output.trans HB.out.output, Nat.le_trans HB.out.size HB5.out.size, fun k hk hkg => (HB5.out.block k hk hkg).trans (HB.out.block k hk hkg)⟩
        · rw [if_neg hq] at hjr
          have HF := Lib.hid hjr
          have hne := Ljoi.ne_cases hq
          have HTN := Lib.hid (show l.take (j + 1 + 1) = l.take (j + 1) ++ [(xa, xb)] by rw [List.take_add_one, HXX.out]; rfl)
          clear hjr hq
          rcases hne with hne | ⟨hne, hne2⟩
          all_goals
            go_wp2_with fail
            go_quiet (fail)
            go_wp2_with fail
            go_roundw
            case rel =>
              refine ⟨j + 1, _, by simp, by omega, fun p hp => ?_, by first | rfl | rw [World.drewN_drewN]⟩
              rw [HXX.out] at hp
              cases hp
              rw [HTN.out, List.append_assoc]
              exact HF.out
            case measure => simp [RowKit.intOf]; omega
      · have HF := Lib.hid (show r = l by
          obtain ⟨p, hp⟩ := at_lt (l := l) (k := j) (by omega)
          rw [← HJ.out p hp, List.drop_eq_nil_of_le (by omega), List.take_of_length_le (by omega)]
          simp [compR])
        go_wp2_with fail
        go_ret
        rw [HF.out]
        exact ⟨rfl, HH.out, but_drewN (But.refl _ _ _) _⟩

end Go.Proofs.YtjhimekojiegjaaDoor.Wcpt

/- slices.SortFunc at settings, as the program calls it (walk). -/
namespace Go.Proofs.YtjhimekojiegjaaDoor.Wsrt
open Go.RowKit Go.Lib Go.Sort Go.Proofs.YtjhimekojiegjaaDoor.Reads Go.Proofs.YtjhimekojiegjaaDoor.Rows2 Go.Proofs.YtjhimekojiegjaaDoor.Lay Go.Proofs.YtjhimekojiegjaaDoor.Layf Go.Proofs.YtjhimekojiegjaaDoor.Ldup Go.Proofs.YtjhimekojiegjaaDoor.Way Go.Proofs.YtjhimekojiegjaaDoor.Wlst Go.Proofs.YtjhimekojiegjaaDoor.Wcmp Go.Proofs.YtjhimekojiegjaaDoor.Wcpt

/-- The settings sorted. -/
def sortF (l : List (Int × Int)) : List (Int × Int) := l.mergeSort fun x y => !(ltOf cmpS) y x
theorem sort_len (l : List (Int × Int)) : (sortF l).length = l.length := List.length_mergeSort ..

theorem pair_at {d : Array (Int × Int)} {l : List (Int × Int)} (hd : d = l.toArray) {i : Nat} {x : Int × Int} (hx : l[i]? = some x) : i < d.size ∧ d[i]! = x := by
  subst hd
  obtain ⟨hi, e⟩ := List.getElem?_eq_some_iff.1 hx
  have h2 : i < l.toArray.size := by simpa using hi
  refine ⟨h2, ?_⟩
  rw [getElem!_pos l.toArray i h2]
  simpa using e

theorem holds_row {g : Nat} {w : World} {l : List (Int × Int)} (h : HRow g 0 w l) : HoldsK pCells 2 w g 0 l.toArray := by
  intro t ht
  rw [size_flatK] at ht
  have ht2 : t / 2 < l.length := by simp at ht; omega
  obtain ⟨x, hx⟩ := at_lt ht2
  obtain ⟨x0, x1, x2, x3⟩ := h _ x hx
  obtain ⟨_, e⟩ := pair_at rfl hx
  rw [get_flatK _ _ _ _ ht, e]
  rcases Nat.mod_two_eq_zero_or_one t with e2 | e2
  · rw [e2, show 0 + t = 0 + t / 2 * 2 by omega]
    exact ⟨x0, x2⟩
  · rw [e2, show 0 + t = 0 + t / 2 * 2 + 1 by omega]
    exact ⟨x1, x3⟩
theorem row_holds {g : Nat} {w : World} {l : List (Int × Int)} (h : HoldsK pCells 2 w g 0 l.toArray) : HRow g 0 w l := fun i x hx => by
  obtain ⟨hi, e⟩ := pair_at rfl hx
  have c0 := h.cell hi (c := 0) (by decide)
  have c1 := h.cell hi (c := 1) (by decide)
  rw [e] at c0 c1
  exact ⟨c0.1, c1.1, c0.2, c1.2⟩

theorem but_sorted {w : World} {g n : Nat} {os : Array Obj} (d : Array (Int × Int)) : But g w.heap.size w (sortWorldK pCells 2 w g 0 n d os) := by
  refine ⟨rfl, rfl, rfl, ?_, fun k hk hne => ?_⟩
  · simp [sortWorldK, putRowK, grow, putRow, mapBlock, Sort.ahead]
  · unfold sortWorldK
    rw [heap_grow_old _ _ (by simpa [putRowK] using hk)]
    have : g ≠ k := fun e => hne e.symm
    simp [putRowK, putRow, mapBlock, Sort.ahead, Array.getElem?_modify, this]

theorem sort_any {g cap : Nat} {l : List (Int × Int)} {w : World} (h : HRow g 0 w l) (hg : g < w.heap.size) (hl : l.length ≤ 1000) :
    Calls Tryd.prog 47 #[.slice (some ⟨g, 0, none⟩) l.length cap, .func (.func 48) #[] #[]] w fun e w' => e = .returned (.tuple #[]) ∧ HRow g 0 w' (sortF l) ∧ But g w.heap.size w w' := by
  have hH := holds_row h
  have hcon := AnyQ.slices_SortFunc_total Tryd.laySF 2 (Tryd.isAgg52) (Tryd.sizeOf52) pCells p_len p_one cmpS swoS 48 #[] g 0 cap l.toArray w (enters_of Tryd.func48 (by kernel_rfl) rfl) (cmpLays g 0 l.toArray.size w) hH hg (by simp; omega) totS
  refine hcon.mono ?_
  rintro e w' ⟨he, n, os, rfl⟩
  refine ⟨he, ?_, but_sorted _⟩
  refine row_holds ?_
  unfold sortWorldK
  refine holdsK_grow pCells 2 _ os g 0 _ (by simpa [putRowK] using hg) ?_
  exact holdsK_putRowK pCells 2 _ g 0 l.toArray _ (holdsK_ahead pCells 2 w n g 0 l.toArray hH) (by simp)

theorem sort_nil (w : World) :
    Calls Tryd.prog 47 #[.slice none 0 0, .func (.func 48) #[] #[]] w fun e w' => e = .returned (.tuple #[]) ∧ w' = w :=
  AnyF.slices_SortFunc_none Tryd.laySF none 0 _ w

set_option maxRecDepth 100000 in
theorem compact_nil (w : World) : Calls Tryd.prog 51 #[.slice none 0 0] w fun e w' => e = .returned (.slice none 0 0) ∧ w' = w := by
  go_enter Tryd.func51, Tryd.ntmps51
  go_wp2_with fail
  go_ret
  exact ⟨rfl, rfl⟩

end Go.Proofs.YtjhimekojiegjaaDoor.Wsrt
