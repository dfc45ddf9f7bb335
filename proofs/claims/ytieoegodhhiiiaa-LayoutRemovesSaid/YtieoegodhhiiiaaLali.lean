/- The call of the statements' alive, from what the program's seven functions give. -/
import Derived.Test.YtieoegodhhiiiaaLsev
import Derived.Test.YtieoegodhhiiiaaLlin
namespace Go.Proofs.Ytieoegodhhiiiaa.Lali
open Go.Proofs.Ytieoegodhhiiiaa.Text hiding lineL
open Go.RowKit Go.Lib Go.Proofs.Ytieoegodhhiiiaa.Reads Go.Proofs.Ytieoegodhhiiiaa.Rows2 Go.Proofs.Ytieoegodhhiiiaa.Lay Go.Proofs.Ytieoegodhhiiiaa.Layf Go.Proofs.Ytieoegodhhiiiaa.Lcon Go.Proofs.Ytieoegodhhiiiaa.Ldup Go.Proofs.Ytieoegodhhiiiaa.Lext Go.Proofs.Ytieoegodhhiiiaa.Ljoi Go.Proofs.Ytieoegodhhiiiaa.Lmem Go.Proofs.Ytieoegodhhiiiaa.Lnmd Go.Proofs.Ytieoegodhhiiiaa.Lfew Go.Proofs.Ytieoegodhhiiiaa.Lsev Go.Proofs.Ytieoegodhhiiiaa.Llin

def cutL : Lay := { lineL with joints := [((1, 1), (2, 0))] }
theorem lineFew : fewB lineL = true := by decide
theorem cutFew : fewB cutL = true := by decide
theorem lineOk : checkF lineL = 0 := by decide
theorem cutNo : checkF cutL = 14 := by decide
theorem joinA : joinedF lineL (0, 1) = ((1, 0), true) := by decide
theorem joinB : joinedF lineL (0, 0) = ((0, 0), false) := by decide
theorem sigA : signalF lineL (0, 1) = 0 := by decide
theorem sigB' : signalF lineL (1, 0) = -1 := by decide
theorem elC : elementF lineL [99] = 2 := by decide
/-- A slice without its first row. -/
theorem grid_tail {ok : Nat → Prop} {w : World} {v : Value} {sz : Nat} {r : List Value} {rows : List (List Value)} (h : Grid ok w v sz (r :: rows)) :
    ∃ b off cap, v = .slice (some ⟨b, off, none⟩) (rows.length + 1) cap ∧ rows.length + 1 ≤ cap ∧ cap ≤ maxLen ∧ Grid ok w (.slice (some ⟨b, off + sz, none⟩) rows.length (cap - 1)) sz rows := by
  obtain ⟨a, cap, rfl, h2, h3, h4⟩ := h
  rcases h4 with h4 | ⟨b, off, rfl, hb, hc⟩
  · cases h4
  · rw [List.length_cons] at h2
    refine ⟨b, off, cap, rfl, h2, h3, _, _, rfl, by omega, by omega, .inr ⟨b, off + sz, rfl, hb, fun i q hq j x hx => ?_⟩⟩
    have := hc (i + 1) q (by simpa using hq) j x hx
    rwa [Nat.succ_mul, show off + (i * sz + sz) + j = off + sz + i * sz + j by omega] at this
theorem cut_at {ok : Nat → Prop} {w : World} {vs ve vj vg vb : Value} (h : LayAt ok w lineL vs ve vj vg vb) :
    ∃ b off cap, vj = .slice (some ⟨b, off, none⟩) 2 cap ∧ 2 ≤ cap ∧ cap ≤ maxLen ∧ LayAt ok w cutL vs ve (.slice (some ⟨b, off + 4, none⟩) 1 (cap - 1)) vg vb := by
  obtain ⟨b, off, cap, e, h1, h2, hg⟩ := grid_tail (r := jCells ((0, 1), (1, 0))) (rows := [jCells ((1, 1), (2, 0))]) h.joints
  exact ⟨b, off, cap, e, h1, h2, { h with joints := hg, jwf := fun x hx => h.jwf x (List.mem_cons_of_mem _ hx) }⟩

set_option maxRecDepth 100000 in
set_option maxHeartbeats 3200000 in
theorem alive_any {D : World → Prop} (S : Seven D) (w : World) (hd : D w) : Calls Try.prog 10 #[] w (BoolOut true w) := by
  have HL := Lib.hid (fun w => line_any w)
  have HD := Lib.hid hd
  clear hd
  go_enter Try.func10, Try.ntmps10
  go_wp2_with fail
  refine (HL.out w).mono ?_
  rintro e w1 ⟨vs, ve, vj, vg, vb, rfl, l1, b1⟩
  obtain ⟨a1, c1, a2, c2, a3, c3, a4, c4, a5, c5, rfl, rfl, rfl, rfl, rfl⟩ := shapes l1
  unfold layV
  go_wp2_with fail
  have x1 := lbox_new w1 28 lineL (.slice a1 lineL.secs.length c1) (.slice a2 lineL.els.length c2) (.slice a3 lineL.joints.length c3) (.slice a4 lineL.sigs.length c4) (.slice a5 lineL.bals.length c5)
  have L0 := l1.box (.cells #[.string (bs lineL.name), .slice a1 lineL.secs.length c1, .slice a2 lineL.els.length c2, .slice a3 lineL.joints.length c3, .slice a4 lineL.sigs.length c4, .slice a5 lineL.bals.length c5] 28)
  have bb := (Below.refl w1.heap.size w1).alloc (Nat.le_refl _) (.cells #[.string (bs lineL.name), .slice a1 lineL.secs.length c1, .slice a2 lineL.els.length c2, .slice a3 lineL.joints.length c3, .slice a4 lineL.sigs.length c4, .slice a5 lineL.bals.length c5] 28)
  have D1 := S.keep _ _ (S.keep _ _ HD.out b1) bb
  have HS1 : w1.heap.size < (w1.alloc (.cells #[.string (bs lineL.name), .slice a1 lineL.secs.length c1, .slice a2 lineL.els.length c2, .slice a3 lineL.joints.length c3, .slice a4 lineL.sigs.length c4, .slice a5 lineL.bals.length c5] 28)).heap.size := by simp
  obtain ⟨W1, hW⟩ : ∃ W1, w1.alloc (.cells #[.string (bs lineL.name), .slice a1 lineL.secs.length c1, .slice a2 lineL.els.length c2, .slice a3 lineL.joints.length c3, .slice a4 lineL.sigs.length c4, .slice a5 lineL.bals.length c5] 28) = W1 := ⟨_, rfl⟩
  rw [hW] at x1 L0 bb D1 HS1 ⊢
  have B0 := Lib.hid (bel_next b1 bb)
  have HX := Lib.hid x1
  have HS := Lib.hid HS1
  have HJ := Lib.hid (fun (p : Int × Int) (hp : existsB lineL.els p = true) w' (b : Below W1.heap.size W1 w') => S.jnd lineL p _ _ _ _ _ w' (L0.next b) (S.keep _ _ D1 b) lineFew lineOk hp)
  have HG := Lib.hid (fun (p : Int × Int) (hp : existsB lineL.els p = true) w' (b : Below W1.heap.size W1 w') => S.sgl lineL p _ _ _ _ _ w' (L0.next b) (S.keep _ _ D1 b) lineFew lineOk hp)
  have HC := Lib.hid (fun w' (b : Below W1.heap.size W1 w') => S.chk lineL _ _ _ _ _ w' (L0.next b) (S.keep _ _ D1 b) lineFew)
  have HE := Lib.hid (fun w' (b : Below W1.heap.size W1 w') => S.elm lineL [99] _ _ _ _ _ w' (L0.next b) (S.keep _ _ D1 b) lineFew lineOk (by decide))
  have HDD := Lib.hid (fun w' (b : Below W1.heap.size W1 w') => S.keep _ _ D1 b)
  clear hW b1 bb D1 L0 l1 HS1 HD
  refine (HJ.out (0, 1) (by decide) W1 (Below.refl _ _)).mono ?_
  rintro e w2 ⟨rfl, b2⟩
  rw [joinA]
  unfold pV
  clear x1
  obtain ⟨x0, x1, x2, x3, x4, x5⟩ := HX.out.next b2 HS.out
  have hlt1 : w1.heap.size < w2.heap.size := Nat.lt_of_lt_of_le HS.out b2.size
  have hlt2 : w1.heap.size < w2.heap.size + 1 := by omega
  go_wp2_with fail
  clear x0 x1 x2 x3 x4 x5 hlt1 hlt2
  have bb := (Below.refl w2.heap.size w2).alloc (Nat.le_refl _) (.cells #[.int .i64 1, .int .i64 0] 37)
  have e0 : (w2.alloc (.cells #[.int .i64 1, .int .i64 0] 37)).cell? ⟨w2.heap.size, 0, none⟩ = some (.int .i64 1) := by rw [World.cell?_alloc_at _ _ _ _ rfl]; rfl
  have e1 : (w2.alloc (.cells #[.int .i64 1, .int .i64 0] 37)).cell? ⟨w2.heap.size, 1, none⟩ = some (.int .i64 0) := by rw [World.cell?_alloc_at _ _ _ _ rfl]; rfl
  have hs2 : w2.heap.size < (w2.alloc (.cells #[.int .i64 1, .int .i64 0] 37)).heap.size := by simp
  have hx2 : w1.heap.size < (w2.alloc (.cells #[.int .i64 1, .int .i64 0] 37)).heap.size := by have := b2.size; have := HS.out; simp; omega
  obtain ⟨W2, hW⟩ : ∃ W2, w2.alloc (.cells #[.int .i64 1, .int .i64 0] 37) = W2 := ⟨_, rfl⟩
  rw [hW] at bb e0 e1 hs2 hx2 ⊢
  have B2 := Lib.hid (bel_next b2 bb)
  have E0 := Lib.hid e0
  have E1 := Lib.hid e1
  have HS2 := Lib.hid hs2
  have HX2 := Lib.hid hx2
  clear hW b2 bb e0 e1 hs2 hx2
  refine (HJ.out (0, 0) (by decide) W2 B2.out).mono ?_
  rintro e w3 ⟨rfl, b3⟩
  rw [joinB]
  unfold pV
  go_wp2_with fail
  have bb := bel_next b3 ((Below.refl w3.heap.size w3).alloc (Nat.le_refl _) (.cells #[.int .i64 0, .int .i64 0] 37))
  have B23 := Lib.hid bb
  obtain ⟨W3, hW⟩ : ∃ W3, w3.alloc (.cells #[.int .i64 0, .int .i64 0] 37) = W3 := ⟨_, rfl⟩
  rw [hW] at bb B23 ⊢
  have B3 := Lib.hid (bel_next B2.out bb)
  clear hW b3 bb
  refine (HL.out W3).mono ?_
  rintro e w4 ⟨vs, ve, vj, vg, vb, rfl, l4, b4⟩
  obtain ⟨bj, off, cap, rfl, hc2, hc3, l5⟩ := cut_at l4
  obtain ⟨d1, k1, d2, k2, d3, k3, d4, k4, d5, k5, rfl, rfl, -, rfl, rfl⟩ := shapes l4
  unfold layV
  have hb4 := bel_next B3.out b4
  obtain ⟨x0, x1, x2, x3, x4, x5⟩ := HX.out.next hb4 HS.out
  have hlt1 : w1.heap.size < w4.heap.size := Nat.lt_of_lt_of_le HS.out hb4.size
  have hlt2 : w1.heap.size < w4.heap.size + 1 := by omega
  have HB4 := Lib.hid hb4
  have hbb := bel_next B23.out b4
  have HBB := Lib.hid hbb
  have HSB := Lib.hid hbb.size
  clear hb4
  have HL5 := Lib.hid l5
  clear b4 l4 l5
  go_wp2_with fail
  clear x0 x1 x2 x3 x4 x5 hlt1 hlt2
  have y := lbox_new w4 28 cutL (.slice d1 lineL.secs.length k1) (.slice d2 lineL.els.length k2) (.slice (some ⟨bj, off + 4, none⟩) 1 (cap - 1)) (.slice d4 lineL.sigs.length k4) (.slice d5 lineL.bals.length k5)
  have L5 := HL5.out.box (.cells #[.string (bs lineL.name), .slice d1 lineL.secs.length k1, .slice d2 lineL.els.length k2, .slice (some ⟨bj, off + 4, none⟩) 1 (cap - 1), .slice d4 lineL.sigs.length k4, .slice d5 lineL.bals.length k5] 28)
  have bb := bel_next HB4.out ((Below.refl w4.heap.size w4).alloc (Nat.le_refl _) (.cells #[.string (bs lineL.name), .slice d1 lineL.secs.length k1, .slice d2 lineL.els.length k2, .slice (some ⟨bj, off + 4, none⟩) 1 (cap - 1), .slice d4 lineL.sigs.length k4, .slice d5 lineL.bals.length k5] 28))
  have hs4 : w4.heap.size < (w4.alloc (.cells #[.string (bs lineL.name), .slice d1 lineL.secs.length k1, .slice d2 lineL.els.length k2, .slice (some ⟨bj, off + 4, none⟩) 1 (cap - 1), .slice d4 lineL.sigs.length k4, .slice d5 lineL.bals.length k5] 28)).heap.size := by simp
  have hs5 : w2.heap.size < (w4.alloc (.cells #[.string (bs lineL.name), .slice d1 lineL.secs.length k1, .slice d2 lineL.els.length k2, .slice (some ⟨bj, off + 4, none⟩) 1 (cap - 1), .slice d4 lineL.sigs.length k4, .slice d5 lineL.bals.length k5] 28)).heap.size := by have := HSB.out; have := HS2.out; simp; omega
  have e0 := (Below.cell (bel_next HBB.out ((Below.refl w4.heap.size w4).alloc (Nat.le_refl _) (.cells #[.string (bs lineL.name), .slice d1 lineL.secs.length k1, .slice d2 lineL.els.length k2, .slice (some ⟨bj, off + 4, none⟩) 1 (cap - 1), .slice d4 lineL.sigs.length k4, .slice d5 lineL.bals.length k5] 28))) (p := ⟨w2.heap.size, 0, none⟩) HS2.out).trans E0.out
  have e1 := (Below.cell (bel_next HBB.out ((Below.refl w4.heap.size w4).alloc (Nat.le_refl _) (.cells #[.string (bs lineL.name), .slice d1 lineL.secs.length k1, .slice d2 lineL.els.length k2, .slice (some ⟨bj, off + 4, none⟩) 1 (cap - 1), .slice d4 lineL.sigs.length k4, .slice d5 lineL.bals.length k5] 28))) (p := ⟨w2.heap.size, 1, none⟩) HS2.out).trans E1.out
  obtain ⟨W4, hW⟩ : ∃ W4, w4.alloc (.cells #[.string (bs lineL.name), .slice d1 lineL.secs.length k1, .slice d2 lineL.els.length k2, .slice (some ⟨bj, off + 4, none⟩) 1 (cap - 1), .slice d4 lineL.sigs.length k4, .slice d5 lineL.bals.length k5] 28) = W4 := ⟨_, rfl⟩
  rw [show (w4.alloc (.cells #[.string (bs cutL.name), .slice d1 lineL.secs.length k1, .slice d2 lineL.els.length k2, .slice (some ⟨bj, off + 4, none⟩) 1 (cap - 1), .slice d4 lineL.sigs.length k4, .slice d5 lineL.bals.length k5] 28)) = W4 from hW] at y
  rw [hW] at L5 bb hs4 hs5 e0 e1 ⊢
  have HY := Lib.hid y
  have HL6 := Lib.hid L5
  have B4 := Lib.hid bb
  have HS4 := Lib.hid hs4
  have HS5 := Lib.hid hs5
  have F0 := Lib.hid e0
  have F1 := Lib.hid e1
  have HK := Lib.hid (fun w' (b : Below W4.heap.size W4 w') => S.chk cutL _ _ _ _ _ w' (L5.next b) (HDD.out w' (bel_next B4.out b)) cutFew)
  clear hW y L5 bb hs4 hs5 e0 e1
  refine (HC.out W4 B4.out).mono ?_
  rintro e w5 ⟨rfl, b5⟩
  rw [lineOk]
  have f0 := (b5.cell (p := ⟨w2.heap.size, 0, none⟩) HS5.out).trans F0.out
  have f1 := (b5.cell (p := ⟨w2.heap.size, 1, none⟩) HS5.out).trans F1.out
  obtain ⟨x0, x1, x2, x3, x4, x5⟩ := HX.out.next (bel_next B4.out b5) HS.out
  have B5 := Lib.hid b5
  clear b5
  go_wp2_with fail
  refine (HG.out (0, 1) (by decide) w5 (bel_next B4.out B5.out)).mono ?_
  rintro e w6 ⟨rfl, b6⟩
  rw [sigA]
  have B6 := Lib.hid (bel_next B5.out b6)
  clear b6 f0 f1 x0 x1 x2 x3 x4 x5
  have f0 := (B6.out.cell (p := ⟨w2.heap.size, 0, none⟩) HS5.out).trans F0.out
  have f1 := (B6.out.cell (p := ⟨w2.heap.size, 1, none⟩) HS5.out).trans F1.out
  obtain ⟨x0, x1, x2, x3, x4, x5⟩ := HX.out.next (bel_next B4.out B6.out) HS.out
  go_wp2_with fail
  refine (HG.out (1, 0) (by decide) w6 (bel_next B4.out B6.out)).mono ?_
  rintro e w7 ⟨rfl, b7⟩
  rw [sigB']
  have B7 := Lib.hid (bel_next B6.out b7)
  clear b7 f0 f1 x0 x1 x2 x3 x4 x5
  obtain ⟨x0, x1, x2, x3, x4, x5⟩ := HY.out.next B7.out HS4.out
  go_wp2_with fail
  refine (HK.out w7 B7.out).mono ?_
  rintro e w8 ⟨rfl, b8⟩
  rw [cutNo]
  have B8 := Lib.hid (bel_next B7.out b8)
  clear b8 x0 x1 x2 x3 x4 x5
  obtain ⟨x0, x1, x2, x3, x4, x5⟩ := HX.out.next (bel_next B4.out B8.out) HS.out
  go_wp2_with fail
  refine (HE.out w8 (bel_next B4.out B8.out)).mono ?_
  rintro e w9 ⟨rfl, b9⟩
  rw [elC]
  have B9 := Lib.hid (bel_next B8.out b9)
  clear b9 x0 x1 x2 x3 x4 x5
  go_wp2_with fail
  go_ret
  exact ⟨rfl, bel_next B0.out (bel_next B4.out B9.out)⟩

end Go.Proofs.Ytieoegodhhiiiaa.Lali
