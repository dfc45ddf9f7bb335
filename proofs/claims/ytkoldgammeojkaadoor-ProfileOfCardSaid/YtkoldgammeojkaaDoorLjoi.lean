/- The call of the reference's Joined. -/
import Derived.Test.YtkoldgammeojkaaDoorLext
import Derived.Laws.ResultCell
namespace Go.Proofs.YtkoldgammeojkaaDoor.Ljoi
open Go.RowKit Go.Lib Go.Proofs.YtkoldgammeojkaaDoor.Text Go.Proofs.YtkoldgammeojkaaDoor.Reads Go.Proofs.YtkoldgammeojkaaDoor.Rows2 Go.Proofs.YtkoldgammeojkaaDoor.Lay Go.Proofs.YtkoldgammeojkaaDoor.Layf Go.Proofs.YtkoldgammeojkaaDoor.Ldup Go.Proofs.YtkoldgammeojkaaDoor.Lext

/-- What a call gives that returns an end and whether there is one. -/
def EndOut (r : (Int × Int) × Bool) (w : World) (e : Ending) (w' : World) : Prop := e = .returned (.tuple #[pV r.1, .bool r.2]) ∧ Below w.heap.size w w'
theorem ne_cases {x1 x2 y1 y2 : Int} (h : ¬ (x1, x2) = (y1, y2)) : (x1 == y1) = false ∨ ((x1 == y1) = true ∧ (x2 == y2) = false) := by
  simp only [beq_eq_false_iff_ne, beq_iff_eq]
  simp only [Prod.mk.injEq] at h
  omega

theorem box3 (w : World) (A B C : Array Value) (TA TB TC : TypeId) :
    (∀ j, (((w.alloc (.cells A TA)).alloc (.cells B TB)).alloc (.cells C TC)).cell? ⟨w.heap.size, j, none⟩ = A[j]?) ∧
    (∀ j, (((w.alloc (.cells A TA)).alloc (.cells B TB)).alloc (.cells C TC)).cell? ⟨w.heap.size + 1, j, none⟩ = B[j]?) ∧
    (((w.alloc (.cells A TA)).alloc (.cells B TB)).alloc (.cells C TC)).heap[w.heap.size + 1 + 1]? = some (.cells C TC (0, 0)) ∧
    (((w.alloc (.cells A TA)).alloc (.cells B TB)).alloc (.cells C TC)).heap.size = w.heap.size + 1 + 1 + 1 := by
  refine ⟨fun j => ?_, fun j => ?_, ?_, by simp⟩
  · rw [World.cell?_alloc_past _ _ _ (by simp; omega), World.cell?_alloc_past _ _ _ (by simp), World.cell?_alloc_at _ _ _ _ rfl]
  · rw [World.cell?_alloc_past _ _ _ (by simp), World.cell?_alloc_at _ _ _ _ (by simp)]
  · have := heap_alloc_new ((w.alloc (.cells A TA)).alloc (.cells B TB)) (.cells C TC)
    simpa using this

theorem jfin {w wr : World} {g : Nat} (hb : Below w.heap.size w wr) (hg : w.heap.size ≤ g) (o : Obj) (x y : Value) : Below w.heap.size w (((wr.setCell ⟨g, 0, none⟩ x).setCell ⟨g, 1, none⟩ y).alloc o) :=
  ((hb.setCell (p := ⟨g, 0, none⟩) hg _).setCell (p := ⟨g, 1, none⟩) hg _).alloc (by have := hb.size; simpa using this) o

set_option maxRecDepth 100000 in
set_option maxHeartbeats 1600000 in
theorem rjoined_any (L : Lay) (p : Int × Int) {vs ve vj vg vb : Value} (w : World) (h : LayAt (In w) w L vs ve vj vg vb) :
    Calls Tryd.prog 32 #[layV L vs ve vj vg vb, pV p] w (EndOut (joinedF L p) w) := by
  obtain ⟨r, hr⟩ : ∃ r, joinedF L p = r := ⟨_, rfl⟩
  rw [hr]
  have HR := Lib.hid hr
  clear hr
  obtain ⟨a, cap, rfl, hm, _⟩ := h.jt
  obtain ⟨e1, e2⟩ := p
  have b1 := (Below.refl w.heap.size w).alloc (Nat.le_refl _) (.cells #[.string (bs L.name), vs, ve, .slice a L.joints.length cap, vg, vb] 28)
  have b2 := b1.alloc b1.size (.cells #[.int .i64 e1, .int .i64 e2] 64)
  have b3 := b2.alloc b2.size (.cells #[.int .i64 0, .int .i64 0] 64)
  have H0 := h.next b3
  have X0 := box3 w #[.string (bs L.name), vs, ve, .slice a L.joints.length cap, vg, vb] #[.int .i64 e1, .int .i64 e2] #[.int .i64 0, .int .i64 0] 28 64 64
  clear b1 b2
  unfold layV pV
  go_enter Tryd.func32, Tryd.ntmps32
  go_wp2_with fail
  obtain ⟨W, hW⟩ : ∃ W, ((w.alloc (.cells #[.string (bs L.name), vs, ve, .slice a L.joints.length cap, vg, vb] 28)).alloc (.cells #[.int .i64 e1, .int .i64 e2] 64)).alloc (.cells #[.int .i64 0, .int .i64 0] 64) = W := ⟨_, rfl⟩
  rw [hW] at H0 X0 b3 ⊢
  clear hW h
  obtain ⟨x0, x1, x2, x3⟩ := X0
  have C1 := Lib.hid (x1 0)
  have C2 := Lib.hid (x1 1)
  have CR := Lib.hid x2
  have WS := Lib.hid x3
  have B0 := Lib.hid b3
  obtain ⟨a', cap', he, _, hel⟩ := H0.jt
  cases he
  have HE := Lib.hid hel
  clear hel H0 x0 x1 x2 x3 b3
  go_loopw [11] (fun vj wr => ∃ j : Nat, vj = .int .i64 (j : Int) ∧ j ≤ L.joints.length ∧ r = joinR (e1, e2) (L.joints.drop j) ∧ Below W.heap.size W wr) (fun vj _ => L.joints.length - (intOf vj).toNat)
  case atStart => exact ⟨0, rfl, Nat.zero_le _, by rw [← HR.out]; rfl, Below.refl _ _⟩
  case round =>
    obtain ⟨j, rfl, hj, hrj, hb⟩ := hrel
    have HB := Lib.hid hb
    have HJ := Lib.hid hrj
    have g1 := (hb.cell (p := ⟨w.heap.size + 1, 0, none⟩) (by rw [WS.out]; simp)).trans C1.out
    have g2 := (hb.cell (p := ⟨w.heap.size + 1, 1, none⟩) (by rw [WS.out]; simp)).trans C2.out
    have g3 := (hb.block (w.heap.size + 1 + 1) (by rw [WS.out]; omega)).trans CR.out
    have g4 := cell_of_row wr _ 0 _ _ _ g3
    have g5 := cell_of_row wr _ 1 _ _ _ g3
    have g6 := frozen_of_row wr _ 0 _ _ g3
    have g7 := frozen_of_row wr _ 1 _ _ g3
    have HG := Lib.hid g3
    have hlt : w.heap.size + 1 + 1 < wr.heap.size := Nat.lt_of_lt_of_le (by rw [WS.out]; omega) hb.size
    have hlt1 : w.heap.size + 1 < wr.heap.size := by omega
    simp at g1 g2 g4 g5
    clear hb hrj g3
    by_cases hl : j < L.joints.length
    · obtain ⟨x, hx⟩ := at_lt hl
      obtain ⟨b, off, rfl, c0, c1, c2, c3⟩ := HE.out wr HB.out j x hx
      obtain ⟨⟨u1, u2⟩, ⟨v1, v2⟩⟩ := x
      simp only at c0 c1 c2 c3
      have HD := Lib.hid (drop_at hx)
      clear hx
      by_cases ha : (u1, u2) = (e1, e2)
      · cases ha
        have HV := Lib.hid (show r = ((v1, v2), true) by rw [HJ.out, HD.out, joinR_a])
        go_wp2_with fail
        (try simp only [Exit.inBlock, Exit.then])
        refine bodyPost_ret (v := .tuple #[.agg #[.int .i64 v1, .int .i64 v2], .bool true]) ?_ rfl ⟨?_, ?_⟩
        · rw [results_cell_tmp rfl]
          go_simp
        · rw [HV.out]
          rfl
        · exact jfin (bel_next B0.out HB.out) (by omega) _ _ _
      · have hc := ne_cases ha
        by_cases hb : (v1, v2) = (e1, e2)
        · cases hb
          have HV := Lib.hid (show r = ((u1, u2), true) by rw [HJ.out, HD.out, joinR_b ha])
          clear ha
          rcases hc with hc | ⟨hc, hc2⟩
          all_goals
            go_wp2_with fail
            (try simp only [Exit.inBlock, Exit.then])
            refine bodyPost_ret (v := .tuple #[.agg #[.int .i64 u1, .int .i64 u2], .bool true]) ?_ rfl ⟨?_, ?_⟩
            · rw [results_cell_tmp rfl]
              go_simp
            · rw [HV.out]
              rfl
            · exact jfin (bel_next B0.out HB.out) (by omega) _ _ _
        · have HV := Lib.hid (show r = joinR (e1, e2) (L.joints.drop (j + 1)) by rw [HJ.out, HD.out, joinR_no ha hb])
          have hd := ne_cases hb
          clear ha hb
          rcases hc with hc | ⟨hc, hc2⟩
          all_goals
            rcases hd with hd | ⟨hd, hd2⟩
            all_goals
              go_wp2_with fail
              go_roundw
              case rel => exact ⟨j + 1, by simp, by omega, HV.out, HB.out.alloc HB.out.size _⟩
              case measure => simp [intOf]; omega
    · have he : j = L.joints.length := by omega
      subst he
      go_wp2_with fail
      (try simp only [Exit.inBlock, Exit.then])
      refine bodyPost_ret (v := .tuple #[.agg #[.int .i64 0, .int .i64 0], .bool false]) ?_ rfl ⟨?_, ?_⟩
      · rw [results_cell_tmp rfl]
        go_simp
      · rw [HJ.out, List.drop_length]
        rfl
      · exact ((bel_next B0.out HB.out).setCell (by simp; omega) _).setCell (by simp; omega) _

end Go.Proofs.YtkoldgammeojkaaDoor.Ljoi
