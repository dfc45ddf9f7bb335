/- The program's Cut (profile). -/
import Derived.Test.YtkoldgammeojkaaDoorPat
namespace Go.Proofs.YtkoldgammeojkaaDoor.Pct
open Go.RowKit Go.Lib Go.Proofs.YtkoldgammeojkaaDoor.Reads Go.Proofs.YtkoldgammeojkaaDoor.Rows2 Go.Proofs.YtkoldgammeojkaaDoor.Lay Go.Proofs.YtkoldgammeojkaaDoor.Segs Go.Proofs.YtkoldgammeojkaaDoor.Psg Go.Proofs.YtkoldgammeojkaaDoor.Pvd Go.Proofs.YtkoldgammeojkaaDoor.Phv Go.Proofs.YtkoldgammeojkaaDoor.Pth Go.Proofs.YtkoldgammeojkaaDoor.Pat

/-- The first j are cut. -/
def cutTo (f t : Int) (l : List Sg) (j : Nat) : List Sg := (l.take j).map (partF f t) ++ l.drop j
theorem cutTo_len (f t : Int) (l : List Sg) (j : Nat) : (cutTo f t l j).length = l.length := by
  rw [cutTo, List.length_append, List.length_map, ← List.length_append, List.take_append_drop]
theorem cutTo_zero (f t : Int) (l : List Sg) : cutTo f t l 0 = l := by simp [cutTo]
theorem cutTo_all (f t : Int) (l : List Sg) {n : Nat} (h : l.length = n) : cutTo f t l n = l.map (partF f t) := by
  rw [cutTo, List.take_of_length_le (Nat.le_of_eq h), List.drop_of_length_le (Nat.le_of_eq h), List.append_nil]
theorem cutTo_at {f t : Int} {l : List Sg} {j : Nat} {x : Sg} (h : l[j]? = some x) : (cutTo f t l j)[j]? = some x := by
  have hj := (List.getElem?_eq_some_iff.1 h).1
  rw [cutTo, List.getElem?_append_right (by simp; omega)]
  simp [Nat.min_eq_left (Nat.le_of_lt hj), h]
theorem cutTo_next {f t : Int} {l : List Sg} {j : Nat} {x : Sg} (h : l[j]? = some x) : cutTo f t l (j + 1) = (cutTo f t l j).set j (partF f t x) := by
  have hj := (List.getElem?_eq_some_iff.1 h).1
  have hl : ((l.take j).map (partF f t)).length = j := by simp; omega
  rw [cutTo, cutTo, take_at h, drop_at h, List.map_append, List.append_assoc, List.set_append_right _ _ (by omega), hl, Nat.sub_self]
  rfl
/-- The cells when a row is put in its place. -/
theorem flat_set : ∀ {l : List Sg} {j : Nat} {y : Sg}, j < l.length → (l.set j y).flatMap sgC = ((((l.flatMap sgC).set (j * 4) (.int .i64 y.1)).set (j * 4 + 1) (.int .i64 y.2.1)).set (j * 4 + 2) (.int .i64 y.2.2.1)).set (j * 4 + 3) (.int .i64 y.2.2.2)
  | [], j, y, h => by simp at h
  | s :: l, 0, y, _ => by simp [sgC]
  | s :: l, j + 1, y, h => by
    have ih := flat_set (l := l) (j := j) (y := y) (by simpa using h)
    rw [List.set_cons_succ, List.flatMap_cons, List.flatMap_cons, ih]
    have e : ∀ k, (j + 1) * 4 + k = (j * 4 + k) + 4 := by intro k; omega
    rw [show (j + 1) * 4 = j * 4 + 4 by omega, show j * 4 + 4 + 1 = (j * 4 + 1) + 4 by omega, show j * 4 + 4 + 2 = (j * 4 + 2) + 4 by omega, show j * 4 + 4 + 3 = (j * 4 + 3) + 4 by omega]
    simp [sgC]
/-- A row of four is put in its place. -/
theorem own_put {B : Nat} {w : World} {g cap n : Nat} {l : List Sg} {j : Nat} {y : Sg} (h : w.ownsRow B 41 4 (.slice (some ⟨g, 0, none⟩) n cap) n (l.flatMap sgC)) (hj : j < l.length) :
    ((((w.setCell ⟨g, j * 4, none⟩ (.int .i64 y.1)).setCell ⟨g, j * 4 + 1, none⟩ (.int .i64 y.2.1)).setCell ⟨g, j * 4 + 2, none⟩ (.int .i64 y.2.2.1)).setCell ⟨g, j * 4 + 3, none⟩ (.int .i64 y.2.2.2)).ownsRow B 41 4 (.slice (some ⟨g, 0, none⟩) n cap) n ((l.set j y).flatMap sgC) := by
  rw [flat_set hj]
  exact ((((h.stored (j * 4) _).1.stored (j * 4 + 1) _).1.stored (j * 4 + 2) _).1.stored (j * 4 + 3) _).1

/-- What holds at the head of the loop. -/
def CRel (f t : Int) (l : List Sg) (W : World) (B : Nat) (v : Value) (n : Nat) (T : TypeId) (vj : Value) (wr : World) : Prop :=
  ∃ j : Nat, vj = .int .i64 (j : Int) ∧ j ≤ l.length ∧ wr.ownsRow W.heap.size 41 4 v n ((cutTo f t l j).flatMap sgC) ∧ Below W.heap.size W wr ∧ wr.heap[B]? = some (.cells #[.int .i64 f, .int .i64 t] T (0, 0))

set_option maxRecDepth 100000 in
set_option maxHeartbeats 3200000 in
theorem cut_any (f t : Int) {p : List Sg} {v : Value} {w : World} (h : Grid (In w) w v 4 (p.map sgC)) :
    Calls Tryd.prog 19 #[v, .int .i64 f, .int .i64 t] w (SegOut (cutF p f t) w) := by
  have hbel := (Below.refl w.heap.size w).alloc (Nat.le_refl _) (.cells #[.int .i64 f, .int .i64 t] 78)
  have hrow := heap_alloc_new w (.cells #[.int .i64 f, .int .i64 t] 78)
  obtain ⟨W, hW⟩ : ∃ W, w.alloc (.cells #[.int .i64 f, .int .i64 t] 78) = W := ⟨_, rfl⟩
  have hlt : w.heap.size < W.heap.size := by rw [← hW]; simp
  rw [hW] at hbel hrow
  have HT := Lib.hid (those_any byOver (tells_over f t) (grid_next h hbel))
  obtain ⟨l, hl⟩ : ∃ l, thoseF (overB f t) p = l := ⟨_, rfl⟩
  have HS : Hid (cutF p f t = l.map (partF f t)) := by
    show _ = _
    rw [cutF, hl]
  rw [hl] at HT
  unfold stV at HT
  obtain ⟨r, hr⟩ : ∃ r, cutF p f t = r := ⟨_, rfl⟩
  rw [hr] at HS ⊢
  obtain ⟨a, cap, rfl, hm, _, _, _⟩ := segs h
  have hmf : ∀ fn first cap w, (Instr.makeFunc fn first cap).run Tryd.prog w = .ok (.func fn first cap) w := fun _ _ _ _ => rfl
  have HW := Lib.hid hW
  have HBL := Lib.hid hbel
  have HRW := Lib.hid hrow
  have HLT := Lib.hid hlt
  have HP := Lib.hid (fun s w' => part_any f t s w')
  clear h hl hW hbel hrow hlt hr
  go_enter Tryd.func19, Tryd.ntmps19
  go_wp2_with fail
  rw [HW.out]
  refine HT.out.mono ?_
  rintro e w1 h1
  obtain ⟨A1, M1, C1, rfl, HM1, HO1, HB1⟩ := seg_open h1
  clear h1
  have HR1 := Lib.hid ((HB1.out.block _ HLT.out).trans HRW.out)
  have hM1 : (M1 : Int) ≤ 9223372036854775807 := by
    obtain ⟨_, _, e', h2, _⟩ := segs (grid_in (grid_of_own HO1.out))
    rw [HM1.out] at h2
    exact h2
  have HO2 : Hid (w1.ownsRow W.heap.size 41 4 (.slice A1 M1 C1) M1 ((cutTo f t l 0).flatMap sgC)) := by
    have := HO1.out
    rw [HM1.out] at this
    rw [cutTo_zero]
    exact Lib.hid this
  go_wp2_with fail
  go_loopw [20] (fun vj wr => CRel f t l W w.heap.size (.slice A1 M1 C1) M1 78 vj wr) (fun vj _ => M1 - (RowKit.intOf vj).toNat)
  case atStart => exact ⟨0, rfl, Nat.zero_le _, HO2.out, HB1.out, HR1.out⟩
  case round =>
    obtain ⟨j, rfl, hj, ho, hb, hrw⟩ := hrel
    rw [HM1.out] at hj
    have HO := Lib.hid ho
    have HB := Lib.hid hb
    have HRX := Lib.hid hrw
    clear ho hb hrw
    by_cases hl : j < M1
    · obtain ⟨x, hx⟩ := at_lt (l := l) (k := j) (by rw [HM1.out]; exact hl)
      have HNX := Lib.hid (cutTo_next (f := f) (t := t) hx)
      have hcl := cutTo_len f t l j
      rw [HM1.out] at hcl
      have hG : Grid (fun b => W.heap.size ≤ b ∧ b < wr.heap.size) wr (.slice A1 M1 C1) 4 ((cutTo f t l j).map sgC) := by
        have := HO.out
        rw [← hcl] at this ⊢
        exact grid_of_own this
      obtain ⟨a1, c1', e', _, _, _, hc⟩ := segs (grid_in hG)
      injection e' with eA eM eC
      subst eA
      clear eM eC
      obtain ⟨b, off, e2, hbl, d0, d1, d2, d3⟩ := hc wr (Below.refl _ _) j x (cutTo_at hx)
      subst e2
      have hoff : off = 0 := by
        obtain ⟨_, hor⟩ := HO.out
        rcases hor with ⟨h', _⟩ | ⟨_, _, _, h', _⟩
        · cases h'
        · cases h'; rfl
      subst hoff
      have HCL := Lib.hid hcl
      have hbW : W.heap.size ≤ b := (HO.out.lt b rfl).1
      have HPX := Lib.hid (fun w' => HP.out x w')
      obtain ⟨y, hy⟩ : ∃ y, partF f t x = y := ⟨_, rfl⟩
      rw [hy] at HPX HNX
      obtain ⟨x1, x2, x3, x4⟩ := x
      obtain ⟨y1, y2, y3, y4⟩ := y
      simp only [Nat.zero_add] at d0 d1 d2 d3
      unfold OneOut sgV stV at HPX
      simp only at HPX
      obtain ⟨V, hV, bV, lV, v0, v1, v2, v3, -⟩ := box_new wr x1 x2 x3 x4 41
      have HV := Lib.hid hV
      have HBV := Lib.hid bV
      have hst := (bV.block _ (show w.heap.size < wr.heap.size from Nat.lt_of_lt_of_le HLT.out HB.out.size)).trans HRX.out
      have s0 := cell_of_row wr w.heap.size 0 _ _ _ HRX.out
      have s1 := cell_of_row wr w.heap.size 1 _ _ _ HRX.out
      have hstl : w.heap.size < wr.heap.size := Nat.lt_of_lt_of_le HLT.out HB.out.size
      have hstlt : w.heap.size < V.heap.size := Nat.lt_of_lt_of_le HLT.out (Nat.le_trans HB.out.size bV.size)
      have HST := Lib.hid hst
      have hMl : (j : Int) < (M1 : Int) := by omega
      clear hx hG hc hV bV hst hy hcl
      go_wp2_with fail
      rw [HV.out]
      refine (HPX.out _).mono ?_
      rintro e w5 ⟨rfl, hb5⟩
      have bw5 := bel_next HBV.out hb5
      have HO5 := Lib.hid (own_below HO.out bw5)
      have HB5 := Lib.hid (bel_next HB.out bw5)
      have HR5 := Lib.hid ((hb5.block _ hstlt).trans HST.out)
      have q0 := (bw5.cell (p := ⟨b, j * 4, none⟩) hbl).trans d0
      have q1 := (bw5.cell (p := ⟨b, j * 4 + 1, none⟩) hbl).trans d1
      have q2 := (bw5.cell (p := ⟨b, j * 4 + 2, none⟩) hbl).trans d2
      have q3 := (bw5.cell (p := ⟨b, j * 4 + 3, none⟩) hbl).trans d3
      have z0 := HO5.out.frozenAt (j * 4)
      have z1 := HO5.out.frozenAt (j * 4 + 1)
      have z2 := HO5.out.frozenAt (j * 4 + 2)
      have z3 := HO5.out.frozenAt (j * 4 + 3)
      have hb5l := Nat.lt_of_lt_of_le hbl bw5.size
      clear hb5 bw5 v0 v1 v2 v3 s0 s1 d0 d1 d2 d3
      go_wp2_with fail
      go_roundw
      case rel => exact ⟨j + 1, by simp, by rw [HM1.out]; omega, by rw [HNX.out]; exact own_put (y := (y1, y2, y3, y4)) HO5.out (by rw [HCL.out]; exact hl), (((HB5.out.setCell hbW _).setCell hbW _).setCell hbW _).setCell hbW _, by rw [heap_setCell_other _ _ _ _ (by have := HLT.out; simp; omega), heap_setCell_other _ _ _ _ (by have := HLT.out; simp; omega), heap_setCell_other _ _ _ _ (by have := HLT.out; simp; omega), heap_setCell_other _ _ _ _ (by have := HLT.out; simp; omega)]; exact HR5.out⟩
      case measure => simp [RowKit.intOf]; omega
    · have he : j = M1 := by omega
      subst he
      have HF := Lib.hid (cutTo_all f t l HM1.out)
      go_wp2_with fail
      go_ret
      rw [HS.out]
      refine ⟨_, rfl, ?_, HBL.out.trans (HB.out.mono HBL.out.size)⟩
      have := own_mono HO.out HBL.out.size
      rw [HF.out] at this
      rw [List.length_map, HM1.out]
      exact this

end Go.Proofs.YtkoldgammeojkaaDoor.Pct
