/- The program's having, those and least (profile). -/
import Derived.Test.YtkoldgammeojkaaDoorPvd
namespace Go.Proofs.YtkoldgammeojkaaDoor.Phv
open Go.RowKit Go.Lib Go.Proofs.YtkoldgammeojkaaDoor.Reads Go.Proofs.YtkoldgammeojkaaDoor.Rows2 Go.Proofs.YtkoldgammeojkaaDoor.Lay Go.Proofs.YtkoldgammeojkaaDoor.Segs Go.Proofs.YtkoldgammeojkaaDoor.Psg Go.Proofs.YtkoldgammeojkaaDoor.Pvd

/-- A function value that tells of a segment whether c holds, with what is bound to it. -/
def Tells (g : FuncId) (fst : Array Value) (c : Sg → Bool) : Prop := ∀ (W : World) (x : Sg), Calls Tryd.prog g (fst ++ #[sgV x]) W (BoolOut (c x) W)
def ByVal (g : FuncId) : Prop := ∀ args w, Sem.run Tryd.prog (callFunc g args) w = .ok (.enter g args) w
theorem byInside : ByVal 35 := fun args w => by kernel_rfl

/-- What holds at the head of the loop. -/
def HRel (c : Sg → Bool) (p : List Sg) (w : World) (vf vj : Value) (wr : World) : Prop :=
  ∃ j : Nat, vj = .int .i64 (j : Int) ∧ j ≤ p.length ∧ ((p.take j).filter c).length ≤ j ∧ wr.ownsRow w.heap.size 41 4 vf ((p.take j).filter c).length (((p.take j).filter c).flatMap sgC) ∧ Below w.heap.size w wr
theorem filter_no {c : Sg → Bool} {p : List Sg} {j : Nat} {x : Sg} (hx : p[j]? = some x) (h : c x = false) : (p.take (j + 1)).filter c = (p.take j).filter c := by
  rw [take_at hx, List.filter_append, List.filter_cons_of_neg (by simp [h]), List.filter_nil, List.append_nil]
theorem filter_yes {c : Sg → Bool} {p : List Sg} {j : Nat} {x : Sg} (hx : p[j]? = some x) (h : c x = true) : (p.take (j + 1)).filter c = (p.take j).filter c ++ [x] := by
  rw [take_at hx, List.filter_append, List.filter_cons_of_pos h, List.filter_nil]

set_option maxRecDepth 100000 in
set_option maxHeartbeats 1600000 in
theorem having_bound {g : FuncId} {b1 : Value} {c : Sg → Bool} (eg : ByVal g) (ht : Tells g #[b1] c) {p : List Sg} {v : Value} {w : World} (h : Grid (In w) w v 4 (p.map sgC)) (hlen : p.length ≤ 1000) :
    Calls Tryd.prog 47 #[v, .func (.func g) #[b1] #[]] w (SegOut (p.filter c) w) := by
  obtain ⟨a, cap, rfl, hm, _, _, hel⟩ := segs h
  have HE := Lib.hid hel
  obtain ⟨N, hN⟩ : ∃ N, p.length = N := ⟨_, rfl⟩
  have HN := Lib.hid hN
  have HT := Lib.hid ht
  rw [hN]
  rw [hN] at hm hlen
  unfold ByVal at eg
  clear hel h hN ht
  go_enter Tryd.func47, Tryd.ntmps47
  go_wp2_with fail
  go_loopw [5, 10] (fun vf vj wr => HRel c p w vf vj wr) (fun _ vj _ => N - (RowKit.intOf vj).toNat)
  case atStart => exact ⟨0, rfl, Nat.zero_le _, Nat.le_refl _, World.ownsRow_nil _ _ _ _, Below.refl _ _⟩
  case round =>
    obtain ⟨j, rfl, hj, hfl, ho, hb⟩ := hrel
    rw [HN.out] at hj
    have HB := Lib.hid hb
    have HO := Lib.hid ho
    have HFL := Lib.hid hfl
    clear hb ho hfl
    by_cases hl : j < N
    · obtain ⟨x, hx⟩ := at_lt (l := p) (k := j) (by rw [HN.out]; exact hl)
      obtain ⟨b, off, rfl, hbl, c0, c1, c2, c3⟩ := HE.out wr HB.out j x hx
      have HFN := Lib.hid (filter_no (c := c) hx)
      have HFY := Lib.hid (filter_yes (c := c) hx)
      have HC := Lib.hid (fun w' => HT.out w' x)
      obtain ⟨q, hq⟩ : ∃ q, c x = q := ⟨_, rfl⟩
      rw [hq] at HFN HFY HC
      obtain ⟨x1, x2, x3, x4⟩ := x
      simp only at c0 c1 c2 c3
      unfold sgV at HC
      simp only at HC
      have HBX := Lib.hid (HB.out.alloc HB.out.size (.cells #[.int .i64 x1, .int .i64 x2, .int .i64 x3, .int .i64 x4] 41))
      have HBN := Lib.hid ((Below.refl wr.heap.size wr).alloc (Nat.le_refl _) (.cells #[.int .i64 x1, .int .i64 x2, .int .i64 x3, .int .i64 x4] 41))
      clear hx hq
      cases q with
      | false =>
        have HF := Lib.hid (HFN.out rfl)
        go_wp2_with fail
        refine (HC.out _).mono ?_
        rintro e w5 ⟨rfl, hb5⟩
        have HB5 := Lib.hid (bel_next HBX.out hb5)
        have HO5 := Lib.hid (own_below HO.out (bel_next HBN.out hb5))
        clear hb5
        go_wp2_with fail
        go_roundw
        case rel => exact ⟨j + 1, by simp, by rw [HN.out]; omega, by rw [HF.out]; exact Nat.le_succ_of_le HFL.out, by rw [HF.out]; exact HO5.out, HB5.out⟩
        case measure => simp [RowKit.intOf]; omega
      | true =>
        have HF := Lib.hid (HFY.out rfl)
        obtain ⟨V, hV, bV, lV, v0, v1, v2, v3, -⟩ := box_new wr x1 x2 x3 x4 41
        have HV := Lib.hid hV
        rw [hV] at HBX HBN
        have LV := Lib.hid lV
        have KV := Lib.hid (show V.cell? ⟨wr.heap.size, 0, none⟩ = some (.int .i64 x1) ∧ V.cell? ⟨wr.heap.size, 1, none⟩ = some (.int .i64 x2) ∧ V.cell? ⟨wr.heap.size, 2, none⟩ = some (.int .i64 x3) ∧ V.cell? ⟨wr.heap.size, 3, none⟩ = some (.int .i64 x4) from ⟨v0, v1, v2, v3⟩)
        clear hV bV lV
        go_wp2_with fail
        rw [HV.out]
        refine (HC.out _).mono ?_
        rintro e w5 ⟨rfl, hb5⟩
        have HB5 := Lib.hid (bel_next HBX.out hb5)
        have HO5 := Lib.hid (own_below HO.out (bel_next HBN.out hb5))
        have y0 := (hb5.cell (p := ⟨wr.heap.size, 0, none⟩) LV.out).trans KV.out.1
        have y1 := (hb5.cell (p := ⟨wr.heap.size, 1, none⟩) LV.out).trans KV.out.2.1
        have y2 := (hb5.cell (p := ⟨wr.heap.size, 2, none⟩) LV.out).trans KV.out.2.2.1
        have y3 := (hb5.cell (p := ⟨wr.heap.size, 3, none⟩) LV.out).trans KV.out.2.2.2
        have hlt5 := Nat.lt_of_lt_of_le LV.out hb5.size
        clear hb5 v0 v1 v2 v3 c0 c1 c2 c3
        obtain ⟨A1, C1, rfl⟩ := own_shape HO5.out
        obtain ⟨M, hM⟩ : ∃ M, ((p.take j).filter c).length = M := ⟨_, rfl⟩
        have HO6 := Lib.hid (show w5.ownsRow w.heap.size 41 4 (.slice A1 ((p.take j).filter c).length C1) ((p.take j).filter c).length (((p.take j).filter c).flatMap sgC) from HO5.out)
        have HM : Hid (((p.take j).filter c).length = M) := hM
        rw [hM]
        clear HO5 hM
        go_wp2_with (at_builtin; refine wp_seg rfl (.tmp 17) (.tmp 19) rfl w (l := (p.take j).filter c) (x1, x2, x3, x4) (v := .slice A1 ((p.take j).filter c).length C1) (by rw [HM.out]; rfl) rfl rfl rfl HO6.out HB5.out (by have := HFL.out; omega) ?_; rintro v7 w7 ⟨h7, b7, -, -⟩; have R7 := Lib.hid h7; have B7 := Lib.hid b7; clear h7 b7)
        go_roundw
        case rel => exact ⟨j + 1, by simp, by rw [HN.out]; omega, by rw [HF.out, List.length_append]; exact Nat.succ_le_succ HFL.out, by rw [HF.out]; exact R7.out, B7.out⟩
        case measure => simp [RowKit.intOf]; omega
    · have he : j = N := by omega
      subst he
      have hta : p.take j = p := List.take_of_length_le (by rw [HN.out]; exact Nat.le_refl _)
      rw [hta] at HO
      clear hta HFL
      obtain ⟨A1, C1, rfl⟩ := own_shape HO.out
      have HO2 := Lib.hid (show wr.ownsRow w.heap.size 41 4 (.slice A1 (p.filter c).length C1) (p.filter c).length ((p.filter c).flatMap sgC) from HO.out)
      clear HO
      obtain ⟨M, hM⟩ : ∃ M, (p.filter c).length = M := ⟨_, rfl⟩
      rw [hM] at HO2 ⊢
      have HM := Lib.hid hM
      clear hM
      go_wp2_with fail
      go_ret
      exact ⟨_, rfl, by rw [HM.out]; exact HO2.out, HB.out⟩

set_option maxRecDepth 100000 in
set_option maxHeartbeats 1600000 in
theorem having_plain {g : FuncId} {c : Sg → Bool} (eg : ByVal g) (ht : Tells g #[] c) {p : List Sg} {v : Value} {w : World} (h : Grid (In w) w v 4 (p.map sgC)) (hlen : p.length ≤ 1000) :
    Calls Tryd.prog 47 #[v, .func (.func g) #[] #[]] w (SegOut (p.filter c) w) := by
  obtain ⟨a, cap, rfl, hm, _, _, hel⟩ := segs h
  have HE := Lib.hid hel
  obtain ⟨N, hN⟩ : ∃ N, p.length = N := ⟨_, rfl⟩
  have HN := Lib.hid hN
  have HT := Lib.hid ht
  rw [hN]
  rw [hN] at hm hlen
  unfold ByVal at eg
  clear hel h hN ht
  go_enter Tryd.func47, Tryd.ntmps47
  go_wp2_with fail
  go_loopw [5, 10] (fun vf vj wr => HRel c p w vf vj wr) (fun _ vj _ => N - (RowKit.intOf vj).toNat)
  case atStart => exact ⟨0, rfl, Nat.zero_le _, Nat.le_refl _, World.ownsRow_nil _ _ _ _, Below.refl _ _⟩
  case round =>
    obtain ⟨j, rfl, hj, hfl, ho, hb⟩ := hrel
    rw [HN.out] at hj
    have HB := Lib.hid hb
    have HO := Lib.hid ho
    have HFL := Lib.hid hfl
    clear hb ho hfl
    by_cases hl : j < N
    · obtain ⟨x, hx⟩ := at_lt (l := p) (k := j) (by rw [HN.out]; exact hl)
      obtain ⟨b, off, rfl, hbl, c0, c1, c2, c3⟩ := HE.out wr HB.out j x hx
      have HFN := Lib.hid (filter_no (c := c) hx)
      have HFY := Lib.hid (filter_yes (c := c) hx)
      have HC := Lib.hid (fun w' => HT.out w' x)
      obtain ⟨q, hq⟩ : ∃ q, c x = q := ⟨_, rfl⟩
      rw [hq] at HFN HFY HC
      obtain ⟨x1, x2, x3, x4⟩ := x
      simp only at c0 c1 c2 c3
      unfold sgV at HC
      simp only at HC
      have HBX := Lib.hid (HB.out.alloc HB.out.size (.cells #[.int .i64 x1, .int .i64 x2, .int .i64 x3, .int .i64 x4] 41))
      have HBN := Lib.hid ((Below.refl wr.heap.size wr).alloc (Nat.le_refl _) (.cells #[.int .i64 x1, .int .i64 x2, .int .i64 x3, .int .i64 x4] 41))
      clear hx hq
      cases q with
      | false =>
        have HF := Lib.hid (HFN.out rfl)
        go_wp2_with fail
        refine (HC.out _).mono ?_
        rintro e w5 ⟨rfl, hb5⟩
        have HB5 := Lib.hid (bel_next HBX.out hb5)
        have HO5 := Lib.hid (own_below HO.out (bel_next HBN.out hb5))
        clear hb5
        go_wp2_with fail
        go_roundw
        case rel => exact ⟨j + 1, by simp, by rw [HN.out]; omega, by rw [HF.out]; exact Nat.le_succ_of_le HFL.out, by rw [HF.out]; exact HO5.out, HB5.out⟩
        case measure => simp [RowKit.intOf]; omega
      | true =>
        have HF := Lib.hid (HFY.out rfl)
        obtain ⟨V, hV, bV, lV, v0, v1, v2, v3, -⟩ := box_new wr x1 x2 x3 x4 41
        have HV := Lib.hid hV
        rw [hV] at HBX HBN
        have LV := Lib.hid lV
        have KV := Lib.hid (show V.cell? ⟨wr.heap.size, 0, none⟩ = some (.int .i64 x1) ∧ V.cell? ⟨wr.heap.size, 1, none⟩ = some (.int .i64 x2) ∧ V.cell? ⟨wr.heap.size, 2, none⟩ = some (.int .i64 x3) ∧ V.cell? ⟨wr.heap.size, 3, none⟩ = some (.int .i64 x4) from ⟨v0, v1, v2, v3⟩)
        clear hV bV lV
        go_wp2_with fail
        rw [HV.out]
        refine (HC.out _).mono ?_
        rintro e w5 ⟨rfl, hb5⟩
        have HB5 := Lib.hid (bel_next HBX.out hb5)
        have HO5 := Lib.hid (own_below HO.out (bel_next HBN.out hb5))
        have y0 := (hb5.cell (p := ⟨wr.heap.size, 0, none⟩) LV.out).trans KV.out.1
        have y1 := (hb5.cell (p := ⟨wr.heap.size, 1, none⟩) LV.out).trans KV.out.2.1
        have y2 := (hb5.cell (p := ⟨wr.heap.size, 2, none⟩) LV.out).trans KV.out.2.2.1
        have y3 := (hb5.cell (p := ⟨wr.heap.size, 3, none⟩) LV.out).trans KV.out.2.2.2
        have hlt5 := Nat.lt_of_lt_of_le LV.out hb5.size
        clear hb5 v0 v1 v2 v3 c0 c1 c2 c3
        obtain ⟨A1, C1, rfl⟩ := own_shape HO5.out
        obtain ⟨M, hM⟩ : ∃ M, ((p.take j).filter c).length = M := ⟨_, rfl⟩
        have HO6 := Lib.hid (show w5.ownsRow w.heap.size 41 4 (.slice A1 ((p.take j).filter c).length C1) ((p.take j).filter c).length (((p.take j).filter c).flatMap sgC) from HO5.out)
        have HM : Hid (((p.take j).filter c).length = M) := hM
        rw [hM]
        clear HO5 hM
        go_wp2_with (at_builtin; refine wp_seg rfl (.tmp 17) (.tmp 19) rfl w (l := (p.take j).filter c) (x1, x2, x3, x4) (v := .slice A1 ((p.take j).filter c).length C1) (by rw [HM.out]; rfl) rfl rfl rfl HO6.out HB5.out (by have := HFL.out; omega) ?_; rintro v7 w7 ⟨h7, b7, -, -⟩; have R7 := Lib.hid h7; have B7 := Lib.hid b7; clear h7 b7)
        go_roundw
        case rel => exact ⟨j + 1, by simp, by rw [HN.out]; omega, by rw [HF.out, List.length_append]; exact Nat.succ_le_succ HFL.out, by rw [HF.out]; exact R7.out, B7.out⟩
        case measure => simp [RowKit.intOf]; omega
    · have he : j = N := by omega
      subst he
      have hta : p.take j = p := List.take_of_length_le (by rw [HN.out]; exact Nat.le_refl _)
      rw [hta] at HO
      clear hta HFL
      obtain ⟨A1, C1, rfl⟩ := own_shape HO.out
      have HO2 := Lib.hid (show wr.ownsRow w.heap.size 41 4 (.slice A1 (p.filter c).length C1) (p.filter c).length ((p.filter c).flatMap sgC) from HO.out)
      clear HO
      obtain ⟨M, hM⟩ : ∃ M, (p.filter c).length = M := ⟨_, rfl⟩
      rw [hM] at HO2 ⊢
      have HM := Lib.hid hM
      clear hM
      go_wp2_with fail
      go_ret
      exact ⟨_, rfl, by rw [HM.out]; exact HO2.out, HB.out⟩

end Go.Proofs.YtkoldgammeojkaaDoor.Phv
