/- The program's Of (profile). -/
import Derived.Test.YtkoldgammeojkaaDoorPof
import Derived.Deep.DeepCutAuto
import Derived.Test.YtkoldgammeojkaaDoorPth
namespace Go.Proofs.YtkoldgammeojkaaDoor.Poo
open Go.RowKit Go.Lib Go.Proofs.YtkoldgammeojkaaDoor.Reads Go.Proofs.YtkoldgammeojkaaDoor.Rows2 Go.Proofs.YtkoldgammeojkaaDoor.Lay Go.Proofs.YtkoldgammeojkaaDoor.Segs Go.Proofs.YtkoldgammeojkaaDoor.Psg Go.Proofs.YtkoldgammeojkaaDoor.Pvd Go.Proofs.YtkoldgammeojkaaDoor.Pat Go.Proofs.YtkoldgammeojkaaDoor.Pof
open Go.Proofs.YtkoldgammeojkaaDoor.Way (Stp stCells inB elOf el_none el_some needS need_none need_some)
open Go.Proofs.YtkoldgammeojkaaDoor.Rail (needF)
open Go.Proofs.YtkoldgammeojkaaDoor.Rtab (RTab rtab_next)
open Go.Proofs.YtkoldgammeojkaaDoor.Text (bs)

/-- The segments so far, and the rest of the way. -/
def totR (els : List Elem) (acc : List Sg) (at_ : Int) : List Stp → Option (List Sg)
  | [] => some acc
  | s :: r => match elOf els s.1 with
    | none => none
    | some x => if (needF x.kind s.2.1 s.2.2).2 = true then totR els (acc ++ [segF x s at_]) (segF x s at_).2.1 r else none
def endF : Option (List Sg) → List Sg
  | none => []
  | some p => if validF p = true then p else []
def ofF (els : List Elem) (way : List Stp) (at_ : Int) : List Sg := if 128 < way.length then [] else endF (totR els [] at_ way)
theorem tot_no {els : List Elem} {acc : List Sg} {at_ : Int} {s : Stp} {r : List Stp} (h : (needS els s).2 = false) : totR els acc at_ (s :: r) = none := by
  rw [totR]
  cases he : elOf els s.1 with
  | none => rfl
  | some x =>
    rw [need_some he] at h
    simp only [h]
    rfl
theorem tot_yes {els : List Elem} {acc : List Sg} {at_ : Int} {s : Stp} {x : Elem} {r : List Stp} (he : elOf els s.1 = some x) (h : (needS els s).2 = true) : totR els acc at_ (s :: r) = totR els (acc ++ [segF x s at_]) (segF x s at_).2.1 r := by
  rw [need_some he] at h
  rw [totR, he]
  simp only [h, if_true]
theorem tot_pre {els : List Elem} : ∀ {r : List Stp} {acc : List Sg} {at_ : Int} {p : List Sg}, totR els acc at_ r = some p → ∃ t, p = acc ++ t
  | [], acc, at_, p, h => by
    simp only [totR, Option.some.injEq] at h
    exact ⟨[], by rw [← h, List.append_nil]⟩
  | s :: r, acc, at_, p, h => by
    rw [totR] at h
    cases he : elOf els s.1 with
    | none => rw [he] at h; cases h
    | some x =>
      rw [he] at h
      simp only at h
      split at h
      · obtain ⟨t, e⟩ := tot_pre h
        exact ⟨segF x s at_ :: t, by rw [e, List.append_assoc]; rfl⟩
      · cases h
/-- A way that begins outside of the coordinates has no profile. -/
theorem of_out {els : List Elem} {way : List Stp} {at_ : Int} (h : at_ < -1073741824 ∨ 1073741824 < at_) : ofF els way at_ = [] := by
  unfold ofF
  split
  · rfl
  · cases ht : totR els [] at_ way with
    | none => rfl
    | some p =>
      rcases way with _ | ⟨s, r⟩
      · simp only [totR, Option.some.injEq] at ht
        subst ht
        rfl
      · rw [totR] at ht
        cases he : elOf els s.1 with
        | none => rw [he] at ht; cases ht
        | some x =>
          rw [he] at ht
          simp only at ht
          split at ht
          · obtain ⟨t, e⟩ := tot_pre ht
            have hk : okS (segF x s at_) = false := by
              refine decide_eq_false (fun hh => ?_)
              have h1 : at_ < (segF x s at_).2.1 := hh.1
              have h2 : -1073741824 ≤ at_ := hh.2.1
              have h3 : (segF x s at_).2.1 ≤ 1073741824 := hh.2.2.1
              omega
            have hv : validF p = false := by
              rw [e, List.nil_append, List.singleton_append, validF, link_no hk, Bool.and_false]
            rw [endF, if_neg (by simp [hv])]
          · cases ht

/-- One segment is appended, in a region that draws its order. -/
theorem step_seg {ops : Array Oper} {o : Oper} {a : Act} {wr : World} {K : Act → World → Prop} {Q : Exit → Act → World → Prop} {E : Prop}
    (hg : o.guard = none) (s x : Operand) (hop : o.op = Op.call { callee := Callee.builtin Builtin.append, args := #[s, x], argTypes := #[34, 34] })
    (W : World) {v : Value} {l : List Sg} (r : Sg) {T : TypeId} {g : Nat} {cs : Array Value} (hs : a.eval s = v) (hx : a.eval x = .slice (some ⟨g, 0, none⟩) 1 1) (hgs : g = wr.heap.size) (hcs : cs.toList = sgC r)
    (ho : wr.ownsRow W.heap.size 41 4 v l.length (l.flatMap sgC)) (hb : Below W.heap.size W wr) (hn : l.length + 1 ≤ 1000000)
    (h : ∀ v' w', Grew W (wr.alloc (.cells cs T)) v (l ++ [r]) v' w' → K (a.put o.dst v') w') :
    if Region.wanted o (yielded ops a.tmps) = true then Oper.wp Tryd.prog o a (wr.alloc (.cells cs T)) K Q else E := by
  subst hgs
  have hw : Region.wanted o (yielded ops a.tmps) = true := by simp [Region.wanted, hg]
  rw [if_pos hw]
  obtain ⟨i0, hi, hz0, hz1, hz2⟩ := info_parts infoS
  have hc := cells_new wr cs T
  rw [hcs] at hc
  obtain ⟨v', w', hr, q2, q3, q4, q5⟩ := run_append_own_at (P := Tryd.prog) (wr.alloc (.cells cs T)) W.heap.size 34 o.type 41 i0 _ 4 32 Tryd.underlying34 hi hz0 hz1 hz2 rfl (by decide) v l.length (l.flatMap sgC) (ho.alloc _) ⟨wr.heap.size, 0, none⟩ 1 1 (sgC r) rfl hc (sg_one r) (by unfold maxLen; omega) (by omega) (by have := hb.size; simp; omega)
  have hbe : Below W.heap.size W w' := (hb.alloc hb.size _).grown q3 (by have := hb.size; simp; omega) (fun g hg => (ho.lt g hg).1)
  unfold Oper.wp execOp
  simp only [hop, resolve, invoke, builtin, Sem.run_bind, Sem.run_pure, Result.andThen_ok, List.map_toArray, List.map_cons, List.map_nil, hs, hx, hr]
  exact h v' w' ⟨by simpa [List.flatMap_append] using q2, hbe, q3, q5⟩

theorem kept_seg {w8 w9 : World} {lit : Obj} {row : Option Nat} {A B : Nat} {T : TypeId} {g1 g2 g3 g4 : Int} (hr : w8.heap[A]? = some (.cells #[.int .i64 g1, .int .i64 g2, .int .i64 g3, .int .i64 g4] T (0, 0))) (hg : (w8.drew.alloc lit).grownBy w9 row) (hB : B ≤ A) (hrow : ∀ g, row = some g → g < B) :
    w9.cell? ⟨A, 0, none⟩ = some (.int .i64 g1) ∧ w9.cell? ⟨A, 1, none⟩ = some (.int .i64 g2) ∧ w9.cell? ⟨A, 2, none⟩ = some (.int .i64 g3) ∧ w9.cell? ⟨A, 3, none⟩ = some (.int .i64 g4) := by
  have hl : A < w8.heap.size := (Array.getElem?_eq_some_iff.1 hr).1
  have h9 := (hg.block A (by have : (w8.drew.alloc lit).heap.size = w8.heap.size + 1 := by simp
                             omega) (fun e => by have := hrow A e.symm; omega)).trans ((Below.heap_alloc w8.drew lit A hl).trans hr)
  refine ⟨?_, ?_, ?_, ?_⟩
  all_goals
    rw [cell_of_row _ _ _ _ _ _ h9]
    rfl

/-- What holds at the head of the loop. -/
def PRel (els : List Elem) (way : List Stp) (R : Option (List Sg)) (W : World) (vp va vj : Value) (wr : World) : Prop :=
  ∃ (j : Nat) (acc : List Sg) (at_ : Int), vj = .int .i64 (j : Int) ∧ j ≤ way.length ∧ va = .int .i64 at_ ∧ R = totR els acc at_ (way.drop j) ∧ acc.length ≤ j ∧ wr.ownsRow W.heap.size 41 4 vp acc.length (acc.flatMap sgC) ∧ Below W.heap.size W wr

set_option maxRecDepth 100000 in
set_option maxHeartbeats 6400000 in
theorem of_any (L : Lay) {way : List Stp} {vs ve vj vg vb v : Value} (at_ : Int) (w : World) (h : LayAt (In w) w L vs ve vj vg vb) (hv : Grid (In w) w v 3 (way.map stCells)) (hd : RTab w) :
    Calls Tryd.prog 7 #[layV L vs ve vj vg vb, v, .int .i64 at_] w (SegOut (ofF L.els way at_) w) := by
  obtain ⟨a, cap, rfl, hm, hel⟩ := h.el
  have HE0 := Lib.hid hel
  obtain ⟨NE, hNE⟩ : ∃ N, L.els.length = N := ⟨_, rfl⟩
  have HNE := Lib.hid hNE
  obtain ⟨a2, cap2, rfl, hm2, _, _, hst⟩ := hv.shape
  rw [List.length_map] at hm2 ⊢
  have HST0 := Lib.hid hst
  obtain ⟨N, hN⟩ : ∃ N, way.length = N := ⟨_, rfl⟩
  have HN := Lib.hid hN
  obtain ⟨r, hr⟩ : ∃ r, ofF L.els way at_ = r := ⟨_, rfl⟩
  have HR := Lib.hid hr
  rw [hr]
  have hbel := (Below.refl w.heap.size w).alloc (Nat.le_refl _) (.cells #[.string (bs L.name), vs, .slice a NE cap, vj, vg, vb] 28)
  have hrow := heap_alloc_new w (.cells #[.string (bs L.name), vs, .slice a NE cap, vj, vg, vb] 28)
  obtain ⟨W, hW⟩ : ∃ W, w.alloc (.cells #[.string (bs L.name), vs, .slice a NE cap, vj, vg, vb] 28) = W := ⟨_, rfl⟩
  rw [hW] at hbel hrow
  unfold layV
  rw [hNE] at hm h ⊢
  rw [hN] at hm2 ⊢
  have hlt : w.heap.size < W.heap.size := (Array.getElem?_eq_some_iff.1 hrow).1
  have HW := Lib.hid hW
  have HBL := Lib.hid hbel
  have HLT := Lib.hid hlt
  have HH := Lib.hid h
  have HD := Lib.hid (rtab_next hd hbel)
  have HBOX : Hid (∀ w', Below W.heap.size W w' → w'.cell? ⟨w.heap.size, 0, none⟩ = some (.string (bs L.name)) ∧ w'.cell? ⟨w.heap.size, 1, none⟩ = some vs ∧ w'.cell? ⟨w.heap.size, 2, none⟩ = some (.slice a NE cap) ∧ w'.cell? ⟨w.heap.size, 3, none⟩ = some vj ∧ w'.cell? ⟨w.heap.size, 4, none⟩ = some vg ∧ w'.cell? ⟨w.heap.size, 5, none⟩ = some vb) := by
    refine Lib.hid (fun w' b => ⟨?_, ?_, ?_, ?_, ?_, ?_⟩)
    all_goals
      rw [cell_of_row _ _ _ _ _ _ ((b.block _ hlt).trans hrow)]
      rfl
  clear h hel hst hv hN hNE hr hW hbel hrow hlt hd
  by_cases hlong : 128 < N
  · have h1 : (128 : Int) < (N : Int) := by omega
    have HF : Hid (r = []) := by
      show _ = _
      rw [← HR.out, ofF, if_pos (by rw [HN.out]; exact hlong)]
    clear hlong
    go_enter Tryd.func7, Tryd.ntmps7
    go_wp2_with fail
    rw [HW.out]
    go_ret
    rw [HF.out]
    exact ⟨_, rfl, World.ownsRow_nil _ _ _ _, HBL.out⟩
  have h1 : ¬ (128 : Int) < (N : Int) := by omega
  obtain ⟨R, hRR⟩ : ∃ R, totR L.els [] at_ way = R := ⟨_, rfl⟩
  have HRR := Lib.hid hRR
  have HF : Hid (r = endF R) := by
    show _ = _
    rw [← HR.out, ofF, if_neg (by rw [HN.out]; exact hlong), hRR]
  have hn128 : N ≤ 128 := by omega
  clear hlong hRR
  go_enter Tryd.func7, Tryd.ntmps7
  go_wp2_with fail
  rw [HW.out]
  go_loopw [7, 8, 18] (fun vp va vk wr => PRel L.els way R W vp va vk wr) (fun _ _ vk _ => N - (RowKit.intOf vk).toNat)
  case atStart => exact ⟨0, [], at_, rfl, Nat.zero_le _, rfl, HRR.out.symm, Nat.le_refl _, World.ownsRow_nil _ _ _ _, Below.refl _ _⟩
  case round =>
    obtain ⟨j, acc, at1, rfl, hj, rfl, hrj, hal, ho, hb⟩ := hrel
    rw [HN.out] at hj
    have HB := Lib.hid hb
    have HO := Lib.hid ho
    have HJ := Lib.hid hrj
    have HAL := Lib.hid hal
    clear hb ho hrj hal
    by_cases hl : j < N
    · obtain ⟨s, hs⟩ := at_lt (l := way) (k := j) (by rw [HN.out]; exact hl)
      obtain ⟨b2, off2, rfl, hb2, hc2⟩ := HST0.out j (stCells s) (by rw [List.getElem?_map, hs]; rfl)
      have hb2r : b2 < wr.heap.size := Nat.lt_of_lt_of_le (Nat.lt_of_lt_of_le hb2 HBL.out.size) HB.out.size
      have hwr := HBL.out.trans (HB.out.mono HBL.out.size)
      have c0 := (hwr.cell (p := ⟨b2, off2 + j * 3, none⟩) hb2).trans (hc2 0 _ rfl)
      have c1 := (hwr.cell (p := ⟨b2, off2 + j * 3 + 1, none⟩) hb2).trans (hc2 1 _ rfl)
      have c2 := (hwr.cell (p := ⟨b2, off2 + j * 3 + 2, none⟩) hb2).trans (hc2 2 _ rfl)
      have HDR := Lib.hid (drop_at hs)
      have HPS := Lib.hid (fun w' (b : Below w.heap.size w w') (d : RTab w') => possible_of L s w' (HH.out.next b) d)
      have HSG := Lib.hid (fun x w' => segment_of x s at1 w')
      obtain ⟨q, hq⟩ : ∃ q, (needS L.els s).2 = q := ⟨_, rfl⟩
      rw [hq] at HPS
      have HQ := Lib.hid hq
      obtain ⟨x0, x1, x2, x3, x4, x5⟩ := HBOX.out wr HB.out
      have hltr : w.heap.size < wr.heap.size := Nat.lt_of_lt_of_le HLT.out HB.out.size
      obtain ⟨s1, s2, s3⟩ := s
      simp only at c0 c1 c2
      obtain ⟨V, hV⟩ : ∃ V, wr.alloc (.cells #[.int .i64 s1, .int .i64 s2, .int .i64 s3] 47) = V := ⟨_, rfl⟩
      have bV : Below wr.heap.size wr V := by rw [← hV]; exact (Below.refl _ _).alloc (Nat.le_refl _) _
      have rV : V.heap[wr.heap.size]? = some (.cells #[.int .i64 s1, .int .i64 s2, .int .i64 s3] 47 (0, 0)) := by rw [← hV]; exact heap_alloc_new wr _
      have HVV := Lib.hid hV
      have HBV := Lib.hid bV
      have HRV := Lib.hid rV
      have HBX := Lib.hid (bel_next HB.out bV)
      have HLV := Lib.hid (Array.getElem?_eq_some_iff.1 rV).1
      have HP := Lib.hid (HPS.out V (bel_next HBL.out HBX.out) (rtab_next HD.out HBX.out))
      unfold layV wyV at HP
      unfold wyV at HSG
      simp only at HP HSG
      clear hs hc2 hq hV bV rV hwr
      go_wp2_with fail
      rw [HVV.out]
      refine HP.out.mono ?_
      rintro e w5 ⟨rfl, hb5⟩
      have HB5 := Lib.hid (bel_next HBX.out hb5)
      have HO5 := Lib.hid (own_below HO.out (bel_next HBV.out hb5))
      have hr5 := (hb5.block _ HLV.out).trans HRV.out
      have HR5 := Lib.hid hr5
      have HL5 := Lib.hid (Nat.lt_of_lt_of_le HLV.out hb5.size)
      clear hb5 hr5 x0 x1 x2 x3 x4 x5 c0 c1 c2
      cases q with
      | false =>
        have HF2 : Hid (r = []) := by
          show _ = _
          rw [HF.out, HJ.out, HDR.out, tot_no HQ.out]
          rfl
        go_wp2_with fail
        go_ret
        rw [HF2.out]
        exact ⟨_, rfl, World.ownsRow_nil _ _ _ _, bel_next HBL.out HB5.out⟩
      | true =>
        have hin : inB L.els s1 = true := by
          cases hib : inB L.els s1 with
          | true => rfl
          | false =>
            have hqq := HQ.out
            rw [need_none (s := (s1, s2, s3)) hib] at hqq
            cases hqq
        obtain ⟨i, x, rfl, hi, hx, hox⟩ := el_some hin
        rw [HNE.out] at hi
        have HNX : Hid (R = totR L.els (acc ++ [segF x ((i : Int), s2, s3) at1]) (segF x ((i : Int), s2, s3) at1).2.1 (way.drop (j + 1))) := by
          show _ = _
          rw [HJ.out, HDR.out]
          exact tot_yes hox HQ.out
        have HS1 := Lib.hid (HSG.out x)
        obtain ⟨b, off, rfl, hblx⟩ : ∃ b off, a = some ⟨b, off, none⟩ ∧ b < w.heap.size := by
          obtain ⟨b, off, e, d0, _⟩ := HE0.out w (Below.refl _ _) i x hx
          exact ⟨b, off, e, World.block_lt_of_cell? w _ d0⟩
        have HECELL := Lib.hid (fun w' (bb : Below w.heap.size w w') => HE0.out w' bb i x hx)
        obtain ⟨g, hg⟩ : ∃ g, segF x ((i : Int), s2, s3) at1 = g := ⟨_, rfl⟩
        rw [hg] at HNX HS1
        obtain ⟨nm, kd, ln, gr, sp, sl, sc⟩ := x
        obtain ⟨g1, g2, g3, g4⟩ := g
        unfold elV OneOut sgV at HS1
        simp only at HS1 HECELL
        have HK : Hid (∀ w', Below w5.heap.size w5 w' → w'.cell? ⟨w.heap.size, 2, none⟩ = some (.slice (some ⟨b, off, none⟩) NE cap) ∧ w'.cell? ⟨wr.heap.size, 0, none⟩ = some (.int .i64 (i : Int)) ∧ w'.cell? ⟨wr.heap.size, 1, none⟩ = some (.int .i64 s2) ∧ w'.cell? ⟨wr.heap.size, 2, none⟩ = some (.int .i64 s3) ∧
            w'.cell? ⟨b, off + i * 7, none⟩ = some (.string (bs nm)) ∧ w'.cell? ⟨b, off + i * 7 + 1, none⟩ = some (.int .i64 kd) ∧ w'.cell? ⟨b, off + i * 7 + 2, none⟩ = some (.int .i64 ln) ∧ w'.cell? ⟨b, off + i * 7 + 3, none⟩ = some (.int .i64 gr) ∧ w'.cell? ⟨b, off + i * 7 + 4, none⟩ = some (.int .i64 sp) ∧ w'.cell? ⟨b, off + i * 7 + 5, none⟩ = some (.int .i64 sl) ∧ w'.cell? ⟨b, off + i * 7 + 6, none⟩ = some (.int .i64 sc)) := by
          refine Lib.hid (fun w' bb => ?_)
          have bw := bel_next HBL.out (bel_next HB5.out bb)
          obtain ⟨_, _, e', t0, t1, t2, t3, t4, t5, t6⟩ := HECELL.out w' bw
          cases e'
          have hrr := (bb.block _ HL5.out).trans HR5.out
          refine ⟨(HBOX.out w' (bel_next HB5.out bb)).2.2.1, ?_, ?_, ?_, t0, t1, t2, t3, t4, t5, t6⟩
          all_goals
            rw [cell_of_row _ _ _ _ _ _ hrr]
            rfl
        obtain ⟨p0, p1, p2, p3, p4, p5, p6, p7, p8, p9, p10⟩ := HK.out w5 (Below.refl _ _)
        have hiN : (i : Int) < (NE : Int) := by omega
        have hi0 : (0 : Int) ≤ (i : Int) := by omega
        clear hin hx hox hg HSG
        go_upto_region 10 with fail
        go_cut [11] (fun v11 wx => ∃ A, v11 = .pointer (some ⟨A, 0, none⟩) ∧ wx.heap[A]? = some (.cells #[.int .i64 g1, .int .i64 g2, .int .i64 g3, .int .i64 g4] 41 (0, 0)) ∧ Below w5.heap.size w5 wx ∧ w5.heap.size ≤ A)
        case first =>
          go_region_held3 (fun w' => w'.cell? ⟨w.heap.size, 2, none⟩ = some (.slice (some ⟨b, off, none⟩) NE cap) ∧ w'.cell? ⟨wr.heap.size, 0, none⟩ = some (.int .i64 (i : Int)) ∧ w'.cell? ⟨wr.heap.size, 1, none⟩ = some (.int .i64 s2) ∧ w'.cell? ⟨wr.heap.size, 2, none⟩ = some (.int .i64 s3) ∧
            w'.cell? ⟨b, off + i * 7, none⟩ = some (.string (bs nm)) ∧ w'.cell? ⟨b, off + i * 7 + 1, none⟩ = some (.int .i64 kd) ∧ w'.cell? ⟨b, off + i * 7 + 2, none⟩ = some (.int .i64 ln) ∧ w'.cell? ⟨b, off + i * 7 + 3, none⟩ = some (.int .i64 gr) ∧ w'.cell? ⟨b, off + i * 7 + 4, none⟩ = some (.int .i64 sp) ∧ w'.cell? ⟨b, off + i * 7 + 5, none⟩ = some (.int .i64 sl) ∧ w'.cell? ⟨b, off + i * 7 + 6, none⟩ = some (.int .i64 sc))
            (first
              | with_reducible exact HK.out _ E7.out
              | with_reducible exact HK.out _ (E7.out.alloc E7.out.size _)
              | with_reducible exact HK.out _ ((((E7.out.setCell (Nat.le_refl _) _).setCell (Nat.le_refl _) _).setCell (Nat.le_refl _) _).setCell (Nat.le_refl _) _)
              | with_reducible exact HK.out _ ((Below.refl w5.heap.size w5).alloc (Nat.le_refl _) _).drew
              | go_keep)
            (first
              | (go_at_call 21; (with_reducible refine (HS1.out _).mono ?_); rintro e w7 ⟨rfl, b7⟩; have E7 := Lib.hid ((Below.refl w5.heap.size w5).drew.trans (b7.mono (Below.refl w5.heap.size w5).drew.size)); clear b7)
              | (go_at_call 21; (with_reducible refine (HS1.out _).mono ?_); rintro e w7 ⟨rfl, b7⟩; have E7 := Lib.hid (((Below.refl w5.heap.size w5).alloc (Nat.le_refl _) (.cells #[.int .i64 0, .int .i64 0, .int .i64 0, .int .i64 0] 41)).drew.trans (b7.mono ((Below.refl w5.heap.size w5).alloc (Nat.le_refl _) (.cells #[.int .i64 0, .int .i64 0, .int .i64 0, .int .i64 0] 41)).drew.size)); have g3 := (b7.block w5.heap.size (by simp)).trans (heap_alloc_new w5 (.cells #[.int .i64 0, .int .i64 0, .int .i64 0, .int .i64 0] 41)); have G3 := Lib.hid g3; have HLT7 := (Array.getElem?_eq_some_iff.1 g3).1; have k4 := cell_of_row w7 _ 0 _ _ _ g3; have k5 := cell_of_row w7 _ 1 _ _ _ g3; have k6 := cell_of_row w7 _ 2 _ _ _ g3; have k7 := cell_of_row w7 _ 3 _ _ _ g3; have f4 := frozen_of_row w7 _ 0 _ _ g3; have f5 := frozen_of_row w7 _ 1 _ _ g3; have f6 := frozen_of_row w7 _ 2 _ _ g3; have f7 := frozen_of_row w7 _ 3 _ _ g3; clear b7 g3))
          · go_wp2_with fail
            go_meet
            exact ⟨_, rfl, heap_alloc_new w7 _, E7.out.alloc E7.out.size _, E7.out.size⟩
          · go_wp2_with fail
            go_meet
            exact ⟨_, rfl, (set_four G3.out).1, (set_four G3.out).2.2 _ _ E7.out (Nat.le_refl _), Nat.le_refl _⟩
        case rest =>
          obtain ⟨A, rfl, hrA, hbc, hA5⟩ := hcut
          obtain ⟨w8, hw8⟩ : ∃ W, W = wc := ⟨_, rfl⟩
          subst hw8
          have HRA := Lib.hid hrA
          have HLA := (Array.getElem?_eq_some_iff.1 hrA).1
          have HA5 := Lib.hid hA5
          have HB8 := Lib.hid (bel_next HB5.out hbc)
          have HO8 := Lib.hid (own_below HO5.out hbc)
          have HKA : Hid (∀ w', Below w8.heap.size w8 w' → w'.cell? ⟨A, 0, none⟩ = some (.int .i64 g1) ∧ w'.cell? ⟨A, 1, none⟩ = some (.int .i64 g2) ∧ w'.cell? ⟨A, 2, none⟩ = some (.int .i64 g3) ∧ w'.cell? ⟨A, 3, none⟩ = some (.int .i64 g4)) := by
            refine Lib.hid (fun w' bb => ⟨?_, ?_, ?_, ?_⟩)
            all_goals
              rw [cell_of_row _ _ _ _ _ _ ((bb.block _ HLA).trans hrA)]
              rfl
          obtain ⟨m0, m1, m2, m3⟩ := HKA.out w8 (Below.refl _ _)
          have BZ := Lib.hid ((Below.refl w8.heap.size w8).drew.alloc (Nat.le_refl _) (.cells #[.int .i64 g1, .int .i64 g2, .int .i64 g3, .int .i64 g4] 41))
          have HRB := Lib.hid (fun g hg => (HO5.out.lt g hg).2)
          clear hrA hbc p0 p1 p2 p3 p4 p5 p6 p7 p8 p9 p10 hA5
          go_wp2_with fail
          go_region_held3 (fun w' => w'.cell? ⟨A, 0, none⟩ = some (.int .i64 g1) ∧ w'.cell? ⟨A, 1, none⟩ = some (.int .i64 g2) ∧ w'.cell? ⟨A, 2, none⟩ = some (.int .i64 g3) ∧ w'.cell? ⟨A, 3, none⟩ = some (.int .i64 g4))
            (first
              | with_reducible exact KA9.out
              | with_reducible exact HKA.out _ BZ.out
              | go_keep)
            (first
              | (refine step_seg rfl (.tmp 35) (.tmp 37) rfl W (g1, g2, g3, g4) rfl rfl (by simp) rfl HO8.out.drew HB8.out.drew (by have := HAL.out; omega) ?_; rintro v9 w9 ⟨h9, b9, gr9, -⟩; have R9 := Lib.hid h9; have B9 := Lib.hid b9; have KA9 := Lib.hid (kept_seg HRA.out gr9 HA5.out HRB.out); clear h9 b9 gr9))
          go_wp2_with fail
          go_roundw
          case rel => exact ⟨j + 1, acc ++ [(g1, g2, g3, g4)], g2, by simp, by rw [HN.out]; omega, rfl, HNX.out, by rw [List.length_append, List.length_singleton]; have := HAL.out; omega, R9.out, B9.out⟩
          case measure => simp [RowKit.intOf]; omega
    · have he : j = N := by omega
      subst he
      have HRF : Hid (R = some acc) := by
        show _ = _
        rw [HJ.out, List.drop_of_length_le (by rw [HN.out]; exact Nat.le_refl _)]
        rfl
      have HV := Lib.hid (pvalid_any (grid_in (grid_of_own HO.out)))
      obtain ⟨A1, C1, rfl⟩ := own_shape HO.out
      have HO2 := Lib.hid (show wr.ownsRow W.heap.size 41 4 (.slice A1 acc.length C1) acc.length (acc.flatMap sgC) from HO.out)
      obtain ⟨q, hq⟩ : ∃ q, validF acc = q := ⟨_, rfl⟩
      rw [hq] at HV
      have HQ := Lib.hid hq
      clear hq HO
      obtain ⟨M, hM⟩ : ∃ M, acc.length = M := ⟨_, rfl⟩
      rw [hM] at HV HO2 ⊢
      have HM := Lib.hid hM
      clear hM
      go_wp2_with fail
      refine HV.out.mono ?_
      rintro e w6 ⟨rfl, b6⟩
      have HO6 := Lib.hid (own_below HO2.out b6)
      have B6 := Lib.hid (bel_next HBL.out (bel_next HB.out b6))
      clear b6
      cases q with
      | false =>
        have HF2 : Hid (r = []) := by
          show _ = _
          rw [HF.out, HRF.out, endF, if_neg (by simp [HQ.out])]
        go_wp2_with fail
        go_ret
        rw [HF2.out]
        exact ⟨_, rfl, World.ownsRow_nil _ _ _ _, B6.out⟩
      | true =>
        have HF2 : Hid (r = acc) := by
          show _ = _
          rw [HF.out, HRF.out, endF, if_pos HQ.out]
        go_wp2_with fail
        go_ret
        rw [HF2.out]
        exact ⟨_, rfl, by have := own_mono HO6.out HBL.out.size; rw [HM.out]; exact this, B6.out⟩

end Go.Proofs.YtkoldgammeojkaaDoor.Poo
