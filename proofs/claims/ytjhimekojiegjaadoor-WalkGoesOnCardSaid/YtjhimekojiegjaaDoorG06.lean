/- Texts of this proof, merged: Wcon, Wsim, Wval, Wpbr, Wple, Intq, Wsec. -/
import Derived.Test.YtjhimekojiegjaaDoorG05
import Derived.Test.YtjhimekojiegjaaDoorG04
import Derived.Test.YtjhimekojiegjaaDoorG01
import Derived.Test.YtjhimekojiegjaaDoorProg
import Derived.Outline
import Derived.Lib.Hide
import Derived.Deep.DeepFit

/- slices.ContainsFunc at a way's steps; the program's isPossible, isSimple (walk). -/
namespace Go.Proofs.YtjhimekojiegjaaDoor.Wcon
open Go.RowKit Go.Lib Go.Proofs.YtjhimekojiegjaaDoor.Reads Go.Proofs.YtjhimekojiegjaaDoor.Rows2 Go.Proofs.YtjhimekojiegjaaDoor.Lay Go.Proofs.YtjhimekojiegjaaDoor.Layf Go.Proofs.YtjhimekojiegjaaDoor.Ldup Go.Proofs.YtjhimekojiegjaaDoor.Lext Go.Proofs.YtjhimekojiegjaaDoor.Ljoi Go.Proofs.YtjhimekojiegjaaDoor.Lnmd Go.Proofs.YtjhimekojiegjaaDoor.Way Go.Proofs.YtjhimekojiegjaaDoor.Wrf Go.Proofs.YtjhimekojiegjaaDoor.Wlst Go.Proofs.YtjhimekojiegjaaDoor.Wbra Go.Proofs.YtjhimekojiegjaaDoor.Wmea Go.Proofs.YtjhimekojiegjaaDoor.Wele
open Go.Proofs.YtjhimekojiegjaaDoor.Rtab (RTab rtab_next)
open Go.Proofs.YtjhimekojiegjaaDoor.Text hiding lineL joinR
open Go.Proofs.YtjhimekojiegjaaDoor.Wsam (trips_shape)

set_option maxRecDepth 100000 in
theorem index_empty (a : Option Addr) (c : Nat) (fv : Value) (w : World) :
    Calls Tryd.prog 78 #[.slice a 0 c, fv] w fun e w' => e = .returned (.int .i64 (-1)) ∧ w' = w := by
  go_enter Tryd.func78, Tryd.ntmps78
  go_wp2_with fail
  go_loopw [8] (fun vj wr => vj = .int .i64 0 ∧ wr = w) (fun _ _ => 0)
  case atStart => exact ⟨rfl, rfl⟩
  case round =>
    obtain ⟨rfl, rfl⟩ := hrel
    go_wp2_with fail
    go_ret
    exact ⟨rfl, rfl⟩
set_option maxRecDepth 100000 in
theorem contains_empty (a : Option Addr) (c : Nat) (fv : Value) (w : World) :
    Calls Tryd.prog 60 #[.slice a 0 c, fv] w fun e w' => e = .returned (.bool false) ∧ w' = w := by
  have HI := Lib.hid (index_empty a c fv w)
  go_enter Tryd.func60, Tryd.ntmps60
  go_wp2_with fail
  refine HI.out.mono ?_
  rintro e w1 ⟨rfl, rfl⟩
  go_wp2_with fail
  go_ret
  exact ⟨rfl, rfl⟩

theorem contains_any {way : List Stp} {p : Stp → Bool} {g : Nat} {lb : Array Value} {v : Value} {w : World} (eg : ∀ args w, Sem.run Tryd.prog (callFunc g args) w = .ok (.enter g args) w) (h : Grid (In w) w v 3 (way.map stCells))
    (hp : PredBelow Tryd.prog g lb (fun x => .agg (stCells x).toArray) p w) :
    Calls Tryd.prog 60 #[v, .func (.func g) #[] lb] w (BoolOut (way.any p) w) := by
  by_cases h0 : way = []
  · subst h0
    obtain ⟨a, cap, rfl, _, _⟩ := trips_shape h
    exact (contains_empty a cap _ w).mono fun _ _ ⟨he, hw⟩ => ⟨he, by rw [hw]; exact Below.refl _ _⟩
  · obtain ⟨a, cap, rfl, hm, hc⟩ := trips_shape h
    have hlen : 0 < way.length := by
      cases way with
      | nil => exact absurd rfl h0
      | cons x r => simp
    obtain ⟨x0, hx0⟩ := at_lt hlen
    obtain ⟨b, off, rfl, hb, _⟩ := hc 0 x0 hx0
    have hcon := AnyQ.slices_ContainsFunc Tryd.layCF 3 (Tryd.isAgg30) (Tryd.sizeOf30) stCells (fun _ => rfl) p g lb eg b off way.length cap way w hp (Nat.le_refl _) (by omega) hb (fun j hj i v hi => by
      obtain ⟨x, hx⟩ := at_lt hj
      have e : way[j]! = x := by
        rw [getElem!_pos way j hj]
        exact (List.getElem?_eq_some_iff.1 hx).2
      rw [e] at hi
      obtain ⟨_, _, e', _, c0, c1, c2⟩ := hc j x hx
      cases e'
      match i, hi with
      | 0, hi => cases hi; exact c0
      | 1, hi => cases hi; exact c1
      | 2, hi => cases hi; exact c2
      | i + 3, hi => simp [stCells] at hi)
    rw [List.take_length] at hcon
    exact hcon

set_option maxRecDepth 100000 in
set_option maxHeartbeats 800000 in
/-- The closure of isPossible: a step that is not possible. -/
theorem pred_need (L : Lay) (B : Nat) {vs ve vj vg vb : Value} {w : World} (h : LayAt (In w) w L vs ve vj vg vb) (hX : LBox B w L vs ve vj vg vb) (hB : B < w.heap.size) (hd : RTab w) :
    PredBelow Tryd.prog 61 #[.pointer (some ⟨B, 0, none⟩)] (fun x => .agg (stCells x).toArray) (fun s => !(needS L.els s).2) w := fun W s hb => by
  have h2 := h.next hb
  have hX2 := hX.next hb hB
  have hd2 := rtab_next hd hb
  have hB2 : B < W.heap.size := Nat.lt_of_lt_of_le hB hb.size
  have b1 := (Below.refl W.heap.size W).alloc (Nat.le_refl _) (.cells #[.int .i64 s.1, .int .i64 s.2.1, .int .i64 s.2.2] 30)
  have HN := Lib.hid (pneed_any L s _ (h2.next b1) (rtab_next hd2 b1))
  obtain ⟨s1, s2, s3⟩ := s
  have HB := Lib.hid hb
  have B1 := Lib.hid b1
  obtain ⟨a0, a1, a2, a3, a4, a5⟩ := hX2
  obtain ⟨⟨r1, r2⟩, hr⟩ : ∃ r, needS L.els (s1, s2, s3) = r := ⟨_, rfl⟩
  show Calls _ _ #[.agg #[.int .i64 s1, .int .i64 s2, .int .i64 s3], .pointer (some ⟨B, 0, none⟩)] W (fun e w' => e = .returned (.bool (!(needS L.els (s1, s2, s3)).2)) ∧ Below w.heap.size w w')
  rw [hr]
  rw [hr] at HN
  unfold layV stV NumB at HN
  simp only at HN B1
  clear h hX hd h2 hd2 hb b1 hr hB
  go_enter Tryd.func61, Tryd.ntmps61
  go_wp2_with fail
  refine HN.out.mono ?_
  rintro e w1 ⟨rfl, b2⟩
  have B2 := Lib.hid b2
  clear b2
  go_wp2_with fail
  go_ret
  exact ⟨rfl, bel_next HB.out (bel_next B1.out B2.out)⟩

set_option maxRecDepth 100000 in
set_option maxHeartbeats 800000 in
theorem ppossible_any (L : Lay) {way : List Stp} {vs ve vj vg vb v : Value} (w : World) (h : LayAt (In w) w L vs ve vj vg vb) (hv : Grid (In w) w v 3 (way.map stCells)) (hd : RTab w) :
    Calls Tryd.prog 39 #[layV L vs ve vj vg vb, v] w (BoolOut (!(way.any fun s => !(needS L.els s).2)) w) := by
  have b1 := (Below.refl w.heap.size w).alloc (Nat.le_refl _) (.cells #[.string (bs L.name), vs, ve, vj, vg, vb] 28)
  have HC := Lib.hid (contains_any (g := 61) (enters_of Tryd.func61 (by kernel_rfl) rfl) (hv.keep (keep_next b1)) (pred_need L w.heap.size (h.next b1) (lbox_new w 28 L vs ve vj vg vb) (by simp) (rtab_next hd b1)))
  have B1 := Lib.hid b1
  obtain ⟨r, hr⟩ : ∃ r, (way.any fun s => !(needS L.els s).2) = r := ⟨_, rfl⟩
  rw [hr] at HC ⊢
  have hmf : ∀ (fn : Fn) (first cap : Array Value) (w : World), (Instr.makeFunc fn first cap).run Tryd.prog w = .ok (.func fn first cap) w := fun _ _ _ _ => rfl
  unfold layV
  clear h hv hd b1 hr
  go_enter Tryd.func39, Tryd.ntmps39
  go_wp2_with fail
  refine HC.out.mono ?_
  rintro e w1 ⟨rfl, b2⟩
  have B2 := Lib.hid b2
  clear b2
  go_wp2_with fail
  go_ret
  exact ⟨rfl, bel_next B1.out B2.out⟩

end Go.Proofs.YtjhimekojiegjaaDoor.Wcon

/- The program's isSimple (walk). -/
namespace Go.Proofs.YtjhimekojiegjaaDoor.Wsim
open Go.RowKit Go.Lib Go.Proofs.YtjhimekojiegjaaDoor.Reads Go.Proofs.YtjhimekojiegjaaDoor.Rows2 Go.Proofs.YtjhimekojiegjaaDoor.Lay Go.Proofs.YtjhimekojiegjaaDoor.Layf Go.Proofs.YtjhimekojiegjaaDoor.Ldup Go.Proofs.YtjhimekojiegjaaDoor.Lext Go.Proofs.YtjhimekojiegjaaDoor.Ljoi Go.Proofs.YtjhimekojiegjaaDoor.Lnmd Go.Proofs.YtjhimekojiegjaaDoor.Way Go.Proofs.YtjhimekojiegjaaDoor.Wrf Go.Proofs.YtjhimekojiegjaaDoor.Wlst Go.Proofs.YtjhimekojiegjaaDoor.Wbra Go.Proofs.YtjhimekojiegjaaDoor.Wmea Go.Proofs.YtjhimekojiegjaaDoor.Wele Go.Proofs.YtjhimekojiegjaaDoor.Wcon
open Go.Proofs.YtjhimekojiegjaaDoor.Text hiding lineL joinR

/-- No element occurs twice, these having been seen. -/
def simR (bef : List Stp) : List Stp → Bool
  | [] => true
  | s :: r => !(bef.any fun x => decide (x.1 = s.1)) && simR (bef ++ [s]) r

theorem grid_take {ok : Nat → Prop} {w : World} {a : Option Addr} {n cap sz k : Nat} {rows : List (List Value)} (h : Grid ok w (.slice a n cap) sz rows) (hk : k ≤ n) : Grid ok w (.slice a k cap) sz (rows.take k) := by
  obtain ⟨a', cap', he, h1, h2, h3⟩ := h
  simp only [Value.slice.injEq] at he
  obtain ⟨rfl, rfl, rfl⟩ := he
  have e : (rows.take k).length = k := by rw [List.length_take]; omega
  refine ⟨a, cap, by rw [e], by omega, h2, ?_⟩
  rcases h3 with rfl | ⟨b, off, rfl, hb, hc⟩
  · exact .inl (by simp)
  · exact .inr ⟨b, off, rfl, hb, fun i r hr j x hx => hc i r (by
      rw [List.getElem?_take] at hr
      split at hr
      · exact hr
      · cases hr) j x hx⟩

set_option maxRecDepth 100000 in
set_option maxHeartbeats 800000 in
/-- The closure of isSimple: a step over this element. -/
theorem pred_same (s1 : Int) (B : Nat) {w : World} (hB : B < w.heap.size) (hc : w.cell? ⟨B, 0, none⟩ = some (.int .i64 s1)) :
    PredBelow Tryd.prog 62 #[.pointer (some ⟨B, 0, none⟩)] (fun x => .agg (stCells x).toArray) (fun x => decide (x.1 = s1)) w := fun W s hb => by
  have g0 := (hb.cell (p := ⟨B, 0, none⟩) hB).trans hc
  have hB2 : B < W.heap.size := Nat.lt_of_lt_of_le hB hb.size
  obtain ⟨x1, x2, x3⟩ := s
  have HB := Lib.hid (hb.alloc hb.size (.cells #[.int .i64 x1, .int .i64 x2, .int .i64 x3] 30))
  show Calls _ _ #[.agg #[.int .i64 x1, .int .i64 x2, .int .i64 x3], .pointer (some ⟨B, 0, none⟩)] W (fun e w' => e = .returned (.bool (decide (x1 = s1))) ∧ Below w.heap.size w w')
  clear hb hc hB
  by_cases h : x1 = s1
  · subst h
    go_enter Tryd.func62, Tryd.ntmps62
    go_wp2_with fail
    go_ret
    exact ⟨by simp, HB.out⟩
  · have hq : (x1 == s1) = false := by simpa using h
    rw [decide_eq_false h]
    clear h
    go_enter Tryd.func62, Tryd.ntmps62
    go_wp2_with fail
    go_ret
    exact ⟨rfl, HB.out⟩

set_option maxRecDepth 100000 in
set_option maxHeartbeats 1600000 in
theorem psimple_any {way : List Stp} {v : Value} (w : World) (h : Grid (In w) w v 3 (way.map stCells)) :
    Calls Tryd.prog 41 #[v] w (BoolOut (simR [] way) w) := by
  have HG := Lib.hid h
  obtain ⟨a, cap, rfl, hm, hc⟩ := way_cells h
  have hcap : way.length ≤ cap := by
    obtain ⟨_, _, he, h2, _, _⟩ := h
    simp only [Value.slice.injEq] at he
    obtain ⟨_, _, rfl⟩ := he
    rwa [List.length_map] at h2
  have HC := Lib.hid hc
  obtain ⟨r, hr⟩ : ∃ r, simR [] way = r := ⟨_, rfl⟩
  rw [hr]
  have HR := Lib.hid (show simR (way.take 0) (way.drop 0) = r from hr)
  have hmf : ∀ (fn : Fn) (first cap : Array Value) (w : World), (Instr.makeFunc fn first cap).run Tryd.prog w = .ok (.func fn first cap) w := fun _ _ _ _ => rfl
  clear h hc hr
  go_enter Tryd.func41, Tryd.ntmps41
  go_wp2_with fail
  go_loopw [7] (fun vj wr => ∃ j : Nat, vj = .int .i64 (j : Int) ∧ j ≤ way.length ∧ simR (way.take j) (way.drop j) = r ∧ Below w.heap.size w wr) (fun vj _ => way.length - (RowKit.intOf vj).toNat)
  case atStart => exact ⟨0, rfl, Nat.zero_le _, HR.out, Below.refl _ _⟩
  case round =>
    obtain ⟨j, rfl, hj, hr, hb⟩ := hrel
    have HJ := Lib.hid hr
    have HB := Lib.hid hb
    clear hr hb
    by_cases hlt : j < way.length
    · obtain ⟨x, hx⟩ := at_lt hlt
      rw [Layf.drop_at hx, simR, ← take_next hx] at HJ
      obtain ⟨b, off, rfl, hbl, c0, c1, c2⟩ := HC.out wr HB.out j x hx
      obtain ⟨x1, x2, x3⟩ := x
      simp only at c0 c1 c2 HJ
      have b1 := (Below.refl wr.heap.size wr).alloc (Nat.le_refl _) (.cells #[.int .i64 x1, .int .i64 x2, .int .i64 x3] 30)
      have b2 := bel_next HB.out b1
      have HW := Lib.hid (contains_any (g := 62) (enters_of Tryd.func62 (by kernel_rfl) rfl) (by rw [List.map_take]; exact grid_take (HG.out.keep (keep_next b2)) hj) (pred_same x1 wr.heap.size (w := wr.alloc (.cells #[.int .i64 x1, .int .i64 x2, .int .i64 x3] 30)) (by simp) (by rw [World.cell?_alloc_at _ _ _ _ rfl]; rfl)))
      obtain ⟨q, hq⟩ : ∃ q, ((way.take j).any fun x => decide (x.1 = x1)) = q := ⟨_, rfl⟩
      rw [hq] at HJ HW
      have B2 := Lib.hid b2
      clear b1 b2 hx hq
      go_wp2_with fail
      refine HW.out.mono ?_
      rintro e w1 ⟨rfl, b3⟩
      have B3 := Lib.hid (bel_next B2.out b3)
      clear b3
      cases q with
      | true =>
        have HF := Lib.hid (show r = false by rw [← HJ.out]; rfl)
        go_wp2_with fail
        go_ret
        exact ⟨by rw [HF.out]; rfl, B3.out⟩
      | false =>
        go_wp2_with fail
        go_roundw
        case rel => exact ⟨j + 1, by simp, by omega, HJ.out, B3.out⟩
        case measure => simp [RowKit.intOf]; omega
    · have he : j = way.length := by omega
      subst he
      have HF := Lib.hid (show r = true by rw [← HJ.out, List.drop_length]; rfl)
      go_wp2_with fail
      go_ret
      exact ⟨by rw [HF.out]; rfl, HB.out⟩

end Go.Proofs.YtjhimekojiegjaaDoor.Wsim

/- The program's Valid (walk). -/
namespace Go.Proofs.YtjhimekojiegjaaDoor.Wval
open Go.RowKit Go.Lib Go.Proofs.YtjhimekojiegjaaDoor.Reads Go.Proofs.YtjhimekojiegjaaDoor.Rows2 Go.Proofs.YtjhimekojiegjaaDoor.Lay Go.Proofs.YtjhimekojiegjaaDoor.Layf Go.Proofs.YtjhimekojiegjaaDoor.Ldup Go.Proofs.YtjhimekojiegjaaDoor.Lext Go.Proofs.YtjhimekojiegjaaDoor.Ljoi Go.Proofs.YtjhimekojiegjaaDoor.Lnmd Go.Proofs.YtjhimekojiegjaaDoor.Way Go.Proofs.YtjhimekojiegjaaDoor.Wrf Go.Proofs.YtjhimekojiegjaaDoor.Wmea Go.Proofs.YtjhimekojiegjaaDoor.Wele Go.Proofs.YtjhimekojiegjaaDoor.Wcon Go.Proofs.YtjhimekojiegjaaDoor.Wcnn Go.Proofs.YtjhimekojiegjaaDoor.Wsim
open Go.Proofs.YtjhimekojiegjaaDoor.Rtab (RTab rtab_next)
open Go.Proofs.YtjhimekojiegjaaDoor.Text hiding lineL joinR

theorem goes_parts (L : Lay) : ∀ (way bef : List Stp), goesR L bef way = (!(way.any fun s => !(needS L.els s).2) && ((match bef.getLast? with | none => conF L way | some p => conR L p way) && simR bef way))
  | [], bef => by
    cases h : bef.getLast? <;> simp [goesR, conF, conR, simR]
  | s :: r, bef => by
    rw [goesR, goes_parts L r (bef ++ [s]), List.getLast?_append]
    simp only [List.getLast?_singleton, Option.some_or, goesB, List.any_cons, simR, Bool.not_or, Bool.not_not]
    have e : (bef.all fun p => decide (p.1 ≠ s.1)) = !(bef.any fun x => decide (x.1 = s.1)) := by
      induction bef with
      | nil => rfl
      | cons y t ih => simp only [List.all_cons, List.any_cons, Bool.not_or, ih]; congr 1; simp
    rw [e]
    cases h : bef.getLast? with
    | none =>
      simp only [conF, Bool.true_and]
      generalize (needS L.els s).2 = x1
      generalize (!(r.any fun s => !(needS L.els s).2)) = x2
      generalize (!(bef.any fun x => decide (x.1 = s.1))) = x3
      generalize conR L s r = x4
      generalize simR (bef ++ [s]) r = x5
      cases x1 <;> cases x2 <;> cases x3 <;> cases x4 <;> rfl
    | some p =>
      simp only [conR]
      generalize (needS L.els s).2 = x1
      generalize (!(r.any fun s => !(needS L.els s).2)) = x2
      generalize (!(bef.any fun x => decide (x.1 = s.1))) = x3
      generalize conR L s r = x4
      generalize simR (bef ++ [s]) r = x5
      generalize decide (nextS L p = ((s.1, s.2.1), true)) = x6
      cases x1 <;> cases x2 <;> cases x3 <;> cases x4 <;> cases x6 <;> rfl
theorem valid_parts (L : Lay) (way : List Stp) : validF L way = (decide (1 ≤ way.length) && (decide (way.length ≤ 64) && (!(way.any fun s => !(needS L.els s).2) && (conF L way && simR [] way)))) := by
  rw [validF, goes_parts]
  simp only [List.getLast?_nil, ← Bool.and_assoc]
  simp only [Bool.decide_and]

set_option maxRecDepth 100000 in
set_option maxHeartbeats 1600000 in
theorem pvalid_any (L : Lay) {way : List Stp} {vs ve vj vg vb v : Value} (w : World) (h : LayAt (In w) w L vs ve vj vg vb) (hv : Grid (In w) w v 3 (way.map stCells)) (hd : RTab w) :
    Calls Tryd.prog 16 #[layV L vs ve vj vg vb, v] w (BoolOut (validF L way) w) := by
  rw [valid_parts]
  obtain ⟨q1, hq1⟩ : ∃ q, (!(way.any fun s => !(needS L.els s).2)) = q := ⟨_, rfl⟩
  obtain ⟨q2, hq2⟩ : ∃ q, conF L way = q := ⟨_, rfl⟩
  obtain ⟨q3, hq3⟩ : ∃ q, simR [] way = q := ⟨_, rfl⟩
  rw [hq1, hq2, hq3]
  have HQ1 := Lib.hid hq1
  have HQ2 := Lib.hid hq2
  have HQ3 := Lib.hid hq3
  clear hq1 hq2 hq3
  have b0 := (Below.refl w.heap.size w).alloc (Nat.le_refl _) (.cells #[.string (bs L.name), vs, ve, vj, vg, vb] 28)
  have HH := h.next b0
  have HV := hv.keep (keep_next b0)
  have HD := rtab_next hd b0
  have HX := lbox_new w 28 L vs ve vj vg vb
  have hlt0 : w.heap.size < (w.alloc (.cells #[.string (bs L.name), vs, ve, vj, vg, vb] 28)).heap.size := by simp
  have hshape := way_cells hv
  obtain ⟨a, cap, rfl, hm, _⟩ := hshape
  clear h hv hd
  unfold layV
  by_cases h1 : 1 ≤ way.length
  · have d1 : decide ((1 : Int) ≤ (way.length : Int)) = true := by simp; omega
    by_cases h2 : way.length ≤ 64
    · have d2 : decide ((way.length : Int) ≤ 64) = true := by simp; omega
      rw [decide_eq_true h1, decide_eq_true h2]
      go_enter Tryd.func16, Tryd.ntmps16
      go_wp2_with fail
      obtain ⟨W, hW⟩ : ∃ W, w.alloc (.cells #[.string (bs L.name), vs, ve, vj, vg, vb] 28) = W := ⟨_, rfl⟩
      rw [hW] at b0 HH HV HD HX hlt0 ⊢
      clear hW
      have B0 := Lib.hid b0
      have C1 := Lib.hid (ppossible_any L W HH HV HD)
      unfold layV at C1
      rw [HQ1.out] at C1
      have C2 := Lib.hid (fun w' (b : Below W.heap.size W w') => pconnected_any L w' (HH.next b) (HV.keep (keep_next b)))
      have C3 := Lib.hid (fun w' (b : Below W.heap.size W w') => psimple_any w' (HV.keep (keep_next b)))
      rw [HQ2.out] at C2
      rw [HQ3.out] at C3
      have HL := Lib.hid HX
      unfold layV at C2
      clear HH HV HD b0 HX
      obtain ⟨a0, a1, a2, a3, a4, a5⟩ := HL.out
      go_wp2_with fail
      refine C1.out.mono ?_
      rintro e w1 ⟨rfl, b1⟩
      have B1 := Lib.hid b1
      cases q1 with
      | false =>
        clear b1
        go_wp2_with fail
        go_ret
        exact ⟨rfl, bel_next B0.out B1.out⟩
      | true =>
        clear a0 a1 a2 a3 a4 a5
        obtain ⟨a0, a1, a2, a3, a4, a5⟩ := HL.out.next b1 hlt0
        have hlt1 := Nat.lt_of_lt_of_le hlt0 b1.size
        clear b1
        go_wp2_with fail
        refine (C2.out _ B1.out).mono ?_
        rintro e w2 ⟨rfl, b2⟩
        have B2 := Lib.hid (bel_next B1.out b2)
        clear b2
        cases q2 with
        | false =>
          go_wp2_with fail
          go_ret
          exact ⟨rfl, bel_next B0.out B2.out⟩
        | true =>
          go_wp2_with fail
          refine (C3.out _ B2.out).mono ?_
          rintro e w3 ⟨rfl, b3⟩
          have B3 := Lib.hid (bel_next B2.out b3)
          clear b3
          go_wp2_with fail
          go_ret
          exact ⟨rfl, bel_next B0.out B3.out⟩
    · have d2 : decide ((way.length : Int) ≤ 64) = false := by simp; omega
      rw [decide_eq_true h1, decide_eq_false h2]
      go_enter Tryd.func16, Tryd.ntmps16
      go_wp2_with fail
      go_ret
      exact ⟨rfl, b0⟩
  · have d1 : decide ((1 : Int) ≤ (way.length : Int)) = false := by simp; omega
    rw [decide_eq_false h1]
    go_enter Tryd.func16, Tryd.ntmps16
    go_wp2_with fail
    go_ret
    exact ⟨rfl, b0⟩

end Go.Proofs.YtjhimekojiegjaaDoor.Wval

/- The program's Branches (walk). -/
namespace Go.Proofs.YtjhimekojiegjaaDoor.Wpbr
open Go.RowKit Go.Lib Go.Proofs.YtjhimekojiegjaaDoor.Reads Go.Proofs.YtjhimekojiegjaaDoor.Rows2 Go.Proofs.YtjhimekojiegjaaDoor.Lay Go.Proofs.YtjhimekojiegjaaDoor.Layf Go.Proofs.YtjhimekojiegjaaDoor.Ldup Go.Proofs.YtjhimekojiegjaaDoor.Lext Go.Proofs.YtjhimekojiegjaaDoor.Ljoi Go.Proofs.YtjhimekojiegjaaDoor.Lnmd Go.Proofs.YtjhimekojiegjaaDoor.Way Go.Proofs.YtjhimekojiegjaaDoor.Wrf Go.Proofs.YtjhimekojiegjaaDoor.Wlst Go.Proofs.YtjhimekojiegjaaDoor.Wbra Go.Proofs.YtjhimekojiegjaaDoor.Wmea Go.Proofs.YtjhimekojiegjaaDoor.Wele
open Go.Proofs.YtjhimekojiegjaaDoor.Rtab (RTab rtab_next)
open Go.Proofs.YtjhimekojiegjaaDoor.Text hiding lineL joinR
open Go.Proofs.YtjhimekojiegjaaDoor.Rail (needF legsF)

set_option maxRecDepth 100000 in
set_option maxHeartbeats 3200000 in
theorem pbranches_any (L : Lay) (p : Int × Int) {vs ve vj vg vb : Value} (w : World) (h : LayAt (In w) w L vs ve vj vg vb) (hd : RTab w) :
    Calls Tryd.prog 14 #[layV L vs ve vj vg vb, pV p] w (MadeOut stCells 3 (branchesF L p) w) := by
  obtain ⟨s1, s2⟩ := p
  have X := two_boxes w #[.string (bs L.name), vs, ve, vj, vg, vb] #[.int .i64 s1, .int .i64 s2] 28 32
  have H0 := h.next X.2.2.2
  have D0 := rtab_next hd X.2.2.2
  have HG := Lib.hid (legsG L (s1, s2))
  clear h hd
  unfold layV pV
  go_enter Tryd.func14, Tryd.ntmps14
  go_wp2_with fail
  obtain ⟨W, hW⟩ : ∃ W, (w.alloc (.cells #[.string (bs L.name), vs, ve, vj, vg, vb] 28)).alloc (.cells #[.int .i64 s1, .int .i64 s2] 32) = W := ⟨_, rfl⟩
  rw [hW] at X H0 D0 ⊢
  clear hW
  obtain ⟨x1, x2, xs, xb⟩ := X
  have B0 := Lib.hid xb
  have hX : LBox w.heap.size W L vs ve vj vg vb := ⟨x1 0, x1 1, x1 2, x1 3, x1 4, x1 5⟩
  have hY : W.cell? ⟨w.heap.size + 1, 0, none⟩ = some (.int .i64 s1) ∧ W.cell? ⟨w.heap.size + 1, 1, none⟩ = some (.int .i64 s2) := ⟨x2 0, x2 1⟩
  have hlt0 : w.heap.size < W.heap.size := by omega
  have hlt1 : w.heap.size + 1 < W.heap.size := by omega
  have HK := Lib.hid (fun (w' : World) (b : Below W.heap.size W w') => (⟨(b.cell (p := ⟨w.heap.size, 0, none⟩) hlt0).trans hX.1, (b.cell (p := ⟨w.heap.size, 1, none⟩) hlt0).trans hX.2.1, (b.cell (p := ⟨w.heap.size, 2, none⟩) hlt0).trans hX.2.2.1, (b.cell (p := ⟨w.heap.size, 3, none⟩) hlt0).trans hX.2.2.2.1, (b.cell (p := ⟨w.heap.size, 4, none⟩) hlt0).trans hX.2.2.2.2.1, (b.cell (p := ⟨w.heap.size, 5, none⟩) hlt0).trans hX.2.2.2.2.2, (b.cell (p := ⟨w.heap.size + 1, 0, none⟩) hlt1).trans hY.1, (b.cell (p := ⟨w.heap.size + 1, 1, none⟩) hlt1).trans hY.2⟩ :
    w'.cell? ⟨w.heap.size, 0, none⟩ = some (.string (bs L.name)) ∧ w'.cell? ⟨w.heap.size, 1, none⟩ = some vs ∧ w'.cell? ⟨w.heap.size, 2, none⟩ = some ve ∧ w'.cell? ⟨w.heap.size, 3, none⟩ = some vj ∧ w'.cell? ⟨w.heap.size, 4, none⟩ = some vg ∧ w'.cell? ⟨w.heap.size, 5, none⟩ = some vb ∧ w'.cell? ⟨w.heap.size + 1, 0, none⟩ = some (.int .i64 s1) ∧ w'.cell? ⟨w.heap.size + 1, 1, none⟩ = some (.int .i64 s2)))
  obtain ⟨a0, a1, a2, a3, a4, a5, q0, q1⟩ := HK.out _ (Below.refl _ _)
  have C1 := Lib.hid (pelement_any L s1 W.drew (H0.next (Below.refl W.heap.size W).drew))
  obtain ⟨⟨nm, kd, ln, gr, sp, sl, sc⟩, hx⟩ : ∃ x, elG L.els s1 = x := ⟨_, rfl⟩
  try simp only at HG
  rw [hx] at C1 HG
  try simp only at HG
  have C2 := Lib.hid (fun w' (b : Below W.heap.size W w') => Rlegs.legs_any kd s2 w' (rtab_next D0 b))
  obtain ⟨l, hl⟩ : ∃ l, legsF kd s2 = l := ⟨_, rfl⟩
  have hl4 : l.length ≤ 2 := by rw [← hl]; exact legs_few _ _
  rw [hl] at C2 HG
  unfold layV at C1
  have hfd := fun w => field_kind (bs nm) kd ln gr sp sl sc w
  clear H0 D0 x1 x2 xs xb hx hl hX hY
  go_wp2_with fail
  go_region_held3 (fun w' => w'.cell? ⟨w.heap.size, 0, none⟩ = some (.string (bs L.name)) ∧ w'.cell? ⟨w.heap.size, 1, none⟩ = some vs ∧ w'.cell? ⟨w.heap.size, 2, none⟩ = some ve ∧ w'.cell? ⟨w.heap.size, 3, none⟩ = some vj ∧ w'.cell? ⟨w.heap.size, 4, none⟩ = some vg ∧ w'.cell? ⟨w.heap.size, 5, none⟩ = some vb ∧ w'.cell? ⟨w.heap.size + 1, 0, none⟩ = some (.int .i64 s1) ∧ w'.cell? ⟨w.heap.size + 1, 1, none⟩ = some (.int .i64 s2))
    (first
      | with_reducible exact HK.out _ E4.out
      | with_reducible exact HK.out _ E1.out
      | go_keep)
    (first
      | (go_at_call 36; refine C1.out.mono ?_; rintro e w1 ⟨rfl, b1⟩; have E1 := Lib.hid (bel_drew b1); clear b1; unfold eV; try simp only)
      | (go_at_call 35; refine (C2.out _ E1.out).mono ?_; rintro e w4 ⟨v4, rfl, r4, b4⟩; obtain ⟨A4, N4, rfl, hm4, hr4⟩ := ints_shape r4; have HR4 := Lib.hid hr4; have E4 := Lib.hid (bel_next E1.out b4); clear b4 r4 hr4))
  have HRD := Lib.hid (fun (wr : World) (hb : Below w4.heap.size w4 wr) (k : Nat) (x : Int) (hx : l[k]? = some x) => (match HR4.out k x hx with | ⟨b, off, e, hb2, hc⟩ => ⟨b, off, e, (hb.cell (p := ⟨b, off + k, none⟩) hb2).trans hc⟩ : ∃ b off, A4 = some ⟨b, off, none⟩ ∧ wr.cell? ⟨b, off + k, none⟩ = some (.int .i64 x)))
  have BW := Lib.hid (bel_next B0.out E4.out)
  have YY := Lib.hid (fun (wr : World) (hb : Below w4.heap.size w4 wr) => HK.out wr (bel_next E4.out hb))
  have hlw : w.heap.size + 1 < w4.heap.size := Nat.lt_of_lt_of_le hlt1 E4.out.size
  obtain ⟨i0, hi0, hz0, hz1, hz2⟩ := info_parts infoT
  have HI0 := Lib.hid hi0
  have HZ0 := Lib.hid hz0
  have HZ1 := Lib.hid hz1
  have HZ2 := Lib.hid hz2
  clear hi0 hz0 hz1 hz2 a0 a1 a2 a3 a4 a5 q0 q1 hlt0 hlt1 HR4 E4 E1 hfd
  go_wp2_with fail
  go_loopw [5, 17] (fun vout vj wr => BRel (fun o => (s1, s2, o)) l w4 vout vj wr) (fun _ vj _ => l.length - (RowKit.intOf vj).toNat)
  case atStart => exact ⟨0, rfl, Nat.zero_le _, World.ownsRow_nil _ _ _ _, Below.refl _ _⟩
  case round =>
    obtain ⟨j, rfl, hj, ho, hb⟩ := hrel
    have HO := Lib.hid ho
    have HB := Lib.hid hb
    obtain ⟨_, _, _, _, _, _, y0, y1⟩ := YY.out wr hb
    have hlt1 : w.heap.size + 1 < wr.heap.size := Nat.lt_of_lt_of_le hlw hb.size
    clear ho hb
    by_cases hlt : j < l.length
    · obtain ⟨x, hx⟩ := at_lt hlt
      obtain ⟨b5, off5, rfl, c5⟩ := HRD.out wr HB.out j x hx
      have HTK := Lib.hid (take_next hx)
      have hn : ((l.take j).map fun o => ((s1, s2, o) : Stp)).length ≤ 2 := by rw [List.length_map, List.length_take]; omega
      have HNL := Lib.hid hn
      clear hx hn
      go_wp2_with (at_builtin; refine wp_append_row rfl (.tmp 21) (.tmp 28) 38 rfl w4 30 i0 (.agg #[.int .i64 0, .int .i64 0, .int .i64 0]) 3 24 Tryd.underlying38 HI0.out HZ0.out HZ1.out HZ2.out rfl (by decide) stCells st_len st_one (s1, s2, x) rfl rfl (by simp) rfl HO.out HB.out (by have := HNL.out; omega) (by have := HNL.out; unfold maxLen; omega) ?_; intro v5 w5 o5 f5; have O5 := Lib.hid o5; have F5 := Lib.hid f5; clear o5 f5)
      go_roundw
      case rel => exact ⟨j + 1, by simp, hlt, by rw [HTK.out, List.map_append]; exact O5.out, F5.out⟩
      case measure => simp [RowKit.intOf]; omega
    · have he : j = l.length := by omega
      subst he
      go_wp2_with fail
      go_ret
      rw [HG.out]
      have ho := HO.out
      rw [List.take_length] at ho
      exact made_own stCells st_len BW.out ho HB.out

end Go.Proofs.YtjhimekojiegjaaDoor.Wpbr

/- The program's Length (walk). -/
namespace Go.Proofs.YtjhimekojiegjaaDoor.Wple
open Go.RowKit Go.Lib Go.Proofs.YtjhimekojiegjaaDoor.Reads Go.Proofs.YtjhimekojiegjaaDoor.Rows2 Go.Proofs.YtjhimekojiegjaaDoor.Lay Go.Proofs.YtjhimekojiegjaaDoor.Layf Go.Proofs.YtjhimekojiegjaaDoor.Ldup Go.Proofs.YtjhimekojiegjaaDoor.Lext Go.Proofs.YtjhimekojiegjaaDoor.Lnmd Go.Proofs.YtjhimekojiegjaaDoor.Way Go.Proofs.YtjhimekojiegjaaDoor.Wrf Go.Proofs.YtjhimekojiegjaaDoor.Wmea Go.Proofs.YtjhimekojiegjaaDoor.Wele
open Go.Proofs.YtjhimekojiegjaaDoor.Text hiding lineL joinR

set_option maxRecDepth 100000 in
set_option maxHeartbeats 3200000 in
theorem plength_any (L : Lay) {way : List Stp} {vs ve vj vg vb v : Value} (w : World) (h : LayAt (In w) w L vs ve vj vg vb) (hv : Grid (In w) w v 3 (way.map stCells)) (hn : way.length ≤ 1000) (hle : ∀ x ∈ L.els, 0 ≤ x.len ∧ x.len ≤ 1000000) :
    Calls Tryd.prog 18 #[layV L vs ve vj vg vb, v] w (NumOut (lengthF L.els way) w) := by
  obtain ⟨a2, cap2, rfl, hm2, _⟩ := way_cells hv
  obtain ⟨r, hr⟩ : ∃ r, lengthF L.els way = r := ⟨_, rfl⟩
  rw [hr]
  have HR := Lib.hid (show lenR L.els 0 (way.drop 0) = r by rw [List.drop_zero]; exact hr)
  have HLB := Lib.hid (fun s => len_bound hle s)
  have b0 := (Below.refl w.heap.size w).alloc (Nat.le_refl _) (.cells #[.string (bs L.name), vs, ve, vj, vg, vb] 28)
  have HH := Lib.hid (h.next b0)
  have HV := Lib.hid (hv.keep (keep_next b0))
  have B0 := Lib.hid b0
  have HX := Lib.hid (lbox_new w 28 L vs ve vj vg vb)
  have HS0 : Hid (w.heap.size < (w.alloc (.cells #[.string (bs L.name), vs, ve, vj, vg, vb] 28)).heap.size) := by simp [Hid]
  clear h hv hr hle b0
  unfold layV
  go_enter Tryd.func18, Tryd.ntmps18
  go_wp2_with fail
  obtain ⟨W, hW⟩ : ∃ W, w.alloc (.cells #[.string (bs L.name), vs, ve, vj, vg, vb] 28) = W := ⟨_, rfl⟩
  rw [hW] at B0 HH HX HS0 HV ⊢
  clear hW
  obtain ⟨_, _, he, _, hcw⟩ := way_cells HV.out
  cases he
  have HC := Lib.hid hcw
  clear hcw
  go_loopw [5, 10] (fun vn vj2 wr => NRel L way r W vn vj2 wr) (fun _ vj2 _ => way.length - (RowKit.intOf vj2).toNat)
  case atStart => exact ⟨0, 0, rfl, rfl, Nat.zero_le _, HR.out, by omega, by omega, Below.refl _ _⟩
  case round =>
    obtain ⟨j, n, rfl, rfl, hj, hr, hn0, hn1, hb⟩ := hrel
    have HJ := Lib.hid hr
    have HB := Lib.hid hb
    clear hr hb
    by_cases hlt : j < way.length
    · obtain ⟨x, hx⟩ := at_lt hlt
      rw [Layf.drop_at hx, lenR] at HJ
      obtain ⟨b, off, rfl, hbl, c0, c1, c2⟩ := HC.out wr HB.out j x hx
      obtain ⟨l0, l1⟩ := HLB.out x
      rw [← lenG] at HJ l0 l1
      obtain ⟨s1, s2, s3⟩ := x
      simp only at c0 c1 c2 HJ l0 l1
      have b1 := HB.out.alloc HB.out.size (.cells #[.int .i64 s1, .int .i64 s2, .int .i64 s3] 30)
      obtain ⟨a0, a1, a2, a3, a4, a5⟩ := HX.out.next HB.out HS0.out
      have hlt0 : w.heap.size < wr.heap.size := Nat.lt_of_lt_of_le HS0.out HB.out.size
      have C1 := Lib.hid (pelement_any L s1 _ (HH.out.next b1))
      obtain ⟨⟨nm, kd, ln, gr, sp, sl, sc⟩, hel⟩ : ∃ x, elG L.els s1 = x := ⟨_, rfl⟩
      rw [hel] at C1 HJ l0 l1
      simp only at HJ l0 l1
      unfold layV ElemOut eV at C1
      try simp only at C1
      have hfd := fun w => field_len (bs nm) kd ln gr sp sl sc w
      have B1 := Lib.hid b1
      clear hx b1 hel
      go_wp2_with fail
      refine C1.out.mono ?_
      rintro e w1 ⟨rfl, b2⟩
      have B2 := Lib.hid (bel_next B1.out b2)
      clear b2
      go_wp2_with fail
      go_roundw
      case rel => exact ⟨j + 1, n + ln, by simp, by simp, by omega, HJ.out, by omega, by omega, B2.out⟩
      case measure => simp [RowKit.intOf]; omega
    · have he : j = way.length := by omega
      subst he
      have HF := Lib.hid (show n = r by rw [← HJ.out, List.drop_length]; rfl)
      go_wp2_with fail
      go_ret
      exact ⟨by rw [HF.out]; rfl, bel_next B0.out HB.out⟩

end Go.Proofs.YtjhimekojiegjaaDoor.Wple

/- Slices of ints that are read: plain helpers, and the statements' 'same'. -/
namespace Go.Proofs.YtjhimekojiegjaaDoor.Ints
open Go.RowKit Go.Sort Go.Proofs.YtjhimekojiegjaaDoor.Reads

theorem getD_mem {xs : List Int} {k : Nat} (h : k < xs.length) : xs.getD k 0 ∈ xs := by
  have : xs.getD k 0 = xs[k] := by simp [List.getD_eq_getElem?_getD, h]
  rw [this]; exact List.getElem_mem h
theorem take_snoc {xs : List Int} {k : Nat} (h : k < xs.length) : xs.take (k + 1) = xs.take k ++ [xs.getD k 0] := by
  have : xs.getD k 0 = xs[k] := by simp [List.getD_eq_getElem?_getD, h]
  rw [List.take_succ_eq_append_getElem h, this]
theorem take_all (xs : List Int) : xs.take xs.length = xs := List.take_of_length_le (Nat.le_refl _)
theorem rcell {B : Nat} {w : World} {a : Option Addr} {n cap : Nat} {xs : List Int} (h : Reads B w (.slice a n cap) xs) :
    n = xs.length ∧ ∀ k, k < xs.length → ∃ b off, a = some ⟨b, off, none⟩ ∧ b < B ∧ w.cell? ⟨b, off + k, none⟩ = some (.int .i64 (xs.getD k 0)) := by
  obtain ⟨a', cap', h1, h2, h3, h4, h5⟩ := h
  cases h1
  refine ⟨rfl, fun k hk => ?_⟩
  rcases h5 with rfl | ⟨b, off, rfl, hb, hc⟩
  · cases hk
  · exact ⟨b, off, rfl, hb, hc k hk⟩
theorem rshape {B : Nat} {w : World} {v : Value} {xs : List Int} (h : Reads B w v xs) : ∃ a cap, v = .slice a xs.length cap ∧ (xs.length : Int) ≤ 9223372036854775807 := by
  have hm := h.len
  obtain ⟨a, cap, h1, _⟩ := h
  exact ⟨a, cap, h1, by unfold maxLen at hm; omega⟩

theorem next {W w' : World} {v : Value} {xs : List Int} (R : Reads W.heap.size W v xs) (hb : Below W.heap.size W w') : Reads w'.heap.size w' v xs := (R.below (Nat.le_refl _) hb).mono hb.size
theorem next_alloc {W : World} {v : Value} {xs : List Int} (R : Reads W.heap.size W v xs) (o : Obj) : Reads (W.alloc o).heap.size (W.alloc o) v xs := next R ((Below.refl _ _).alloc (Nat.le_refl _) o)
theorem bel_next {w W w' : World} (h : Below w.heap.size w W) (hb : Below W.heap.size W w') : Below w.heap.size w w' := h.trans (hb.mono h.size)
theorem bel_alloc {w W : World} (h : Below w.heap.size w W) (o : Obj) : Below w.heap.size w (W.alloc o) := h.alloc h.size o

/-- A literal slice. -/
theorem reads_lit (xs : List Int) {cs : Array Value} {T blk n : Nat} {w : World} (hb : blk = w.heap.size) (hcs : cs = (xs.map (Value.int .i64)).toArray) (hn : n = xs.length) (hm : n ≤ maxLen) (hw : ∀ n ∈ xs, (Lit.int .i64 n).wf = true) :
    Reads (w.alloc (.cells cs T)).heap.size (w.alloc (.cells cs T)) (.slice (some ⟨blk, 0, none⟩) n n) xs := by
  subst hb hn hcs
  refine reads_mk xs (by simp) (Nat.le_refl _) hm hw fun j hj => ?_
  rw [World.cell?_alloc_at _ _ _ _ rfl]
  simp [hj, List.getD_eq_getElem?_getD]

theorem ret_bool {a b : Bool} (h : a = b) : Ending.returned (.bool a) = .returned (.bool b) := by rw [h]

def sameB (xs ys : List Int) : Bool := decide (xs = ys)
theorem same_step {xs ys : List Int} {k : Nat} (hx : k < xs.length) (hy : k < ys.length) (h : xs.take k = ys.take k) (he : xs.getD k 0 = ys.getD k 0) : xs.take (k + 1) = ys.take (k + 1) := by
  rw [take_snoc hx, take_snoc hy, h, he]
theorem same_no {xs ys : List Int} {k : Nat} (he : xs.getD k 0 ≠ ys.getD k 0) : sameB xs ys = false := by
  unfold sameB
  exact decide_eq_false (fun e => he (by rw [e]))

theorem same_any {va vb : Value} {xs ys : List Int} {w : World} (h : Reads w.heap.size w va xs) (hy : Reads w.heap.size w vb ys) :
    Calls Tryd.prog 20 #[va, vb] w fun e w' => e = .returned (.bool (sameB xs ys)) ∧ Below w.heap.size w w' := by
  obtain ⟨a, cap, rfl, hm⟩ := rshape h
  obtain ⟨a2, cap2, rfl, hm2⟩ := rshape hy
  have HC := Lib.hid (rcell h).2
  have HC2 := Lib.hid (rcell hy).2
  clear h hy
  by_cases hlen : xs.length = ys.length
  · have HLEN := Lib.hid hlen
    rw [hlen] at hm ⊢
    clear hlen
    have hq : ((ys.length : Int) != (ys.length : Int)) = false := by simp
    go_enter Tryd.func20, Tryd.ntmps20
    go_wp2
    go_loopw [5] (fun vi wr => ∃ k : Nat, k ≤ ys.length ∧ vi = .int .i64 k ∧ xs.take k = ys.take k ∧ Below w.heap.size w wr) (fun vi _ => ys.length - (Go.RowKit.intOf vi).toNat)
    case atStart => exact ⟨0, Nat.zero_le _, rfl, rfl, Below.refl _ _⟩
    case round =>
      obtain ⟨k, hk, rfl, ht, hbel⟩ := hrel
      have HT := Lib.hid ht
      have HB := Lib.hid hbel
      clear ht hbel
      by_cases hlt : k < ys.length
      · obtain ⟨b, off, rfl, hb, hc0⟩ := HC.out k (by rw [HLEN.out]; exact hlt)
        obtain ⟨b2, off2, rfl, hb2, hc2⟩ := HC2.out k hlt
        obtain ⟨x, hx⟩ : ∃ x, xs.getD k 0 = x := ⟨_, rfl⟩
        obtain ⟨y, hy⟩ : ∃ y, ys.getD k 0 = y := ⟨_, rfl⟩
        have g1 : wr.cell? ⟨b, off + k, none⟩ = some (.int .i64 x) := by rw [← hx]; exact (HB.out.cell hb).trans hc0
        have g2 : wr.cell? ⟨b2, off2 + k, none⟩ = some (.int .i64 y) := by rw [← hy]; exact (HB.out.cell hb2).trans hc2
        have HX := Lib.hid hx
        have HY := Lib.hid hy
        clear hx hy hc0 hc2 hb hb2
        by_cases hxy : x = y
        · subst hxy
          have HS := Lib.hid (same_step (by rw [HLEN.out]; exact hlt) hlt HT.out (HX.out.trans HY.out.symm))
          have hqq : (x != x) = false := by simp
          go_wp2
          go_quiet (fail)
          go_wp2
          go_roundw
          case rel => exact ⟨k + 1, by omega, by go_num, HS.out, below_drewN HB.out _⟩
          case measure => simp [Go.RowKit.intOf]; omega
        · have HS := Lib.hid (same_no (k := k) (xs := xs) (ys := ys) (by rw [HX.out, HY.out]; exact hxy))
          have hqq : (x != y) = true := by simpa using hxy
          clear hxy
          go_wp2
          go_quiet (fail)
          go_wp2
          go_ret
          exact ⟨by rw [HS.out]; rfl, below_drewN HB.out _⟩
      · obtain rfl : k = ys.length := by omega
        have HS := Lib.hid (show sameB xs ys = true by
          have := HT.out
          rw [take_all, ← HLEN.out, take_all] at this
          simpa [sameB] using this)
        go_wp2
        go_ret
        exact ⟨by rw [HS.out]; rfl, HB.out⟩
  · have HS := Lib.hid (show sameB xs ys = false by unfold sameB; exact decide_eq_false (fun e => hlen (by rw [e])))
    have hq : ((xs.length : Int) != (ys.length : Int)) = true := by simp; omega
    clear hlen
    go_enter Tryd.func20, Tryd.ntmps20
    go_wp2
    go_ret
    exact ⟨by rw [HS.out]; rfl, Below.refl _ _⟩


end Go.Proofs.YtjhimekojiegjaaDoor.Ints

/- The call of the reference's Sections (walk). -/
namespace Go.Proofs.YtjhimekojiegjaaDoor.Wsec
open Go.RowKit Go.Lib Go.Proofs.YtjhimekojiegjaaDoor.Reads Go.Proofs.YtjhimekojiegjaaDoor.Rows2 Go.Proofs.YtjhimekojiegjaaDoor.Lay Go.Proofs.YtjhimekojiegjaaDoor.Layf Go.Proofs.YtjhimekojiegjaaDoor.Ldup Go.Proofs.YtjhimekojiegjaaDoor.Lext Go.Proofs.YtjhimekojiegjaaDoor.Lnmd Go.Proofs.YtjhimekojiegjaaDoor.Way Go.Proofs.YtjhimekojiegjaaDoor.Wrf Go.Proofs.YtjhimekojiegjaaDoor.Wlst Go.Proofs.YtjhimekojiegjaaDoor.Wbra Go.Proofs.YtjhimekojiegjaaDoor.Wmea
open Go.Proofs.YtjhimekojiegjaaDoor.Text hiding lineL joinR
open Go.Proofs.YtjhimekojiegjaaDoor.Lmem (ListOut)

theorem flat_ints (l : List Int) : l.flatMap iCells = l.map (Value.int .i64) := by
  induction l with
  | nil => rfl
  | cons x l ih => rw [List.flatMap_cons, ih]; rfl
theorem sec_none {els : List Elem} {acc : List Int} {s : Stp} {r : List Stp} (h : inB els s.1 = false) : secR els acc (s :: r) = secR els acc r := by rw [secR, el_none h]
theorem sec_in {els : List Elem} {acc : List Int} {s : Stp} {r : List Stp} {x : Elem} (h : elOf els s.1 = some x) (hc : acc.contains x.sec = true) : secR els acc (s :: r) = secR els acc r := by rw [secR, h]; simp only [hc, if_true]
theorem sec_new {els : List Elem} {acc : List Int} {s : Stp} {r : List Stp} {x : Elem} (h : elOf els s.1 = some x) (hc : acc.contains x.sec = false) : secR els acc (s :: r) = secR els (acc ++ [x.sec]) r := by rw [secR, h]; simp only [hc, Bool.false_eq_true, if_false]

/-- What holds at the head of the loop of Sections. -/
def SRel (L : Lay) (way : List Stp) (r : List Int) (W : World) (vout vj : Value) (wr : World) : Prop :=
  ∃ (j : Nat) (acc : List Int), vj = .int .i64 (j : Int) ∧ j ≤ way.length ∧ secR L.els acc (way.drop j) = r ∧ acc.length ≤ j ∧ (∀ x ∈ acc, (Lit.int .i64 x).wf = true) ∧ wr.ownsRow W.heap.size 3 1 vout acc.length (acc.flatMap iCells) ∧ Below W.heap.size W wr

set_option maxRecDepth 100000 in
set_option maxHeartbeats 3200000 in
theorem wsections_any (L : Lay) {way : List Stp} {vs ve vj vg vb v : Value} (w : World) (h : LayAt (In w) w L vs ve vj vg vb) (hv : Grid (In w) w v 3 (way.map stCells)) (hn : way.length ≤ 1000) :
    Calls Tryd.prog 22 #[layV L vs ve vj vg vb, v] w (ListOut (sectionsF L.els way) w) := by
  obtain ⟨a, cap, rfl, hm, _⟩ := h.el
  obtain ⟨a2, cap2, rfl, hm2, _⟩ := way_cells hv
  obtain ⟨r, hr⟩ : ∃ r, sectionsF L.els way = r := ⟨_, rfl⟩
  rw [hr]
  have HR := Lib.hid (show secR L.els [] (way.drop 0) = r by rw [List.drop_zero]; exact hr)
  have HEW := Lib.hid h.ewf
  have b0 := (Below.refl w.heap.size w).alloc (Nat.le_refl _) (.cells #[.string (bs L.name), vs, .slice a L.els.length cap, vj, vg, vb] 28)
  have HH := Lib.hid (h.next b0)
  have HV := Lib.hid (hv.keep (keep_next b0))
  have B0 := Lib.hid b0
  have HX := Lib.hid (lbox_new w 28 L vs (.slice a L.els.length cap) vj vg vb)
  have HS0 : Hid (w.heap.size < (w.alloc (.cells #[.string (bs L.name), vs, .slice a L.els.length cap, vj, vg, vb] 28)).heap.size) := by simp [Hid]
  obtain ⟨i0, hi0, hz0, hz1, hz2⟩ := info_parts infoI
  have HI0 := Lib.hid hi0
  have HZ0 := Lib.hid hz0
  have HZ1 := Lib.hid hz1
  have HZ2 := Lib.hid hz2
  clear hi0 hz0 hz1 hz2
  clear h hv hr b0
  unfold layV
  go_enter Tryd.func22, Tryd.ntmps22
  go_wp2_with fail
  obtain ⟨W, hW⟩ : ∃ W, w.alloc (.cells #[.string (bs L.name), vs, .slice a L.els.length cap, vj, vg, vb] 28) = W := ⟨_, rfl⟩
  rw [hW] at B0 HH HX HS0 HV ⊢
  clear hW
  obtain ⟨_, _, he, _, hel⟩ := HH.out.el
  cases he
  have HE := Lib.hid hel
  obtain ⟨_, _, he, _, hcw⟩ := way_cells HV.out
  cases he
  have HC := Lib.hid hcw
  clear hel hcw
  go_loopw [5, 6] (fun vout vj wr => SRel L way r W vout vj wr) (fun _ vj _ => way.length - (RowKit.intOf vj).toNat)
  case atStart => exact ⟨0, [], rfl, Nat.zero_le _, HR.out, Nat.le_refl _, by simp, World.ownsRow_nil _ _ _ _, Below.refl _ _⟩
  case round =>
    obtain ⟨j, acc, rfl, hj, hr, ha, hw, ho, hb⟩ := hrel
    have HJ := Lib.hid hr
    have HA := Lib.hid ha
    have HW := Lib.hid hw
    have HO := Lib.hid ho
    have HB := Lib.hid hb
    clear hr ha hw ho hb
    have ho2 := HO.out
    rw [flat_ints] at ho2
    have hrd := reads_own ho2 HW.out (Nat.le_refl _)
    clear ho2
    by_cases hlt : j < way.length
    · obtain ⟨x, hx⟩ := at_lt hlt
      rw [Layf.drop_at hx] at HJ
      obtain ⟨x0, x1, x2, x3, x4, x5⟩ := HX.out.next HB.out HS0.out
      obtain ⟨b, off, rfl, hbl, c0, c1, c2⟩ := HC.out wr HB.out j x hx
      have HCX := Lib.hid hx
      obtain ⟨s1, s2, s3⟩ := x
      simp only at c0 c1 c2
      have hlt0 : w.heap.size < wr.heap.size := Nat.lt_of_lt_of_le HS0.out HB.out.size
      have hbl2 : b < wr.heap.size := Nat.lt_of_lt_of_le hbl HB.out.size
      have k0 := cell_regrown x0
      have k1 := cell_regrown x1
      have k2 := cell_regrown x2
      have k3 := cell_regrown x3
      have k4 := cell_regrown x4
      have k5 := cell_regrown x5
      have k6 := cell_regrown c0
      have C1 := Lib.hid (fun d os => Calls.regrown_of (w := wr) (d := d) (os := os) (wexists_any L s1 _ (HH.out.next (bel_next HB.out (below_regrown wr d os)))))
      unfold layV at C1
      clear hx x0 x1 x2 x3 x4 x5 c0 c1 c2
      cases hq : inB L.els s1 with
      | false =>
        rw [hq] at C1
        have HF := Lib.hid (show secR L.els acc (way.drop (j + 1)) = r by rw [← HJ.out, sec_none hq])
        clear hq hrd
        go_wp2_with fail
        refine wp_region_quiet_below (by kernel_rfl) (by kernel_rfl) ?_
        repeat (go_big_quiet_step (with_reducible exact C1.out _ _))
        refine wpQuiet_nil ?_
        intro _ hw'
        obtain ⟨⟨dq, osq⟩, hw''⟩ := hw'
        subst hw''
        have B6 := Lib.hid (bel_next HB.out (below_regrown wr dq osq))
        have HO6 := Lib.hid (Lele.own_below HO.out (below_regrown wr dq osq))
        go_wp2_with fail
        go_roundw
        case rel => exact ⟨j + 1, acc, by simp, hlt, HF.out, Nat.le_succ_of_le HA.out, HW.out, HO6.out, B6.out⟩
        case measure => simp [RowKit.intOf]; omega
      | true =>
        rw [hq] at C1
        obtain ⟨i, y, rfl, hi, hy, hel⟩ := el_some hq
        have HSI := Lib.hid (fun hc => sec_in (els := L.els) (acc := acc) (s := ((i : Int), s2, s3)) (r := way.drop (j + 1)) hel hc)
        have HSN := Lib.hid (fun hc => sec_new (els := L.els) (acc := acc) (s := ((i : Int), s2, s3)) (r := way.drop (j + 1)) hel hc)
        obtain ⟨b9, off9, rfl, d0, d1, d2, d3, d4, d5, d6⟩ := HE.out _ HB.out i y hy
        have hl9 := block_lt_of_cell d0
        have hyw : (Lit.int .i64 y.sec).wf = true := (HEW.out y (List.mem_of_getElem? hy)).2.2.2.2.2
        have HYW := Lib.hid hyw
        have HY := Lib.hid hy
        have k7 := cell_regrown d6
        obtain ⟨nm, kd, ln, gr, sp, sl, sc⟩ := y
        simp only at k7 HSI HSN HYW
        have C2 := Lib.hid (fun d os => Calls.regrown_of (w := wr) (d := d) (os := os) (whas_any (l := acc) sc (Ints.next hrd (below_regrown wr d os))))
        clear hq hel hy d0 d1 d2 d3 d4 d5 d6 hrd hyw
        cases hc : acc.contains sc with
        | true =>
          rw [hc] at C2
          have HF := Lib.hid (show secR L.els acc (way.drop (j + 1)) = r by rw [← HJ.out, HSI.out hc])
          clear hc
          go_wp2_with fail
          refine wp_region_quiet_below (by kernel_rfl) (by kernel_rfl) ?_
          repeat (go_big_quiet_step (first | with_reducible exact C1.out _ _ | with_reducible exact C2.out _ _))
          refine wpQuiet_nil ?_
          intro _ hw'
          obtain ⟨⟨dq, osq⟩, hw''⟩ := hw'
          subst hw''
          have B6 := Lib.hid (bel_next HB.out (below_regrown wr dq osq))
          have HO6 := Lib.hid (Lele.own_below HO.out (below_regrown wr dq osq))
          go_wp2_with fail
          go_roundw
          case rel => exact ⟨j + 1, acc, by simp, hlt, HF.out, Nat.le_succ_of_le HA.out, HW.out, HO6.out, B6.out⟩
          case measure => simp [RowKit.intOf]; omega
        | false =>
          rw [hc] at C2
          have HF := Lib.hid (show secR L.els (acc ++ [sc]) (way.drop (j + 1)) = r by rw [← HJ.out, HSN.out hc])
          clear hc
          go_wp2_with fail
          refine wp_region_quiet_below (by kernel_rfl) (by kernel_rfl) ?_
          repeat (go_big_quiet_step (first | with_reducible exact C1.out _ _ | with_reducible exact C2.out _ _))
          refine wpQuiet_nil ?_
          intro w6 hw'
          obtain ⟨⟨dq, osq⟩, hw''⟩ := hw'
          have b6 : Below wr.heap.size wr w6 := by
            rw [hw'']
            exact below_regrown wr dq osq
          have HO6 := Lib.hid (Lele.own_below HO.out b6)
          have B6 := Lib.hid (bel_next HB.out b6)
          have HK : Hid (∀ w', Below W.heap.size W w' → w'.cell? ⟨w.heap.size, 2, none⟩ = some (.slice (some ⟨b9, off9, none⟩) L.els.length cap) ∧ w'.cell? ⟨b, off + j * 3, none⟩ = some (.int .i64 (i : Int)) ∧ w'.cell? ⟨b9, off9 + i * 7 + 6, none⟩ = some (.int .i64 sc)) := fun w' b' => by
            obtain ⟨_, _, x2, _, _, _⟩ := HX.out.next b' HS0.out
            obtain ⟨_, _, e', _, c0, _, _⟩ := HC.out w' b' j _ HCX.out
            cases e'
            obtain ⟨_, _, e', _, _, _, _, _, _, d6⟩ := HE.out w' b' i _ HY.out
            cases e'
            exact ⟨x2, c0, d6⟩
          obtain ⟨g1, g2, g3⟩ := HK.out _ B6.out
          have hlt6 : w.heap.size < w6.heap.size := Nat.lt_of_lt_of_le hlt0 b6.size
          have hb6 : b < w6.heap.size := Nat.lt_of_lt_of_le hbl2 b6.size
          have hb9 : b9 < w6.heap.size := Nat.lt_of_lt_of_le hl9 b6.size
          have hj2 : acc.length ≤ 1000 := Nat.le_trans HA.out (by omega)
          have HJ2 := Lib.hid hj2
          clear hw'' b6 k0 k1 k2 k3 k4 k5 k6 k7 hj2
          go_wp2_with fail
          go_region_held3 (fun w' => w'.cell? ⟨w.heap.size, 2, none⟩ = some (.slice (some ⟨b9, off9, none⟩) L.els.length cap) ∧ w'.cell? ⟨b, off + j * 3, none⟩ = some (.int .i64 (i : Int)) ∧ w'.cell? ⟨b9, off9 + i * 7 + 6, none⟩ = some (.int .i64 sc))
            (first
              | with_reducible exact HK.out _ F5.out
              | go_keep)
            (first
              | (refine step_append_row rfl (.tmp 35) (.tmp 46) 43 rfl W 3 i0 (.int .i64 0) 1 8 Tryd.underlying43 HI0.out HZ0.out HZ1.out HZ2.out rfl (by decide) iCells i_len i_one sc rfl rfl (by simp) rfl HO6.out.drew B6.out.drew (by have := HJ2.out; omega) (by have := HJ2.out; unfold maxLen; omega) ?_; intro v5 w5 o5 f5; have O5 := Lib.hid o5; have F5 := Lib.hid f5; clear o5 f5))
          go_wp2_with fail
          go_roundw
          case rel => exact ⟨j + 1, acc ++ [sc], by simp, hlt, HF.out, by have := HA.out; simp; omega, by
            intro z hz
            rcases List.mem_append.1 hz with hz | hz
            · exact HW.out z hz
            · rw [List.mem_singleton.1 hz]; exact HYW.out, O5.out, F5.out⟩
          case measure => simp [RowKit.intOf]; omega
    · have he : j = way.length := by omega
      subst he
      have HF := Lib.hid (show acc = r by rw [← HJ.out, List.drop_length]; rfl)
      clear hrd
      go_wp2_with fail
      go_ret
      rw [← HF.out]
      exact ⟨_, rfl, reads_own (by rw [← flat_ints]; exact HO.out) HW.out (Nat.le_refl _), bel_next B0.out HB.out⟩

end Go.Proofs.YtjhimekojiegjaaDoor.Wsec
