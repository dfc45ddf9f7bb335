/- Texts of this proof, merged: Pchk, Pps, Pprg, Plns. -/
import Derived.Test.YtfdipcphohhlgaaGreatDoorG26
import Derived.Test.YtfdipcphohhlgaaGreatDoorG09
import Derived.Test.YtfdipcphohhlgaaGreatDoorG25
import Derived.Test.YtfdipcphohhlgaaGreatDoorG11
import Derived.Test.YtfdipcphohhlgaaGreatDoorG16
import Derived.Test.YtfdipcphohhlgaaGreatDoorG12
import Derived.Test.YtfdipcphohhlgaaGreatDoorG10

/- The program's Check. -/
namespace Go.Proofs.YtfdipcphohhlgaaGreatDoor.Pchk
open Go.RowKit Go.Lib Go.Proofs.YtfdipcphohhlgaaGreatDoor.Numt Go.Proofs.YtfdipcphohhlgaaGreatDoor.Reads Go.Proofs.YtfdipcphohhlgaaGreatDoor.Rows2 Go.Proofs.YtfdipcphohhlgaaGreatDoor.Lay Go.Proofs.YtfdipcphohhlgaaGreatDoor.Layf Go.Proofs.YtfdipcphohhlgaaGreatDoor.Lcon Go.Proofs.YtfdipcphohhlgaaGreatDoor.Ldup Go.Proofs.YtfdipcphohhlgaaGreatDoor.Lext Go.Proofs.YtfdipcphohhlgaaGreatDoor.Lnmd Go.Proofs.YtfdipcphohhlgaaGreatDoor.Lown Go.Proofs.YtfdipcphohhlgaaGreatDoor.Pbas Go.Proofs.YtfdipcphohhlgaaGreatDoor.Pfn Go.Proofs.YtfdipcphohhlgaaGreatDoor.Peac Go.Proofs.YtfdipcphohhlgaaGreatDoor.Pdis Go.Proofs.YtfdipcphohhlgaaGreatDoor.Pmem Go.Proofs.YtfdipcphohhlgaaGreatDoor.Omap Go.Proofs.YtfdipcphohhlgaaGreatDoor.Omapn Go.Proofs.YtfdipcphohhlgaaGreatDoor.Lmap Go.Proofs.YtfdipcphohhlgaaGreatDoor.Pjoe Go.Proofs.YtfdipcphohhlgaaGreatDoor.Phas Go.Proofs.YtfdipcphohhlgaaGreatDoor.Pcls Go.Proofs.YtfdipcphohhlgaaGreatDoor.Pbeh Go.Proofs.YtfdipcphohhlgaaGreatDoor.Few0
open Go.Proofs.YtfdipcphohhlgaaGreatDoor.Text hiding lineL joinR

theorem ends_len (js : List ((Int × Int) × (Int × Int))) : (endsOf js).length = 2 * js.length := by
  induction js with
  | nil => rfl
  | cons j l ih =>
    have : endsOf (j :: l) = [j.1, j.2] ++ endsOf l := by simp [endsOf]
    rw [this, List.length_append, ih, List.length_cons]
    simp
    omega
theorem spots_rows (l : List Sig) : (l.map fun x => [Value.int .i64 x.spot.1, Value.int .i64 x.spot.2]) = (l.map (·.spot)).map pCells := by rw [List.map_map]; rfl
theorem ids_rows (l : List Bal) : (l.map fun x => [Value.int .i64 x.id]) = (l.map (·.id)).map fun x => [Value.int .i64 x] := by rw [List.map_map]; rfl
theorem spots_any (L : Lay) {vs ve vj vg vb : Value} (w : World) (h : LayAt (In w) w L vs ve vj vg vb) (hn : L.sigs.length ≤ 1000) :
    Calls Tryz.prog 33 #[vg, .func (.func 34) #[] #[]] w fun e w' => ∃ v, e = .returned v ∧ (∀ W, Below w'.heap.size w' W → Calls Tryz.prog 32 #[v] W (BoolOut (!dupB (L.sigs.map (·.spot))) W)) ∧ Below w.heap.size w w' :=
  (eachGE h.sigs hn).mono fun e w' ⟨v, he, hg, hb⟩ => ⟨v, he, fun W hW => distinctE (xs := L.sigs.map (·.spot)) (by rw [← spots_rows]; exact hg.keep (keep_next hW)) (fun x hx => by
    obtain ⟨s, hs, rfl⟩ := List.mem_map.1 hx
    exact (h.swf s hs).1) (by rw [List.length_map]; exact hn), hb⟩
theorem ids_any (L : Lay) {vs ve vj vg vb : Value} (w : World) (h : LayAt (In w) w L vs ve vj vg vb) (hn : L.bals.length ≤ 1000) :
    Calls Tryz.prog 38 #[vb, .func (.func 39) #[] #[]] w fun e w' => ∃ v, e = .returned v ∧ (∀ W, Below w'.heap.size w' W → Calls Tryz.prog 37 #[v] W (BoolOut (!dupB (L.bals.map (·.id))) W)) ∧ Below w.heap.size w w' :=
  (eachBI h.bals hn).mono fun e w' ⟨v, he, hg, hb⟩ => ⟨v, he, fun W hW => distinctI (xs := L.bals.map (·.id)) (by rw [← ids_rows]; exact hg.keep (keep_next hW)) (fun x hx => by
    obtain ⟨s, hs, rfl⟩ := List.mem_map.1 hx
    exact (h.bwf s hs).1) (by rw [List.length_map]; exact hn), hb⟩

/-! What Check answers, condition by condition. -/
section
variable {L : Lay}
theorem chk0 (h : limitB L = false) : checkF L = 2 := by rw [checkF, named_limit h]; rfl
theorem chk1 (h : limitB L = true) (h1 : (allNames L).all nameL = false) : checkF L = 3 := by rw [checkF, named_name h h1]; rfl
theorem chk2 (h : limitB L = true) (h1 : (allNames L).all nameL = true) (h2 : (!dupN L) = false) : checkF L = 8 := by rw [checkF, named_dup h h1 (by simpa using h2)]; rfl
/-- The conditions 1 to 3. -/
def A3 (L : Lay) : Prop := limitB L = true ∧ (allNames L).all nameL = true ∧ (!dupN L) = true
theorem a3 (h : A3 L) : namedF L = 0 := named_ok h.1 h.2.1 (by simpa using h.2.2)
theorem chk3 (h : A3 L) (h1 : L.els.all (rightB L.secs.length) = false) : checkF L = 1 := by rw [checkF, a3 h, elements_right h1]; rfl
theorem chk4 (h : A3 L) (h1 : L.els.all (rightB L.secs.length) = true) (h2 : heldR L 0 L.secs.length = false) : checkF L = 1 := by rw [checkF, a3 h, elements_held h1 h2]; rfl
theorem chk5 (h : A3 L) (h1 : L.els.all (rightB L.secs.length) = true) (h2 : heldR L 0 L.secs.length = true) (h3 : L.joints.all (jointB L.els) = false) : checkF L = 1 := by rw [checkF, a3 h, elements_joint h1 h2 h3]; rfl
theorem chk6 (h : A3 L) (h1 : L.els.all (rightB L.secs.length) = true) (h2 : heldR L 0 L.secs.length = true) (h3 : L.joints.all (jointB L.els) = true) (h4 : dupB (endsOf L.joints) = true) : checkF L = 8 := by rw [checkF, a3 h, elements_dup h1 h2 h3 h4]; rfl
/-- The conditions 1 to 7. -/
def A7 (L : Lay) : Prop := A3 L ∧ L.els.all (rightB L.secs.length) = true ∧ heldR L 0 L.secs.length = true ∧ L.joints.all (jointB L.els) = true ∧ dupB (endsOf L.joints) = false
theorem a7 (h : A7 L) : namedF L = 0 ∧ elementsF L = 0 := ⟨a3 h.1, elements_ok h.2.1 h.2.2.1 h.2.2.2.1 h.2.2.2.2⟩
theorem chk7 (h : A7 L) (h1 : L.sigs.all (sigB L.els) = false) : checkF L = 1 := by rw [checkF, (a7 h).1, (a7 h).2, signals_arg h1]; rfl
theorem chk8 (h : A7 L) (h1 : L.sigs.all (sigB L.els) = true) (h2 : (!dupB (L.sigs.map (·.spot))) = false) : checkF L = 8 := by rw [checkF, (a7 h).1, (a7 h).2, signals_dup h1 (by simpa using h2)]; rfl
theorem chk9 (h : A7 L) (h1 : L.sigs.all (sigB L.els) = true) (h2 : (!dupB (L.sigs.map (·.spot))) = true) (h3 : (L.sigs.map (·.spot)).all (safeB L) = false) : checkF L = 14 := by rw [checkF, (a7 h).1, (a7 h).2, signals_safe h1 (by simpa using h2) h3]; rfl
/-- The conditions 1 to 10. -/
def A10 (L : Lay) : Prop := A7 L ∧ L.sigs.all (sigB L.els) = true ∧ (!dupB (L.sigs.map (·.spot))) = true ∧ (L.sigs.map (·.spot)).all (safeB L) = true
theorem a10 (h : A10 L) : namedF L = 0 ∧ elementsF L = 0 ∧ signalsF L = 0 := ⟨(a7 h.1).1, (a7 h.1).2, signals_ok h.2.1 (by simpa using h.2.2.1) h.2.2.2⟩
theorem chk10 (h : A10 L) (h1 : L.bals.all (balB L.els) = false) : checkF L = 1 := by rw [checkF, (a10 h).1, (a10 h).2.1, (a10 h).2.2, balises_arg h1]; rfl
theorem chk11 (h : A10 L) (h1 : L.bals.all (balB L.els) = true) (h2 : (!dupB (L.bals.map (·.id))) = false) : checkF L = 8 := by rw [checkF, (a10 h).1, (a10 h).2.1, (a10 h).2.2, balises_dup h1 (by simpa using h2)]; rfl
theorem chk12 (h : A10 L) (h1 : L.bals.all (balB L.els) = true) (h2 : (!dupB (L.bals.map (·.id))) = true) : checkF L = 0 := by rw [checkF, (a10 h).1, (a10 h).2.1, (a10 h).2.2, balises_ok h1 (by simpa using h2)]; rfl
end

set_option maxRecDepth 100000 in
set_option maxHeartbeats 6400000 in
theorem check_any (L : Lay) {vs ve vj vg vb : Value} (w : World) (h : LayAt (In w) w L vs ve vj vg vb) (hjt : L.joints.length ≤ 1000000) :
    Calls Tryz.prog 11 #[layV L vs ve vj vg vb] w (NumOut (checkF L) w) := by
  have hsz : limitB L = true → L.secs.length ≤ 60 ∧ L.els.length ≤ 60 ∧ L.sigs.length ≤ 60 ∧ L.bals.length ≤ 60 := fun hl => by
    simp only [limitB, decide_eq_true_eq] at hl
    omega
  obtain ⟨ja, jc, rfl, hjm, -⟩ := h.jt
  have b1 := (Below.refl w.heap.size w).alloc (Nat.le_refl _) (.cells #[.string (bs L.name), vs, ve, .slice ja L.joints.length jc, vg, vb] 28)
  have hh := h.next b1
  have hx := lbox_new w 28 L vs ve (.slice ja L.joints.length jc) vg vb
  have hs0 : w.heap.size < (w.alloc (.cells #[.string (bs L.name), vs, ve, .slice ja L.joints.length jc, vg, vb] 28)).heap.size := by simp
  obtain ⟨W, hW⟩ : ∃ W, w.alloc (.cells #[.string (bs L.name), vs, ve, .slice ja L.joints.length jc, vg, vb] 28) = W := ⟨_, rfl⟩
  rw [hW] at b1 hh hx hs0
  have HW := Lib.hid hW
  have B0 := Lib.hid b1
  have HX := Lib.hid hx
  have HS := Lib.hid hs0
  have C0 := Lib.hid (fun w' (b : Below W.heap.size W w') => sizes_any L w' (hh.next b))
  have C1 := Lib.hid (fun (hl : limitB L = true) w' (b : Below W.heap.size W w') => hasNames_any L w' (hh.next b) (by have := hsz hl; omega) (by have := hsz hl; omega))
  have C2 := Lib.hid (fun (hl : limitB L = true) w' (b : Below W.heap.size W w') => hasDistinct_any L w' (hh.next b) (by have := hsz hl; omega) (by have := hsz hl; omega) (by have := hsz hl; omega))
  have C3 := Lib.hid (fun w' (b : Below W.heap.size W w') => hasElements_any L w' (hh.next b))
  have C4 := Lib.hid (fun (hl : limitB L = true) w' (b : Below W.heap.size W w') => hasFull_any L w' (hh.next b) (by have := hsz hl; omega))
  have C5 := Lib.hid (fun w' (b : Below W.heap.size W w') => hasJoints_any L w' (hh.next b))
  have C6 := Lib.hid (fun w' (b : Below W.heap.size W w') => ends_any L w' (hh.next b) hjt)
  have C7 := Lib.hid (fun w' (b : Below W.heap.size W w') => hasSignals_any L w' (hh.next b))
  have C8 := Lib.hid (fun (hl : limitB L = true) w' (b : Below W.heap.size W w') => spots_any L w' (hh.next b) (by have := hsz hl; omega))
  have C9 := Lib.hid (fun w' (b : Below W.heap.size W w') mb n (hm : endEnd.Is w' mb n (mapOf L.joints)) hd hj hg => hasBehind_any L w' (hh.next b) hm hd hj hg)
  have C10 := Lib.hid (fun w' (b : Below W.heap.size W w') => hasBalises_any L w' (hh.next b))
  have C11 := Lib.hid (fun (hl : limitB L = true) w' (b : Below W.heap.size W w') => ids_any L w' (hh.next b) (by have := hsz hl; omega))
  unfold layV at C0 C1 C2 C3 C4 C5 C6 C7 C9 C10 ⊢
  have HN := Lib.hid hjt
  clear h hh hx hs0 b1 hW hsz hjt
  obtain ⟨x0, x1, x2, x3, x4, x5⟩ := HX.out
  go_enter Tryz.func11, Tryz.ntmps11
  go_wp2_with fail
  rw [HW.out]
  obtain ⟨q, h0⟩ : ∃ q, limitB L = q := ⟨_, rfl⟩
  rw [h0] at C0
  have E0 := Lib.hid h0
  clear h0
  refine (C0.out _ (Below.refl _ _)).mono ?_
  rintro e w0 ⟨rfl, b⟩
  have B1 := Lib.hid b
  clear b x0 x1 x2 x3 x4 x5
  obtain ⟨x0, x1, x2, x3, x4, x5⟩ := HX.out.next B1.out HS.out
  cases q
  · have HV := Lib.hid (chk0 E0.out)
    go_wp2_with fail
    go_ret
    exact ⟨by rw [HV.out]; rfl, bel_next B0.out B1.out⟩
  obtain ⟨q, h0⟩ : ∃ q, (allNames L).all nameL = q := ⟨_, rfl⟩
  rw [h0] at C1
  have E1 := Lib.hid h0
  clear h0
  go_wp2_with fail
  refine (C1.out E0.out _ B1.out).mono ?_
  rintro e w1 ⟨rfl, b⟩
  have B2 := Lib.hid (bel_next B1.out b)
  clear b x0 x1 x2 x3 x4 x5
  obtain ⟨x0, x1, x2, x3, x4, x5⟩ := HX.out.next B2.out HS.out
  cases q
  · have HV := Lib.hid (chk1 E0.out E1.out)
    go_wp2_with fail
    go_ret
    exact ⟨by rw [HV.out]; rfl, bel_next B0.out B2.out⟩
  obtain ⟨q, h0⟩ : ∃ q, (!dupN L) = q := ⟨_, rfl⟩
  rw [h0] at C2
  have E2 := Lib.hid h0
  clear h0
  go_wp2_with fail
  refine (C2.out E0.out _ B2.out).mono ?_
  rintro e w2 ⟨rfl, b⟩
  have B3 := Lib.hid (bel_next B2.out b)
  clear b x0 x1 x2 x3 x4 x5
  obtain ⟨x0, x1, x2, x3, x4, x5⟩ := HX.out.next B3.out HS.out
  cases q
  · have HV := Lib.hid (chk2 E0.out E1.out E2.out)
    go_wp2_with fail
    go_ret
    exact ⟨by rw [HV.out]; rfl, bel_next B0.out B3.out⟩
  have EA := Lib.hid (show A3 L from ⟨E0.out, E1.out, E2.out⟩)
  obtain ⟨q, h0⟩ : ∃ q, L.els.all (rightB L.secs.length) = q := ⟨_, rfl⟩
  rw [h0] at C3
  have E3 := Lib.hid h0
  clear h0
  go_wp2_with fail
  refine (C3.out _ B3.out).mono ?_
  rintro e w3 ⟨rfl, b⟩
  have B4 := Lib.hid (bel_next B3.out b)
  clear b x0 x1 x2 x3 x4 x5
  obtain ⟨x0, x1, x2, x3, x4, x5⟩ := HX.out.next B4.out HS.out
  cases q
  · have HV := Lib.hid (chk3 EA.out E3.out)
    go_wp2_with fail
    go_ret
    exact ⟨by rw [HV.out]; rfl, bel_next B0.out B4.out⟩
  obtain ⟨q, h0⟩ : ∃ q, heldR L 0 L.secs.length = q := ⟨_, rfl⟩
  rw [h0] at C4
  have E4 := Lib.hid h0
  clear h0
  go_wp2_with fail
  refine (C4.out E0.out _ B4.out).mono ?_
  rintro e w4 ⟨rfl, b⟩
  have B5 := Lib.hid (bel_next B4.out b)
  clear b x0 x1 x2 x3 x4 x5
  obtain ⟨x0, x1, x2, x3, x4, x5⟩ := HX.out.next B5.out HS.out
  cases q
  · have HV := Lib.hid (chk4 EA.out E3.out E4.out)
    go_wp2_with fail
    go_ret
    exact ⟨by rw [HV.out]; rfl, bel_next B0.out B5.out⟩
  obtain ⟨q, h0⟩ : ∃ q, L.joints.all (jointB L.els) = q := ⟨_, rfl⟩
  rw [h0] at C5
  have E5 := Lib.hid h0
  clear h0
  go_wp2_with fail
  refine (C5.out _ B5.out).mono ?_
  rintro e w5 ⟨rfl, b⟩
  have B6 := Lib.hid (bel_next B5.out b)
  clear b x0 x1 x2 x3 x4 x5
  obtain ⟨x0, x1, x2, x3, x4, x5⟩ := HX.out.next B6.out HS.out
  cases q
  · have HV := Lib.hid (chk5 EA.out E3.out E4.out E5.out)
    go_wp2_with fail
    go_ret
    exact ⟨by rw [HV.out]; rfl, bel_next B0.out B6.out⟩
  go_wp2_with fail
  refine (C6.out _ B6.out).mono ?_
  rintro e w6 ⟨mb, n, c, rfl, hi, hc, b⟩
  have B7 := Lib.hid (bel_next B6.out b)
  have HI := Lib.hid hi
  have HC := Lib.hid hc
  have HLE := Lib.hid (show c ≤ 2 * L.joints.length by rw [← ends_len]; exact hc.1)
  clear b hi hc x0 x1 x2 x3 x4 x5
  obtain ⟨x0, x1, x2, x3, x4, x5⟩ := HX.out.next B7.out HS.out
  have hw2 : IntKind.i64.wrap (2 * (L.joints.length : Int)) = 2 * (L.joints.length : Int) := by have := HN.out; rw [IntKind.wrap_i64]; omega
  by_cases hd : (c : Int) < 2 * (L.joints.length : Int)
  · have HV := Lib.hid (chk6 EA.out E3.out E4.out E5.out (by
      cases hq : dupB (endsOf L.joints) with
      | true => rfl
      | false =>
        have := HC.out.2.2 hq
        rw [ends_len] at this
        omega))
    go_wp2_with (at_len; refine IsC.len_step endEnd rfl _ 60 rfl Tryz.underlying60 rfl HI.out ?_)
    go_ret
    exact ⟨by rw [HV.out]; rfl, bel_next B0.out B7.out⟩
  have E6 := Lib.hid (show dupB (endsOf L.joints) = false by
    refine HC.out.2.1 ?_
    rw [ends_len]
    have := HLE.out
    omega)
  have EB := Lib.hid (show A7 L from ⟨EA.out, E3.out, E4.out, E5.out, E6.out⟩)
  obtain ⟨q, h0⟩ : ∃ q, L.sigs.all (sigB L.els) = q := ⟨_, rfl⟩
  rw [h0] at C7
  have E7 := Lib.hid h0
  clear h0
  go_wp2_with (at_len; refine IsC.len_step endEnd rfl _ 60 rfl Tryz.underlying60 rfl HI.out ?_)
  refine (C7.out _ B7.out).mono ?_
  rintro e w7 ⟨rfl, b⟩
  have B8 := Lib.hid (bel_next B7.out b)
  have HI8 := Lib.hid (IsC.same endEnd HI.out (b.block mb (IsC.lt endEnd HI.out)))
  clear b x0 x1 x2 x3 x4 x5
  obtain ⟨x0, x1, x2, x3, x4, x5⟩ := HX.out.next B8.out HS.out
  cases q
  · have HV := Lib.hid (chk7 EB.out E7.out)
    go_wp2_with fail
    go_ret
    exact ⟨by rw [HV.out]; rfl, bel_next B0.out B8.out⟩
  go_wp2_with fail
  refine (C8.out E0.out _ B8.out).mono ?_
  rintro e w8 ⟨v8, rfl, hv8, b⟩
  have B9 := Lib.hid (bel_next B8.out b)
  have HI9 := Lib.hid (IsC.same endEnd HI8.out (b.block mb (IsC.lt endEnd HI8.out)))
  have D8 := Lib.hid (hv8 _ (Below.refl _ _))
  obtain ⟨q, h0⟩ : ∃ q, (!dupB (L.sigs.map (·.spot))) = q := ⟨_, rfl⟩
  rw [h0] at D8
  have E8 := Lib.hid h0
  clear h0 hv8 b x0 x1 x2 x3 x4 x5
  go_wp2_with fail
  refine D8.out.mono ?_
  rintro e w9 ⟨rfl, b⟩
  have B10 := Lib.hid (bel_next B9.out b)
  have HI10 := Lib.hid (IsC.same endEnd HI9.out (b.block mb (IsC.lt endEnd HI9.out)))
  clear b
  obtain ⟨x0, x1, x2, x3, x4, x5⟩ := HX.out.next B10.out HS.out
  cases q
  · have HV := Lib.hid (chk8 EB.out E7.out E8.out)
    go_wp2_with fail
    go_ret
    exact ⟨by rw [HV.out]; rfl, bel_next B0.out B10.out⟩
  have D9 := Lib.hid (C9.out w9 B10.out mb n (IsC.is endEnd HI10.out) E6.out E5.out E7.out)
  obtain ⟨q, h0⟩ : ∃ q, (L.sigs.map (·.spot)).all (safeB L) = q := ⟨_, rfl⟩
  rw [h0] at D9
  have E9 := Lib.hid h0
  clear h0
  go_wp2_with fail
  refine D9.out.mono ?_
  rintro e w10 ⟨rfl, b⟩
  have B11 := Lib.hid (bel_next B10.out b)
  clear b x0 x1 x2 x3 x4 x5
  obtain ⟨x0, x1, x2, x3, x4, x5⟩ := HX.out.next B11.out HS.out
  cases q
  · have HV := Lib.hid (chk9 EB.out E7.out E8.out E9.out)
    go_wp2_with fail
    go_ret
    exact ⟨by rw [HV.out]; rfl, bel_next B0.out B11.out⟩
  have EC := Lib.hid (show A10 L from ⟨EB.out, E7.out, E8.out, E9.out⟩)
  obtain ⟨q, h0⟩ : ∃ q, L.bals.all (balB L.els) = q := ⟨_, rfl⟩
  rw [h0] at C10
  have E10 := Lib.hid h0
  clear h0
  go_wp2_with fail
  refine (C10.out _ B11.out).mono ?_
  rintro e w11 ⟨rfl, b⟩
  have B12 := Lib.hid (bel_next B11.out b)
  clear b x0 x1 x2 x3 x4 x5
  obtain ⟨x0, x1, x2, x3, x4, x5⟩ := HX.out.next B12.out HS.out
  cases q
  · have HV := Lib.hid (chk10 EC.out E10.out)
    go_wp2_with fail
    go_ret
    exact ⟨by rw [HV.out]; rfl, bel_next B0.out B12.out⟩
  go_wp2_with fail
  refine (C11.out E0.out _ B12.out).mono ?_
  rintro e w12 ⟨v12, rfl, hv12, b⟩
  have B13 := Lib.hid (bel_next B12.out b)
  have D12 := Lib.hid (hv12 _ (Below.refl _ _))
  obtain ⟨q, h0⟩ : ∃ q, (!dupB (L.bals.map (·.id))) = q := ⟨_, rfl⟩
  rw [h0] at D12
  have E11 := Lib.hid h0
  clear h0 hv12 b x0 x1 x2 x3 x4 x5
  go_wp2_with fail
  refine D12.out.mono ?_
  rintro e w13 ⟨rfl, b⟩
  have B14 := Lib.hid (bel_next B13.out b)
  clear b
  cases q
  · have HV := Lib.hid (chk11 EC.out E10.out E11.out)
    go_wp2_with fail
    go_ret
    exact ⟨by rw [HV.out]; rfl, bel_next B0.out B14.out⟩
  have HV := Lib.hid (chk12 EC.out E10.out E11.out)
  go_wp2_with fail
  go_ret
  exact ⟨by rw [HV.out]; rfl, bel_next B0.out B14.out⟩

end Go.Proofs.YtfdipcphohhlgaaGreatDoor.Pchk

/- The program's Parse. -/
namespace Go.Proofs.YtfdipcphohhlgaaGreatDoor.Pps
open Go.RowKit Go.Lib Go.Proofs.YtfdipcphohhlgaaGreatDoor.Reads Go.Proofs.YtfdipcphohhlgaaGreatDoor.Rows2 Go.Proofs.YtfdipcphohhlgaaGreatDoor.Lay Go.Proofs.YtfdipcphohhlgaaGreatDoor.Layf Go.Proofs.YtfdipcphohhlgaaGreatDoor.Lcon Go.Proofs.YtfdipcphohhlgaaGreatDoor.Ldup Go.Proofs.YtfdipcphohhlgaaGreatDoor.Lext Go.Proofs.YtfdipcphohhlgaaGreatDoor.Lnmd Go.Proofs.YtfdipcphohhlgaaGreatDoor.Numt Go.Proofs.YtfdipcphohhlgaaGreatDoor.Plnf Go.Proofs.YtfdipcphohhlgaaGreatDoor.Pkin Go.Proofs.YtfdipcphohhlgaaGreatDoor.Prds Go.Proofs.YtfdipcphohhlgaaGreatDoor.Rdr Go.Proofs.YtfdipcphohhlgaaGreatDoor.Rdk Go.Proofs.YtfdipcphohhlgaaGreatDoor.Rdx Go.Proofs.YtfdipcphohhlgaaGreatDoor.Rdn Go.Proofs.YtfdipcphohhlgaaGreatDoor.Rla Go.Proofs.YtfdipcphohhlgaaGreatDoor.Rlz Go.Proofs.YtfdipcphohhlgaaGreatDoor.Linw Go.Proofs.YtfdipcphohhlgaaGreatDoor.Pchk Go.Proofs.YtfdipcphohhlgaaGreatDoor.Ptwo
open Go.Proofs.YtfdipcphohhlgaaGreatDoor.Debw (Deb deb_next)
open Go.Proofs.YtfdipcphohhlgaaGreatDoor.Lown (grid_of_own)
open Go.Proofs.YtfdipcphohhlgaaGreatDoor.Text hiding lineL joinR

theorem results_three {fn : Func} {p u v : Tmp} {ty : TypeId} (P : Program) {tmps : Array Value} {w : World} {g : Nat} {x : Value} (h : fn.results = #[.cell p ty, .tmp u, .tmp v]) (hp : tmps.getD p undef = .pointer (some ⟨g, 0, none⟩))
    (e : (loadVar ty ⟨g, 0, none⟩).run P w = .ok x w) : (results fn tmps).run P w = .ok (.tuple #[x, tmps.getD u undef, tmps.getD v undef]) w := by
  simp only [results, h]
  simp only [Array.getD_eq_getD_getElem?] at hp ⊢
  simp [Result.andThen, hp, asAddr, e]
theorem load_lay {w : World} {g : Nat} {T : TypeId} {c0 c1 c2 c3 c4 c5 : Value} (h : w.heap[g]? = some (.cells #[c0, c1, c2, c3, c4, c5] T (0, 0))) : (loadVar 28 ⟨g, 0, none⟩).run Tryz.prog w = .ok (.agg #[c0, c1, c2, c3, c4, c5]) w :=
  run_loadVar_row w g T 28 _ (0, 0) _ h Tryz.underlying28 rfl (by kernel_rfl)

/-- Six cells written. -/
theorem set_six {r : Nat} {wx : World} {T : TypeId} {c0 c1 c2 c3 c4 c5 d0 d1 d2 d3 d4 d5 : Value} (h : wx.heap[r]? = some (.cells #[c0, c1, c2, c3, c4, c5] T (0, 0))) :
    ((((((wx.setCell ⟨r, 0, none⟩ d0).setCell ⟨r, 1, none⟩ d1).setCell ⟨r, 2, none⟩ d2).setCell ⟨r, 3, none⟩ d3).setCell ⟨r, 4, none⟩ d4).setCell ⟨r, 5, none⟩ d5).heap[r]? = some (.cells #[d0, d1, d2, d3, d4, d5] T (0, 0)) ∧
    (∀ k, k ≠ r → ((((((wx.setCell ⟨r, 0, none⟩ d0).setCell ⟨r, 1, none⟩ d1).setCell ⟨r, 2, none⟩ d2).setCell ⟨r, 3, none⟩ d3).setCell ⟨r, 4, none⟩ d4).setCell ⟨r, 5, none⟩ d5).heap[k]? = wx.heap[k]?) ∧
    (∀ B W, Below B W wx → B ≤ r → Below B W ((((((wx.setCell ⟨r, 0, none⟩ d0).setCell ⟨r, 1, none⟩ d1).setCell ⟨r, 2, none⟩ d2).setCell ⟨r, 3, none⟩ d3).setCell ⟨r, 4, none⟩ d4).setCell ⟨r, 5, none⟩ d5)) ∧
    wx.heap.size ≤ ((((((wx.setCell ⟨r, 0, none⟩ d0).setCell ⟨r, 1, none⟩ d1).setCell ⟨r, 2, none⟩ d2).setCell ⟨r, 3, none⟩ d3).setCell ⟨r, 4, none⟩ d4).setCell ⟨r, 5, none⟩ d5).heap.size := by
  have h0 := heap_setCell_same _ _ 0 _ _ d0 h
  have h1 := heap_setCell_same _ _ 1 _ _ d1 h0
  have h2 := heap_setCell_same _ _ 2 _ _ d2 h1
  have h3 := heap_setCell_same _ _ 3 _ _ d3 h2
  have h4 := heap_setCell_same _ _ 4 _ _ d4 h3
  have h5 := heap_setCell_same _ _ 5 _ _ d5 h4
  refine ⟨by simpa using h5, fun k hk => ?_, fun B W hb hr => ?_, by simp [World.setCell]⟩
  · rw [heap_setCell_other _ _ _ _ hk, heap_setCell_other _ _ _ _ hk, heap_setCell_other _ _ _ _ hk, heap_setCell_other _ _ _ _ hk, heap_setCell_other _ _ _ _ hk, heap_setCell_other _ _ _ _ hk]
  · exact (((((hb.setCell (p := ⟨r, 0, none⟩) hr _).setCell (p := ⟨r, 1, none⟩) hr _).setCell (p := ⟨r, 2, none⟩) hr _).setCell (p := ⟨r, 3, none⟩) hr _).setCell (p := ⟨r, 4, none⟩) hr _).setCell (p := ⟨r, 5, none⟩) hr _
theorem row_six {r : Nat} {w : World} {T : TypeId} {c0 c1 c2 c3 c4 c5 : Value} (h : w.heap[r]? = some (.cells #[c0, c1, c2, c3, c4, c5] T (0, 0))) :
    (w.cell? ⟨r, 0, none⟩ = some c0 ∧ w.cell? ⟨r, 1, none⟩ = some c1 ∧ w.cell? ⟨r, 2, none⟩ = some c2 ∧ w.cell? ⟨r, 3, none⟩ = some c3 ∧ w.cell? ⟨r, 4, none⟩ = some c4 ∧ w.cell? ⟨r, 5, none⟩ = some c5) ∧ ∀ j, w.frozen? ⟨r, j, none⟩ = false := by
  refine ⟨⟨?_, ?_, ?_, ?_, ?_, ?_⟩, fun j => frozen_of_row _ _ j _ _ h⟩
  all_goals
    rw [cell_of_row _ _ _ _ _ _ h]
    rfl
theorem lay_zero (ok : Nat → Prop) (w : World) : LayAt ok w zeroL (.slice none 0 0) (.slice none 0 0) (.slice none 0 0) (.slice none 0 0) (.slice none 0 0) :=
  ⟨strs_nil _ _, grid_nil _ _ _, grid_nil _ _ _, grid_nil _ _ _, grid_nil _ _ _, Nat.zero_le _, (fun _ h => nomatch h), (fun _ h => nomatch h), (fun _ h => nomatch h), (fun _ h => nomatch h), (fun _ h => nomatch h), (fun _ h => nomatch h), .inl rfl⟩
theorem lay_far {W0 w : World} {g : Nat} {L : Lay} {vs ve vj vg vb : Value} {pl : Int} {s : Rs} (h : RW W0 g w L vs ve vj vg vb pl s) : LayAt (fun b => W0.heap.size ≤ b ∧ b < w.heap.size) w L vs ve vj vg vb := by
  have o := h.own
  refine ⟨⟨?_, o.secName⟩, grid_of_own Elem.cells (fun _ => rfl) o.oe, grid_of_own jCells (fun _ => rfl) o.oj, grid_of_own Sig.cells (fun _ => rfl) o.og, grid_of_own Bal.cells (fun _ => rfl) o.ob, o.name, o.elName, o.sigName, o.ewf, o.jwf, o.swf, o.bwf, own_some o.os⟩
  have h1 := o.os
  rw [← strV_len L.secs] at h1
  exact row_own h1 fun b e hb => ⟨(o.os.lt b e).1, hb⟩
theorem rw_start (W0 : World) : RW W0 W0.heap.size (W0.alloc (.cells #[.string ⟨#[]⟩, .slice none 0 0, .slice none 0 0, .slice none 0 0, .slice none 0 0, .slice none 0 0, .int .i64 0, .slice none 0 0, .bool false, .bool false] 72)) zeroL (.slice none 0 0) (.slice none 0 0) (.slice none 0 0) (.slice none 0 0) (.slice none 0 0) 0 ⟨[], false, false⟩ := by
  refine ⟨(Below.refl _ _).alloc (Nat.le_refl _) _, Nat.le_refl _, ⟨.slice none 0 0, heap_alloc_new _ _, strs_nil _ _⟩, (fun _ h => by cases h), ⟨World.ownsRow_nil _ _ _ _, World.ownsRow_nil _ _ _ _, World.ownsRow_nil _ _ _ _, World.ownsRow_nil _ _ _ _, World.ownsRow_nil _ _ _ _, ⟨fun _ => 0, rfl, ?_, ?_, ?_, ?_, ?_⟩, Nat.zero_le _, ?_, ?_, ?_, ?_, ?_, ?_, ?_⟩⟩
  all_goals (intro b h; cases h)

/-- What holds at the head of the loop. -/
def QRel (W0 : World) (g : Nat) (ls : List (List (List UInt8))) (vi : Value) (wr : World) : Prop :=
  ∃ (i last : Nat) (L : Lay) (vs ve vj vg vb : Value) (pl : Int), vi = .int .i64 (i : Int) ∧ i ≤ ls.length ∧ RW W0 g wr L vs ve vj vg vb pl ⟨[], false, false⟩ ∧ PlOk i last pl ∧ Small i L ∧ runL 0 0 zeroL ls = runL i last L (ls.drop i)

/-- Lines that were accepted. -/
theorem lines_good {s : List UInt8} {ls : List (List (List UInt8))} {n : Nat} (h : linesR s = (ls, n, 0)) : ls.length ≤ 32768 ∧ ∀ l ∈ ls, l ≠ [] ∧ ∀ x ∈ l, x.length ≤ 64 := by
  have hj := join_of_lines h
  have hs : ¬ 32768 < s.length := by
    intro hl
    unfold linesR at h
    rw [if_pos hl] at h
    simp at h
  unfold Text.joinR at hj
  split at hj
  · simp at hj
  · rename_i ha
    split at hj
    · simp at hj
    · simp only [Prod.mk.injEq, and_true] at hj
      refine ⟨?_, fun l hl => ?_⟩
      · have := joinT_ge ls
        rw [hj] at this
        omega
      · have hall : ls.all Text.lineL = true := by simpa using ha
        have := List.all_eq_true.1 hall l hl
        unfold Text.lineL at this
        simp only [Bool.and_eq_true, decide_eq_true_eq] at this
        exact ⟨this.1, fun x hx => word_len (List.all_eq_true.1 this.2 x hx)⟩

set_option maxRecDepth 100000 in
set_option maxHeartbeats 3200000 in
theorem parse_any (s : List UInt8) (w : World) (hs : s.length ≤ 100000) (hd : Deb w) : Calls Tryz.prog 12 #[.string (bs s)] w (ParseOut (parseF s) w) := by
  have b0 := (Below.refl w.heap.size w).alloc (Nat.le_refl _) (.cells #[.string ⟨#[]⟩, .slice none 0 0, .slice none 0 0, .slice none 0 0, .slice none 0 0, .slice none 0 0] 28)
  have hq0 := heap_alloc_new w (.cells #[.string ⟨#[]⟩, .slice none 0 0, .slice none 0 0, .slice none 0 0, .slice none 0 0, .slice none 0 0] 28)
  have hsz : w.heap.size < (w.alloc (.cells #[.string ⟨#[]⟩, .slice none 0 0, .slice none 0 0, .slice none 0 0, .slice none 0 0, .slice none 0 0] 28)).heap.size := by simp
  obtain ⟨W, hW⟩ : ∃ W, w.alloc (.cells #[.string ⟨#[]⟩, .slice none 0 0, .slice none 0 0, .slice none 0 0, .slice none 0 0, .slice none 0 0] 28) = W := ⟨_, rfl⟩
  rw [hW] at b0 hq0 hsz
  have HL := Lib.hid (lines_any (bs s) W (by rw [bs_size]; omega) (deb_next hd b0))
  have HD := Lib.hid (fun w' (b : Below W.heap.size W w') => deb_next (deb_next hd b0) b)
  have B0 := Lib.hid b0
  obtain ⟨q, hq⟩ : ∃ q, w.heap.size = q := ⟨_, rfl⟩
  rw [hq] at hq0 hsz
  have HQ0 := Lib.hid hq0
  have HSZ := Lib.hid hsz
  have HQ := Lib.hid hq
  obtain ⟨⟨ls, n, er⟩, hr⟩ : ∃ r, linesR s = r := ⟨_, rfl⟩
  rw [show linesR (bs s).data.toList = (ls, n, er) from hr] at HL
  have HF : Hid (parseF s = if er = 0 then parseL ls else (zeroL, (n, (er : Int)))) := by
    show _ = _
    unfold parseF
    rw [hr]
  have HGD := Lib.hid (fun (h : er = 0) => lines_good (s := s) (ls := ls) (n := n) (by rw [hr, h]))
  unfold LinesOut at HL
  clear b0 hq0 hsz hr hd
  go_enter Tryz.func12, Tryz.ntmps12
  go_wp2_with fail
  clear hW hq
  refine HL.out.mono ?_
  rintro e w2 ⟨lv, rfl, hln, b2⟩
  have hln : Lns (In w2) w2 lv ls := hln
  have B2 := Lib.hid b2
  have HLN := Lib.hid hln
  have HQ2 := Lib.hid ((b2.block q HSZ.out).trans HQ0.out)
  clear b2
  obtain ⟨la, lc, rfl, hll, -, -, -⟩ := hln.shape
  have hll2 : (ls.length : Int) ≤ 9223372036854775807 := hll
  clear hln hll
  -- what is answered with the zero layout
  have HZ : Hid (∀ wx : World, Below W.heap.size W wx → wx.heap[q]? = some (.cells #[.string ⟨#[]⟩, .slice none 0 0, .slice none 0 0, .slice none 0 0, .slice none 0 0, .slice none 0 0] 28 (0, 0)) → ∀ (n : Nat) (c : Int), parseF s = (zeroL, (n, c)) →
      ParseOut (parseF s) w (.returned (.tuple #[.agg #[.string ⟨#[]⟩, .slice none 0 0, .slice none 0 0, .slice none 0 0, .slice none 0 0, .slice none 0 0], .int .i64 (n : Int), .int .i64 c])) ((((((wx.setCell ⟨q, 0, none⟩ (.string ⟨#[]⟩)).setCell ⟨q, 1, none⟩ (.slice none 0 0)).setCell ⟨q, 2, none⟩ (.slice none 0 0)).setCell ⟨q, 3, none⟩ (.slice none 0 0)).setCell ⟨q, 4, none⟩ (.slice none 0 0)).setCell ⟨q, 5, none⟩ (.slice none 0 0))) := by
    intro wx hb hh n c hp
    rw [hp]
    refine ⟨.slice none 0 0, .slice none 0 0, .slice none 0 0, .slice none 0 0, .slice none 0 0, rfl, lay_zero _ _, ?_⟩
    exact (set_six hh).2.2.1 _ _ (bel_next B0.out hb) (by rw [HQ.out]; exact Nat.le_refl _)
  by_cases he : er = 0
  · subst he
    obtain ⟨gd1, gd2⟩ := HGD.out rfl
    have HG1 := Lib.hid gd1
    have HG2 := Lib.hid gd2
    clear gd1 gd2
    by_cases hn : ls = []
    · subst hn
      have HP := Lib.hid (show parseF s = (zeroL, (1, 4)) by rw [HF.out, if_pos rfl]; rfl)
      obtain ⟨⟨y0, y1, y2, y3, y4, y5⟩, z⟩ := row_six HQ2.out
      have z0 := z 0
      have z1 := z 1
      have z2 := z 2
      have z3 := z 3
      have z4 := z 4
      have z5 := z 5
      clear z
      go_wp2_with fail
      refine bodyPost_ret (v := .tuple #[.agg #[.string ⟨#[]⟩, .slice none 0 0, .slice none 0 0, .slice none 0 0, .slice none 0 0, .slice none 0 0], .int .i64 1, .int .i64 4]) ?_ rfl ?_
      · exact results_three (p := 2) (u := 3) (v := 4) (ty := 28) _ rfl rfl (load_lay (set_six HQ2.out).1)
      · exact HZ.out _ B2.out HQ2.out 1 4 HP.out
    · have hn0 : 0 < ls.length := List.length_pos_iff.2 hn
      have hn1 : ((ls.length : Int) == 0) = false := by simp; omega
      have HP : Hid (parseF s = if (runL 0 0 zeroL ls).1.1 = 0 then (if checkF (runL 0 0 zeroL ls).2.2 = 0 then ((runL 0 0 zeroL ls).2.2, (0, 0)) else (zeroL, (0, checkF (runL 0 0 zeroL ls).2.2))) else (zeroL, ((runL 0 0 zeroL ls).1.2, (runL 0 0 zeroL ls).1.1))) := by
        show _ = _
        rw [HF.out, if_pos rfl, parseL, if_neg hn]
      have HS := Lib.hid (rw_start w2)
      have DW := Lib.hid (HD.out w2 B2.out)
      clear hn HF
      obtain ⟨g, hg⟩ : ∃ g, w2.heap.size = g := ⟨_, rfl⟩
      have HGG := Lib.hid hg
      rw [hg] at HS
      obtain ⟨W3, hW3⟩ : ∃ x, w2.alloc (.cells #[.string ⟨#[]⟩, .slice none 0 0, .slice none 0 0, .slice none 0 0, .slice none 0 0, .slice none 0 0, .int .i64 0, .slice none 0 0, .bool false, .bool false] 72) = x := ⟨_, rfl⟩
      rw [hW3] at HS
      go_wp2_with fail
      clear hW3 hg
      go_loopw [32] (fun vi wr => QRel w2 g ls vi wr) (fun vi _ => ls.length - (RowKit.intOf vi).toNat)
      case atStart => exact ⟨0, 0, zeroL, _, _, _, _, _, 0, rfl, Nat.zero_le _, HS.out, .inl ⟨rfl, rfl, rfl⟩, ⟨Nat.le_refl _, Nat.le_refl _, Nat.le_refl _, Nat.le_refl _, Nat.le_refl _⟩, rfl⟩
      case round =>
        obtain ⟨i, last, L, vs, ve, vj, vg, vb, pl, rfl, hi, hrw, hpl, hsm, hrun⟩ := hrel
        have HR := Lib.hid hrw
        have HRUN := Lib.hid hrun
        have HPL := Lib.hid hpl
        have HSM := Lib.hid hsm
        have hqr := (hrw.bel.block q (Nat.lt_of_lt_of_le HSZ.out B2.out.size)).trans HQ2.out
        have HQR := Lib.hid hqr
        clear hrw hrun hpl hsm hqr
        by_cases hl : i < ls.length
        · obtain ⟨l, hx⟩ := at_lt hl
          obtain ⟨_, _, he, _, _, _, hcs⟩ := HLN.out.shape
          cases he
          obtain ⟨b, off, x, rfl, hb, hxc, hst⟩ := hcs i l hx
          have c0 := (HR.out.bel.cell (p := ⟨b, off + i, none⟩) hb).trans hxc
          obtain ⟨xa, xc, rfl, _⟩ := hst.shape
          obtain ⟨g1, g2⟩ := HG2.out l (List.mem_of_getElem? hx)
          obtain ⟨k, r, rfl⟩ : ∃ k r, l = k :: r := by
            rcases l with _ | ⟨k, r⟩
            · exact absurd rfl g1
            · exact ⟨k, r, rfl⟩
          have hlt : (i : Int) < (ls.length : Int) := by omega
          have HC := Lib.hid (read_any DW.out HR.out hst (fun y hy => by have := g2 y (List.mem_cons_of_mem _ hy); omega) HPL.out HSM.out (by have := HG1.out; omega))
          have HDR := Lib.hid (Layf.drop_at hx)
          clear hx hcs hxc hst g1 g2 hb
          go_wp2_with fail
          refine HC.out.mono ?_
          rintro e w5 ⟨r5, rfl, hr5, b5, k5⟩
          by_cases h5 : r5 = 0
          · subst h5
            obtain ⟨vs', ve', vj', vg', vb', pl', k1, k2, k3⟩ := k5 rfl
            have K1 := Lib.hid k1
            have K2 := Lib.hid k2
            have K3 := Lib.hid k3
            have hst : stepL i last L (k :: r) = (0, ((stepL i last L (k :: r)).2.1, (stepL i last L (k :: r)).2.2)) := Prod.ext hr5.symm rfl
            have HRN := Lib.hid (show runL 0 0 zeroL ls = runL (i + 1) (stepL i last L (k :: r)).2.1 (stepL i last L (k :: r)).2.2 (ls.drop (i + 1)) by rw [HRUN.out, HDR.out, run_cons hst])
            clear k1 k2 k3 k5 b5 hr5 hst c0
            go_wp2_with fail
            go_roundw
            case rel => exact ⟨i + 1, _, _, vs', ve', vj', vg', vb', pl', by simp, hl, K1.out, K2.out, K3.out, HRN.out⟩
            case measure => simp [RowKit.intOf]; omega
          · have h6 : (r5 != 0) = true := by simpa using h5
            have HRN := Lib.hid (show runL 0 0 zeroL ls = ((r5, i + 1), (last, L)) by rw [HRUN.out, HDR.out, run_stop (by rw [← hr5]; exact h5), hr5])
            have HPP := Lib.hid (show parseF s = (zeroL, (i + 1, r5)) by rw [HP.out, HRN.out, if_neg h5])
            have row5 := (b5.block q (Nat.lt_of_lt_of_le HSZ.out B2.out.size)).trans HQ2.out
            have ROW5 := Lib.hid row5
            have B5 := Lib.hid (bel_next B2.out b5)
            obtain ⟨⟨y0, y1, y2, y3, y4, y5⟩, z⟩ := row_six row5
            have z0 := z 0
            have z1 := z 1
            have z2 := z 2
            have z3 := z 3
            have z4 := z 4
            have z5 := z 5
            clear z row5 b5 k5 hr5 c0 h5
            go_wp2_with fail
            refine bodyPost_ret (v := .tuple #[.agg #[.string ⟨#[]⟩, .slice none 0 0, .slice none 0 0, .slice none 0 0, .slice none 0 0, .slice none 0 0], .int .i64 ((i + 1 : Nat) : Int), .int .i64 r5]) ?_ rfl ?_
            · exact results_three (p := 2) (u := 3) (v := 4) (ty := 28) _ rfl rfl (load_lay (set_six ROW5.out).1)
            · exact HZ.out _ B5.out ROW5.out (i + 1) r5 HPP.out
        · obtain rfl : i = ls.length := by omega
          have hrn : runL 0 0 zeroL ls = ((0, 0), (last, L)) := by rw [HRUN.out, List.drop_length, run_nil]
          have HPP := Lib.hid (show parseF s = if checkF L = 0 then (L, (0, 0)) else (zeroL, (0, checkF L)) by rw [HP.out, hrn, if_pos rfl])
          have hck := check_any L wr HR.out.lay (by have := HSM.out.2.2.1; have := HG1.out; omega)
          unfold layV at hck
          have HCK := Lib.hid hck
          obtain ⟨x0, x1, x2, x3, x4, x5⟩ := RW.six HR.out
          clear hck hrn
          obtain ⟨c, hc⟩ : ∃ c, checkF L = c := ⟨_, rfl⟩
          rw [hc] at HCK HPP
          go_wp2_with fail
          refine HCK.out.mono ?_
          rintro e w5 ⟨rfl, b5⟩
          have R5 := Lib.hid (HR.out.next b5)
          clear b5 x0 x1 x2 x3 x4 x5
          have row5 := (R5.out.bel.block q (Nat.lt_of_lt_of_le HSZ.out B2.out.size)).trans HQ2.out
          have ROW5 := Lib.hid row5
          have B5 := Lib.hid (bel_next B2.out R5.out.bel)
          obtain ⟨⟨y0, y1, y2, y3, y4, y5⟩, z⟩ := row_six row5
          have z0 := z 0
          have z1 := z 1
          have z2 := z 2
          have z3 := z 3
          have z4 := z 4
          have z5 := z 5
          clear z row5
          by_cases h5 : c = 0
          · subst h5
            obtain ⟨x0, x1, x2, x3, x4, x5⟩ := RW.six R5.out
            rw [if_pos rfl] at HPP
            have ho := R5.out.own
            obtain ⟨a1, c1, rfl⟩ := own_any ho.os
            obtain ⟨a2, c2, rfl⟩ := own_any ho.oe
            obtain ⟨a3, c3, rfl⟩ := own_any ho.oj
            obtain ⟨a4, c4, rfl⟩ := own_any ho.og
            obtain ⟨a5, c5, rfl⟩ := own_any ho.ob
            clear ho
            go_wp2_with fail
            refine bodyPost_ret (v := .tuple #[.agg #[.string (bs L.name), .slice a1 L.secs.length c1, .slice a2 L.els.length c2, .slice a3 L.joints.length c3, .slice a4 L.sigs.length c4, .slice a5 L.bals.length c5], .int .i64 0, .int .i64 0]) ?_ rfl ?_
            · exact results_three (p := 2) (u := 3) (v := 4) (ty := 28) _ rfl rfl (load_lay (set_six ROW5.out).1)
            · rw [HPP.out]
              refine ⟨_, _, _, _, _, rfl, (lay_far R5.out).keep fun b hb => ⟨?_, ?_⟩, ?_⟩
              · exact Nat.lt_of_lt_of_le hb.2 (set_six ROW5.out).2.2.2
              · have := HSZ.out
                have := B2.out.size
                exact (set_six ROW5.out).2.1 b (by omega)
              · exact (set_six ROW5.out).2.2.1 _ _ (bel_next B0.out B5.out) (by rw [HQ.out]; exact Nat.le_refl _)
          · have h6 : (c != 0) = true := by simpa using h5
            rw [if_neg h5] at HPP
            clear h5
            go_wp2_with fail
            refine bodyPost_ret (v := .tuple #[.agg #[.string ⟨#[]⟩, .slice none 0 0, .slice none 0 0, .slice none 0 0, .slice none 0 0, .slice none 0 0], .int .i64 0, .int .i64 c]) ?_ rfl ?_
            · exact results_three (p := 2) (u := 3) (v := 4) (ty := 28) _ rfl rfl (load_lay (set_six ROW5.out).1)
            · exact HZ.out _ B5.out ROW5.out 0 c HPP.out
  · have h6 : ((er : Int) != 0) = true := by simpa using he
    have HP := Lib.hid (show parseF s = (zeroL, (n, (er : Int))) by rw [HF.out, if_neg he])
    obtain ⟨⟨y0, y1, y2, y3, y4, y5⟩, z⟩ := row_six HQ2.out
    have z0 := z 0
    have z1 := z 1
    have z2 := z 2
    have z3 := z 3
    have z4 := z 4
    have z5 := z 5
    clear z he
    go_wp2_with fail
    refine bodyPost_ret (v := .tuple #[.agg #[.string ⟨#[]⟩, .slice none 0 0, .slice none 0 0, .slice none 0 0, .slice none 0 0, .slice none 0 0], .int .i64 (n : Int), .int .i64 (er : Int)]) ?_ rfl ?_
    · exact results_three (p := 2) (u := 3) (v := 4) (ty := 28) _ rfl rfl (load_lay (set_six HQ2.out).1)
    · exact HZ.out _ B2.out HQ2.out n er HP.out

end Go.Proofs.YtfdipcphohhlgaaGreatDoor.Pps

/- The program's Print, and the bundle of the program's two functions. -/
namespace Go.Proofs.YtfdipcphohhlgaaGreatDoor.Pprg
open Go.RowKit Go.Lib Go.Proofs.YtfdipcphohhlgaaGreatDoor.Numt Go.Proofs.YtfdipcphohhlgaaGreatDoor.Reads Go.Proofs.YtfdipcphohhlgaaGreatDoor.Rows2 Go.Proofs.YtfdipcphohhlgaaGreatDoor.Lay Go.Proofs.YtfdipcphohhlgaaGreatDoor.Layf Go.Proofs.YtfdipcphohhlgaaGreatDoor.Lcon Go.Proofs.YtfdipcphohhlgaaGreatDoor.Ldup Go.Proofs.YtfdipcphohhlgaaGreatDoor.Lext Go.Proofs.YtfdipcphohhlgaaGreatDoor.Lnmd Go.Proofs.YtfdipcphohhlgaaGreatDoor.Plnf Go.Proofs.YtfdipcphohhlgaaGreatDoor.Plnb Go.Proofs.YtfdipcphohhlgaaGreatDoor.Plnc Go.Proofs.YtfdipcphohhlgaaGreatDoor.Joinw Go.Proofs.YtfdipcphohhlgaaGreatDoor.Pchk Go.Proofs.YtfdipcphohhlgaaGreatDoor.Ptwo Go.Proofs.YtfdipcphohhlgaaGreatDoor.Plin Go.Proofs.YtfdipcphohhlgaaGreatDoor.Pps
open Go.Proofs.YtfdipcphohhlgaaGreatDoor.Debw (Deb deb_next)
open Go.Proofs.YtfdipcphohhlgaaGreatDoor.Text hiding lineL joinR

theorem bel_next' {w w1 w2 : World} (h : Below w.heap.size w w1) (k : Below w1.heap.size w1 w2) : Below w.heap.size w w2 := h.trans (k.mono h.size)

set_option maxRecDepth 100000 in
set_option maxHeartbeats 1600000 in
theorem print_any (L : Lay) {vs ve vj vg vb : Value} (w : World) (h : LayAt (In w) w L vs ve vj vg vb) (hd : Deb w) (hj : L.joints.length ≤ 100000) :
    Calls Tryz.prog 9 #[layV L vs ve vj vg vb] w (PrintOut (printF L) w) := by
  obtain ⟨sa, sc, ea, ec, ja, jc, ga, gc, ba, bc, rfl, rfl, rfl, rfl, rfl⟩ := Lown.shapes h
  have b0 := (Below.refl w.heap.size w).alloc (Nat.le_refl _) (.cells #[.string (bs L.name), .slice sa L.secs.length sc, .slice ea L.els.length ec, .slice ja L.joints.length jc, .slice ga L.sigs.length gc, .slice ba L.bals.length bc] 28)
  have hh := h.next b0
  have hx := lbox_new w 28 L (.slice sa L.secs.length sc) (.slice ea L.els.length ec) (.slice ja L.joints.length jc) (.slice ga L.sigs.length gc) (.slice ba L.bals.length bc)
  have hs0 : w.heap.size < (w.alloc (.cells #[.string (bs L.name), .slice sa L.secs.length sc, .slice ea L.els.length ec, .slice ja L.joints.length jc, .slice ga L.sigs.length gc, .slice ba L.bals.length bc] 28)).heap.size := by simp
  obtain ⟨W, hW⟩ : ∃ W, w.alloc (.cells #[.string (bs L.name), .slice sa L.secs.length sc, .slice ea L.els.length ec, .slice ja L.joints.length jc, .slice ga L.sigs.length gc, .slice ba L.bals.length bc] 28) = W := ⟨_, rfl⟩
  rw [hW] at b0 hh hx hs0
  have HW := Lib.hid hW
  have B0 := Lib.hid b0
  have HX := Lib.hid hx
  have HS := Lib.hid hs0
  have HH := Lib.hid hh
  have HD := Lib.hid (fun w' (b : Below W.heap.size W w') => deb_next (deb_next hd b0) b)
  have HC := Lib.hid (check_any L W hh (by omega))
  clear h hh b0 hx hW hd
  unfold layV at HC ⊢
  by_cases hc : checkF L = 0
  · obtain ⟨hm, _, _, _⟩ := check_split.1 hc
    obtain ⟨n1, _, _⟩ := named_split.1 hm
    simp only [limitB, decide_eq_true_eq] at n1
    have HF := Lib.hid (fun w' (b : Below W.heap.size W w') => linesOf_any L w' (HH.out.next b) (HD.out _ b) (good_of hc) (by omega) (by omega) (by omega) (by omega) hj)
    have HPR := Lib.hid (show printF L = ((Text.joinR (linesOf L)).1, ((Text.joinR (linesOf L)).2 : Int)) by unfold printF; rw [if_pos hc])
    have HTL := Lib.hid (show (joinT (linesOf L)).length ≤ 1000000000000 by
      have h1 := text_len _ (lines_short hc)
      have h2 := lines_count L
      omega)
    rw [hc] at HC
    obtain ⟨ls, hls⟩ : ∃ ls, linesOf L = ls := ⟨_, rfl⟩
    rw [hls] at HF HPR HTL
    obtain ⟨⟨t, je⟩, hte⟩ : ∃ r, Text.joinR ls = r := ⟨_, rfl⟩
    have HPV := Lib.hid (HPR.out.trans (by rw [hte] : _ = (t, (je : Int))))
    have HJ := Lib.hid (fun w' v (q : Lns (In w') w' v ls) => join_any (w := w') (v := v) q HTL.out)
    rw [joinV_of hte] at HJ
    unfold layV at HF
    clear hls hte hm n1 hc
    go_enter Tryz.func9, Tryz.ntmps9
    go_wp2_with fail
    rw [HW.out]
    obtain ⟨x0, x1, x2, x3, x4, x5⟩ := HX.out
    go_wp2_with fail
    refine HC.out.mono ?_
    rintro e w1 ⟨rfl, b1⟩
    have B1 := Lib.hid b1
    clear b1 x0 x1 x2 x3 x4 x5
    obtain ⟨x0, x1, x2, x3, x4, x5⟩ := HX.out.next B1.out HS.out
    go_wp2_with fail
    refine (HF.out _ B1.out).mono ?_
    rintro e w2 ⟨v2, rfl, ⟨va, vn, vc, rfl⟩, hl2, b2⟩
    have B2 := Lib.hid (bel_next' B1.out b2)
    have HL2 := Lib.hid hl2
    clear hl2 b2
    go_wp2_with fail
    refine (HJ.out _ _ HL2.out).mono ?_
    rintro e w3 ⟨rfl, b3⟩
    have B3 := Lib.hid (bel_next' B2.out b3)
    clear b3
    go_wp2_with fail
    go_ret2
    exact ⟨by rw [HPV.out]; rfl, bel_next' B0.out B3.out⟩
  · obtain ⟨c, hcc⟩ : ∃ c, checkF L = c := ⟨_, rfl⟩
    have HPR : Hid (printF L = ([], c)) := by
      show _ = _
      unfold printF
      rw [if_neg hc, hcc]
    rw [hcc] at HC hc
    have q0 : (c != 0) = true := by simpa using hc
    clear hcc hc
    go_enter Tryz.func9, Tryz.ntmps9
    go_wp2_with fail
    rw [HW.out]
    obtain ⟨x0, x1, x2, x3, x4, x5⟩ := HX.out
    go_wp2_with fail
    refine HC.out.mono ?_
    rintro e w1 ⟨rfl, b1⟩
    have B1 := Lib.hid b1
    clear b1
    go_wp2_with fail
    go_ret2
    exact ⟨by rw [HPR.out]; rfl, bel_next' B0.out B1.out⟩

/-- The program's Print and Parse give what is asked of them. -/
theorem two : Two Deb where
  keep := fun _ _ h b => deb_next h b
  prn := fun L _ _ _ _ _ w h hd hj => print_any L w h hd hj
  prs := fun s w hs hd => parse_any s w hs hd

end Go.Proofs.YtfdipcphohhlgaaGreatDoor.Pprg

/- The call of the statement PlanLines, from what the program's Print and Parse are to give. -/
namespace Go.Proofs.YtfdipcphohhlgaaGreatDoor.Plns
open Go.RowKit Go.Lib Go.Proofs.YtfdipcphohhlgaaGreatDoor.Reads Go.Proofs.YtfdipcphohhlgaaGreatDoor.Rows2 Go.Proofs.YtfdipcphohhlgaaGreatDoor.Lay Go.Proofs.YtfdipcphohhlgaaGreatDoor.Layf Go.Proofs.YtfdipcphohhlgaaGreatDoor.Ldup Go.Proofs.YtfdipcphohhlgaaGreatDoor.Lext Go.Proofs.YtfdipcphohhlgaaGreatDoor.Lnmd Go.Proofs.YtfdipcphohhlgaaGreatDoor.Few0 Go.Proofs.YtfdipcphohhlgaaGreatDoor.Plnf Go.Proofs.YtfdipcphohhlgaaGreatDoor.Plna Go.Proofs.YtfdipcphohhlgaaGreatDoor.Plnc Go.Proofs.YtfdipcphohhlgaaGreatDoor.Ptwo Go.Proofs.YtfdipcphohhlgaaGreatDoor.Pali Go.Proofs.YtfdipcphohhlgaaGreatDoor.Pfew Go.Proofs.YtfdipcphohhlgaaGreatDoor.Linw
open Go.Proofs.YtfdipcphohhlgaaGreatDoor.Debw (Deb)
open Go.Proofs.YtfdipcphohhlgaaGreatDoor.Text hiding lineL joinR

theorem print_bad {L : Lay} (hj : L.joints.length ≤ 100) (h : (printF L).2 ≠ 0) : (printF L).1 = [] := by
  rw [print_err hj] at h
  unfold printF
  rw [if_neg h]
theorem elN_snoc (a : List (List (List UInt8))) (ws : List (List UInt8)) : elN (a ++ [ws]) = elN a + (if elW (ws.headD []) then 1 else 0) := by
  unfold elN
  rw [List.countP_append, List.countP_singleton]
theorem elN_take_le (a : List (List (List UInt8))) (i : Nat) : elN (a.take i) ≤ a.length := Nat.le_trans List.countP_le_length (by rw [List.length_take]; omega)
/-- What holds at the head of the loop. -/
def CRel (all : List (List (List UInt8))) (w : World) (vn vi : Value) (wr : World) : Prop :=
  ∃ i : Nat, vi = .int .i64 (i : Int) ∧ i ≤ all.length ∧ vn = .int .i64 (elN (all.take i) : Int) ∧ w = wr

set_option maxRecDepth 100000 in
set_option maxHeartbeats 3200000 in
theorem lines8_any (T : Two Deb) (L : Lay) {vs ve vj vg vb : Value} (w : World) (h : LayAt (In w) w L vs ve vj vg vb) (hd : Deb w) :
    Calls Tryz.prog 5 #[layV L vs ve vj vg vb] w (BoolOut true w) := by
  obtain ⟨sa, sc, ea, ec, ja, jc, ga, gc, da, dc, rfl, rfl, rfl, rfl, rfl⟩ := Lown.shapes h
  have b0 := (Below.refl w.heap.size w).alloc (Nat.le_refl _) (.cells #[.string (bs L.name), .slice sa L.secs.length sc, .slice ea L.els.length ec, .slice ja L.joints.length jc, .slice ga L.sigs.length gc, .slice da L.bals.length dc] 28)
  have hh := h.next b0
  have hx := lbox_new w 28 L (.slice sa L.secs.length sc) (.slice ea L.els.length ec) (.slice ja L.joints.length jc) (.slice ga L.sigs.length gc) (.slice da L.bals.length dc)
  have dd := T.keep _ _ hd b0
  have hs0 : w.heap.size < (w.alloc (.cells #[.string (bs L.name), .slice sa L.secs.length sc, .slice ea L.els.length ec, .slice ja L.joints.length jc, .slice ga L.sigs.length gc, .slice da L.bals.length dc] 28)).heap.size := by simp
  obtain ⟨W, hW⟩ : ∃ W, w.alloc (.cells #[.string (bs L.name), .slice sa L.secs.length sc, .slice ea L.els.length ec, .slice ja L.joints.length jc, .slice ga L.sigs.length gc, .slice da L.bals.length dc] 28) = W := ⟨_, rfl⟩
  rw [hW] at b0 hh hx dd hs0
  have HW := Lib.hid hW
  have B0 := Lib.hid b0
  have HX := Lib.hid hx
  have HS := Lib.hid hs0
  have HH := Lib.hid hh
  have DD := Lib.hid (fun w' (b : Below W.heap.size W w') => T.keep _ _ dd b)
  have HF := Lib.hid (few8_any L _ hh)
  have HA := Lib.hid (fun w' (b : Below W.heap.size W w') => alive_any T _ (DD.out _ b))
  clear h hh hd dd hW b0 hx hs0
  obtain ⟨b, hb⟩ : ∃ b, fewB L = b := ⟨_, rfl⟩
  rw [hb] at HF
  have HFW := Lib.hid hb
  clear hb
  unfold layV at HF ⊢
  go_enter Tryz.func5, Tryz.ntmps5
  go_wp2_with fail
  rw [HW.out]
  obtain ⟨x0, x1, x2, x3, x4, x5⟩ := HX.out
  refine HF.out.mono ?_
  rintro e w1 ⟨rfl, b1⟩
  have B1 := Lib.hid b1
  clear b1 x0 x1 x2 x3 x4 x5
  obtain ⟨x0, x1, x2, x3, x4, x5⟩ := HX.out.next B1.out HS.out
  cases b
  · go_wp2_with fail
    refine (HA.out _ B1.out).mono ?_
    rintro e w2 ⟨rfl, b2⟩
    have B2 := Lib.hid (bel_next B1.out b2)
    clear b2
    go_wp2_with fail
    go_ret
    exact ⟨rfl, bel_next B0.out B2.out⟩
  · obtain ⟨f1, f2, f3, f4, f5⟩ := few_yes HFW.out
    have hT := T.prn L _ _ _ _ _ w1 (HH.out.next B1.out) (DD.out _ B1.out) (by omega)
    have hpe := print_err (L := L) f3
    have hbad := print_bad (L := L) f3
    have HOK := Lib.hid (fun hc => (print_ok (L := L) hc f3))
    have HTX := Lib.hid (fun hc => (text_of (L := L) hc f3))
    obtain ⟨⟨t, e0⟩, hr⟩ : ∃ r, printF L = r := ⟨_, rfl⟩
    rw [hr] at hT hpe hbad HOK
    simp only at hpe hbad
    have HT := Lib.hid hT
    have HPE := Lib.hid hpe
    clear hT hr hpe
    unfold layV at HT
    go_wp2_with fail
    refine HT.out.mono ?_
    rintro e w2 ⟨rfl, b2⟩
    have B2 := Lib.hid (bel_next B1.out b2)
    clear b2 x0 x1 x2 x3 x4 x5
    obtain ⟨x0, x1, x2, x3, x4, x5⟩ := HX.out.next B2.out HS.out
    by_cases he : e0 = 0
    · subst he
      have hc : checkF L = 0 := HPE.out.symm
      have hok := HOK.out hc
      simp only [Prod.mk.injEq, and_true] at hok
      have hlt : t.length ≤ 32768 := by
        have h1 := HTX.out hc
        unfold Text.joinR at h1
        rw [hok]
        split at h1
        · simp at h1
        · split at h1
          · simp at h1
          · omega
      have hlr := lines_of_join (HTX.out hc)
      rw [← hok] at hlr
      have hL := lines_any (bs t) w2 (by show t.length ≤ _; omega) (DD.out _ B2.out)
      rw [show linesR (bs t).data.toList = (linesOf L, 0, 0) from hlr] at hL
      have HL := Lib.hid hL
      have HCN := Lib.hid (lines_count L)
      have HEN := Lib.hid (elN_lines L)
      have HHD := Lib.hid (fun ws (h : ws ∈ linesOf L) => heads (L := L) ws h)
      have HSH := Lib.hid (lines_short hc)
      obtain ⟨all, hall⟩ : ∃ all, linesOf L = all := ⟨_, rfl⟩
      rw [hall] at HL HCN HEN HHD HSH
      clear hL hlr hok hlt hall HT HOK HTX hbad hc HPE
      go_wp2_with fail
      refine HL.out.mono ?_
      rintro e w3 ⟨v, rfl, hv, b3⟩
      obtain ⟨a, cap, rfl, hm, _, _, hcell⟩ := hv.shape
      have HC := Lib.hid hcell
      have B3 := Lib.hid (bel_next B2.out b3)
      clear b3 hv hcell x0 x1 x2 x3 x4 x5
      obtain ⟨x0, x1, x2, x3, x4, x5⟩ := HX.out.next B3.out HS.out
      have hq : ((all.length : Int) != 1 + (L.secs.length : Int) + (L.els.length : Int) + (L.joints.length : Int) + (L.sigs.length : Int) + (L.bals.length : Int)) = false := by
        have := HCN.out
        simp
        omega
      go_wp2_with fail
      go_loopw [8, 9] (fun vn vi wr => CRel all w3 vn vi wr) (fun _ vi _ => all.length - (RowKit.intOf vi).toNat)
      case atStart => exact ⟨0, rfl, Nat.zero_le _, rfl, rfl⟩
      case round =>
        obtain ⟨i, rfl, hi, rfl, rfl⟩ := hrel
        have hlen : all.length ≤ 400 := by
          have := HCN.out
          omega
        have hnl := elN_take_le all i
        by_cases hl : i < all.length
        · obtain ⟨ws, hws⟩ := at_lt hl
          obtain ⟨b, off, x, rfl, hb, c0, hs⟩ := HC.out i ws hws
          have hmem := List.mem_of_getElem? hws
          obtain ⟨a2, cap2, rfl, _, _, _, h5⟩ := hs.shape
          have hne := (HSH.out ws hmem).1
          have hpos : 0 < ws.length := List.length_pos_iff.2 hne
          obtain ⟨s0, hs0⟩ := at_lt hpos
          obtain ⟨_, b2, off2, rfl, _, c1⟩ := h5 0 s0 hs0
          rw [Nat.add_zero] at c1
          have hhd : ws.headD [] = s0 := by
            cases ws
            · simp at hs0
            · simpa using hs0
          have H0 := HHD.out ws hmem
          have HT1 := Lib.hid (show elN (all.take (i + 1)) = elN (all.take i) + (if elW s0 then 1 else 0) by
            obtain ⟨hk, rfl⟩ := List.getElem?_eq_some_iff.1 hws
            rw [List.take_succ_eq_append_getElem hk, elN_snoc, hhd])
          rw [hhd] at H0
          have hlt : (i : Int) < (all.length : Int) := by omega
          have hp2 : (0 : Int) < (ws.length : Int) := by omega
          obtain ⟨n, hn⟩ : ∃ n, elN (all.take i) = n := ⟨_, rfl⟩
          rw [hn] at HT1 hnl ⊢
          clear hn hws hmem hs h5 hne
          rcases H0 with ha | ⟨ha, ho⟩
          · have h3 : s0 = kTrk ∨ s0 = kPts ∨ s0 = kCrs := by simpa [elW] using ha
            clear ha
            rcases h3 with rfl | rfl | rfl
            · rw [show bs kTrk = (⟨#[116, 114, 97, 99, 107]⟩ : ByteArray) from rfl] at c1
              have HT2 := Lib.hid (show elN (all.take (i + 1)) = n + 1 by rw [HT1.out]; rfl)
              clear hhd hs0
              go_wp2_with fail
              go_roundw
              case rel => exact ⟨i + 1, by simp, by omega, by rw [HT2.out]; simp, rfl⟩
              case measure => simp [RowKit.intOf]; omega
            · rw [show bs kPts = (⟨#[112, 111, 105, 110, 116, 115]⟩ : ByteArray) from rfl] at c1
              have HT2 := Lib.hid (show elN (all.take (i + 1)) = n + 1 by rw [HT1.out]; rfl)
              clear hhd hs0
              go_wp2_with fail
              go_roundw
              case rel => exact ⟨i + 1, by simp, by omega, by rw [HT2.out]; simp, rfl⟩
              case measure => simp [RowKit.intOf]; omega
            · rw [show bs kCrs = (⟨#[99, 114, 111, 115, 115]⟩ : ByteArray) from rfl] at c1
              have HT2 := Lib.hid (show elN (all.take (i + 1)) = n + 1 by rw [HT1.out]; rfl)
              clear hhd hs0
              go_wp2_with fail
              go_roundw
              case rel => exact ⟨i + 1, by simp, by omega, by rw [HT2.out]; simp, rfl⟩
              case measure => simp [RowKit.intOf]; omega
          · have h3 : s0 = kLay ∨ s0 = kSec ∨ s0 = kJnt ∨ s0 = kSig ∨ s0 = kBal := by simpa [otW] using ho
            clear ha ho
            rcases h3 with rfl | rfl | rfl | rfl | rfl
            · rw [show bs kLay = (⟨#[108, 97, 121, 111, 117, 116]⟩ : ByteArray) from rfl] at c1
              have HT2 := Lib.hid (show elN (all.take (i + 1)) = n + 0 by rw [HT1.out]; rfl)
              clear hhd hs0
              go_wp2_with fail
              go_roundw
              case rel => exact ⟨i + 1, by simp, by omega, by rw [HT2.out]; simp, rfl⟩
              case measure => simp [RowKit.intOf]; omega
            · rw [show bs kSec = (⟨#[115, 101, 99, 116, 105, 111, 110]⟩ : ByteArray) from rfl] at c1
              have HT2 := Lib.hid (show elN (all.take (i + 1)) = n + 0 by rw [HT1.out]; rfl)
              clear hhd hs0
              go_wp2_with fail
              go_roundw
              case rel => exact ⟨i + 1, by simp, by omega, by rw [HT2.out]; simp, rfl⟩
              case measure => simp [RowKit.intOf]; omega
            · rw [show bs kJnt = (⟨#[106, 111, 105, 110, 116]⟩ : ByteArray) from rfl] at c1
              have HT2 := Lib.hid (show elN (all.take (i + 1)) = n + 0 by rw [HT1.out]; rfl)
              clear hhd hs0
              go_wp2_with fail
              go_roundw
              case rel => exact ⟨i + 1, by simp, by omega, by rw [HT2.out]; simp, rfl⟩
              case measure => simp [RowKit.intOf]; omega
            · rw [show bs kSig = (⟨#[115, 105, 103, 110, 97, 108]⟩ : ByteArray) from rfl] at c1
              have HT2 := Lib.hid (show elN (all.take (i + 1)) = n + 0 by rw [HT1.out]; rfl)
              clear hhd hs0
              go_wp2_with fail
              go_roundw
              case rel => exact ⟨i + 1, by simp, by omega, by rw [HT2.out]; simp, rfl⟩
              case measure => simp [RowKit.intOf]; omega
            · rw [show bs kBal = (⟨#[98, 97, 108, 105, 115, 101]⟩ : ByteArray) from rfl] at c1
              have HT2 := Lib.hid (show elN (all.take (i + 1)) = n + 0 by rw [HT1.out]; rfl)
              clear hhd hs0
              go_wp2_with fail
              go_roundw
              case rel => exact ⟨i + 1, by simp, by omega, by rw [HT2.out]; simp, rfl⟩
              case measure => simp [RowKit.intOf]; omega
        · obtain rfl : i = all.length := by omega
          have HQ := Lib.hid (show elN (all.take all.length) = L.els.length by rw [List.take_length]; exact HEN.out)
          rw [HQ.out]
          have hqq : ((L.els.length : Int) == (L.els.length : Int)) = true := by simp
          go_wp2_with fail
          refine (HA.out _ B3.out).mono ?_
          rintro e w4 ⟨rfl, b4⟩
          have B4 := Lib.hid (bel_next B3.out b4)
          clear b4
          go_wp2_with fail
          go_ret
          exact ⟨rfl, bel_next B0.out B4.out⟩
    · have hbt := hbad he
      subst hbt
      have q0 : (e0 != 0) = true := by simpa using he
      have q1 : (bs []).toList.isEmpty = true := by decide +kernel
      clear hbad
      go_wp2_with fail
      refine (HA.out _ B2.out).mono ?_
      rintro e w4 ⟨rfl, b4⟩
      have B4 := Lib.hid (bel_next B2.out b4)
      clear b4
      go_wp2_with fail
      go_ret
      exact ⟨rfl, bel_next B0.out B4.out⟩

end Go.Proofs.YtfdipcphohhlgaaGreatDoor.Plns
