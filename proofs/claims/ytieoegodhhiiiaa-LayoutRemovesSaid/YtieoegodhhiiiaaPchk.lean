/- The program's Check. -/
import Derived.Test.YtieoegodhhiiiaaPbeh
import Derived.Test.YtieoegodhhiiiaaLfew
namespace Go.Proofs.Ytieoegodhhiiiaa.Pchk
open Go.RowKit Go.Lib Go.Proofs.Ytieoegodhhiiiaa.Numt Go.Proofs.Ytieoegodhhiiiaa.Reads Go.Proofs.Ytieoegodhhiiiaa.Rows2 Go.Proofs.Ytieoegodhhiiiaa.Lay Go.Proofs.Ytieoegodhhiiiaa.Layf Go.Proofs.Ytieoegodhhiiiaa.Lcon Go.Proofs.Ytieoegodhhiiiaa.Ldup Go.Proofs.Ytieoegodhhiiiaa.Lext Go.Proofs.Ytieoegodhhiiiaa.Lnmd Go.Proofs.Ytieoegodhhiiiaa.Lsev Go.Proofs.Ytieoegodhhiiiaa.Pbas Go.Proofs.Ytieoegodhhiiiaa.Pfn Go.Proofs.Ytieoegodhhiiiaa.Peac Go.Proofs.Ytieoegodhhiiiaa.Pdis Go.Proofs.Ytieoegodhhiiiaa.Ppar Go.Proofs.Ytieoegodhhiiiaa.Omap Go.Proofs.Ytieoegodhhiiiaa.Omapn Go.Proofs.Ytieoegodhhiiiaa.Lmap Go.Proofs.Ytieoegodhhiiiaa.Pjoe Go.Proofs.Ytieoegodhhiiiaa.Phas Go.Proofs.Ytieoegodhhiiiaa.Pcls Go.Proofs.Ytieoegodhhiiiaa.Pbeh Go.Proofs.Ytieoegodhhiiiaa.Lfew
open Go.Proofs.Ytieoegodhhiiiaa.Text hiding lineL joinR

theorem ends_len (js : List ((Int × Int) × (Int × Int))) : (endsOf js).length = 2 * js.length := by
  induction js with
  | nil => rfl
  | cons j l ih =>
    have : endsOf (j :: l) = [j.1, j.2] ++ endsOf l := by simp [endsOf]
    rw [this, List.length_append, ih, List.length_cons]
    simp
    omega
theorem spots_rows (l : List Sig) : (l.map fun x => [Value.int .i64 x.spot.1, Value.int .i64 x.spot.2]) = (l.map (·.spot)).map pCells := by rw [List.map_map]; rfl
theorem ids_rows (l : List Bal) : (l.map fun x => [Value.int .i64 x.id]) = (l.map (·.id)).map fun x => [Value.int .i64 x] := by rw [List.map_map]; rfl
theorem spots_any (L : Lay) {vs ve vj vg vb : Value} (w : World) (h : LayAt (In w) w L vs ve vj vg vb) (hn : L.sigs.length ≤ 1000) :
    Calls Try.prog 27 #[vg, .func (.func 28) #[] #[]] w fun e w' => ∃ v, e = .returned v ∧ (∀ W, Below w'.heap.size w' W → Calls Try.prog 26 #[v] W (BoolOut (!dupB (L.sigs.map (·.spot))) W)) ∧ Below w.heap.size w w' :=
  (eachGE h.sigs hn).mono fun e w' ⟨v, he, hg, hb⟩ => ⟨v, he, fun W hW => distinctE (xs := L.sigs.map (·.spot)) (by rw [← spots_rows]; exact hg.keep (keep_next hW)) (fun x hx => by
    obtain ⟨s, hs, rfl⟩ := List.mem_map.1 hx
    exact (h.swf s hs).1) (by rw [List.length_map]; exact hn), hb⟩
theorem ids_any (L : Lay) {vs ve vj vg vb : Value} (w : World) (h : LayAt (In w) w L vs ve vj vg vb) (hn : L.bals.length ≤ 1000) :
    Calls Try.prog 32 #[vb, .func (.func 33) #[] #[]] w fun e w' => ∃ v, e = .returned v ∧ (∀ W, Below w'.heap.size w' W → Calls Try.prog 31 #[v] W (BoolOut (!dupB (L.bals.map (·.id))) W)) ∧ Below w.heap.size w w' :=
  (eachBI h.bals hn).mono fun e w' ⟨v, he, hg, hb⟩ => ⟨v, he, fun W hW => distinctI (xs := L.bals.map (·.id)) (by rw [← ids_rows]; exact hg.keep (keep_next hW)) (fun x hx => by
    obtain ⟨s, hs, rfl⟩ := List.mem_map.1 hx
    exact (h.bwf s hs).1) (by rw [List.length_map]; exact hn), hb⟩

/-! What Check answers, condition by condition. -/
section
variable {L : Lay}
theorem chk0 (h : limitB L = false) : checkF L = 2 := by rw [checkF, named_limit h]; rfl
theorem chk1 (h : limitB L = true) (h1 : (allNames L).all nameL = false) : checkF L = 3 := by rw [checkF, named_name h h1]; rfl
theorem chk2 (h : limitB L = true) (h1 : (allNames L).all nameL = true) (h2 : (!dupN L) = false) : checkF L = 8 := by rw [checkF, named_dup h h1 (by simpa using h2)]; rfl
/-- The conditions 1 to 3. -/
def A3 (L : Lay) : Prop := limitB L = true ∧ (allNames L).all nameL = true ∧ (!dupN L) = true
theorem a3 (h : A3 L) : namedF L = 0 := named_ok h.1 h.2.1 (by simpa using h.2.2)
theorem chk3 (h : A3 L) (h1 : L.els.all (rightB L.secs.length) = false) : checkF L = 1 := by rw [checkF, a3 h, elements_right h1]; rfl
theorem chk4 (h : A3 L) (h1 : L.els.all (rightB L.secs.length) = true) (h2 : heldR L 0 L.secs.length = false) : checkF L = 1 := by rw [checkF, a3 h, elements_held h1 h2]; rfl
theorem chk5 (h : A3 L) (h1 : L.els.all (rightB L.secs.length) = true) (h2 : heldR L 0 L.secs.length = true) (h3 : L.joints.all (jointB L.els) = false) : checkF L = 1 := by rw [checkF, a3 h, elements_joint h1 h2 h3]; rfl
theorem chk6 (h : A3 L) (h1 : L.els.all (rightB L.secs.length) = true) (h2 : heldR L 0 L.secs.length = true) (h3 : L.joints.all (jointB L.els) = true) (h4 : dupB (endsOf L.joints) = true) : checkF L = 8 := by rw [checkF, a3 h, elements_dup h1 h2 h3 h4]; rfl
/-- The conditions 1 to 7. -/
def A7 (L : Lay) : Prop := A3 L ∧ L.els.all (rightB L.secs.length) = true ∧ heldR L 0 L.secs.length = true ∧ L.joints.all (jointB L.els) = true ∧ dupB (endsOf L.joints) = false
theorem a7 (h : A7 L) : namedF L = 0 ∧ elementsF L = 0 := ⟨a3 h.1, elements_ok h.2.1 h.2.2.1 h.2.2.2.1 h.2.2.2.2⟩
theorem chk7 (h : A7 L) (h1 : L.sigs.all (sigB L.els) = false) : checkF L = 1 := by rw [checkF, (a7 h).1, (a7 h).2, signals_arg h1]; rfl
theorem chk8 (h : A7 L) (h1 : L.sigs.all (sigB L.els) = true) (h2 : (!dupB (L.sigs.map (·.spot))) = false) : checkF L = 8 := by rw [checkF, (a7 h).1, (a7 h).2, signals_dup h1 (by simpa using h2)]; rfl
theorem chk9 (h : A7 L) (h1 : L.sigs.all (sigB L.els) = true) (h2 : (!dupB (L.sigs.map (·.spot))) = true) (h3 : (L.sigs.map (·.spot)).all (safeB L) = false) : checkF L = 14 := by rw [checkF, (a7 h).1, (a7 h).2, signals_safe h1 (by simpa using h2) h3]; rfl
/-- The conditions 1 to 10. -/
def A10 (L : Lay) : Prop := A7 L ∧ L.sigs.all (sigB L.els) = true ∧ (!dupB (L.sigs.map (·.spot))) = true ∧ (L.sigs.map (·.spot)).all (safeB L) = true
theorem a10 (h : A10 L) : namedF L = 0 ∧ elementsF L = 0 ∧ signalsF L = 0 := ⟨(a7 h.1).1, (a7 h.1).2, signals_ok h.2.1 (by simpa using h.2.2.1) h.2.2.2⟩
theorem chk10 (h : A10 L) (h1 : L.bals.all (balB L.els) = false) : checkF L = 1 := by rw [checkF, (a10 h).1, (a10 h).2.1, (a10 h).2.2, balises_arg h1]; rfl
theorem chk11 (h : A10 L) (h1 : L.bals.all (balB L.els) = true) (h2 : (!dupB (L.bals.map (·.id))) = false) : checkF L = 8 := by rw [checkF, (a10 h).1, (a10 h).2.1, (a10 h).2.2, balises_dup h1 (by simpa using h2)]; rfl
theorem chk12 (h : A10 L) (h1 : L.bals.all (balB L.els) = true) (h2 : (!dupB (L.bals.map (·.id))) = true) : checkF L = 0 := by rw [checkF, (a10 h).1, (a10 h).2.1, (a10 h).2.2, balises_ok h1 (by simpa using h2)]; rfl
end

set_option maxRecDepth 100000 in
set_option maxHeartbeats 6400000 in
theorem check_any (L : Lay) {vs ve vj vg vb : Value} (w : World) (h : LayAt (In w) w L vs ve vj vg vb) (hf : fewB L = true) :
    Calls Try.prog 8 #[layV L vs ve vj vg vb] w (NumOut (checkF L) w) := by
  obtain ⟨f1, f2, f3, f4, f5⟩ := few_yes hf
  obtain ⟨ja, jc, rfl, hjm, -⟩ := h.jt
  have b1 := (Below.refl w.heap.size w).alloc (Nat.le_refl _) (.cells #[.string (bs L.name), vs, ve, .slice ja L.joints.length jc, vg, vb] 28)
  have hh := h.next b1
  have hx := lbox_new w 28 L vs ve (.slice ja L.joints.length jc) vg vb
  have hs0 : w.heap.size < (w.alloc (.cells #[.string (bs L.name), vs, ve, .slice ja L.joints.length jc, vg, vb] 28)).heap.size := by simp
  obtain ⟨W, hW⟩ : ∃ W, w.alloc (.cells #[.string (bs L.name), vs, ve, .slice ja L.joints.length jc, vg, vb] 28) = W := ⟨_, rfl⟩
  rw [hW] at b1 hh hx hs0
  have HW := Lib.hid hW
  have B0 := Lib.hid b1
  have HX := Lib.hid hx
  have HS := Lib.hid hs0
  have C0 := Lib.hid (fun w' (b : Below W.heap.size W w') => sizes_any L w' (hh.next b))
  have C1 := Lib.hid (fun w' (b : Below W.heap.size W w') => hasNames_any L w' (hh.next b) (by omega) (by omega))
  have C2 := Lib.hid (fun w' (b : Below W.heap.size W w') => hasDistinct_any L w' (hh.next b) (by omega) (by omega) (by omega))
  have C3 := Lib.hid (fun w' (b : Below W.heap.size W w') => hasElements_any L w' (hh.next b))
  have C4 := Lib.hid (fun w' (b : Below W.heap.size W w') => hasFull_any L w' (hh.next b) (by omega))
  have C5 := Lib.hid (fun w' (b : Below W.heap.size W w') => hasJoints_any L w' (hh.next b))
  have C6 := Lib.hid (fun w' (b : Below W.heap.size W w') => ends_any L w' (hh.next b) (by omega))
  have C7 := Lib.hid (fun w' (b : Below W.heap.size W w') => hasSignals_any L w' (hh.next b))
  have C8 := Lib.hid (fun w' (b : Below W.heap.size W w') => spots_any L w' (hh.next b) (by omega))
  have C9 := Lib.hid (fun w' (b : Below W.heap.size W w') mb n (hm : endEnd.Is w' mb n (mapOf L.joints)) hd hj hg => hasBehind_any L w' (hh.next b) hm hd hj hg)
  have C10 := Lib.hid (fun w' (b : Below W.heap.size W w') => hasBalises_any L w' (hh.next b))
  have C11 := Lib.hid (fun w' (b : Below W.heap.size W w') => ids_any L w' (hh.next b) (by omega))
  unfold layV at C0 C1 C2 C3 C4 C5 C6 C7 C9 C10 ⊢
  have HN := Lib.hid f3
  clear h hh hx hs0 b1 hW hf f1 f2 f4 f5
  obtain ⟨x0, x1, x2, x3, x4, x5⟩ := HX.out
  go_enter Try.func8, Try.ntmps8
  go_wp2_with fail
  rw [HW.out]
  obtain ⟨q, h0⟩ : ∃ q, limitB L = q := ⟨_, rfl⟩
  rw [h0] at C0
  have E0 := Lib.hid h0
  clear h0
  refine (C0.out _ (Below.refl _ _)).mono ?_
  rintro e w0 ⟨rfl, b⟩
  have B1 := Lib.hid b
  clear b x0 x1 x2 x3 x4 x5
  obtain ⟨x0, x1, x2, x3, x4, x5⟩ := HX.out.next B1.out HS.out
  cases q
  · have HV := Lib.hid (chk0 E0.out)
    go_wp2_with fail
    go_ret
    exact ⟨by rw [HV.out]; rfl, bel_next B0.out B1.out⟩
  obtain ⟨q, h0⟩ : ∃ q, (allNames L).all nameL = q := ⟨_, rfl⟩
  rw [h0] at C1
  have E1 := Lib.hid h0
  clear h0
  go_wp2_with fail
  refine (C1.out _ B1.out).mono ?_
  rintro e w1 ⟨rfl, b⟩
  have B2 := Lib.hid (bel_next B1.out b)
  clear b x0 x1 x2 x3 x4 x5
  obtain ⟨x0, x1, x2, x3, x4, x5⟩ := HX.out.next B2.out HS.out
  cases q
  · have HV := Lib.hid (chk1 E0.out E1.out)
    go_wp2_with fail
    go_ret
    exact ⟨by rw [HV.out]; rfl, bel_next B0.out B2.out⟩
  obtain ⟨q, h0⟩ : ∃ q, (!dupN L) = q := ⟨_, rfl⟩
  rw [h0] at C2
  have E2 := Lib.hid h0
  clear h0
  go_wp2_with fail
  refine (C2.out _ B2.out).mono ?_
  rintro e w2 ⟨rfl, b⟩
  have B3 := Lib.hid (bel_next B2.out b)
  clear b x0 x1 x2 x3 x4 x5
  obtain ⟨x0, x1, x2, x3, x4, x5⟩ := HX.out.next B3.out HS.out
  cases q
  · have HV := Lib.hid (chk2 E0.out E1.out E2.out)
    go_wp2_with fail
    go_ret
    exact ⟨by rw [HV.out]; rfl, bel_next B0.out B3.out⟩
  have EA := Lib.hid (show A3 L from ⟨E0.out, E1.out, E2.out⟩)
  obtain ⟨q, h0⟩ : ∃ q, L.els.all (rightB L.secs.length) = q := ⟨_, rfl⟩
  rw [h0] at C3
  have E3 := Lib.hid h0
  clear h0
  go_wp2_with fail
  refine (C3.out _ B3.out).mono ?_
  rintro e w3 ⟨rfl, b⟩
  have B4 := Lib.hid (bel_next B3.out b)
  clear b x0 x1 x2 x3 x4 x5
  obtain ⟨x0, x1, x2, x3, x4, x5⟩ := HX.out.next B4.out HS.out
  cases q
  · have HV := Lib.hid (chk3 EA.out E3.out)
    go_wp2_with fail
    go_ret
    exact ⟨by rw [HV.out]; rfl, bel_next B0.out B4.out⟩
  obtain ⟨q, h0⟩ : ∃ q, heldR L 0 L.secs.length = q := ⟨_, rfl⟩
  rw [h0] at C4
  have E4 := Lib.hid h0
  clear h0
  go_wp2_with fail
  refine (C4.out _ B4.out).mono ?_
  rintro e w4 ⟨rfl, b⟩
  have B5 := Lib.hid (bel_next B4.out b)
  clear b x0 x1 x2 x3 x4 x5
  obtain ⟨x0, x1, x2, x3, x4, x5⟩ := HX.out.next B5.out HS.out
  cases q
  · have HV := Lib.hid (chk4 EA.out E3.out E4.out)
    go_wp2_with fail
    go_ret
    exact ⟨by rw [HV.out]; rfl, bel_next B0.out B5.out⟩
  obtain ⟨q, h0⟩ : ∃ q, L.joints.all (jointB L.els) = q := ⟨_, rfl⟩
  rw [h0] at C5
  have E5 := Lib.hid h0
  clear h0
  go_wp2_with fail
  refine (C5.out _ B5.out).mono ?_
  rintro e w5 ⟨rfl, b⟩
  have B6 := Lib.hid (bel_next B5.out b)
  clear b x0 x1 x2 x3 x4 x5
  obtain ⟨x0, x1, x2, x3, x4, x5⟩ := HX.out.next B6.out HS.out
  cases q
  · have HV := Lib.hid (chk5 EA.out E3.out E4.out E5.out)
    go_wp2_with fail
    go_ret
    exact ⟨by rw [HV.out]; rfl, bel_next B0.out B6.out⟩
  go_wp2_with fail
  refine (C6.out _ B6.out).mono ?_
  rintro e w6 ⟨mb, n, c, rfl, hi, hc, b⟩
  have B7 := Lib.hid (bel_next B6.out b)
  have HI := Lib.hid hi
  have HC := Lib.hid hc
  have HLE := Lib.hid (show c ≤ 2 * L.joints.length by rw [← ends_len]; exact hc.1)
  clear b hi hc x0 x1 x2 x3 x4 x5
  obtain ⟨x0, x1, x2, x3, x4, x5⟩ := HX.out.next B7.out HS.out
  have hw2 : IntKind.i64.wrap (2 * (L.joints.length : Int)) = 2 * (L.joints.length : Int) := by rw [IntKind.wrap_i64]; omega
  by_cases hd : (c : Int) < 2 * (L.joints.length : Int)
  · have HV := Lib.hid (chk6 EA.out E3.out E4.out E5.out (by
      cases hq : dupB (endsOf L.joints) with
      | true => rfl
      | false =>
        have := HC.out.2.2 hq
        rw [ends_len] at this
        omega))
    go_wp2_with (at_len; refine IsC.len_step endEnd rfl _ 49 rfl Try.underlying49 rfl HI.out ?_)
    go_ret
    exact ⟨by rw [HV.out]; rfl, bel_next B0.out B7.out⟩
  have E6 := Lib.hid (show dupB (endsOf L.joints) = false by
    refine HC.out.2.1 ?_
    rw [ends_len]
    have := HLE.out
    omega)
  have EB := Lib.hid (show A7 L from ⟨EA.out, E3.out, E4.out, E5.out, E6.out⟩)
  obtain ⟨q, h0⟩ : ∃ q, L.sigs.all (sigB L.els) = q := ⟨_, rfl⟩
  rw [h0] at C7
  have E7 := Lib.hid h0
  clear h0
  go_wp2_with (at_len; refine IsC.len_step endEnd rfl _ 49 rfl Try.underlying49 rfl HI.out ?_)
  refine (C7.out _ B7.out).mono ?_
  rintro e w7 ⟨rfl, b⟩
  have B8 := Lib.hid (bel_next B7.out b)
  have HI8 := Lib.hid (IsC.same endEnd HI.out (b.block mb (IsC.lt endEnd HI.out)))
  clear b x0 x1 x2 x3 x4 x5
  obtain ⟨x0, x1, x2, x3, x4, x5⟩ := HX.out.next B8.out HS.out
  cases q
  · have HV := Lib.hid (chk7 EB.out E7.out)
    go_wp2_with fail
    go_ret
    exact ⟨by rw [HV.out]; rfl, bel_next B0.out B8.out⟩
  go_wp2_with fail
  refine (C8.out _ B8.out).mono ?_
  rintro e w8 ⟨v8, rfl, hv8, b⟩
  have B9 := Lib.hid (bel_next B8.out b)
  have HI9 := Lib.hid (IsC.same endEnd HI8.out (b.block mb (IsC.lt endEnd HI8.out)))
  have D8 := Lib.hid (hv8 _ (Below.refl _ _))
  obtain ⟨q, h0⟩ : ∃ q, (!dupB (L.sigs.map (·.spot))) = q := ⟨_, rfl⟩
  rw [h0] at D8
  have E8 := Lib.hid h0
  clear h0 hv8 b x0 x1 x2 x3 x4 x5
  go_wp2_with fail
  refine D8.out.mono ?_
  rintro e w9 ⟨rfl, b⟩
  have B10 := Lib.hid (bel_next B9.out b)
  have HI10 := Lib.hid (IsC.same endEnd HI9.out (b.block mb (IsC.lt endEnd HI9.out)))
  clear b
  obtain ⟨x0, x1, x2, x3, x4, x5⟩ := HX.out.next B10.out HS.out
  cases q
  · have HV := Lib.hid (chk8 EB.out E7.out E8.out)
    go_wp2_with fail
    go_ret
    exact ⟨by rw [HV.out]; rfl, bel_next B0.out B10.out⟩
  have D9 := Lib.hid (C9.out w9 B10.out mb n (IsC.is endEnd HI10.out) E6.out E5.out E7.out)
  obtain ⟨q, h0⟩ : ∃ q, (L.sigs.map (·.spot)).all (safeB L) = q := ⟨_, rfl⟩
  rw [h0] at D9
  have E9 := Lib.hid h0
  clear h0
  go_wp2_with fail
  refine D9.out.mono ?_
  rintro e w10 ⟨rfl, b⟩
  have B11 := Lib.hid (bel_next B10.out b)
  clear b x0 x1 x2 x3 x4 x5
  obtain ⟨x0, x1, x2, x3, x4, x5⟩ := HX.out.next B11.out HS.out
  cases q
  · have HV := Lib.hid (chk9 EB.out E7.out E8.out E9.out)
    go_wp2_with fail
    go_ret
    exact ⟨by rw [HV.out]; rfl, bel_next B0.out B11.out⟩
  have EC := Lib.hid (show A10 L from ⟨EB.out, E7.out, E8.out, E9.out⟩)
  obtain ⟨q, h0⟩ : ∃ q, L.bals.all (balB L.els) = q := ⟨_, rfl⟩
  rw [h0] at C10
  have E10 := Lib.hid h0
  clear h0
  go_wp2_with fail
  refine (C10.out _ B11.out).mono ?_
  rintro e w11 ⟨rfl, b⟩
  have B12 := Lib.hid (bel_next B11.out b)
  clear b x0 x1 x2 x3 x4 x5
  obtain ⟨x0, x1, x2, x3, x4, x5⟩ := HX.out.next B12.out HS.out
  cases q
  · have HV := Lib.hid (chk10 EC.out E10.out)
    go_wp2_with fail
    go_ret
    exact ⟨by rw [HV.out]; rfl, bel_next B0.out B12.out⟩
  go_wp2_with fail
  refine (C11.out _ B12.out).mono ?_
  rintro e w12 ⟨v12, rfl, hv12, b⟩
  have B13 := Lib.hid (bel_next B12.out b)
  have D12 := Lib.hid (hv12 _ (Below.refl _ _))
  obtain ⟨q, h0⟩ : ∃ q, (!dupB (L.bals.map (·.id))) = q := ⟨_, rfl⟩
  rw [h0] at D12
  have E11 := Lib.hid h0
  clear h0 hv12 b x0 x1 x2 x3 x4 x5
  go_wp2_with fail
  refine D12.out.mono ?_
  rintro e w13 ⟨rfl, b⟩
  have B14 := Lib.hid (bel_next B13.out b)
  clear b
  cases q
  · have HV := Lib.hid (chk11 EC.out E10.out E11.out)
    go_wp2_with fail
    go_ret
    exact ⟨by rw [HV.out]; rfl, bel_next B0.out B14.out⟩
  have HV := Lib.hid (chk12 EC.out E10.out E11.out)
  go_wp2_with fail
  go_ret
  exact ⟨by rw [HV.out]; rfl, bel_next B0.out B14.out⟩

end Go.Proofs.Ytieoegodhhiiiaa.Pchk
