/- The program's condition that another section begins at each signal. -/
import Derived.Test.YtieoegodhhiiiaaPcls
import Derived.Lib.QuietBelow
import Derived.BigGuardPart
import Derived.BigQuiet
namespace Go.Proofs.Ytieoegodhhiiiaa.Pbeh
open Go.RowKit Go.Lib Go.Proofs.Ytieoegodhhiiiaa.Numt Go.Proofs.Ytieoegodhhiiiaa.Reads Go.Proofs.Ytieoegodhhiiiaa.Rows2 Go.Proofs.Ytieoegodhhiiiaa.Lay Go.Proofs.Ytieoegodhhiiiaa.Layf Go.Proofs.Ytieoegodhhiiiaa.Lcon Go.Proofs.Ytieoegodhhiiiaa.Ldup Go.Proofs.Ytieoegodhhiiiaa.Lext Go.Proofs.Ytieoegodhhiiiaa.Lnmd Go.Proofs.Ytieoegodhhiiiaa.Pbas Go.Proofs.Ytieoegodhhiiiaa.Pfn Go.Proofs.Ytieoegodhhiiiaa.Lsev Go.Proofs.Ytieoegodhhiiiaa.Ppar Go.Proofs.Ytieoegodhhiiiaa.Omap Go.Proofs.Ytieoegodhhiiiaa.Omapn Go.Proofs.Ytieoegodhhiiiaa.Lmap Go.Proofs.Ytieoegodhhiiiaa.Pjoe Go.Proofs.Ytieoegodhhiiiaa.Pcls
open Go.Proofs.Ytieoegodhhiiiaa.Text hiding lineL joinR

/-- Whether another section begins at an end. -/
def behindB (L : Lay) (e : Int × Int) : Bool := (joinedF L e).2 && !decide (sectionF L (joinedF L e).1.1 = sectionF L e.1)
theorem behind_safe {L : Lay} {e : Int × Int} (hj : L.joints.all (jointB L.els) = true) (he : existsB L.els e = true) : behindB L e = safeB L e := by
  unfold behindB safeB
  cases h2 : (joinedF L e).2 with
  | false => rfl
  | true =>
    have hf : existsB L.els (joinedF L e).1 = true := Lsig.join_exists hj h2
    obtain ⟨i, x, hi, hx, _⟩ := Lsig.exists_at he
    obtain ⟨j, y, hj, hy, _⟩ := Lsig.exists_at hf
    rw [Bool.true_and, Bool.true_and]
    congr 1
    refine decide_eq_decide.2 ?_
    rw [hi, hj, section_at hx, section_at hy]
    simp [secAt, hx, hy]

set_option maxRecDepth 100000 in
set_option maxHeartbeats 3200000 in
theorem tellBehind (L : Lay) {xs : List Sig} {vs ve vj vg vb : Value} (B M mb n : Nat) (w : World) (h : Cap B w L vs ve vj vg vb) (hM : M < w.heap.size) (hcell : w.cell? ⟨M, 0, none⟩ = some (.map (some mb))) (hm : endEnd.Is w mb n (mapOf L.joints)) (hd : dupB (endsOf L.joints) = false) (hx : ∀ x ∈ xs, pWf x.spot) :
    Tells xs 62 #[.pointer (some ⟨M, 0, none⟩), .pointer (some ⟨B, 0, none⟩)] sgV (fun s => behindB L s.spot) w := fun W x hxm hb => by
  have hwf := hx x hxm
  have hc := h.next hb
  have HBX := Lib.hid hc.box
  have hlt := hc.lt
  have hMW : M < W.heap.size := Nat.lt_of_lt_of_le hM hb.size
  have m0 := (hb.cell (p := ⟨M, 0, none⟩) hM).trans hcell
  obtain ⟨nm, ⟨u1, u2⟩, ov⟩ := x
  have b1 := (Below.refl W.heap.size W).alloc (Nat.le_refl _) (.cells #[.string (bs nm), .int .i64 u1, .int .i64 u2, .int .i64 ov] 55)
  have hmW := MapForm.alloc endEnd (MapForm.same endEnd hm (hb.block mb (MapForm.lt endEnd hm))) (.cells #[.string (bs nm), .int .i64 u1, .int .i64 u2, .int .i64 ov] 55)
  have hlk := MapForm.look_ok endEnd hmW (t := 49) Try.underlying49 (x := (u1, u2)) hwf
  have hmj := map_join (u1, u2) _ L.joints rfl hd
  obtain ⟨⟨⟨v1, v2⟩, ok⟩, hj⟩ : ∃ r, joinedF L (u1, u2) = r := ⟨_, rfl⟩
  rw [show Layf.joinR (u1, u2) L.joints = joinedF L (u1, u2) from rfl, hj] at hmj
  simp only at hmj
  rw [hmj] at hlk
  have HV := Lib.hid (show behindB L (u1, u2) = (ok && !decide (sectionF L v1 = sectionF L u1)) by unfold behindB; rw [hj])
  show Calls _ _ _ _ (BoolOut (behindB L (u1, u2)) W)
  rw [HV.out]
  unfold sgV
  simp only
  have HB := Lib.hid b1
  have HQ := Lib.hid (fun W' (b : Below W.heap.size W W') i => section_any L i W' (hc.lay.next b))
  have y1 : (W.alloc (.cells #[.string (bs nm), .int .i64 u1, .int .i64 u2, .int .i64 ov] 55)).cell? ⟨W.heap.size, 1, none⟩ = some (.int .i64 u1) := by rw [World.cell?_alloc_at _ _ _ _ rfl]; rfl
  have HY := Lib.hid y1
  clear h hb hc hm hmj hj hx hxm hcell hM hd HV hwf b1 y1 hmW
  obtain ⟨x0, x1, x2, x3, x4, x5⟩ := HBX.out
  cases ok
  · change (Instr.lookup 49 (.map (some mb)) (.agg #[.int .i64 u1, .int .i64 u2]) true).run _ _ = .ok (.tuple #[.agg #[.int .i64 0, .int .i64 0], .bool false]) _ at hlk
    go_enter Try.func62, Try.ntmps62
    go_wp2_with fail
    go_quiet (fail)
    go_wp2_with fail
    go_ret
    exact ⟨rfl, below_drewN (HB.out.alloc HB.out.size _) _⟩
  · change (Instr.lookup 49 (.map (some mb)) (.agg #[.int .i64 u1, .int .i64 u2]) true).run _ _ = .ok (.tuple #[.agg #[.int .i64 v1, .int .i64 v2], .bool true]) _ at hlk
    obtain ⟨t1, ht1⟩ : ∃ t, sectionF L v1 = t := ⟨_, rfl⟩
    obtain ⟨t2, ht2⟩ : ∃ t, sectionF L u1 = t := ⟨_, rfl⟩
    rw [ht1, ht2]
    have HT1 := Lib.hid ht1
    have HT2 := Lib.hid ht2
    clear ht1 ht2
    go_enter Try.func62, Try.ntmps62
    go_wp2_with fail
    clear hlk x0 x1 x2 x3 x4 x5
    obtain ⟨W1, hW1⟩ : ∃ W1, W.alloc (.cells #[.string (bs nm), .int .i64 u1, .int .i64 u2, .int .i64 ov] 55) = W1 := ⟨_, rfl⟩
    have hs1 : W1.heap.size = W.heap.size + 1 := by rw [← hW1]; simp
    rw [hW1] at HB HY ⊢
    have HW1 := Lib.hid hW1
    clear hW1
    have y1 := (((Below.refl W1.heap.size W1).alloc (Nat.le_refl _) (.cells #[.int .i64 v1, .int .i64 v2] 37)).cell (p := ⟨W.heap.size, 1, none⟩) (by rw [hs1]; simp)).trans HY.out
    have z0 : (W1.alloc (.cells #[.int .i64 v1, .int .i64 v2] 37)).cell? ⟨W1.heap.size, 0, none⟩ = some (.int .i64 v1) := by rw [World.cell?_alloc_at _ _ _ _ rfl]; rfl
    rw [hs1] at z0
    have bb := (Below.refl W1.heap.size W1).alloc (Nat.le_refl _) (.cells #[.int .i64 v1, .int .i64 v2] 37)
    obtain ⟨wB, hwB⟩ : ∃ wB, W1.alloc (.cells #[.int .i64 v1, .int .i64 v2] 37) = wB := ⟨_, rfl⟩
    rw [hwB] at y1 z0 bb ⊢
    have B2 := Lib.hid (bel_next HB.out bb)
    have k6 := cell_regrown y1
    have k7 := cell_regrown z0
    clear hwB y1 z0 bb hs1
    obtain ⟨x0, x1, x2, x3, x4, x5⟩ := HBX.out.next B2.out hlt
    have k0 := cell_regrown x0
    have k1 := cell_regrown x1
    have k2 := cell_regrown x2
    have k3 := cell_regrown x3
    have k4 := cell_regrown x4
    have k5 := cell_regrown x5
    clear x0 x1 x2 x3 x4 x5
    have C1 := Lib.hid (fun d os => Calls.regrown_of (w := wB) (d := d) (os := os) (HQ.out _ (bel_next B2.out (below_regrown wB d os)) v1))
    have C2 := Lib.hid (fun d os => Calls.regrown_of (w := wB) (d := d) (os := os) (HQ.out _ (bel_next B2.out (below_regrown wB d os)) u1))
    rw [HT1.out] at C1
    rw [HT2.out] at C2
    unfold layV at C1 C2
    by_cases ht : t1 = t2
    · subst ht
      rw [decide_eq_true rfl]
      refine wp_region_quiet_below (by kernel_rfl) (by kernel_rfl) ?_
      repeat (go_big_quiet_step (first | with_reducible exact C1.out _ _ | with_reducible exact C2.out _ _))
      refine wpQuiet_nil ?_
      intro _ hw'
      obtain ⟨⟨dq, osq⟩, hw''⟩ := hw'
      subst hw''
      have B6 := Lib.hid (bel_next B2.out (below_regrown wB dq osq))
      go_wp2_with fail
      go_ret
      exact ⟨rfl, B6.out⟩
    · rw [decide_eq_false ht]
      have hcc : (t1 == t2) = false := by simpa using ht
      clear ht
      refine wp_region_quiet_below (by kernel_rfl) (by kernel_rfl) ?_
      repeat (go_big_quiet_step (first | with_reducible exact C1.out _ _ | with_reducible exact C2.out _ _))
      refine wpQuiet_nil ?_
      intro _ hw'
      obtain ⟨⟨dq, osq⟩, hw''⟩ := hw'
      subst hw''
      have B6 := Lib.hid (bel_next B2.out (below_regrown wB dq osq))
      go_wp2_with fail
      go_ret
      exact ⟨rfl, B6.out⟩

set_option maxRecDepth 100000 in
set_option maxHeartbeats 800000 in
theorem hasBehind_any (L : Lay) {vs ve vj vg vb : Value} (w : World) (h : LayAt (In w) w L vs ve vj vg vb) {mb n : Nat} (hm : endEnd.Is w mb n (mapOf L.joints)) (hd : dupB (endsOf L.joints) = false) (hj : L.joints.all (jointB L.els) = true) (hg : L.sigs.all (sigB L.els) = true) :
    Calls Try.prog 29 #[layV L vs ve vj vg vb, .map (some mb)] w (BoolOut ((L.sigs.map (·.spot)).all (safeB L)) w) := by
  obtain ⟨x0, x1, x2, x3⟩ := box_two w #[.string (bs L.name), vs, ve, vj, vg, vb] #[.map (some mb)] 28 49
  have hcap : Cap w.heap.size ((w.alloc (.cells #[.string (bs L.name), vs, ve, vj, vg, vb] 28)).alloc (.cells #[.map (some mb)] 49)) L vs ve vj vg vb := (cap_new w L h).next ((Below.refl _ _).alloc (Nat.le_refl _) _)
  have HC := Lib.hid (allG (g := 62) (fun args w => enters_of Try.func62 (by kernel_rfl) rfl args w) (h.next x3).sigs (tellBehind L w.heap.size (w.heap.size + 1) mb n _ hcap x2 (x1 0) (MapForm.same endEnd hm (x3.block mb (MapForm.lt endEnd hm))) hd (fun x hx => (h.swf x hx).1)))
  have HE := Lib.hid (show (L.sigs.all fun s => behindB L s.spot) = (L.sigs.map (·.spot)).all (safeB L) by
    rw [List.all_map]
    refine Bool.eq_iff_iff.2 ?_
    rw [List.all_eq_true, List.all_eq_true]
    have hs : ∀ x ∈ L.sigs, behindB L x.spot = safeB L x.spot := fun x hx => behind_safe hj (by
      have := List.all_eq_true.1 hg x hx
      unfold sigB at this
      exact (Bool.and_eq_true _ _ ▸ this).1)
    exact ⟨fun hh x hx => by
      have := hh x hx
      rw [hs x hx] at this
      exact this, fun hh x hx => by rw [hs x hx]; exact hh x hx⟩)
  rw [HE.out] at HC
  obtain ⟨r, hr⟩ : ∃ r, (L.sigs.map (·.spot)).all (safeB L) = r := ⟨_, rfl⟩
  rw [hr] at HC ⊢
  clear hr
  have HB := Lib.hid x3
  have hmf : ∀ (fn : Fn) (first cap : Array Value) (w : World), (Instr.makeFunc fn first cap).run Try.prog w = .ok (.func fn first cap) w := fun _ _ _ _ => rfl
  clear h hm hd hj hg HE x0 x1 x2 x3 hcap
  unfold layV
  go_enter Try.func29, Try.ntmps29
  go_wp2_with fail
  refine HC.out.mono ?_
  rintro e w' ⟨rfl, hb⟩
  have HB2 := Lib.hid (bel_next HB.out hb)
  clear hb
  go_wp2_with fail
  go_ret
  exact ⟨rfl, HB2.out⟩

end Go.Proofs.Ytieoegodhhiiiaa.Pbeh
