/- RailSymmetric: for all ints, a passage is possible exactly if the opposite one is and needs the same position, and where rail.Out leads it leads back. No condition of its own; the card ties the listed table to the program's text. -/
import Derived.Test.YtgbgpncacpgikaaDoorRows
import Derived.WalkKit
import Derived.ProofKit
import Derived.OpenShut
import Derived.ShutString
import Derived.Below
import Derived.Test.YtgbgpncacpgikaaDoorLaidr
import Derived.Test.YtgbgpncacpgikaaDoorTie
import Derived.Test.YtgbgpncacpgikaaDoorCards
import Derived.SevenTiedAt
import Derived.ChangeVars
import Derived.ChangeSame
import Derived.Test.YtgbgpncacpgikaaDoorRalive
namespace Go.Proofs.YtgbgpncacpgikaaDoor.railSymmetric
open Go.ChangeShapes Go.WideShapes Go.ChangeAt
open Go.RowKit hiding intOf
open Go.ChangeMaps (open_string shut_string)
open Go.Proofs.YtgbgpncacpgikaaDoor
open Go.Proofs.YtgbgpncacpgikaaDoor.Rail Go.Proofs.YtgbgpncacpgikaaDoor.Rtab Go.Proofs.YtgbgpncacpgikaaDoor.Rout Go.Proofs.YtgbgpncacpgikaaDoor.Ralive
set_option linter.unusedVariables false

theorem own : ownKnob Tryd.prog.godebug = none := by kernel_rfl

set_option maxRecDepth 100000 in

set_option maxHeartbeats 800000 in
theorem walk (a0 : Int) (a1 : Int) (a2 : Int) (a3 : Int) (w : World) (w0 : (Lit.int .i64 a0).wf = true) (w1 : (Lit.int .i64 a1).wf = true) (w2 : (Lit.int .i64 a2).wf = true) (w3 : (Lit.int .i64 a3).wf = true) (hdeb : Go.Proofs.YtgbgpncacpgikaaDoor.Rtab.RTab w) :
    Calls Tryd.prog 5 #[.int .i64 a0, .int .i64 a1, .int .i64 a2, .int .i64 a3] w fun e w' => e = .returned (.bool true) ∧ Below w.heap.size w w' := by
  have HD := Lib.hid hdeb
  have HA := Lib.hid (fun w h => alive_any w h)
  have H1 := Lib.hid (fun w h => need_any a0 a1 a2 w h)
  have H2 := Lib.hid (fun w h => need_any a0 a2 a1 w h)
  rw [need_sym a0 a2 a1] at H2
  have H3 := Lib.hid (fun w h => out_any a0 a1 a3 w h)
  have hback := out_back a0 a1 a3
  obtain ⟨⟨x, b⟩, hx⟩ : ∃ x, outF a0 a1 a3 = x := ⟨_, rfl⟩
  rw [hx] at H3 hback
  have H4 := Lib.hid (fun w h => out_any a0 x a3 w h)
  obtain ⟨⟨y, c⟩, hy⟩ : ∃ x, needF a0 a1 a2 = x := ⟨_, rfl⟩
  rw [hy] at H1 H2
  have q2 : (c == c) = true := by simp
  clear hdeb hx hy
  cases b
  · clear hback
    obtain ⟨⟨z, d⟩, hz⟩ : ∃ r, outF a0 x a3 = r := ⟨_, rfl⟩
    rw [hz] at H4
    clear hz
    go_enter Tryd.func5, Tryd.ntmps5
    go_wp2_with fail
    refine (H1.out _ HD.out).mono ?_
    rintro e w1 ⟨rfl, b1⟩
    have D1 := Lib.hid (rtab_next HD.out b1)
    have B1 := Lib.hid b1
    clear b1
    go_wp2_with fail
    refine (H2.out _ D1.out).mono ?_
    rintro e w2 ⟨rfl, b2⟩
    have D2 := Lib.hid (rtab_next D1.out b2)
    have B2 := Lib.hid (bel_next B1.out b2)
    clear b2
    go_wp2_with fail
    refine (H3.out _ D2.out).mono ?_
    rintro e w3 ⟨rfl, b3⟩
    have D3 := Lib.hid (rtab_next D2.out b3)
    have B3 := Lib.hid (bel_next B2.out b3)
    clear b3
    go_wp2_with fail
    refine (H4.out _ D3.out).mono ?_
    rintro e w4 ⟨rfl, b4⟩
    have D4 := Lib.hid (rtab_next D3.out b4)
    have B4 := Lib.hid (bel_next B3.out b4)
    clear b4
    go_wp2_with fail
    refine (HA.out _ D4.out).mono ?_
    rintro e w5 ⟨rfl, b5⟩
    have B5 := Lib.hid (bel_next B4.out b5)
    clear b5
    go_wp2_with fail
    go_ret
    exact ⟨rfl, B5.out⟩
  · rw [hback rfl] at H4
    clear hback
    go_enter Tryd.func5, Tryd.ntmps5
    go_wp2_with fail
    refine (H1.out _ HD.out).mono ?_
    rintro e w1 ⟨rfl, b1⟩
    have D1 := Lib.hid (rtab_next HD.out b1)
    have B1 := Lib.hid b1
    clear b1
    go_wp2_with fail
    refine (H2.out _ D1.out).mono ?_
    rintro e w2 ⟨rfl, b2⟩
    have D2 := Lib.hid (rtab_next D1.out b2)
    have B2 := Lib.hid (bel_next B1.out b2)
    clear b2
    go_wp2_with fail
    refine (H3.out _ D2.out).mono ?_
    rintro e w3 ⟨rfl, b3⟩
    have D3 := Lib.hid (rtab_next D2.out b3)
    have B3 := Lib.hid (bel_next B2.out b3)
    clear b3
    go_wp2_with fail
    refine (H4.out _ D3.out).mono ?_
    rintro e w4 ⟨rfl, b4⟩
    have D4 := Lib.hid (rtab_next D3.out b4)
    have B4 := Lib.hid (bel_next B3.out b4)
    clear b4
    go_wp2_with fail
    refine (HA.out _ D4.out).mono ?_
    rintro e w5 ⟨rfl, b5⟩
    have B5 := Lib.hid (bel_next B4.out b5)
    clear b5
    go_wp2_with fail
    go_ret
    exact ⟨rfl, B5.out⟩

set_option maxRecDepth 100000 in
theorem lifted (os : Os) (started : os.Started) (H : Type) (enc : TypeId × Value → H) :
    ReturnsInHanded {} Tryd.checked os 5 .any (fun w args => (Rows.railSymmetricSpec.pre enc Tryd.prog Tryd.f5 [] false w args ∧ laidMetH Tryd.prog Go.Proofs.YtgbgpncacpgikaaDoor.Laidr.laid1 w) ∧ sizedMet enc Tryd.prog Tryd.f5 (OpenSpec.ofChange Rows.railSymmetricSpec) false w args)
      (Rows.railSymmetricSpec.post enc Tryd.prog Tryd.f5 false true false false) := by
  refine returnsInHanded_of_change_and (C := Tryd.checked) (X := fun w _ => laidMetH Tryd.prog Go.Proofs.YtgbgpncacpgikaaDoor.Laidr.laid1 w) (fun _ _ _ hh h => h.of_heap hh) own started (by kernel_rfl) Tryd.func5
    (ChangeSpec.witness_shaped (enc := enc) (C := Tryd.checked) (os := os) (X := fun w _ => laidMetH Tryd.prog Go.Proofs.YtgbgpncacpgikaaDoor.Laidr.laid1 w) false (World.doorLaid Tryd.prog 4000 os) #[.int .i64 0, .int .i64 0, .int .i64 0, .int .i64 0] 8 rfl (World.shaped_of_RefB (by kernel_rfl) (by kernel_rfl)) (by kernel_rfl) (by kernel_rfl) (by kernel_rfl) (Go.Proofs.YtgbgpncacpgikaaDoor.Laidr.door_met os _)) ?_
  intro W base args ds gs before hval0 hW hcnd hsz0 hL _
  have hval : ∀ (j : Nat) t v, Tryd.f5.params[j]? = some t → args[j]? = some v → Value.okWide Tryd.prog W .any base t v := hval0
  have hW' := hW
  obtain ⟨p, q, hA0, hV, rfl, hfz, hnd⟩ := hW
  have hA : DataW.TrodAll enc Tryd.prog W 0 (fun _ => true) true Tryd.f5.params.toList args.toList ds p := hA0
  rw [Tryd.params5] at hA hval
  obtain ⟨v0, vs0, d0, ds0, p0, q0, hargs, rfl, rfl, h0, r0⟩ := trodAll_cons hA
  obtain ⟨v1, vs1, d1, ds1, p1, q1, rfl, rfl, rfl, h1, r1⟩ := trodAll_cons r0
  obtain ⟨v2, vs2, d2, ds2, p2, q2, rfl, rfl, rfl, h2, r2⟩ := trodAll_cons r1
  obtain ⟨v3, vs3, d3, ds3, p3, q3, rfl, rfl, rfl, h3, r3⟩ := trodAll_cons r2
  obtain ⟨rfl, rfl, rfl⟩ := trodAll_nil r3
  obtain rfl : args = #[v0, v1, v2, v3] := by cases args; simp_all
  obtain ⟨rfl, rfl⟩ := trodVars_none hV
  obtain ⟨a0, rfl, rfl, rfl, w0⟩ := open_int Tryd.underlying3 (hval 0 3 v0 rfl rfl) h0
  obtain ⟨a1, rfl, rfl, rfl, w1⟩ := open_int Tryd.underlying3 (hval 1 3 v1 rfl rfl) h1
  obtain ⟨a2, rfl, rfl, rfl, w2⟩ := open_int Tryd.underlying3 (hval 2 3 v2 rfl rfl) h2
  obtain ⟨a3, rfl, rfl, rfl, w3⟩ := open_int Tryd.underlying3 (hval 3 3 v3 rfl rfl) h3
  clear hA0 hval0
  simp only [List.append_nil] at hW'
  refine (walk a0 a1 a2 a3 W w0 w1 w2 w3 (Go.Proofs.YtgbgpncacpgikaaDoor.Laidr.of_laid hL)).mono fun e W' ⟨he, bel⟩ => ?_
  subst he
  exact ⟨_, rfl, _, _, _, [], _, [], hW', trodAll_mk1 (shut_bool Tryd.underlying4 _), (trodAll_cons_mk (shut_int Tryd.underlying3 w0) (trodAll_cons_mk (shut_int Tryd.underlying3 w1) (trodAll_cons_mk (shut_int Tryd.underlying3 w2) (trodAll_cons_mk (shut_int Tryd.underlying3 w3) trodAll_mk0)))), rfl, bel.frame _, fun h => by cases h⟩

theorem over : Rows.railSymmetricRow.holds Tryd.pinned (OpenSpec.ofChange Rows.railSymmetricSpec) :=
  OpenClaim.holds_of_wide 5 Tryd.f5 rfl rfl rfl rfl rfl rfl rfl ⟨rfl, rfl, rfl, rfl, rfl⟩ rfl rfl rfl rfl rfl (by kernel_rfl) Tryd.func5 (by kernel_rfl)
    (of_decide_eq_true (by kernel_rfl)) (by unfold Func.isWrapper; first | (rw [if_pos (by decide +kernel)]; kernel_rfl) | (rw [if_neg (by decide +kernel)]; exact ⟨rfl, rfl⟩))
    (fun os started H enc _ => lifted os started H enc)

theorem card_holds : Claim7.holds Tryd.pinned (.plain (OpenSpec.ofChange Rows.railSymmetricSpec)) Rows.railSymmetricCard :=
  Claim7.holds_tied_plain_at .later [] [.data] true (true, "436d857febf747cb3b5b48638de31e6e5fda2aa41795f9d3ea0d5a55277f2508") false
    over (fun _ h => by cases h) (by kernel_rfl) (fun _ h => by cases h) railSymmetric_row_tie rfl ⟨rfl, rfl⟩ (by kernel_rfl) rfl
    (fun f fn hf hfn => by
      obtain rfl : f = 5 := Option.some.inj ((show Tryd.prog.funcNamed "signalling/signallinglaw06.RailSymmetric" = some 5 by kernel_rfl).symm.trans hf) |>.symm
      obtain rfl : fn = Tryd.f5 := (Option.some.inj (Tryd.func5.symm.trans hfn)).symm
      exact ⟨by kernel_rfl, fun j t ht => by
        rw [Tryd.params5] at ht
        have hm : t ∈ [3, 3, 3, 3] := by simpa using Array.mem_of_getElem? ht
        have hall : ([3, 3, 3, 3].all fun u => !Tryd.prog.wantsStandIn u) = true := by kernel_rfl
        exact (show Tryd.prog.wantsStandIn t = false by simpa using List.all_eq_true.1 hall t hm)⟩)
    (by kernel_rfl)

/-- The statement. -/
theorem proved : Rows.RailSymmetricCardSaid := card_holds
#print axioms proved
end Go.Proofs.YtgbgpncacpgikaaDoor.railSymmetric
