/- ProfileOf: for every layout, every list of steps and every origin, profile.Of returns the segments that the reference returns, and these are a profile, wherever the layout is valid and few. Conditions: the layout lies within the model's reach of memory; the card ties the listed table to the program's text. -/
import Derived.Test.YtkoldgammeojkaaDoorRows
import Derived.WalkKit
import Derived.ProofKit
import Derived.OpenShut
import Derived.ShutString
import Derived.Below
import Derived.SizedLaws
import Derived.ChangeOld
import Derived.Test.YtkoldgammeojkaaDoorWopn
import Derived.Test.YtkoldgammeojkaaDoorLaidr
import Derived.Test.YtkoldgammeojkaaDoorTie
import Derived.Test.YtkoldgammeojkaaDoorCards
import Derived.SevenTiedAt
import Derived.ChangeVars
import Derived.ChangeSame
import Derived.Test.YtkoldgammeojkaaDoorOfw
namespace Go.Proofs.YtkoldgammeojkaaDoor.profileOf
open Go.ChangeShapes Go.WideShapes Go.ChangeAt
open Go.RowKit hiding intOf
open Go.ChangeMaps (open_string shut_string)
open Go.Proofs.YtkoldgammeojkaaDoor
set_option linter.unusedVariables false

theorem own : ownKnob Tryd.prog.godebug = none := by kernel_rfl
theorem laidOut : laidOutB Tryd.prog = true := by kernel_rfl


theorem walk (a0 : Go.Proofs.YtkoldgammeojkaaDoor.Lay.Lay) (b0 c0 d0 e0 f0 : Value) (a1 : Value) (l1 : List Go.Proofs.YtkoldgammeojkaaDoor.Way.Stp) (a2 : Int) (w : World) (w0 : Go.Proofs.YtkoldgammeojkaaDoor.Lay.LayAt (Go.Proofs.YtkoldgammeojkaaDoor.Lay.In w) w a0 b0 c0 d0 e0 f0) (j0 : a0.joints.length ≤ 4398046510976) (w1 : Go.Proofs.YtkoldgammeojkaaDoor.Lay.Grid (Go.Proofs.YtkoldgammeojkaaDoor.Lay.In w) w a1 3 (l1.map Go.Proofs.YtkoldgammeojkaaDoor.Way.stCells)) (w2 : (Lit.int .i64 a2).wf = true) (hdeb : Go.Proofs.YtkoldgammeojkaaDoor.Rtab.RTab w) :
    Calls Tryd.prog 3 #[Go.Proofs.YtkoldgammeojkaaDoor.Lay.layV a0 b0 c0 d0 e0 f0, a1, .int .i64 a2] w fun e w' => e = .returned (.bool true) ∧ Below w.heap.size w w' := by
  exact (Go.Proofs.YtkoldgammeojkaaDoor.Ofw.of_law a0 a2 w w0 w1 hdeb).mono fun _ _ h => h

set_option maxRecDepth 100000 in
theorem lifted (os : Os) (started : os.Started) (H : Type) (enc : TypeId × Value → H) :
    ReturnsInHanded {} Tryd.checked os 3 .any (fun w args => (Rows.profileOfSpec.pre enc Tryd.prog Tryd.f3 [] false w args ∧ laidMetH Tryd.prog Go.Proofs.YtkoldgammeojkaaDoor.Laidr.laid1 w) ∧ sizedMet enc Tryd.prog Tryd.f3 (OpenSpec.ofChange Rows.profileOfSpec) false w args)
      (Rows.profileOfSpec.post enc Tryd.prog Tryd.f3 false true false false) := by
  refine returnsInHanded_of_change_and (C := Tryd.checked) (X := fun w _ => laidMetH Tryd.prog Go.Proofs.YtkoldgammeojkaaDoor.Laidr.laid1 w) (fun _ _ _ hh h => h.of_heap hh) own started (by kernel_rfl) Tryd.func3
    (ChangeSpec.witness_shaped (enc := enc) (C := Tryd.checked) (os := os) (X := fun w _ => laidMetH Tryd.prog Go.Proofs.YtkoldgammeojkaaDoor.Laidr.laid1 w) false (World.doorLaid Tryd.prog 4000 os) #[.agg #[.string ByteArray.empty, .slice none 0 0, .slice none 0 0, .slice none 0 0, .slice none 0 0, .slice none 0 0], .slice none 0 0, .int .i64 0] 8 rfl (World.shaped_of_RefB (by kernel_rfl) (by kernel_rfl)) (by kernel_rfl) (by kernel_rfl) (by kernel_rfl) (Go.Proofs.YtkoldgammeojkaaDoor.Laidr.door_met os _)) ?_
  intro W base args ds gs before hval0 hW hcnd hsz0 hL _
  have hval : ∀ (j : Nat) t v, Tryd.f3.params[j]? = some t → args[j]? = some v → Value.okWide Tryd.prog W .any base t v := hval0
  have hW' := hW
  obtain ⟨p, q, hA0, hV, rfl, hfz, hnd⟩ := hW
  have hA : DataW.TrodAll enc Tryd.prog W 0 (fun _ => true) true Tryd.f3.params.toList args.toList ds p := hA0
  have hsz : (DataW.weightsEach Tryd.prog (Tryd.f3.params.toList ++ Rows.profileOfSpec.plain.varTypes Tryd.prog) (ds ++ gs)).all (· ≤ reachBytes) = true := hsz0
  rw [Tryd.params3] at hA hval hsz
  obtain ⟨v0, vs0, d0, ds0, p0, q0, hargs, rfl, rfl, h0, r0⟩ := trodAll_cons hA
  obtain ⟨v1, vs1, d1, ds1, p1, q1, rfl, rfl, rfl, h1, r1⟩ := trodAll_cons r0
  obtain ⟨v2, vs2, d2, ds2, p2, q2, rfl, rfl, rfl, h2, r2⟩ := trodAll_cons r1
  obtain ⟨rfl, rfl, rfl⟩ := trodAll_nil r2
  obtain rfl : args = #[v0, v1, v2] := by cases args; simp_all
  obtain ⟨rfl, rfl⟩ := trodVars_none hV
  have k0 := h0
  have lt0 : ∀ x ∈ p0, x.block < W.heap.size := by obtain ⟨m, hm⟩ := k0; exact DataW.trod_lt m _ _ _ hm
  obtain ⟨a0, b0, c0, d0, e0, f0, rfl, w0, j0⟩ := Go.Proofs.YtkoldgammeojkaaDoor.Wopn.open_layout2 (hval 0 28 v0 rfl rfl) h0 (fun n hn => by have := List.all_eq_true.1 hsz _ (DataW.weights_mem_each (j := 0) (t := 28) rfl rfl n hn); simpa using this)
  have k1 := h1
  have lt1 : ∀ x ∈ p1, x.block < W.heap.size := by obtain ⟨m, hm⟩ := k1; exact DataW.trod_lt m _ _ _ hm
  obtain ⟨l1, w1⟩ := Go.Proofs.YtkoldgammeojkaaDoor.Wopn.open_way (hval 1 29 v1 rfl rfl) h1
  obtain ⟨a2, rfl, rfl, rfl, w2⟩ := open_int Tryd.underlying3 (hval 2 3 v2 rfl rfl) h2
  clear hA0 hval0
  refine (walk a0 b0 c0 d0 e0 f0 _ l1 a2 W w0 j0 w1 w2 (Go.Proofs.YtkoldgammeojkaaDoor.Laidr.of_laid hL)).mono fun e W' ⟨he, bel⟩ => ?_
  subst he
  exact ⟨_, rfl, _, _, _, [], _, [], hW', trodAll_mk1 (shut_bool Tryd.underlying4 _), (trodAll_cons_mk (Below.trod laidOut (by kernel_rfl) (of_decide_eq_true (by kernel_rfl)) k0 bel lt0) (trodAll_cons_mk (Below.trod laidOut (by kernel_rfl) (of_decide_eq_true (by kernel_rfl)) k1 bel lt1) (trodAll_cons_mk (shut_int Tryd.underlying3 w2) trodAll_mk0))), rfl, bel.frame _, fun h => by cases h⟩

theorem over : Rows.profileOfRow.holds Tryd.pinned (OpenSpec.ofChange Rows.profileOfSpec) :=
  OpenClaim.holds_of_wide 3 Tryd.f3 rfl rfl rfl rfl rfl rfl rfl ⟨rfl, rfl, rfl, rfl, rfl⟩ rfl rfl rfl rfl rfl (by kernel_rfl) Tryd.func3 (by kernel_rfl)
    (of_decide_eq_true (by kernel_rfl)) (by unfold Func.isWrapper; first | (rw [if_pos (by decide +kernel)]; kernel_rfl) | (rw [if_neg (by decide +kernel)]; exact ⟨rfl, rfl⟩))
    (fun os started H enc _ => lifted os started H enc)

theorem card_holds : Claim7.holds Tryd.pinned (.plain (OpenSpec.ofChange Rows.profileOfSpec)) Rows.profileOfCard :=
  Claim7.holds_tied_plain_at .later [] [.data] true (true, "d41dd4fcd9c8715469901f45726a54071b1f22266530296fca3628a6db15819b") false
    over (fun _ h => by cases h) (by kernel_rfl) (fun _ h => by cases h) profileOf_row_tie rfl ⟨rfl, rfl⟩ (by kernel_rfl) rfl
    (fun f fn hf hfn => by
      obtain rfl : f = 3 := Option.some.inj ((show Tryd.prog.funcNamed "signalling/signallinglaw10.ProfileOf" = some 3 by kernel_rfl).symm.trans hf) |>.symm
      obtain rfl : fn = Tryd.f3 := (Option.some.inj (Tryd.func3.symm.trans hfn)).symm
      exact ⟨by kernel_rfl, fun j t ht => by
        rw [Tryd.params3] at ht
        have hm : t ∈ [28, 29, 3] := by simpa using Array.mem_of_getElem? ht
        have hall : ([28, 29, 3].all fun u => !Tryd.prog.wantsStandIn u) = true := by kernel_rfl
        exact (show Tryd.prog.wantsStandIn t = false by simpa using List.all_eq_true.1 hall t hm)⟩)
    (by kernel_rfl)

/-- The statement. -/
theorem proved : Rows.ProfileOfCardSaid := card_holds
#print axioms proved
end Go.Proofs.YtkoldgammeojkaaDoor.profileOf
