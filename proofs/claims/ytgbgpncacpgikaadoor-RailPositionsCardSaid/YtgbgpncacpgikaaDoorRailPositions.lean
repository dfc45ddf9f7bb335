/- RailPositions: for all ints, a passage is possible in a position exactly if it needs this position or none, it leads to another side that exists, and two different sides never lead to the same side. No condition of its own; the card ties the listed table to the program's text. -/
import Derived.Test.YtgbgpncacpgikaaDoorRows
import Derived.WalkKit
import Derived.ProofKit
import Derived.OpenShut
import Derived.ShutString
import Derived.Below
import Derived.Test.YtgbgpncacpgikaaDoorLaidr
import Derived.Test.YtgbgpncacpgikaaDoorTie
import Derived.Test.YtgbgpncacpgikaaDoorCards
import Derived.SevenTiedAt
import Derived.ChangeVars
import Derived.ChangeSame
import Derived.Test.YtgbgpncacpgikaaDoorRalive
namespace Go.Proofs.YtgbgpncacpgikaaDoor.railPositions
open Go.ChangeShapes Go.WideShapes Go.ChangeAt
open Go.RowKit hiding intOf
open Go.ChangeMaps (open_string shut_string)
open Go.Proofs.YtgbgpncacpgikaaDoor
open Go.Proofs.YtgbgpncacpgikaaDoor.Rail Go.Proofs.YtgbgpncacpgikaaDoor.Rtab Go.Proofs.YtgbgpncacpgikaaDoor.Rlegs Go.Proofs.YtgbgpncacpgikaaDoor.Rout Go.Proofs.YtgbgpncacpgikaaDoor.Ralive
set_option linter.unusedVariables false

theorem own : ownKnob Tryd.prog.godebug = none := by kernel_rfl

/-- The facts of one input: what the walk asks for, one case each. -/
theorem facts (k i o p : Int) : ∃ to need oth : Int, ∃ z x v : Bool, outF k i p = (to, z) ∧ needF k i o = (need, x) ∧ outF k o p = (oth, v) ∧
    ((z = true ∧ to = o) ↔ (x = true ∧ (need = 0 ∨ need = p))) ∧ (z = true → to ≠ i ∧ 0 ≤ to ∧ to < sidesF k) ∧ (z = true → v = true → to = oth → i = o) := by
  refine ⟨_, _, _, _, _, _, rfl, rfl, rfl, ?_, ?_, ?_⟩
  · exact out_need k i o p
  · exact out_range k i p
  · exact out_apart k i o p
set_option maxRecDepth 100000 in

set_option maxHeartbeats 3200000 in
theorem walk (a0 : Int) (a1 : Int) (a2 : Int) (a3 : Int) (w : World) (w0 : (Lit.int .i64 a0).wf = true) (w1 : (Lit.int .i64 a1).wf = true) (w2 : (Lit.int .i64 a2).wf = true) (w3 : (Lit.int .i64 a3).wf = true) (hdeb : Go.Proofs.YtgbgpncacpgikaaDoor.Rtab.RTab w) :
    Calls Tryd.prog 6 #[.int .i64 a0, .int .i64 a1, .int .i64 a2, .int .i64 a3] w fun e w' => e = .returned (.bool true) ∧ Below w.heap.size w w' := by
  have HD := Lib.hid hdeb
  have HA := Lib.hid (fun w h => alive_any w h)
  obtain ⟨to, need, oth, z, x, v, h1, h2, h3, f1, f2, f3⟩ := facts a0 a1 a2 a3
  have H1 := Lib.hid (fun w h => out_any a0 a1 a3 w h)
  have H2 := Lib.hid (fun w h => need_any a0 a1 a2 w h)
  have H3 := Lib.hid (fun w h => out_any a0 a2 a3 w h)
  have H4 := Lib.hid (fun w => sides_any a0 w)
  rw [h1] at H1
  rw [h2] at H2
  rw [h3] at H3
  obtain ⟨s, hs⟩ : ∃ s, sidesF a0 = s := ⟨_, rfl⟩
  rw [hs] at H4 f2
  clear hdeb h1 h2 h3 hs
  have go : ∀ (A B : Bool), ((need == 0) = A) → ((need == a3) = B) → (x && (A || B)) = (z && (to == a2)) → Calls Tryd.prog 6 #[.int .i64 a0, .int .i64 a1, .int .i64 a2, .int .i64 a3] w fun e w' => e = .returned (.bool true) ∧ Below w.heap.size w w' := by
    intro A B hA hB hAB
    cases z
    · clear f1 f2 f3
      have hx : x = false ∨ (x = true ∧ A = false ∧ B = false) := by
        revert hAB
        cases x <;> cases A <;> cases B <;> simp
      clear hAB
      rcases hx with rfl | ⟨rfl, rfl, rfl⟩
      all_goals
        go_enter Tryd.func6, Tryd.ntmps6
        go_wp2_with fail
        refine (H1.out _ HD.out).mono ?_
        rintro e w1 ⟨rfl, b1⟩
        have D1 := Lib.hid (rtab_next HD.out b1)
        have B1 := Lib.hid b1
        clear b1
        go_wp2_with fail
        refine (H2.out _ D1.out).mono ?_
        rintro e w2 ⟨rfl, b2⟩
        have D2 := Lib.hid (rtab_next D1.out b2)
        have B2 := Lib.hid (bel_next B1.out b2)
        clear b2
        go_wp2_with fail
        refine (H3.out _ D2.out).mono ?_
        rintro e w3 ⟨rfl, b3⟩
        have D3 := Lib.hid (rtab_next D2.out b3)
        have B3 := Lib.hid (bel_next B2.out b3)
        clear b3
        go_wp2_with fail
        refine (HA.out _ D3.out).mono ?_
        rintro e w4 ⟨rfl, b4⟩
        have B4 := Lib.hid (bel_next B3.out b4)
        clear b4
        go_wp2_with fail
        go_ret
        exact ⟨rfl, B4.out⟩
    · obtain ⟨g1, g2, g3⟩ := f2 rfl
      have k1 : (to == a1) = false := by simp [g1]
      have k2 : decide (to < 0) = false := by simp; omega
      have k3 : decide (s ≤ to) = false := by simp; omega
      have hx : ((to == a2) = true ∧ x = true ∧ (A = true ∨ (A = false ∧ B = true))) ∨ ((to == a2) = false ∧ (x = false ∨ (x = true ∧ A = false ∧ B = false))) := by
        revert hAB
        cases (to == a2) <;> cases x <;> cases A <;> cases B <;> simp
      have hv : v = false ∨ (v = true ∧ (a1 == a2) = true) ∨ (v = true ∧ (a1 == a2) = false ∧ (to != oth) = true) := by
        cases v
        · exact .inl rfl
        · by_cases h : a1 = a2
          · exact .inr (.inl ⟨rfl, by simp [h]⟩)
          · exact .inr (.inr ⟨rfl, by simp [h], by simp only [bne_iff_ne]; exact fun e => h (f3 rfl rfl e)⟩)
      clear hAB f1 f2 f3 g1 g2 g3
      rcases hx with ⟨hC, rfl, rfl | ⟨rfl, rfl⟩⟩ | ⟨hC, rfl | ⟨rfl, rfl, rfl⟩⟩
      all_goals
        rcases hv with rfl | ⟨rfl, hI⟩ | ⟨rfl, hI, hO⟩
        all_goals
          go_enter Tryd.func6, Tryd.ntmps6
          go_wp2_with fail
          refine (H1.out _ HD.out).mono ?_
          rintro e w1 ⟨rfl, b1⟩
          have D1 := Lib.hid (rtab_next HD.out b1)
          have B1 := Lib.hid b1
          clear b1
          go_wp2_with fail
          refine (H2.out _ D1.out).mono ?_
          rintro e w2 ⟨rfl, b2⟩
          have D2 := Lib.hid (rtab_next D1.out b2)
          have B2 := Lib.hid (bel_next B1.out b2)
          clear b2
          go_wp2_with fail
          refine (H4.out _).mono ?_
          rintro e w' ⟨rfl, rfl⟩
          go_wp2_with fail
          refine (H3.out _ D2.out).mono ?_
          rintro e w3 ⟨rfl, b3⟩
          have D3 := Lib.hid (rtab_next D2.out b3)
          have B3 := Lib.hid (bel_next B2.out b3)
          clear b3
          go_wp2_with fail
          refine (HA.out _ D3.out).mono ?_
          rintro e w4 ⟨rfl, b4⟩
          have B4 := Lib.hid (bel_next B3.out b4)
          clear b4
          go_wp2_with fail
          go_ret
          exact ⟨rfl, B4.out⟩
  refine go _ _ rfl rfl ?_
  rw [Bool.eq_iff_iff]
  simpa using f1.symm

set_option maxRecDepth 100000 in
theorem lifted (os : Os) (started : os.Started) (H : Type) (enc : TypeId × Value → H) :
    ReturnsInHanded {} Tryd.checked os 6 .any (fun w args => (Rows.railPositionsSpec.pre enc Tryd.prog Tryd.f6 [] false w args ∧ laidMetH Tryd.prog Go.Proofs.YtgbgpncacpgikaaDoor.Laidr.laid1 w) ∧ sizedMet enc Tryd.prog Tryd.f6 (OpenSpec.ofChange Rows.railPositionsSpec) false w args)
      (Rows.railPositionsSpec.post enc Tryd.prog Tryd.f6 false true false false) := by
  refine returnsInHanded_of_change_and (C := Tryd.checked) (X := fun w _ => laidMetH Tryd.prog Go.Proofs.YtgbgpncacpgikaaDoor.Laidr.laid1 w) (fun _ _ _ hh h => h.of_heap hh) own started (by kernel_rfl) Tryd.func6
    (ChangeSpec.witness_shaped (enc := enc) (C := Tryd.checked) (os := os) (X := fun w _ => laidMetH Tryd.prog Go.Proofs.YtgbgpncacpgikaaDoor.Laidr.laid1 w) false (World.doorLaid Tryd.prog 4000 os) #[.int .i64 0, .int .i64 0, .int .i64 0, .int .i64 0] 8 rfl (World.shaped_of_RefB (by kernel_rfl) (by kernel_rfl)) (by kernel_rfl) (by kernel_rfl) (by kernel_rfl) (Go.Proofs.YtgbgpncacpgikaaDoor.Laidr.door_met os _)) ?_
  intro W base args ds gs before hval0 hW hcnd hsz0 hL _
  have hval : ∀ (j : Nat) t v, Tryd.f6.params[j]? = some t → args[j]? = some v → Value.okWide Tryd.prog W .any base t v := hval0
  have hW' := hW
  obtain ⟨p, q, hA0, hV, rfl, hfz, hnd⟩ := hW
  have hA : DataW.TrodAll enc Tryd.prog W 0 (fun _ => true) true Tryd.f6.params.toList args.toList ds p := hA0
  rw [Tryd.params6] at hA hval
  obtain ⟨v0, vs0, d0, ds0, p0, q0, hargs, rfl, rfl, h0, r0⟩ := trodAll_cons hA
  obtain ⟨v1, vs1, d1, ds1, p1, q1, rfl, rfl, rfl, h1, r1⟩ := trodAll_cons r0
  obtain ⟨v2, vs2, d2, ds2, p2, q2, rfl, rfl, rfl, h2, r2⟩ := trodAll_cons r1
  obtain ⟨v3, vs3, d3, ds3, p3, q3, rfl, rfl, rfl, h3, r3⟩ := trodAll_cons r2
  obtain ⟨rfl, rfl, rfl⟩ := trodAll_nil r3
  obtain rfl : args = #[v0, v1, v2, v3] := by cases args; simp_all
  obtain ⟨rfl, rfl⟩ := trodVars_none hV
  obtain ⟨a0, rfl, rfl, rfl, w0⟩ := open_int Tryd.underlying3 (hval 0 3 v0 rfl rfl) h0
  obtain ⟨a1, rfl, rfl, rfl, w1⟩ := open_int Tryd.underlying3 (hval 1 3 v1 rfl rfl) h1
  obtain ⟨a2, rfl, rfl, rfl, w2⟩ := open_int Tryd.underlying3 (hval 2 3 v2 rfl rfl) h2
  obtain ⟨a3, rfl, rfl, rfl, w3⟩ := open_int Tryd.underlying3 (hval 3 3 v3 rfl rfl) h3
  clear hA0 hval0
  simp only [List.append_nil] at hW'
  refine (walk a0 a1 a2 a3 W w0 w1 w2 w3 (Go.Proofs.YtgbgpncacpgikaaDoor.Laidr.of_laid hL)).mono fun e W' ⟨he, bel⟩ => ?_
  subst he
  exact ⟨_, rfl, _, _, _, [], _, [], hW', trodAll_mk1 (shut_bool Tryd.underlying4 _), (trodAll_cons_mk (shut_int Tryd.underlying3 w0) (trodAll_cons_mk (shut_int Tryd.underlying3 w1) (trodAll_cons_mk (shut_int Tryd.underlying3 w2) (trodAll_cons_mk (shut_int Tryd.underlying3 w3) trodAll_mk0)))), rfl, bel.frame _, fun h => by cases h⟩

theorem over : Rows.railPositionsRow.holds Tryd.pinned (OpenSpec.ofChange Rows.railPositionsSpec) :=
  OpenClaim.holds_of_wide 6 Tryd.f6 rfl rfl rfl rfl rfl rfl rfl ⟨rfl, rfl, rfl, rfl, rfl⟩ rfl rfl rfl rfl rfl (by kernel_rfl) Tryd.func6 (by kernel_rfl)
    (of_decide_eq_true (by kernel_rfl)) (by unfold Func.isWrapper; first | (rw [if_pos (by decide +kernel)]; kernel_rfl) | (rw [if_neg (by decide +kernel)]; exact ⟨rfl, rfl⟩))
    (fun os started H enc _ => lifted os started H enc)

theorem card_holds : Claim7.holds Tryd.pinned (.plain (OpenSpec.ofChange Rows.railPositionsSpec)) Rows.railPositionsCard :=
  Claim7.holds_tied_plain_at .later [] [.data] true (true, "436d857febf747cb3b5b48638de31e6e5fda2aa41795f9d3ea0d5a55277f2508") false
    over (fun _ h => by cases h) (by kernel_rfl) (fun _ h => by cases h) railPositions_row_tie rfl ⟨rfl, rfl⟩ (by kernel_rfl) rfl
    (fun f fn hf hfn => by
      obtain rfl : f = 6 := Option.some.inj ((show Tryd.prog.funcNamed "signalling/signallinglaw06.RailPositions" = some 6 by kernel_rfl).symm.trans hf) |>.symm
      obtain rfl : fn = Tryd.f6 := (Option.some.inj (Tryd.func6.symm.trans hfn)).symm
      exact ⟨by kernel_rfl, fun j t ht => by
        rw [Tryd.params6] at ht
        have hm : t ∈ [3, 3, 3, 3] := by simpa using Array.mem_of_getElem? ht
        have hall : ([3, 3, 3, 3].all fun u => !Tryd.prog.wantsStandIn u) = true := by kernel_rfl
        exact (show Tryd.prog.wantsStandIn t = false by simpa using List.all_eq_true.1 hall t hm)⟩)
    (by kernel_rfl)

/-- The statement. -/
theorem proved : Rows.RailPositionsCardSaid := card_holds
#print axioms proved
end Go.Proofs.YtgbgpncacpgikaaDoor.railPositions
