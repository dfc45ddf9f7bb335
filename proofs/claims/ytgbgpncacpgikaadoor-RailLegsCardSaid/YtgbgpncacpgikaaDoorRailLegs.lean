/- RailLegs: for all ints, the legs are the sides for which rail.Need returns true; there are two for a facing side, and otherwise one for each side that exists. No condition of its own; the card ties the listed table to the program's text. -/
import Derived.Test.YtgbgpncacpgikaaDoorRows
import Derived.WalkKit
import Derived.ProofKit
import Derived.OpenShut
import Derived.ShutString
import Derived.Below
import Derived.Test.YtgbgpncacpgikaaDoorLaidr
import Derived.Test.YtgbgpncacpgikaaDoorTie
import Derived.Test.YtgbgpncacpgikaaDoorCards
import Derived.SevenTiedAt
import Derived.ChangeVars
import Derived.ChangeSame
import Derived.Test.YtgbgpncacpgikaaDoorRalive
namespace Go.Proofs.YtgbgpncacpgikaaDoor.railLegs
open Go.ChangeShapes Go.WideShapes Go.ChangeAt
open Go.RowKit hiding intOf
open Go.ChangeMaps (open_string shut_string)
open Go.Proofs.YtgbgpncacpgikaaDoor
open Go.Proofs.YtgbgpncacpgikaaDoor.Rail Go.Proofs.YtgbgpncacpgikaaDoor.Rtab Go.Proofs.YtgbgpncacpgikaaDoor.Rlegs Go.Proofs.YtgbgpncacpgikaaDoor.Rout Go.Proofs.YtgbgpncacpgikaaDoor.Ralive Go.Proofs.YtgbgpncacpgikaaDoor.Reads Go.Lib
set_option linter.unusedVariables false

theorem own : ownKnob Tryd.prog.godebug = none := by kernel_rfl

theorem found_more {l : List Int} {k : Nat} {s x : Int} (hk : k < l.length) (hx : l.getD k 0 = x) : decide (s ∈ l.take (k + 1)) = (decide (s ∈ l.take k) || (x == s)) := by
  rw [Ints.take_snoc hk, hx, Bool.eq_iff_iff]
  simp only [List.mem_append, List.mem_singleton, decide_eq_true_eq, Bool.or_eq_true, beq_iff_eq]
  exact or_congr_right eq_comm
theorem side_mem {k i o x : Int} {b : Bool} {l : List Int} (hl : legsF k i = l) (h : needF k i o = (x, b)) : decide (o ∈ l.take l.length) = b := by
  rw [Ints.take_all, ← hl, Bool.eq_iff_iff, decide_eq_true_eq, mem_legs, h]
set_option maxRecDepth 100000 in

set_option maxHeartbeats 1600000 in
theorem walk (a0 : Int) (a1 : Int) (w : World) (w0 : (Lit.int .i64 a0).wf = true) (w1 : (Lit.int .i64 a1).wf = true) (hdeb : Go.Proofs.YtgbgpncacpgikaaDoor.Rtab.RTab w) :
    Calls Tryd.prog 7 #[.int .i64 a0, .int .i64 a1] w fun e w' => e = .returned (.bool true) ∧ Below w.heap.size w w' := by
  have HD := Lib.hid hdeb
  have HA := Lib.hid (fun w h => alive_any w h)
  have H1 := Lib.hid (fun w h => legs_any a0 a1 w h)
  have H2 := Lib.hid (fun o w h => need_any a0 a1 o w h)
  have H3 := Lib.hid (fun w => sides_any a0 w)
  have H4 := Lib.hid (fun w h => facing_any a0 a1 w h)
  have HN := Lib.hid (legs_len a0 a1)
  obtain ⟨l, hl⟩ : ∃ l, legsF a0 a1 = l := ⟨_, rfl⟩
  rw [hl] at H1 HN
  have HL := Lib.hid hl
  obtain ⟨s, hs⟩ : ∃ s, sidesF a0 = s := ⟨_, rfl⟩
  rw [hs] at H3 HN
  obtain ⟨c, hc⟩ : ∃ c, facF a0 a1 = c := ⟨_, rfl⟩
  rw [hc] at H4 HN
  clear hdeb hl hs hc
  go_enter Tryd.func7, Tryd.ntmps7
  go_wp2_with fail
  refine (H1.out _ HD.out).mono ?_
  rintro e w1 ⟨v, rfl, R, b1⟩
  obtain ⟨a, cap, rfl, hm⟩ := Ints.rshape R
  have D1 := Lib.hid (rtab_next HD.out b1)
  have B1 := Lib.hid b1
  have R1 := Lib.hid R
  clear b1 R
  go_wp2_with fail
  go_loopw [6] (fun vs wr => ∃ j : Nat, j ≤ 6 ∧ vs = .int .i64 ((j : Int) - 1) ∧ RTab wr ∧ Below w.heap.size w wr ∧ Reads wr.heap.size wr (.slice a l.length cap) l) (fun vs _ => (5 - RowKit.intOf vs).toNat)
  case atStart => exact ⟨0, Nat.zero_le _, rfl, D1.out, B1.out, R1.out⟩
  case round =>
    obtain ⟨j, hj, rfl, hd, hb, hr⟩ := hrel
    have DJ := Lib.hid hd
    have BJ := Lib.hid hb
    have RJ := Lib.hid hr
    clear hd hb hr
    obtain ⟨wo, rfl⟩ : ∃ wo : World, wo = wr := ⟨_, rfl⟩
    by_cases hl : j < 6
    · obtain ⟨sd, hsd⟩ : ∃ sd : Int, (j : Int) - 1 = sd := ⟨_, rfl⟩
      have HJ := Lib.hid hsd
      have h1 : -1 ≤ sd := by omega
      have h2 : sd ≤ 4 := by omega
      rw [hsd]
      clear hsd hj hl
      go_wp2_with fail
      go_loopw [7, 21] (fun vf vi wx => ∃ k : Nat, k ≤ l.length ∧ vf = .bool (decide (sd ∈ l.take k)) ∧ vi = .int .i64 (k : Int) ∧ wo = wx) (fun _ vi _ => l.length - (RowKit.intOf vi).toNat)
      case atStart => exact ⟨0, Nat.zero_le _, by simp, rfl, rfl⟩
      case round =>
        obtain ⟨k, hk, rfl, rfl, rfl⟩ := hrel
        by_cases hlt : k < l.length
        · obtain ⟨b, off, rfl, hb, hcell⟩ := (Ints.rcell RJ.out).2 k hlt
          obtain ⟨x, hx⟩ : ∃ x, l.getD k 0 = x := ⟨_, rfl⟩
          rw [hx] at hcell
          have HX := Lib.hid (found_more (s := sd) hlt hx)
          clear hx hb
          obtain ⟨F, hF⟩ : ∃ F, decide (sd ∈ l.take k) = F := ⟨_, rfl⟩
          rw [hF] at HX ⊢
          clear hF
          obtain ⟨q, hq⟩ : ∃ q, (x == sd) = q := ⟨_, rfl⟩
          rw [hq] at HX
          cases F
          · go_wp2_with fail
            go_roundw
            case rel => exact ⟨k + 1, hlt, by rw [HX.out]; simp, by simp, by simp⟩
            case measure => simp [RowKit.intOf]; omega
          · go_wp2_with fail
            go_roundw
            case rel => exact ⟨k + 1, hlt, by rw [HX.out]; simp, by simp, by simp⟩
            case measure => simp [RowKit.intOf]; omega
        · have he : k = l.length := by omega
          subst he
          clear hk hlt
          have HM := Lib.hid (H2.out sd wo DJ.out)
          obtain ⟨⟨x, b⟩, hx⟩ : ∃ x, needF a0 a1 sd = x := ⟨_, rfl⟩
          rw [hx] at HM
          rw [side_mem HL.out hx]
          have hbb : (b != b) = false := by simp
          clear hx
          go_wp2_with fail
          refine HM.out.mono ?_
          rintro e w2 ⟨rfl, b2⟩
          have D2 := Lib.hid (rtab_next DJ.out b2)
          have B2 := Lib.hid (bel_next BJ.out b2)
          have R2 := Lib.hid (Ints.next RJ.out b2)
          clear b2
          go_wp2_with fail
          go_roundw
          case rel => exact ⟨j + 1, by have := HJ.out; omega, by have := HJ.out; congr 1; omega, D2.out, B2.out, R2.out⟩
          case measure => simp [RowKit.intOf]; omega
    · have he : j = 6 := by omega
      subst he
      clear hl hj
      by_cases h0 : a1 < 0
      · have hq : ((l.length : Int) == 0) = true := by rw [HN.out, if_pos (.inl h0)]; rfl
        go_wp2_with fail
        refine (HA.out _ DJ.out).mono ?_
        rintro e w9 ⟨rfl, b9⟩
        have B9 := Lib.hid (bel_next BJ.out b9)
        clear b9
        go_wp2_with fail
        go_ret
        exact ⟨rfl, B9.out⟩
      · by_cases h3 : s ≤ a1
        · have hq : ((l.length : Int) == 0) = true := by rw [HN.out, if_pos (.inr h3)]; rfl
          have hd : decide (s ≤ a1) = true := by simpa using h3
          go_wp2_with fail
          refine (H3.out _).mono ?_
          rintro e w' ⟨rfl, rfl⟩
          go_wp2_with fail
          refine (HA.out _ DJ.out).mono ?_
          rintro e w9 ⟨rfl, b9⟩
          have B9 := Lib.hid (bel_next BJ.out b9)
          clear b9
          go_wp2_with fail
          go_ret
          exact ⟨rfl, B9.out⟩
        · have hd : decide (s ≤ a1) = false := by simpa using h3
          have HC := Lib.hid (show l.length = if c = true then 2 else 1 by rw [HN.out, if_neg (by omega)])
          cases c
          · have hq : ((l.length : Int) == 1) = true := by rw [HC.out]; rfl
            go_wp2_with fail
            refine (H3.out _).mono ?_
            rintro e w' ⟨rfl, rfl⟩
            go_wp2_with fail
            refine (H4.out _ DJ.out).mono ?_
            rintro e w7 ⟨rfl, b7⟩
            have D7 := Lib.hid (rtab_next DJ.out b7)
            have B7 := Lib.hid (bel_next BJ.out b7)
            clear b7
            go_wp2_with fail
            refine (HA.out _ D7.out).mono ?_
            rintro e w9 ⟨rfl, b9⟩
            have B9 := Lib.hid (bel_next B7.out b9)
            clear b9
            go_wp2_with fail
            go_ret
            exact ⟨rfl, B9.out⟩
          · have hq : ((l.length : Int) == 2) = true := by rw [HC.out]; rfl
            go_wp2_with fail
            refine (H3.out _).mono ?_
            rintro e w' ⟨rfl, rfl⟩
            go_wp2_with fail
            refine (H4.out _ DJ.out).mono ?_
            rintro e w7 ⟨rfl, b7⟩
            have D7 := Lib.hid (rtab_next DJ.out b7)
            have B7 := Lib.hid (bel_next BJ.out b7)
            clear b7
            go_wp2_with fail
            refine (HA.out _ D7.out).mono ?_
            rintro e w9 ⟨rfl, b9⟩
            have B9 := Lib.hid (bel_next B7.out b9)
            clear b9
            go_wp2_with fail
            go_ret
            exact ⟨rfl, B9.out⟩

set_option maxRecDepth 100000 in
theorem lifted (os : Os) (started : os.Started) (H : Type) (enc : TypeId × Value → H) :
    ReturnsInHanded {} Tryd.checked os 7 .any (fun w args => (Rows.railLegsSpec.pre enc Tryd.prog Tryd.f7 [] false w args ∧ laidMetH Tryd.prog Go.Proofs.YtgbgpncacpgikaaDoor.Laidr.laid1 w) ∧ sizedMet enc Tryd.prog Tryd.f7 (OpenSpec.ofChange Rows.railLegsSpec) false w args)
      (Rows.railLegsSpec.post enc Tryd.prog Tryd.f7 false true false false) := by
  refine returnsInHanded_of_change_and (C := Tryd.checked) (X := fun w _ => laidMetH Tryd.prog Go.Proofs.YtgbgpncacpgikaaDoor.Laidr.laid1 w) (fun _ _ _ hh h => h.of_heap hh) own started (by kernel_rfl) Tryd.func7
    (ChangeSpec.witness_shaped (enc := enc) (C := Tryd.checked) (os := os) (X := fun w _ => laidMetH Tryd.prog Go.Proofs.YtgbgpncacpgikaaDoor.Laidr.laid1 w) false (World.doorLaid Tryd.prog 4000 os) #[.int .i64 0, .int .i64 0] 8 rfl (World.shaped_of_RefB (by kernel_rfl) (by kernel_rfl)) (by kernel_rfl) (by kernel_rfl) (by kernel_rfl) (Go.Proofs.YtgbgpncacpgikaaDoor.Laidr.door_met os _)) ?_
  intro W base args ds gs before hval0 hW hcnd hsz0 hL _
  have hval : ∀ (j : Nat) t v, Tryd.f7.params[j]? = some t → args[j]? = some v → Value.okWide Tryd.prog W .any base t v := hval0
  have hW' := hW
  obtain ⟨p, q, hA0, hV, rfl, hfz, hnd⟩ := hW
  have hA : DataW.TrodAll enc Tryd.prog W 0 (fun _ => true) true Tryd.f7.params.toList args.toList ds p := hA0
  rw [Tryd.params7] at hA hval
  obtain ⟨v0, vs0, d0, ds0, p0, q0, hargs, rfl, rfl, h0, r0⟩ := trodAll_cons hA
  obtain ⟨v1, vs1, d1, ds1, p1, q1, rfl, rfl, rfl, h1, r1⟩ := trodAll_cons r0
  obtain ⟨rfl, rfl, rfl⟩ := trodAll_nil r1
  obtain rfl : args = #[v0, v1] := by cases args; simp_all
  obtain ⟨rfl, rfl⟩ := trodVars_none hV
  obtain ⟨a0, rfl, rfl, rfl, w0⟩ := open_int Tryd.underlying3 (hval 0 3 v0 rfl rfl) h0
  obtain ⟨a1, rfl, rfl, rfl, w1⟩ := open_int Tryd.underlying3 (hval 1 3 v1 rfl rfl) h1
  clear hA0 hval0
  simp only [List.append_nil] at hW'
  refine (walk a0 a1 W w0 w1 (Go.Proofs.YtgbgpncacpgikaaDoor.Laidr.of_laid hL)).mono fun e W' ⟨he, bel⟩ => ?_
  subst he
  exact ⟨_, rfl, _, _, _, [], _, [], hW', trodAll_mk1 (shut_bool Tryd.underlying4 _), (trodAll_cons_mk (shut_int Tryd.underlying3 w0) (trodAll_cons_mk (shut_int Tryd.underlying3 w1) trodAll_mk0)), rfl, bel.frame _, fun h => by cases h⟩

theorem over : Rows.railLegsRow.holds Tryd.pinned (OpenSpec.ofChange Rows.railLegsSpec) :=
  OpenClaim.holds_of_wide 7 Tryd.f7 rfl rfl rfl rfl rfl rfl rfl ⟨rfl, rfl, rfl, rfl, rfl⟩ rfl rfl rfl rfl rfl (by kernel_rfl) Tryd.func7 (by kernel_rfl)
    (of_decide_eq_true (by kernel_rfl)) (by unfold Func.isWrapper; first | (rw [if_pos (by decide +kernel)]; kernel_rfl) | (rw [if_neg (by decide +kernel)]; exact ⟨rfl, rfl⟩))
    (fun os started H enc _ => lifted os started H enc)

theorem card_holds : Claim7.holds Tryd.pinned (.plain (OpenSpec.ofChange Rows.railLegsSpec)) Rows.railLegsCard :=
  Claim7.holds_tied_plain_at .later [] [.data] true (true, "436d857febf747cb3b5b48638de31e6e5fda2aa41795f9d3ea0d5a55277f2508") false
    over (fun _ h => by cases h) (by kernel_rfl) (fun _ h => by cases h) railLegs_row_tie rfl ⟨rfl, rfl⟩ (by kernel_rfl) rfl
    (fun f fn hf hfn => by
      obtain rfl : f = 7 := Option.some.inj ((show Tryd.prog.funcNamed "signalling/signallinglaw06.RailLegs" = some 7 by kernel_rfl).symm.trans hf) |>.symm
      obtain rfl : fn = Tryd.f7 := (Option.some.inj (Tryd.func7.symm.trans hfn)).symm
      exact ⟨by kernel_rfl, fun j t ht => by
        rw [Tryd.params7] at ht
        have hm : t ∈ [3, 3] := by simpa using Array.mem_of_getElem? ht
        have hall : ([3, 3].all fun u => !Tryd.prog.wantsStandIn u) = true := by kernel_rfl
        exact (show Tryd.prog.wantsStandIn t = false by simpa using List.all_eq_true.1 hall t hm)⟩)
    (by kernel_rfl)

/-- The statement. -/
theorem proved : Rows.RailLegsCardSaid := card_holds
#print axioms proved
end Go.Proofs.YtgbgpncacpgikaaDoor.railLegs
