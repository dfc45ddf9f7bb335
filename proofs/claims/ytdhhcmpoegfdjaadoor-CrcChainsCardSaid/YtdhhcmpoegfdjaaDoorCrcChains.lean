/- CrcChains: for every number, and every text of at most 3000 bytes, crc.Chain returns the digest that the reference returns, and crc.Hex the digits (of any number, whatever the text); the card ties the listed tables to the program's text. -/
import Derived.Test.YtdhhcmpoegfdjaaDoorRows
import Derived.WalkKit
import Derived.ProofKit
import Derived.OpenShut
import Derived.ShutString
import Derived.Below
import Derived.Test.YtdhhcmpoegfdjaaDoorLaid
import Derived.Test.YtdhhcmpoegfdjaaDoorTie
import Derived.Test.YtdhhcmpoegfdjaaDoorCards
import Derived.SevenTiedAt
import Derived.ChangeVars
import Derived.ChangeSame
import Derived.Test.YtdhhcmpoegfdjaaDoorCalive
namespace Go.Proofs.YtdhhcmpoegfdjaaDoor.crcChains
open Go.ChangeShapes Go.WideShapes Go.ChangeAt
open Go.RowKit hiding intOf
open Go.ChangeMaps (open_string shut_string)
open Go.Proofs.YtdhhcmpoegfdjaaDoor.Sum Go.Proofs.YtdhhcmpoegfdjaaDoor.Seal Go.Proofs.YtdhhcmpoegfdjaaDoor.Calive Go.Proofs.YtdhhcmpoegfdjaaDoor.Hex Go.Proofs.YtdhhcmpoegfdjaaDoor.Opn Go.Proofs.YtdhhcmpoegfdjaaDoor.Fnv Go.Proofs.YtdhhcmpoegfdjaaDoor.Rchain
set_option linter.unusedVariables false

theorem own : ownKnob Tryd.prog.godebug = none := by kernel_rfl

theorem u64_range {x : Int} (h : (Lit.int .u64 x).wf = true) : 0 ≤ x ∧ x ≤ 18446744073709551615 := by
  have hmin : IntKind.u64.min = 0 := rfl
  have hmax : IntKind.u64.max = 18446744073709551615 := rfl
  simp only [Lit.wf, Bool.and_eq_true, decide_eq_true_eq] at h
  omega
set_option maxRecDepth 100000 in

set_option maxHeartbeats 1600000 in
theorem walk (a0 : Int) (a1 : ByteArray) (w : World) (w0 : (Lit.int .u64 a0).wf = true) (w1 : a1.size ≤ maxLen) (hdeb : Go.Proofs.YtdhhcmpoegfdjaaDoor.Hex.Deb w) :
    Calls Tryd.prog 7 #[.int .u64 a0, .string a1] w fun e w' => e = .returned (.bool true) ∧ Below w.heap.size w w' := by
  have HD := Lib.hid hdeb
  have HA := Lib.hid (fun w h => alive_any w h)
  obtain ⟨p0, p1⟩ := u64_range w0
  obtain ⟨n, rfl⟩ := Int.eq_ofNat_of_zero_le p0
  have h3 := Lib.hid (fun w h => hex_any n w (by omega) h)
  have h4 := Lib.hid (fun w => rhex_any n w (by omega))
  obtain ⟨y, hy⟩ : ∃ y, hexS n = y := ⟨_, rfl⟩
  rw [hy] at h3 h4
  by_cases hl : a1.size ≤ 3000
  · have h1 := Lib.hid (fun w => chain_any n a1 w (by omega) (by omega))
    have h2 := Lib.hid (fun w => rchain_any n a1 w (by omega) (by omega))
    obtain ⟨x, hx⟩ : ∃ x, chainS n a1 = x := ⟨_, rfl⟩
    rw [hx] at h1 h2
    have q1 : ((x : Int) == (x : Int)) = true := by simp
    have hl' : decide ((3000 : Int) < (a1.size : Int)) = false := by simp; omega
    clear hx hy hdeb hl w0 w1 p0 p1
    go_enter Tryd.func7, Tryd.ntmps7
    go_wp2_with fail
    refine (h1.out _).mono ?_
    rintro e w1 ⟨rfl, b⟩
    have B1 := Lib.hid b
    clear b
    go_wp2_with fail
    refine (h2.out _).mono ?_
    rintro e w2 ⟨rfl, b⟩
    have B2 := Lib.hid (bel_next B1.out b)
    clear b B1
    go_wp2_with fail
    refine (h3.out _ (deb_next HD.out B2.out)).mono ?_
    rintro e w3 ⟨rfl, b⟩
    have B3 := Lib.hid (bel_next B2.out b)
    clear b B2
    go_wp2_with fail
    refine (h4.out _).mono ?_
    rintro e w' ⟨rfl, rfl⟩
    go_wp2_with fail
    refine (HA.out _ (deb_next HD.out B3.out)).mono ?_
    rintro e w4 ⟨rfl, b⟩
    have B4 := Lib.hid (bel_next B3.out b)
    clear b B3
    go_wp2_with fail
    go_ret
    exact ⟨rfl, B4.out⟩
  · have hl' : decide ((3000 : Int) < (a1.size : Int)) = true := by simp; omega
    clear hdeb hl hy w0 p0 p1
    go_enter Tryd.func7, Tryd.ntmps7
    go_wp2_with fail
    refine (h3.out _ HD.out).mono ?_
    rintro e w3 ⟨rfl, b⟩
    have B3 := Lib.hid b
    clear b
    go_wp2_with fail
    refine (h4.out _).mono ?_
    rintro e w' ⟨rfl, rfl⟩
    go_wp2_with fail
    refine (HA.out _ (deb_next HD.out B3.out)).mono ?_
    rintro e w4 ⟨rfl, b⟩
    have B4 := Lib.hid (bel_next B3.out b)
    clear b B3
    go_wp2_with fail
    go_ret
    exact ⟨rfl, B4.out⟩

set_option maxRecDepth 100000 in
theorem lifted (os : Os) (started : os.Started) (H : Type) (enc : TypeId × Value → H) :
    ReturnsInHanded {} Tryd.checked os 7 .any (fun w args => (Rows.crcChainsSpec.pre enc Tryd.prog Tryd.f7 [] false w args ∧ laidMetH Tryd.prog Go.Proofs.YtdhhcmpoegfdjaaDoor.Laid.laid3 w) ∧ sizedMet enc Tryd.prog Tryd.f7 (OpenSpec.ofChange Rows.crcChainsSpec) false w args)
      (Rows.crcChainsSpec.post enc Tryd.prog Tryd.f7 false true false false) := by
  refine returnsInHanded_of_change_and (C := Tryd.checked) (X := fun w _ => laidMetH Tryd.prog Go.Proofs.YtdhhcmpoegfdjaaDoor.Laid.laid3 w) (fun _ _ _ hh h => h.of_heap hh) own started (by kernel_rfl) Tryd.func7
    (ChangeSpec.witness_shaped (enc := enc) (C := Tryd.checked) (os := os) (X := fun w _ => laidMetH Tryd.prog Go.Proofs.YtdhhcmpoegfdjaaDoor.Laid.laid3 w) false (World.doorLaid Tryd.prog 4000 os) #[.int .u64 0, .string ByteArray.empty] 8 rfl (World.shaped_of_RefB (by kernel_rfl) (by kernel_rfl)) (by kernel_rfl) (by kernel_rfl) (by kernel_rfl) (Go.Proofs.YtdhhcmpoegfdjaaDoor.Laid.door_met os _)) ?_
  intro W base args ds gs before hval0 hW hcnd hsz0 hL _
  have hval : ∀ (j : Nat) t v, Tryd.f7.params[j]? = some t → args[j]? = some v → Value.okWide Tryd.prog W .any base t v := hval0
  have hW' := hW
  obtain ⟨p, q, hA0, hV, rfl, hfz, hnd⟩ := hW
  have hA : DataW.TrodAll enc Tryd.prog W 0 (fun _ => true) true Tryd.f7.params.toList args.toList ds p := hA0
  rw [Tryd.params7] at hA hval
  obtain ⟨v0, vs0, d0, ds0, p0, q0, hargs, rfl, rfl, h0, r0⟩ := trodAll_cons hA
  obtain ⟨v1, vs1, d1, ds1, p1, q1, rfl, rfl, rfl, h1, r1⟩ := trodAll_cons r0
  obtain ⟨rfl, rfl, rfl⟩ := trodAll_nil r1
  obtain rfl : args = #[v0, v1] := by cases args; simp_all
  obtain ⟨rfl, rfl⟩ := trodVars_none hV
  obtain ⟨a0, rfl, rfl, rfl, w0⟩ := open_int Tryd.underlying33 (hval 0 33 v0 rfl rfl) h0
  obtain ⟨a1, rfl, rfl, rfl, w1⟩ := open_string Tryd.underlying9 (hval 1 9 v1 rfl rfl) h1
  clear hA0 hval0
  simp only [List.append_nil] at hW'
  refine (walk a0 a1 W w0 w1 (Go.Proofs.YtdhhcmpoegfdjaaDoor.Laid.of_laid hL)).mono fun e W' ⟨he, bel⟩ => ?_
  subst he
  exact ⟨_, rfl, _, _, _, [], _, [], hW', trodAll_mk1 (shut_bool Tryd.underlying4 _), (trodAll_cons_mk (shut_int Tryd.underlying33 w0) (trodAll_cons_mk (shut_string Tryd.underlying9 w1) trodAll_mk0)), rfl, bel.frame _, fun h => by cases h⟩

theorem over : Rows.crcChainsRow.holds Tryd.pinned (OpenSpec.ofChange Rows.crcChainsSpec) :=
  OpenClaim.holds_of_wide 7 Tryd.f7 rfl rfl rfl rfl rfl rfl rfl ⟨rfl, rfl, rfl, rfl, rfl⟩ rfl rfl rfl rfl rfl (by kernel_rfl) Tryd.func7 (by kernel_rfl)
    (of_decide_eq_true (by kernel_rfl)) (by unfold Func.isWrapper; first | (rw [if_pos (by decide +kernel)]; kernel_rfl) | (rw [if_neg (by decide +kernel)]; exact ⟨rfl, rfl⟩))
    (fun os started H enc _ => lifted os started H enc)

theorem card_holds : Claim7.holds Tryd.pinned (.plain (OpenSpec.ofChange Rows.crcChainsSpec)) Rows.crcChainsCard :=
  Claim7.holds_tied_plain_at .later [] [.data, .data, .data] true (true, "2d00dcba76b764dfd051bb3a13337b88d5886668904bb3c5079b70cda0534ad1") false
    over (fun _ h => by cases h) (by kernel_rfl) (fun _ h => by cases h) crcChains_row_tie rfl ⟨rfl, rfl⟩ (by kernel_rfl) rfl
    (fun f fn hf hfn => by
      obtain rfl : f = 7 := Option.some.inj ((show Tryd.prog.funcNamed "signalling/signallinglaw04.CrcChains" = some 7 by kernel_rfl).symm.trans hf) |>.symm
      obtain rfl : fn = Tryd.f7 := (Option.some.inj (Tryd.func7.symm.trans hfn)).symm
      exact ⟨by kernel_rfl, fun j t ht => by
        rw [Tryd.params7] at ht
        have hm : t ∈ [33, 9] := by simpa using Array.mem_of_getElem? ht
        have hall : ([33, 9].all fun u => !Tryd.prog.wantsStandIn u) = true := by kernel_rfl
        exact (show Tryd.prog.wantsStandIn t = false by simpa using List.all_eq_true.1 hall t hm)⟩)
    (by kernel_rfl)

/-- The statement. -/
theorem proved : Rows.CrcChainsCardSaid := card_holds
#print axioms proved
end Go.Proofs.YtdhhcmpoegfdjaaDoor.crcChains
