/- CrcOpens: for every text of at most 3000 bytes, crc.Open returns the text and the error that the reference returns, a text that can be opened is the sealed text of its result, and a sealed text is opened to what was sealed; of longer texts only the examples are said. The card ties the listed tables to the program's text. -/
import Derived.Test.YtdhhcmpoegfdjaaDoorRows
import Derived.WalkKit
import Derived.ProofKit
import Derived.OpenShut
import Derived.ShutString
import Derived.Below
import Derived.Test.YtdhhcmpoegfdjaaDoorLaid
import Derived.Test.YtdhhcmpoegfdjaaDoorTie
import Derived.Test.YtdhhcmpoegfdjaaDoorCards
import Derived.SevenTiedAt
import Derived.ChangeVars
import Derived.ChangeSame
import Derived.Test.YtdhhcmpoegfdjaaDoorCalive
namespace Go.Proofs.YtdhhcmpoegfdjaaDoor.crcOpens
open Go.ChangeShapes Go.WideShapes Go.ChangeAt
open Go.RowKit hiding intOf
open Go.ChangeMaps (open_string shut_string)
open Go.Proofs.YtdhhcmpoegfdjaaDoor.Crc Go.Proofs.YtdhhcmpoegfdjaaDoor.Sum Go.Proofs.YtdhhcmpoegfdjaaDoor.Seal Go.Proofs.YtdhhcmpoegfdjaaDoor.Calive Go.Proofs.YtdhhcmpoegfdjaaDoor.Hex Go.Proofs.YtdhhcmpoegfdjaaDoor.Opn Go.WideShapes
set_option linter.unusedVariables false

theorem own : ownKnob Tryd.prog.godebug = none := by kernel_rfl

/-- What opening gives: the text whose sealed text it was, or an error. -/
theorem open_cases (s : ByteArray) : (∃ t : ByteArray, openV s = .tuple #[.string t, .int .i64 0] ∧ sealS t = s ∧ t.size ≤ s.size) ∨ ∃ (t : ByteArray) (e : Int), openV s = .tuple #[.string t, .int .i64 e] ∧ ¬ e = 0 := by
  rcases @opened_err s.data.toList with h | h | h
  · left
    have ho : opened s.data.toList = ((opened s.data.toList).1, 0) := by rw [← h]
    have hs := opened_ok ho
    refine ⟨str (opened s.data.toList).1, by unfold openV; rw [h]; rfl, ?_, ?_⟩
    · apply bytes_inj
      rw [sealS_list]
      exact hs
    · have := congrArg List.length hs
      rw [sealed_length, size_list] at this
      show (opened s.data.toList).1.toArray.size ≤ _
      simp
      omega
  · exact .inr ⟨_, _, by unfold openV; rw [h], by decide⟩
  · exact .inr ⟨_, _, by unfold openV; rw [h], by decide⟩
theorem sealS_size (s : ByteArray) : (sealS s).size = s.size + 4 := by
  rw [← size_list, sealS_list, sealed_length, size_list]
set_option maxRecDepth 100000 in

set_option maxHeartbeats 1600000 in
theorem walk (a0 : ByteArray) (w : World) (w0 : a0.size ≤ maxLen) (hdeb : Go.Proofs.YtdhhcmpoegfdjaaDoor.Hex.Deb w) :
    Calls Tryd.prog 4 #[.string a0] w fun e w' => e = .returned (.bool true) ∧ Below w.heap.size w w' := by
  have HD := Lib.hid hdeb
  have HA := Lib.hid (fun w h => alive_any w h)
  by_cases hl : a0.size ≤ 3000
  · have h1 := Lib.hid (fun w => open_any a0 w (by omega))
    have h2 := Lib.hid (fun w => ropen_any a0 w (by omega))
    have h3 := Lib.hid (fun w => seal_any a0 w (by omega))
    have h4 := Lib.hid (fun w => open_any (sealS a0) w (by rw [sealS_size]; omega))
    rw [openV_seal] at h4
    have hl' : decide ((3000 : Int) < (a0.size : Int)) = false := by simp; omega
    obtain ⟨S, hS⟩ : ∃ S, sealS a0 = S := ⟨_, rfl⟩
    rw [hS] at h3 h4
    rcases open_cases a0 with ⟨t, ho, hst, hts⟩ | ⟨t, e, ho, he⟩
    · rw [ho] at h1 h2
      have h5 := Lib.hid (fun w => seal_any t w (by omega))
      rw [hst] at h5
      clear hS hdeb hl w0 ho hst hts
      go_enter Tryd.func4, Tryd.ntmps4
      go_wp2_with fail
      refine (h1.out _).mono ?_
      rintro e w1 ⟨rfl, b⟩
      have B1 := Lib.hid b
      clear b
      go_wp2_with fail
      refine (h2.out _).mono ?_
      rintro e w2 ⟨rfl, b⟩
      have B2 := Lib.hid (bel_next B1.out b)
      clear b B1
      go_wp2_with fail
      refine (h3.out _).mono ?_
      rintro e w3 ⟨rfl, b⟩
      have B3 := Lib.hid (bel_next B2.out b)
      clear b B2
      go_wp2_with fail
      refine (h4.out _).mono ?_
      rintro e w4 ⟨rfl, b⟩
      have B4 := Lib.hid (bel_next B3.out b)
      clear b B3
      go_wp2_with fail
      refine (h5.out _).mono ?_
      rintro e w5 ⟨rfl, b⟩
      have B5 := Lib.hid (bel_next B4.out b)
      clear b B4
      go_wp2_with fail
      refine (HA.out _ (deb_next HD.out B5.out)).mono ?_
      rintro e w6 ⟨rfl, b⟩
      have B6 := Lib.hid (bel_next B5.out b)
      clear b B5
      go_wp2_with fail
      go_ret
      exact ⟨rfl, B6.out⟩
    · rw [ho] at h1 h2
      have q1 : (e == e) = true := by simp
      have q2 : (e != 0) = true := by simpa using he
      clear hS hdeb hl w0 ho he
      go_enter Tryd.func4, Tryd.ntmps4
      go_wp2_with fail
      refine (h1.out _).mono ?_
      rintro e w1 ⟨rfl, b⟩
      have B1 := Lib.hid b
      clear b
      go_wp2_with fail
      refine (h2.out _).mono ?_
      rintro e w2 ⟨rfl, b⟩
      have B2 := Lib.hid (bel_next B1.out b)
      clear b B1
      go_wp2_with fail
      refine (h3.out _).mono ?_
      rintro e w3 ⟨rfl, b⟩
      have B3 := Lib.hid (bel_next B2.out b)
      clear b B2
      go_wp2_with fail
      refine (h4.out _).mono ?_
      rintro e w4 ⟨rfl, b⟩
      have B4 := Lib.hid (bel_next B3.out b)
      clear b B3
      go_wp2_with fail
      refine (HA.out _ (deb_next HD.out B4.out)).mono ?_
      rintro e w6 ⟨rfl, b⟩
      have B6 := Lib.hid (bel_next B4.out b)
      clear b B4
      go_wp2_with fail
      go_ret
      exact ⟨rfl, B6.out⟩
  · have hl' : decide ((3000 : Int) < (a0.size : Int)) = true := by simp; omega
    clear hdeb hl
    go_enter Tryd.func4, Tryd.ntmps4
    go_wp2_with fail
    refine (HA.out _ HD.out).mono ?_
    rintro e w4 ⟨rfl, b⟩
    have B4 := Lib.hid b
    clear b
    go_wp2_with fail
    go_ret
    exact ⟨rfl, B4.out⟩

set_option maxRecDepth 100000 in
theorem lifted (os : Os) (started : os.Started) (H : Type) (enc : TypeId × Value → H) :
    ReturnsInHanded {} Tryd.checked os 4 .any (fun w args => (Rows.crcOpensSpec.pre enc Tryd.prog Tryd.f4 [] false w args ∧ laidMetH Tryd.prog Go.Proofs.YtdhhcmpoegfdjaaDoor.Laid.laid3 w) ∧ sizedMet enc Tryd.prog Tryd.f4 (OpenSpec.ofChange Rows.crcOpensSpec) false w args)
      (Rows.crcOpensSpec.post enc Tryd.prog Tryd.f4 false true false false) := by
  refine returnsInHanded_of_change_and (C := Tryd.checked) (X := fun w _ => laidMetH Tryd.prog Go.Proofs.YtdhhcmpoegfdjaaDoor.Laid.laid3 w) (fun _ _ _ hh h => h.of_heap hh) own started (by kernel_rfl) Tryd.func4
    (ChangeSpec.witness_shaped (enc := enc) (C := Tryd.checked) (os := os) (X := fun w _ => laidMetH Tryd.prog Go.Proofs.YtdhhcmpoegfdjaaDoor.Laid.laid3 w) false (World.doorLaid Tryd.prog 4000 os) #[.string ByteArray.empty] 8 rfl (World.shaped_of_RefB (by kernel_rfl) (by kernel_rfl)) (by kernel_rfl) (by kernel_rfl) (by kernel_rfl) (Go.Proofs.YtdhhcmpoegfdjaaDoor.Laid.door_met os _)) ?_
  intro W base args ds gs before hval0 hW hcnd hsz0 hL _
  have hval : ∀ (j : Nat) t v, Tryd.f4.params[j]? = some t → args[j]? = some v → Value.okWide Tryd.prog W .any base t v := hval0
  have hW' := hW
  obtain ⟨p, q, hA0, hV, rfl, hfz, hnd⟩ := hW
  have hA : DataW.TrodAll enc Tryd.prog W 0 (fun _ => true) true Tryd.f4.params.toList args.toList ds p := hA0
  rw [Tryd.params4] at hA hval
  obtain ⟨v0, vs0, d0, ds0, p0, q0, hargs, rfl, rfl, h0, r0⟩ := trodAll_cons hA
  obtain ⟨rfl, rfl, rfl⟩ := trodAll_nil r0
  obtain rfl : args = #[v0] := by cases args; simp_all
  obtain ⟨rfl, rfl⟩ := trodVars_none hV
  obtain ⟨a0, rfl, rfl, rfl, w0⟩ := open_string Tryd.underlying9 (hval 0 9 v0 rfl rfl) h0
  clear hA0 hval0
  simp only [List.append_nil] at hW'
  refine (walk a0 W w0 (Go.Proofs.YtdhhcmpoegfdjaaDoor.Laid.of_laid hL)).mono fun e W' ⟨he, bel⟩ => ?_
  subst he
  exact ⟨_, rfl, _, _, _, [], _, [], hW', trodAll_mk1 (shut_bool Tryd.underlying4 _), (trodAll_cons_mk (shut_string Tryd.underlying9 w0) trodAll_mk0), rfl, bel.frame _, fun h => by cases h⟩

theorem over : Rows.crcOpensRow.holds Tryd.pinned (OpenSpec.ofChange Rows.crcOpensSpec) :=
  OpenClaim.holds_of_wide 4 Tryd.f4 rfl rfl rfl rfl rfl rfl rfl ⟨rfl, rfl, rfl, rfl, rfl⟩ rfl rfl rfl rfl rfl (by kernel_rfl) Tryd.func4 (by kernel_rfl)
    (of_decide_eq_true (by kernel_rfl)) (by unfold Func.isWrapper; first | (rw [if_pos (by decide +kernel)]; kernel_rfl) | (rw [if_neg (by decide +kernel)]; exact ⟨rfl, rfl⟩))
    (fun os started H enc _ => lifted os started H enc)

theorem card_holds : Claim7.holds Tryd.pinned (.plain (OpenSpec.ofChange Rows.crcOpensSpec)) Rows.crcOpensCard :=
  Claim7.holds_tied_plain_at .later [] [.data, .data, .data] true (true, "2d00dcba76b764dfd051bb3a13337b88d5886668904bb3c5079b70cda0534ad1") false
    over (fun _ h => by cases h) (by kernel_rfl) (fun _ h => by cases h) crcOpens_row_tie rfl ⟨rfl, rfl⟩ (by kernel_rfl) rfl
    (fun f fn hf hfn => by
      obtain rfl : f = 4 := Option.some.inj ((show Tryd.prog.funcNamed "signalling/signallinglaw04.CrcOpens" = some 4 by kernel_rfl).symm.trans hf) |>.symm
      obtain rfl : fn = Tryd.f4 := (Option.some.inj (Tryd.func4.symm.trans hfn)).symm
      exact ⟨by kernel_rfl, fun j t ht => by
        rw [Tryd.params4] at ht
        have hm : t ∈ [9] := by simpa using Array.mem_of_getElem? ht
        have hall : ([9].all fun u => !Tryd.prog.wantsStandIn u) = true := by kernel_rfl
        exact (show Tryd.prog.wantsStandIn t = false by simpa using List.all_eq_true.1 hall t hm)⟩)
    (by kernel_rfl)

/-- The statement. -/
theorem proved : Rows.CrcOpensCardSaid := card_holds
#print axioms proved
end Go.Proofs.YtdhhcmpoegfdjaaDoor.crcOpens
