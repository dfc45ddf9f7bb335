/- Layer 8, PlanFirst: for every text and every few short lines the law returns true, that is, the line of an error that Parse returns is the first one that cannot continue the text, and whatever follows it does not matter (and the chapter's examples hold). The listed variables of Go's library hold what their texts lay. -/
import Derived.Test.YtfdipcphohhlgaaGreatDoorRows
import Derived.WalkKit
import Derived.ProofKit
import Derived.OpenShut
import Derived.ShutString
import Derived.Below
import Derived.SizedLaws
import Derived.ChangeOld
import Derived.Test.YtfdipcphohhlgaaGreatDoorG01
import Derived.Test.YtfdipcphohhlgaaGreatDoorG05
import Derived.Test.YtfdipcphohhlgaaGreatDoorTie
import Derived.Test.YtfdipcphohhlgaaGreatDoorCards
import Derived.SevenTiedAt
import Derived.ChangeVars
import Derived.ChangeSame
import Derived.Test.YtfdipcphohhlgaaGreatDoorG29
import Derived.Test.YtfdipcphohhlgaaGreatDoorG27
namespace Go.Proofs.YtfdipcphohhlgaaGreatDoor.planFirst
open Go.ChangeShapes Go.WideShapes Go.ChangeAt
open Go.RowKit hiding intOf
open Go.ChangeMaps (open_string shut_string)
set_option linter.unusedVariables false

theorem own : ownKnob Tryz.prog.godebug = none := by kernel_rfl
theorem laidOut : laidOutB Tryz.prog = true := by kernel_rfl


theorem walk (a0 : ByteArray) (a1 : Value) (l1 : List (List (List UInt8))) (w : World) (w0 : a0.size ≤ maxLen) (w1 : Go.Proofs.YtfdipcphohhlgaaGreatDoor.Rows2.Lns (fun b => b < w.heap.size) w a1 l1) (s1 : ∀ l ∈ l1, l.length ≤ 140737488355328) (n1 : a1 = .slice none 0 0 ∨ ∃ ad n c, a1 = .slice (some ad) n c) (hdeb : Go.Proofs.YtfdipcphohhlgaaGreatDoor.Debw.Deb w) :
    Calls Tryz.prog 6 #[.string a0, a1] w fun e w' => e = .returned (.bool true) ∧ Below w.heap.size w w' := by
  have h := Go.Proofs.YtfdipcphohhlgaaGreatDoor.Pfsw.first8_any Go.Proofs.YtfdipcphohhlgaaGreatDoor.Pprg.two a0.data.toList l1 w w1 n1 hdeb
  rw [Go.Proofs.YtfdipcphohhlgaaGreatDoor.Text.bs_of] at h
  exact h.mono fun _ _ k => k

set_option maxRecDepth 100000 in
theorem lifted (os : Os) (started : os.Started) (H : Type) (enc : TypeId × Value → H) :
    ReturnsInHanded {} Tryz.checked os 6 .any (fun w args => (Rows.planFirstSpec.pre enc Tryz.prog Tryz.f6 [] false w args ∧ laidMetH Tryz.prog Go.Proofs.YtfdipcphohhlgaaGreatDoor.Laidw.laid7 w) ∧ sizedMet enc Tryz.prog Tryz.f6 (OpenSpec.ofChange Rows.planFirstSpec) false w args)
      (Rows.planFirstSpec.post enc Tryz.prog Tryz.f6 false true false false) := by
  refine Go.Proofs.YtfdipcphohhlgaaGreatDoor.Laidw.returns_and_shaped (C := Tryz.checked) (X := fun w _ => laidMetH Tryz.prog Go.Proofs.YtfdipcphohhlgaaGreatDoor.Laidw.laid7 w) (fun _ _ _ hh h => h.of_heap hh) own started (by kernel_rfl) Tryz.func6
    (ChangeSpec.witness_shaped (enc := enc) (C := Tryz.checked) (os := os) (X := fun w _ => laidMetH Tryz.prog Go.Proofs.YtfdipcphohhlgaaGreatDoor.Laidw.laid7 w) false (World.laidAll Tryz.prog os Go.Proofs.YtfdipcphohhlgaaGreatDoor.Laidw.laid7) #[.string ByteArray.empty, .slice none 0 0] 8 (World.laidAll_os _ _ _) (Go.Proofs.YtfdipcphohhlgaaGreatDoor.Laidw.laid_shaped os _) (by kernel_rfl) (by kernel_rfl) (by kernel_rfl) (Go.Proofs.YtfdipcphohhlgaaGreatDoor.Laidw.laid_met os _)) ?_
  intro W base args ds gs before hval0 hW hcnd hsz0 hL hsh
  have hval : ∀ (j : Nat) t v, Tryz.f6.params[j]? = some t → args[j]? = some v → Value.okWide Tryz.prog W .any base t v := hval0
  have hW' := hW
  obtain ⟨p, q, hA0, hV, rfl, hfz, hnd⟩ := hW
  have hA : DataW.TrodAll enc Tryz.prog W 0 (fun _ => true) true Tryz.f6.params.toList args.toList ds p := hA0
  have hsz : (DataW.weightsEach Tryz.prog (Tryz.f6.params.toList ++ Rows.planFirstSpec.plain.varTypes Tryz.prog) (ds ++ gs)).all (· ≤ reachBytes) = true := hsz0
  rw [Tryz.params6] at hA hval hsz
  obtain ⟨v0, vs0, d0, ds0, p0, q0, hargs, rfl, rfl, h0, r0⟩ := trodAll_cons hA
  obtain ⟨v1, vs1, d1, ds1, p1, q1, rfl, rfl, rfl, h1, r1⟩ := trodAll_cons r0
  obtain ⟨rfl, rfl, rfl⟩ := trodAll_nil r1
  obtain rfl : args = #[v0, v1] := by cases args; simp_all
  obtain ⟨rfl, rfl⟩ := trodVars_none hV
  obtain ⟨a0, rfl, rfl, rfl, w0⟩ := open_string Tryz.underlying9 (hval 0 9 v0 rfl rfl) h0
  have k1 := h1
  have lt1 : ∀ x ∈ p1, x.block < W.heap.size := by obtain ⟨m, hm⟩ := k1; exact DataW.trod_lt m _ _ _ hm
  obtain ⟨fuel1, hf1⟩ := h1
  obtain ⟨b1, len1, cap1, rfl⟩ := okWide_slice Tryz.underlying39 (hval 1 39 v1 rfl rfl)
  obtain ⟨l1, w1, s1⟩ := Go.Proofs.YtfdipcphohhlgaaGreatDoor.Openw.open_lines Tryz.underlying39 Tryz.underlying22 Tryz.underlying9 (by kernel_rfl) (by kernel_rfl) (by kernel_rfl) hf1 (fun n hn => by have := List.all_eq_true.1 hsz _ (DataW.weights_mem_each (j := 1) (t := 39) rfl rfl n hn); simpa using this)
  have n1 := Go.Proofs.YtfdipcphohhlgaaGreatDoor.Pfst.sn_any Tryz.underlying39 (by kernel_rfl) hf1
  clear hA0 hval0
  simp only [List.append_nil] at hW'
  refine (walk a0 _ l1 W w0 w1 s1 n1 (Go.Proofs.YtfdipcphohhlgaaGreatDoor.Laidw.of_laid hL hsh)).mono fun e W' ⟨he, bel⟩ => ?_
  subst he
  exact ⟨_, rfl, _, _, _, [], _, [], hW', trodAll_mk1 (shut_bool Tryz.underlying4 _), (trodAll_cons_mk (shut_string Tryz.underlying9 w0) (trodAll_cons_mk (Below.trod laidOut (by kernel_rfl) (of_decide_eq_true (by kernel_rfl)) k1 bel lt1) trodAll_mk0)), rfl, bel.frame _, fun h => by cases h⟩

theorem over : Rows.planFirstRow.holds Tryz.pinned (OpenSpec.ofChange Rows.planFirstSpec) :=
  OpenClaim.holds_of_wide 6 Tryz.f6 rfl rfl rfl rfl rfl rfl rfl ⟨rfl, rfl, rfl, rfl, rfl⟩ rfl rfl rfl rfl rfl (by kernel_rfl) Tryz.func6 (by kernel_rfl)
    (of_decide_eq_true (by kernel_rfl)) (by unfold Func.isWrapper; first | (rw [if_pos (by decide +kernel)]; kernel_rfl) | (rw [if_neg (by decide +kernel)]; exact ⟨rfl, rfl⟩))
    (fun os started H enc _ => lifted os started H enc)

theorem card_holds : Claim7.holds Tryz.pinned (.plain (OpenSpec.ofChange Rows.planFirstSpec)) Rows.planFirstCard :=
  Claim7.holds_tied_plain_at .later [] [.data, .data, .data, .data, .sentinel, .sentinel, .pinned] true (true, "cd88b3cee741d14f4fae21f30b4a70d2410de8b8b4a2e91230fbb1e0b6ae5442") true
    over (fun _ h => by cases h) (by kernel_rfl) (fun _ h => by cases h) planFirst_row_tie rfl ⟨rfl, rfl⟩ (by kernel_rfl) rfl
    (fun f fn hf hfn => by
      obtain rfl : f = 6 := Option.some.inj ((show Tryz.prog.funcNamed "signalling/signallinglaw08.PlanFirst" = some 6 by kernel_rfl).symm.trans hf) |>.symm
      obtain rfl : fn = Tryz.f6 := (Option.some.inj (Tryz.func6.symm.trans hfn)).symm
      exact ⟨by kernel_rfl, fun j t ht => by
        rw [Tryz.params6] at ht
        have hm : t ∈ [9, 39] := by simpa using Array.mem_of_getElem? ht
        have hall : ([9, 39].all fun u => !Tryz.prog.wantsStandIn u) = true := by kernel_rfl
        exact (show Tryz.prog.wantsStandIn t = false by simpa using List.all_eq_true.1 hall t hm)⟩)
    (by kernel_rfl)

/-- The statement. -/
theorem proved : Rows.PlanFirstCardSaid := card_holds
#print axioms proved
end Go.Proofs.YtfdipcphohhlgaaGreatDoor.planFirst
