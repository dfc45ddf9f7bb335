/- Layer 5, WordsLines: for every text the law returns true, that is, Lines of words gives the reference's words, number and error (and the chapter's examples hold). The listed variables of Go's library hold what their texts lay. -/
import Derived.Test.YtnechpciaidkmaaDoorRows
import Derived.WalkKit
import Derived.ProofKit
import Derived.OpenShut
import Derived.ShutString
import Derived.Below
import Derived.SizedLaws
import Derived.Test.YtnechpciaidkmaaDoorLaidw
import Derived.Test.YtnechpciaidkmaaDoorTie
import Derived.Test.YtnechpciaidkmaaDoorCards
import Derived.SevenTiedAt
import Derived.ChangeVars
import Derived.ChangeSame
import Derived.Test.YtnechpciaidkmaaDoorAlivew
namespace Go.Proofs.YtnechpciaidkmaaDoor.wordsLines
open Go.ChangeShapes Go.WideShapes Go.ChangeAt
open Go.RowKit hiding intOf
open Go.ChangeMaps (open_string shut_string)
open Go.Lib Go.Proofs.YtnechpciaidkmaaDoor.Text Go.Proofs.YtnechpciaidkmaaDoor.Numt Go.Proofs.YtnechpciaidkmaaDoor.Kind Go.Proofs.YtnechpciaidkmaaDoor.Word Go.Proofs.YtnechpciaidkmaaDoor.Rword Go.Proofs.YtnechpciaidkmaaDoor.Reads Go.Proofs.YtnechpciaidkmaaDoor.Rows2 Go.Proofs.YtnechpciaidkmaaDoor.Samew Go.Proofs.YtnechpciaidkmaaDoor.Debw Go.Proofs.YtnechpciaidkmaaDoor.Ownl Go.Proofs.YtnechpciaidkmaaDoor.Linw Go.Proofs.YtnechpciaidkmaaDoor.Rlinw Go.Proofs.YtnechpciaidkmaaDoor.Joinw Go.Proofs.YtnechpciaidkmaaDoor.Rjoinw Go.Proofs.YtnechpciaidkmaaDoor.Fmtw Go.Proofs.YtnechpciaidkmaaDoor.Intw Go.Proofs.YtnechpciaidkmaaDoor.Listw Go.Proofs.YtnechpciaidkmaaDoor.Flistw Go.Proofs.YtnechpciaidkmaaDoor.Alivew
set_option linter.unusedVariables false

theorem own : ownKnob Tryd.prog.godebug = none := by kernel_rfl


set_option maxHeartbeats 1600000 in
theorem walk (a0 : ByteArray) (w : World) (w0 : a0.size ≤ maxLen) (hdeb : Go.Proofs.YtnechpciaidkmaaDoor.Debw.Deb w) :
    Calls Tryd.prog 3 #[.string a0] w fun e w' => e = .returned (.bool true) ∧ Below w.heap.size w w' := by
  have HD := Lib.hid hdeb
  by_cases h : 34000 < a0.size
  · clear hdeb
    go_enter Tryd.func3, Tryd.ntmps3
    go_wp2_with fail
    refine (alive_any _ HD.out).mono ?_
    rintro e w1 ⟨rfl, b1⟩
    have B1 := Lib.hid b1
    clear b1
    go_wp2_with fail
    go_ret
    exact ⟨rfl, B1.out⟩
  · have H1 := Lib.hid (fun w h => lines_any a0 w (by omega) h)
    have H2 := Lib.hid (fun w => rlines_any a0 w (by omega))
    obtain ⟨⟨ls, n, e⟩, hR⟩ : ∃ r, linesR a0.data.toList = r := ⟨_, rfl⟩
    unfold LinesOut at H1 H2
    rw [hR] at H1 H2
    have hqn : ((n : Int) == (n : Int)) = true := by simp
    have hqe : ((e : Int) == (e : Int)) = true := by simp
    clear hdeb hR
    go_enter Tryd.func3, Tryd.ntmps3
    go_wp2_with fail
    refine (H1.out _ HD.out).mono ?_
    rintro e w1 ⟨v1, rfl, h1, b1⟩
    have V1 := Lib.hid h1
    have B1 := Lib.hid b1
    have D1 := Lib.hid (deb_next HD.out b1)
    clear b1 h1
    go_wp2_with fail
    refine (H2.out _).mono ?_
    rintro e w2 ⟨v2, rfl, h2, b2⟩
    have V2 := Lib.hid h2
    have V3 := Lib.hid (V1.out.keep (keep_next b2))
    have B2 := Lib.hid (bel_next B1.out b2)
    have D2 := Lib.hid (deb_next D1.out b2)
    clear b2 h2
    go_wp2_with fail
    refine (same_any V3.out V2.out).mono ?_
    rintro e w3 ⟨rfl, b3⟩
    have B3 := Lib.hid (bel_next B2.out b3)
    have D3 := Lib.hid (deb_next D2.out b3)
    clear b3
    go_wp2_with fail
    refine (alive_any _ D3.out).mono ?_
    rintro e w4 ⟨rfl, b4⟩
    have B4 := Lib.hid (bel_next B3.out b4)
    clear b4
    go_wp2_with fail
    go_ret
    exact ⟨rfl, B4.out⟩

set_option maxRecDepth 100000 in
theorem lifted (os : Os) (started : os.Started) (H : Type) (enc : TypeId × Value → H) :
    ReturnsInHanded {} Tryd.checked os 3 .any (fun w args => (Rows.wordsLinesSpec.pre enc Tryd.prog Tryd.f3 [] false w args ∧ laidMetH Tryd.prog Go.Proofs.YtnechpciaidkmaaDoor.Laidw.laid7 w) ∧ sizedMet enc Tryd.prog Tryd.f3 (OpenSpec.ofChange Rows.wordsLinesSpec) false w args)
      (Rows.wordsLinesSpec.post enc Tryd.prog Tryd.f3 false true false false) := by
  refine Go.Proofs.YtnechpciaidkmaaDoor.Laidw.returns_and_shaped (C := Tryd.checked) (X := fun w _ => laidMetH Tryd.prog Go.Proofs.YtnechpciaidkmaaDoor.Laidw.laid7 w) (fun _ _ _ hh h => h.of_heap hh) own started (by kernel_rfl) Tryd.func3
    (ChangeSpec.witness_shaped (enc := enc) (C := Tryd.checked) (os := os) (X := fun w _ => laidMetH Tryd.prog Go.Proofs.YtnechpciaidkmaaDoor.Laidw.laid7 w) false (World.laidAll Tryd.prog os Go.Proofs.YtnechpciaidkmaaDoor.Laidw.laid7) #[.string ByteArray.empty] 8 (World.laidAll_os _ _ _) (Go.Proofs.YtnechpciaidkmaaDoor.Laidw.laid_shaped os _) (by kernel_rfl) (by kernel_rfl) (by kernel_rfl) (Go.Proofs.YtnechpciaidkmaaDoor.Laidw.laid_met os _)) ?_
  intro W base args ds gs before hval0 hW hcnd hsz0 hL hsh
  have hval : ∀ (j : Nat) t v, Tryd.f3.params[j]? = some t → args[j]? = some v → Value.okWide Tryd.prog W .any base t v := hval0
  have hW' := hW
  obtain ⟨p, q, hA0, hV, rfl, hfz, hnd⟩ := hW
  have hA : DataW.TrodAll enc Tryd.prog W 0 (fun _ => true) true Tryd.f3.params.toList args.toList ds p := hA0
  have hsz : (DataW.weightsEach Tryd.prog (Tryd.f3.params.toList ++ Rows.wordsLinesSpec.plain.varTypes Tryd.prog) (ds ++ gs)).all (· ≤ reachBytes) = true := hsz0
  rw [Tryd.params3] at hA hval hsz
  obtain ⟨v0, vs0, d0, ds0, p0, q0, hargs, rfl, rfl, h0, r0⟩ := trodAll_cons hA
  obtain ⟨rfl, rfl, rfl⟩ := trodAll_nil r0
  obtain rfl : args = #[v0] := by cases args; simp_all
  obtain ⟨rfl, rfl⟩ := trodVars_none hV
  obtain ⟨a0, rfl, rfl, rfl, w0⟩ := open_string Tryd.underlying9 (hval 0 9 v0 rfl rfl) h0
  clear hA0 hval0
  simp only [List.append_nil] at hW'
  refine (walk a0 W w0 (Go.Proofs.YtnechpciaidkmaaDoor.Laidw.of_laid hL hsh)).mono fun e W' ⟨he, bel⟩ => ?_
  subst he
  exact ⟨_, rfl, _, _, _, [], _, [], hW', trodAll_mk1 (shut_bool Tryd.underlying4 _), (trodAll_cons_mk (shut_string Tryd.underlying9 w0) trodAll_mk0), rfl, bel.frame _, fun h => by cases h⟩

theorem over : Rows.wordsLinesRow.holds Tryd.pinned (OpenSpec.ofChange Rows.wordsLinesSpec) :=
  OpenClaim.holds_of_wide 3 Tryd.f3 rfl rfl rfl rfl rfl rfl rfl ⟨rfl, rfl, rfl, rfl, rfl⟩ rfl rfl rfl rfl rfl (by kernel_rfl) Tryd.func3 (by kernel_rfl)
    (of_decide_eq_true (by kernel_rfl)) (by unfold Func.isWrapper; first | (rw [if_pos (by decide +kernel)]; kernel_rfl) | (rw [if_neg (by decide +kernel)]; exact ⟨rfl, rfl⟩))
    (fun os started H enc _ => lifted os started H enc)

theorem card_holds : Claim7.holds Tryd.pinned (.plain (OpenSpec.ofChange Rows.wordsLinesSpec)) Rows.wordsLinesCard :=
  Claim7.holds_tied_plain_at .later [] [.data, .data, .data, .data, .sentinel, .sentinel, .pinned] true (true, "51c859ddad675148d441ecfc7626b45112e6231030f9fdf80a71aa67985728c3") true
    over (fun _ h => by cases h) (by kernel_rfl) (fun _ h => by cases h) wordsLines_row_tie rfl ⟨rfl, rfl⟩ (by kernel_rfl) rfl
    (fun f fn hf hfn => by
      obtain rfl : f = 3 := Option.some.inj ((show Tryd.prog.funcNamed "signalling/signallinglaw05.WordsLines" = some 3 by kernel_rfl).symm.trans hf) |>.symm
      obtain rfl : fn = Tryd.f3 := (Option.some.inj (Tryd.func3.symm.trans hfn)).symm
      exact ⟨by kernel_rfl, fun j t ht => by
        rw [Tryd.params3] at ht
        have hm : t ∈ [9] := by simpa using Array.mem_of_getElem? ht
        have hall : ([9].all fun u => !Tryd.prog.wantsStandIn u) = true := by kernel_rfl
        exact (show Tryd.prog.wantsStandIn t = false by simpa using List.all_eq_true.1 hall t hm)⟩)
    (by kernel_rfl)

/-- The statement. -/
theorem proved : Rows.WordsLinesCardSaid := card_holds
#print axioms proved
end Go.Proofs.YtnechpciaidkmaaDoor.wordsLines
