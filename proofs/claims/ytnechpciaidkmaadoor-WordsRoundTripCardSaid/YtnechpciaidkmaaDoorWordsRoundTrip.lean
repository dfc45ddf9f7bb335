/- Layer 5, WordsRoundTrip: for every list of lists of words and every text the law returns true, that is, lines are restored from the joined text, and a text that is accepted is the joined text of its lines (and the chapter's examples hold). The listed variables of Go's library hold what their texts lay. -/
import Derived.Test.YtnechpciaidkmaaDoorRows
import Derived.WalkKit
import Derived.ProofKit
import Derived.OpenShut
import Derived.ShutString
import Derived.Below
import Derived.SizedLaws
import Derived.ChangeOld
import Derived.Test.YtnechpciaidkmaaDoorOpen
import Derived.Test.YtnechpciaidkmaaDoorOpenw
import Derived.Test.YtnechpciaidkmaaDoorLaidw
import Derived.Test.YtnechpciaidkmaaDoorTie
import Derived.Test.YtnechpciaidkmaaDoorCards
import Derived.SevenTiedAt
import Derived.ChangeVars
import Derived.ChangeSame
import Derived.Test.YtnechpciaidkmaaDoorAlivew
import Derived.Test.YtnechpciaidkmaaDoorSmallw
namespace Go.Proofs.YtnechpciaidkmaaDoor.wordsRoundTrip
open Go.ChangeShapes Go.WideShapes Go.ChangeAt
open Go.RowKit hiding intOf
open Go.ChangeMaps (open_string shut_string)
open Go.Lib Go.Proofs.YtnechpciaidkmaaDoor.Text Go.Proofs.YtnechpciaidkmaaDoor.Numt Go.Proofs.YtnechpciaidkmaaDoor.Kind Go.Proofs.YtnechpciaidkmaaDoor.Word Go.Proofs.YtnechpciaidkmaaDoor.Rword Go.Proofs.YtnechpciaidkmaaDoor.Reads Go.Proofs.YtnechpciaidkmaaDoor.Rows2 Go.Proofs.YtnechpciaidkmaaDoor.Samew Go.Proofs.YtnechpciaidkmaaDoor.Debw Go.Proofs.YtnechpciaidkmaaDoor.Ownl Go.Proofs.YtnechpciaidkmaaDoor.Linw Go.Proofs.YtnechpciaidkmaaDoor.Rlinw Go.Proofs.YtnechpciaidkmaaDoor.Joinw Go.Proofs.YtnechpciaidkmaaDoor.Rjoinw Go.Proofs.YtnechpciaidkmaaDoor.Fmtw Go.Proofs.YtnechpciaidkmaaDoor.Intw Go.Proofs.YtnechpciaidkmaaDoor.Listw Go.Proofs.YtnechpciaidkmaaDoor.Flistw Go.Proofs.YtnechpciaidkmaaDoor.Alivew Go.Proofs.YtnechpciaidkmaaDoor.Smallw
set_option linter.unusedVariables false

theorem own : ownKnob Tryd.prog.godebug = none := by kernel_rfl
theorem laidOut : laidOutB Tryd.prog = true := by kernel_rfl

theorem joinT_ok {ls : List (List (List UInt8))} {t : (List UInt8)} (h : joinR ls = (t, 0)) : (joinT ls).length ≤ 1000000000000 := by
  unfold joinR at h
  split at h
  · simp at h
  · split at h
    · simp at h
    · omega

set_option maxHeartbeats 3200000 in
theorem walk (a0 : Value) (l0 : List (List (List UInt8))) (a1 : ByteArray) (w : World) (w0 : Go.Proofs.YtnechpciaidkmaaDoor.Rows2.Lns (fun b => b < w.heap.size) w a0 l0) (s0 : ∀ l ∈ l0, l.length ≤ 140737488355328) (w1 : a1.size ≤ maxLen) (hdeb : Go.Proofs.YtnechpciaidkmaaDoor.Debw.Deb w) :
    Calls Tryd.prog 6 #[a0, .string a1] w fun e w' => e = .returned (.bool true) ∧ Below w.heap.size w w' := by
  have HD := Lib.hid hdeb
  have HW := Lib.hid w0
  have HS := Lib.hid (small_any w0 s0)
  clear hdeb w0 s0
  obtain ⟨⟨t, e⟩, ht⟩ : ∃ r, joinR l0 = r := ⟨_, rfl⟩
  have hv := joinV_of ht
  obtain ⟨⟨ms, mn, f⟩, hm⟩ : ∃ r, linesR a1.data.toList = r := ⟨_, rfl⟩
  have H8 := Lib.hid (fun w h => lines_any a1 w (by unfold maxLen at w1; omega) h)
  unfold LinesOut at H8
  rw [hm] at H8
  by_cases hlong : 34000 < a1.size
  · have hlong' : decide ((34000 : Int) < a1.size) = true := decide_eq_true (by omega)
    go_enter Tryd.func6, Tryd.ntmps6
    go_wp2_with fail
    refine HS.out.mono ?_
    rintro e w ⟨b, rfl, hb, rfl⟩
    cases b
    · go_wp2_with fail
      refine (alive_any _ HD.out).mono ?_
      rintro e w1 ⟨rfl, b1⟩
      have B1 := Lib.hid b1
      clear b1
      go_wp2_with fail
      go_ret
      exact ⟨rfl, B1.out⟩
    · go_wp2_with fail
      refine (alive_any _ HD.out).mono ?_
      rintro e w1 ⟨rfl, b1⟩
      have B1 := Lib.hid b1
      clear b1
      go_wp2_with fail
      go_ret
      exact ⟨rfl, B1.out⟩
  · have hlong' : decide ((34000 : Int) < a1.size) = false := decide_eq_false (by omega)
    by_cases he : e = 0
    · subst he
      have hlj := lines_of_join ht
      have hsz : t.length ≤ 32768 := by
        unfold joinR at ht
        split at ht
        · simp at ht
        · split at ht
          · simp at ht
          · simp only [Prod.mk.injEq, and_true] at ht
            rw [← ht]; omega
      have H5 := Lib.hid (fun w h => lines_any (bs t) w (by rw [bs_size]; omega) h)
      unfold LinesOut at H5
      rw [bs_list, hlj] at H5
      clear hlj hsz ht
      by_cases hf : f = 0
      · subst hf
        have hj := join_of_lines hm
        have H9 := Lib.hid (joinT_ok hj)
        have H10 := Lib.hid (show joinV ms = .tuple #[.string a1, .int .i64 0] by rw [joinV_of hj, bs_of]; rfl)
        clear hj hm
        go_enter Tryd.func6, Tryd.ntmps6
        go_wp2_with fail
        refine HS.out.mono ?_
        rintro e w ⟨b, rfl, hb, rfl⟩
        cases b
        · go_wp2_with fail
          refine (alive_any _ HD.out).mono ?_
          rintro e w1 ⟨rfl, b1⟩
          have B1 := Lib.hid b1
          clear b1
          go_wp2_with fail
          go_ret
          exact ⟨rfl, B1.out⟩
        · have HT := Lib.hid (hb rfl)
          clear hb
          go_wp2_with fail
          refine (join_any HW.out HT.out).mono ?_
          rintro e w1 ⟨rfl, b1⟩
          rw [hv]
          have B1 := Lib.hid b1
          have D1 := Lib.hid (deb_next HD.out b1)
          clear b1
          go_wp2_with fail
          refine (H5.out _ D1.out).mono ?_
          rintro e w2 ⟨v2, rfl, r2, b2⟩
          have R2 := Lib.hid r2
          have B2 := Lib.hid (bel_next B1.out b2)
          have D2 := Lib.hid (deb_next D1.out b2)
          have W2 := Lib.hid (HW.out.keep (keep_next B2.out))
          clear b2 r2
          go_wp2_with fail
          refine (same_any R2.out W2.out).mono ?_
          rintro e w3 ⟨rfl, b3⟩
          have B3 := Lib.hid (bel_next B2.out b3)
          have D3 := Lib.hid (deb_next D2.out b3)
          clear b3
          go_wp2_with fail
          refine (H8.out _ D3.out).mono ?_
          rintro e w4 ⟨v4, rfl, r4, b4⟩
          have R4 := Lib.hid r4
          have B4 := Lib.hid (bel_next B3.out b4)
          have D4 := Lib.hid (deb_next D3.out b4)
          clear b4 r4
          go_wp2_with fail
          refine (join_any R4.out H9.out).mono ?_
          rintro e w5 ⟨rfl, b5⟩
          rw [H10.out]
          have B5 := Lib.hid (bel_next B4.out b5)
          have D5 := Lib.hid (deb_next D4.out b5)
          clear b5
          go_wp2_with fail
          refine (alive_any _ D5.out).mono ?_
          rintro e w6 ⟨rfl, b6⟩
          have B6 := Lib.hid (bel_next B5.out b6)
          clear b6
          go_wp2_with fail
          go_ret
          exact ⟨rfl, B6.out⟩
      · have hf1 : ((f : Int) == 0) = false := by simp; omega
        clear hm hf
        go_enter Tryd.func6, Tryd.ntmps6
        go_wp2_with fail
        refine HS.out.mono ?_
        rintro e w ⟨b, rfl, hb, rfl⟩
        cases b
        · go_wp2_with fail
          refine (alive_any _ HD.out).mono ?_
          rintro e w1 ⟨rfl, b1⟩
          have B1 := Lib.hid b1
          clear b1
          go_wp2_with fail
          go_ret
          exact ⟨rfl, B1.out⟩
        · have HT := Lib.hid (hb rfl)
          clear hb
          go_wp2_with fail
          refine (join_any HW.out HT.out).mono ?_
          rintro e w1 ⟨rfl, b1⟩
          rw [hv]
          have B1 := Lib.hid b1
          have D1 := Lib.hid (deb_next HD.out b1)
          clear b1
          go_wp2_with fail
          refine (H5.out _ D1.out).mono ?_
          rintro e w2 ⟨v2, rfl, r2, b2⟩
          have R2 := Lib.hid r2
          have B2 := Lib.hid (bel_next B1.out b2)
          have D2 := Lib.hid (deb_next D1.out b2)
          have W2 := Lib.hid (HW.out.keep (keep_next B2.out))
          clear b2 r2
          go_wp2_with fail
          refine (same_any R2.out W2.out).mono ?_
          rintro e w3 ⟨rfl, b3⟩
          have B3 := Lib.hid (bel_next B2.out b3)
          have D3 := Lib.hid (deb_next D2.out b3)
          clear b3
          go_wp2_with fail
          refine (H8.out _ D3.out).mono ?_
          rintro e w4 ⟨v4, rfl, r4, b4⟩
          have R4 := Lib.hid r4
          have B4 := Lib.hid (bel_next B3.out b4)
          have D4 := Lib.hid (deb_next D3.out b4)
          clear b4 r4
          go_wp2_with fail
          have B5 := B4
          have D5 := D4
          refine (alive_any _ D5.out).mono ?_
          rintro e w6 ⟨rfl, b6⟩
          have B6 := Lib.hid (bel_next B5.out b6)
          clear b6
          go_wp2_with fail
          go_ret
          exact ⟨rfl, B6.out⟩
    · have he1 : ((e : Int) == 0) = false := by simp; omega
      clear he ht
      by_cases hf : f = 0
      · subst hf
        have hj := join_of_lines hm
        have H9 := Lib.hid (joinT_ok hj)
        have H10 := Lib.hid (show joinV ms = .tuple #[.string a1, .int .i64 0] by rw [joinV_of hj, bs_of]; rfl)
        clear hj hm
        go_enter Tryd.func6, Tryd.ntmps6
        go_wp2_with fail
        refine HS.out.mono ?_
        rintro e w ⟨b, rfl, hb, rfl⟩
        cases b
        · go_wp2_with fail
          refine (alive_any _ HD.out).mono ?_
          rintro e w1 ⟨rfl, b1⟩
          have B1 := Lib.hid b1
          clear b1
          go_wp2_with fail
          go_ret
          exact ⟨rfl, B1.out⟩
        · have HT := Lib.hid (hb rfl)
          clear hb
          go_wp2_with fail
          refine (join_any HW.out HT.out).mono ?_
          rintro e w1 ⟨rfl, b1⟩
          rw [hv]
          have B1 := Lib.hid b1
          have D1 := Lib.hid (deb_next HD.out b1)
          clear b1
          go_wp2_with fail
          have B3 := B1
          have D3 := D1
          refine (H8.out _ D3.out).mono ?_
          rintro e w4 ⟨v4, rfl, r4, b4⟩
          have R4 := Lib.hid r4
          have B4 := Lib.hid (bel_next B3.out b4)
          have D4 := Lib.hid (deb_next D3.out b4)
          clear b4 r4
          go_wp2_with fail
          refine (join_any R4.out H9.out).mono ?_
          rintro e w5 ⟨rfl, b5⟩
          rw [H10.out]
          have B5 := Lib.hid (bel_next B4.out b5)
          have D5 := Lib.hid (deb_next D4.out b5)
          clear b5
          go_wp2_with fail
          refine (alive_any _ D5.out).mono ?_
          rintro e w6 ⟨rfl, b6⟩
          have B6 := Lib.hid (bel_next B5.out b6)
          clear b6
          go_wp2_with fail
          go_ret
          exact ⟨rfl, B6.out⟩
      · have hf1 : ((f : Int) == 0) = false := by simp; omega
        clear hm hf
        go_enter Tryd.func6, Tryd.ntmps6
        go_wp2_with fail
        refine HS.out.mono ?_
        rintro e w ⟨b, rfl, hb, rfl⟩
        cases b
        · go_wp2_with fail
          refine (alive_any _ HD.out).mono ?_
          rintro e w1 ⟨rfl, b1⟩
          have B1 := Lib.hid b1
          clear b1
          go_wp2_with fail
          go_ret
          exact ⟨rfl, B1.out⟩
        · have HT := Lib.hid (hb rfl)
          clear hb
          go_wp2_with fail
          refine (join_any HW.out HT.out).mono ?_
          rintro e w1 ⟨rfl, b1⟩
          rw [hv]
          have B1 := Lib.hid b1
          have D1 := Lib.hid (deb_next HD.out b1)
          clear b1
          go_wp2_with fail
          have B3 := B1
          have D3 := D1
          refine (H8.out _ D3.out).mono ?_
          rintro e w4 ⟨v4, rfl, r4, b4⟩
          have R4 := Lib.hid r4
          have B4 := Lib.hid (bel_next B3.out b4)
          have D4 := Lib.hid (deb_next D3.out b4)
          clear b4 r4
          go_wp2_with fail
          have B5 := B4
          have D5 := D4
          refine (alive_any _ D5.out).mono ?_
          rintro e w6 ⟨rfl, b6⟩
          have B6 := Lib.hid (bel_next B5.out b6)
          clear b6
          go_wp2_with fail
          go_ret
          exact ⟨rfl, B6.out⟩

set_option maxRecDepth 100000 in
theorem lifted (os : Os) (started : os.Started) (H : Type) (enc : TypeId × Value → H) :
    ReturnsInHanded {} Tryd.checked os 6 .any (fun w args => (Rows.wordsRoundTripSpec.pre enc Tryd.prog Tryd.f6 [] false w args ∧ laidMetH Tryd.prog Go.Proofs.YtnechpciaidkmaaDoor.Laidw.laid7 w) ∧ sizedMet enc Tryd.prog Tryd.f6 (OpenSpec.ofChange Rows.wordsRoundTripSpec) false w args)
      (Rows.wordsRoundTripSpec.post enc Tryd.prog Tryd.f6 false true false false) := by
  refine Go.Proofs.YtnechpciaidkmaaDoor.Laidw.returns_and_shaped (C := Tryd.checked) (X := fun w _ => laidMetH Tryd.prog Go.Proofs.YtnechpciaidkmaaDoor.Laidw.laid7 w) (fun _ _ _ hh h => h.of_heap hh) own started (by kernel_rfl) Tryd.func6
    (ChangeSpec.witness_shaped (enc := enc) (C := Tryd.checked) (os := os) (X := fun w _ => laidMetH Tryd.prog Go.Proofs.YtnechpciaidkmaaDoor.Laidw.laid7 w) false (World.laidAll Tryd.prog os Go.Proofs.YtnechpciaidkmaaDoor.Laidw.laid7) #[.slice none 0 0, .string ByteArray.empty] 8 (World.laidAll_os _ _ _) (Go.Proofs.YtnechpciaidkmaaDoor.Laidw.laid_shaped os _) (by kernel_rfl) (by kernel_rfl) (by kernel_rfl) (Go.Proofs.YtnechpciaidkmaaDoor.Laidw.laid_met os _)) ?_
  intro W base args ds gs before hval0 hW hcnd hsz0 hL hsh
  have hval : ∀ (j : Nat) t v, Tryd.f6.params[j]? = some t → args[j]? = some v → Value.okWide Tryd.prog W .any base t v := hval0
  have hW' := hW
  obtain ⟨p, q, hA0, hV, rfl, hfz, hnd⟩ := hW
  have hA : DataW.TrodAll enc Tryd.prog W 0 (fun _ => true) true Tryd.f6.params.toList args.toList ds p := hA0
  have hsz : (DataW.weightsEach Tryd.prog (Tryd.f6.params.toList ++ Rows.wordsRoundTripSpec.plain.varTypes Tryd.prog) (ds ++ gs)).all (· ≤ reachBytes) = true := hsz0
  rw [Tryd.params6] at hA hval hsz
  obtain ⟨v0, vs0, d0, ds0, p0, q0, hargs, rfl, rfl, h0, r0⟩ := trodAll_cons hA
  obtain ⟨v1, vs1, d1, ds1, p1, q1, rfl, rfl, rfl, h1, r1⟩ := trodAll_cons r0
  obtain ⟨rfl, rfl, rfl⟩ := trodAll_nil r1
  obtain rfl : args = #[v0, v1] := by cases args; simp_all
  obtain ⟨rfl, rfl⟩ := trodVars_none hV
  have k0 := h0
  have lt0 : ∀ x ∈ p0, x.block < W.heap.size := by obtain ⟨m, hm⟩ := k0; exact DataW.trod_lt m _ _ _ hm
  obtain ⟨fuel0, hf0⟩ := h0
  obtain ⟨b0, len0, cap0, rfl⟩ := okWide_slice Tryd.underlying23 (hval 0 23 v0 rfl rfl)
  obtain ⟨l0, w0, s0⟩ := Go.Proofs.YtnechpciaidkmaaDoor.Openw.open_lines Tryd.underlying23 Tryd.underlying33 Tryd.underlying9 (by kernel_rfl) (by kernel_rfl) (by kernel_rfl) hf0 (fun n hn => by have := List.all_eq_true.1 hsz _ (DataW.weights_mem_each (j := 0) (t := 23) rfl rfl n hn); simpa using this)
  obtain ⟨a1, rfl, rfl, rfl, w1⟩ := open_string Tryd.underlying9 (hval 1 9 v1 rfl rfl) h1
  clear hA0 hval0
  simp only [List.append_nil] at hW'
  refine (walk _ l0 a1 W w0 s0 w1 (Go.Proofs.YtnechpciaidkmaaDoor.Laidw.of_laid hL hsh)).mono fun e W' ⟨he, bel⟩ => ?_
  subst he
  exact ⟨_, rfl, _, _, _, [], _, [], hW', trodAll_mk1 (shut_bool Tryd.underlying4 _), (trodAll_cons_mk (Below.trod laidOut (by kernel_rfl) (of_decide_eq_true (by kernel_rfl)) k0 bel lt0) (trodAll_cons_mk (shut_string Tryd.underlying9 w1) trodAll_mk0)), rfl, bel.frame _, fun h => by cases h⟩

theorem over : Rows.wordsRoundTripRow.holds Tryd.pinned (OpenSpec.ofChange Rows.wordsRoundTripSpec) :=
  OpenClaim.holds_of_wide 6 Tryd.f6 rfl rfl rfl rfl rfl rfl rfl ⟨rfl, rfl, rfl, rfl, rfl⟩ rfl rfl rfl rfl rfl (by kernel_rfl) Tryd.func6 (by kernel_rfl)
    (of_decide_eq_true (by kernel_rfl)) (by unfold Func.isWrapper; first | (rw [if_pos (by decide +kernel)]; kernel_rfl) | (rw [if_neg (by decide +kernel)]; exact ⟨rfl, rfl⟩))
    (fun os started H enc _ => lifted os started H enc)

theorem card_holds : Claim7.holds Tryd.pinned (.plain (OpenSpec.ofChange Rows.wordsRoundTripSpec)) Rows.wordsRoundTripCard :=
  Claim7.holds_tied_plain_at .later [] [.data, .data, .data, .data, .sentinel, .sentinel, .pinned] true (true, "51c859ddad675148d441ecfc7626b45112e6231030f9fdf80a71aa67985728c3") true
    over (fun _ h => by cases h) (by kernel_rfl) (fun _ h => by cases h) wordsRoundTrip_row_tie rfl ⟨rfl, rfl⟩ (by kernel_rfl) rfl
    (fun f fn hf hfn => by
      obtain rfl : f = 6 := Option.some.inj ((show Tryd.prog.funcNamed "signalling/signallinglaw05.WordsRoundTrip" = some 6 by kernel_rfl).symm.trans hf) |>.symm
      obtain rfl : fn = Tryd.f6 := (Option.some.inj (Tryd.func6.symm.trans hfn)).symm
      exact ⟨by kernel_rfl, fun j t ht => by
        rw [Tryd.params6] at ht
        have hm : t ∈ [23, 9] := by simpa using Array.mem_of_getElem? ht
        have hall : ([23, 9].all fun u => !Tryd.prog.wantsStandIn u) = true := by kernel_rfl
        exact (show Tryd.prog.wantsStandIn t = false by simpa using List.all_eq_true.1 hall t hm)⟩)
    (by kernel_rfl)

/-- The statement. -/
theorem proved : Rows.WordsRoundTripCardSaid := card_holds
#print axioms proved
end Go.Proofs.YtnechpciaidkmaaDoor.wordsRoundTrip
