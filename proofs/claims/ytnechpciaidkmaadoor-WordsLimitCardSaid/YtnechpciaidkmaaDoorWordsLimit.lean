/- Layer 5, WordsLimit: for every int the law returns true, that is, the text of so many lines of two bytes is accepted by Lines, and given by Join, exactly if it has at most MaxText bytes (and the chapter's examples hold). The listed variables of Go's library hold what their texts lay. -/
import Derived.Test.YtnechpciaidkmaaDoorRows
import Derived.WalkKit
import Derived.ProofKit
import Derived.OpenShut
import Derived.ShutString
import Derived.Below
import Derived.SizedLaws
import Derived.Test.YtnechpciaidkmaaDoorLaidw
import Derived.Test.YtnechpciaidkmaaDoorTie
import Derived.Test.YtnechpciaidkmaaDoorCards
import Derived.SevenTiedAt
import Derived.ChangeVars
import Derived.ChangeSame
import Derived.Test.YtnechpciaidkmaaDoorAlivew
import Derived.Test.YtnechpciaidkmaaDoorLimitw
namespace Go.Proofs.YtnechpciaidkmaaDoor.wordsLimit
open Go.ChangeShapes Go.WideShapes Go.ChangeAt
open Go.RowKit hiding intOf
open Go.ChangeMaps (open_string shut_string)
open Go.Lib Go.Proofs.YtnechpciaidkmaaDoor.Text Go.Proofs.YtnechpciaidkmaaDoor.Numt Go.Proofs.YtnechpciaidkmaaDoor.Kind Go.Proofs.YtnechpciaidkmaaDoor.Word Go.Proofs.YtnechpciaidkmaaDoor.Rword Go.Proofs.YtnechpciaidkmaaDoor.Reads Go.Proofs.YtnechpciaidkmaaDoor.Rows2 Go.Proofs.YtnechpciaidkmaaDoor.Samew Go.Proofs.YtnechpciaidkmaaDoor.Debw Go.Proofs.YtnechpciaidkmaaDoor.Ownl Go.Proofs.YtnechpciaidkmaaDoor.Linw Go.Proofs.YtnechpciaidkmaaDoor.Rlinw Go.Proofs.YtnechpciaidkmaaDoor.Joinw Go.Proofs.YtnechpciaidkmaaDoor.Rjoinw Go.Proofs.YtnechpciaidkmaaDoor.Fmtw Go.Proofs.YtnechpciaidkmaaDoor.Intw Go.Proofs.YtnechpciaidkmaaDoor.Listw Go.Proofs.YtnechpciaidkmaaDoor.Flistw Go.Proofs.YtnechpciaidkmaaDoor.Alivew Go.Proofs.YtnechpciaidkmaaDoor.Limitw
set_option linter.unusedVariables false

theorem own : ownKnob Tryd.prog.godebug = none := by kernel_rfl


set_option maxHeartbeats 3200000 in
theorem walk (a0 : Int) (w : World) (w0 : (Lit.int .i64 a0).wf = true) (hdeb : Go.Proofs.YtnechpciaidkmaaDoor.Debw.Deb w) :
    Calls Tryd.prog 5 #[.int .i64 a0] w fun e w' => e = .returned (.bool true) ∧ Below w.heap.size w w' := by
  have HD := Lib.hid hdeb
  clear hdeb
  by_cases hneg : a0 < 0
  · go_enter Tryd.func5, Tryd.ntmps5
    go_wp2_with fail
    refine (alive_any _ HD.out).mono ?_
    rintro e w1 ⟨rfl, b1⟩
    have B1 := Lib.hid b1
    clear b1
    go_wp2_with fail
    go_ret
    exact ⟨rfl, B1.out⟩
  · by_cases hbig : 20000 < a0
    · go_enter Tryd.func5, Tryd.ntmps5
      go_wp2_with fail
      refine (alive_any _ HD.out).mono ?_
      rintro e w1 ⟨rfl, b1⟩
      have B1 := Lib.hid b1
      clear b1
      go_wp2_with fail
      go_ret
      exact ⟨rfl, B1.out⟩
    · obtain ⟨n, rfl⟩ : ∃ n : Nat, a0 = (n : Int) := ⟨a0.toNat, by omega⟩
      have hn : n ≤ 20000 := by omega
      have hmk1 := fun w => make_bytes n hn w
      have hmk2 := fun w => make_lines n hn w
      have g1 : decide ((n : Int) < 0) = false := decide_eq_false (by omega)
      have g2 : decide ((20000 : Int) < n) = false := decide_eq_false (by omega)
      have HL := Lib.hid (Limitw.ex_lines n)
      have HJ := Lib.hid (Limitw.ex_join n)
      have HJT := Lib.hid (show (joinT (exLs n)).length ≤ 1000000000000 by rw [Limitw.ex_joinT, exT_len]; omega)
      have HTL := Lib.hid (exT_len n)
      clear hneg hbig
      go_enter Tryd.func5, Tryd.ntmps5
      go_wp2_with fail
      clear hmk1 hmk2
      go_loopw [5] (fun vi wr => ∃ k : Nat, vi = .int .i64 k ∧ k ≤ n ∧ Fill n w.heap.size k wr ∧ Below w.heap.size w wr) (fun vi _ => n - (RowKit.intOf vi).toNat)
      case atStart => exact ⟨0, rfl, Nat.zero_le _, fill_start n w, ((Below.refl _ w).alloc (Nat.le_refl _) _).alloc (by simp) _⟩
      case round =>
        obtain ⟨k, rfl, hk, hf, hb⟩ := hrel
        have HF := Lib.hid hf
        have HB := Lib.hid hb
        clear hf hb
        by_cases hlt : k < n
        · obtain ⟨⟨⟨u1, c1⟩, f1⟩, ⟨⟨u2, c2⟩, f2⟩, ⟨⟨u3, c3⟩, f3⟩⟩ := fill_cells HF.out hlt
          have HM := Lib.hid (fill_more HF.out hlt)
          have HMB := Lib.hid (fill_below (k := k) HB.out)
          unfold step3 step2 step1 at c3 f3
          unfold step1 at c2 f2
          have n1 : (2 * (k : Int)).toNat = 2 * k := by omega
          have n2 : (2 * (k : Int) + 1).toNat = 2 * k + 1 := by omega
          go_wp2_with fail
          go_roundw
          case rel => exact ⟨k + 1, by simp, by omega, HM.out, HMB.out⟩
          case measure => simp [RowKit.intOf]; omega
        · obtain rfl : k = n := by omega
          have hconv := fill_text HF.out
          have H1 := Lib.hid (fun w h => lines_any (bs (exT k)) w (by rw [bs_size, exT_len]; omega) h)
          rw [bs_list] at H1
          unfold LinesOut at H1
          by_cases hov : 16384 < k
          · rw [HL.out, if_pos hov] at H1
            have hj : joinV (exLs k) = .tuple #[.string (bs []), .int .i64 2] := joinV_of (by rw [HJ.out, if_pos hov])
            have q1 : decide ((32768 : Int) < 2 * (k : Int)) = true := decide_eq_true (by omega)
            have q2 : (bs []).toList.isEmpty = true := by rw [ByteArray.toList_eq]; rfl
            go_wp2_with fail
            refine (H1.out _ (deb_next HD.out HB.out)).mono ?_
            rintro e w1 ⟨v1, rfl, r1, b1⟩
            obtain ⟨av, cv, rfl, _⟩ := r1.shape
            have F1 := Lib.hid (fill_next HF.out b1)
            have B1 := Lib.hid (bel_next HB.out b1)
            have D1 := Lib.hid (deb_next HD.out B1.out)
            clear b1 r1
            go_wp2_with fail
            refine (join_any (fill_lns F1.out hn) HJT.out).mono ?_
            rintro e w2 ⟨rfl, b2⟩
            rw [hj]
            have B2 := Lib.hid (bel_next B1.out b2)
            have D2 := Lib.hid (deb_next D1.out b2)
            clear b2
            go_wp2_with fail
            refine (alive_any _ D2.out).mono ?_
            rintro e w3 ⟨rfl, b3⟩
            have B3 := Lib.hid (bel_next B2.out b3)
            clear b3
            go_wp2_with fail
            go_ret
            exact ⟨rfl, B3.out⟩
          · rw [HL.out, if_neg hov] at H1
            have hj : joinV (exLs k) = .tuple #[.string (bs (exT k)), .int .i64 0] := joinV_of (by rw [HJ.out, if_neg hov])
            have q1 : decide ((32768 : Int) < 2 * (k : Int)) = false := decide_eq_false (by omega)
            go_wp2_with fail
            refine (H1.out _ (deb_next HD.out HB.out)).mono ?_
            rintro e w1 ⟨v1, rfl, r1, b1⟩
            have R1 := Lib.hid r1
            have F1 := Lib.hid (fill_next HF.out b1)
            have B1 := Lib.hid (bel_next HB.out b1)
            have D1 := Lib.hid (deb_next HD.out B1.out)
            clear b1 r1
            go_wp2_with fail
            refine (join_any (fill_lns F1.out hn) HJT.out).mono ?_
            rintro e w2 ⟨rfl, b2⟩
            rw [hj]
            have R2 := Lib.hid (R1.out.keep (keep_next b2))
            have F2 := Lib.hid (fill_next F1.out b2)
            have B2 := Lib.hid (bel_next B1.out b2)
            have D2 := Lib.hid (deb_next D1.out b2)
            clear b2
            go_wp2_with fail
            refine (same_any R2.out (fill_lns F2.out hn)).mono ?_
            rintro e w3 ⟨rfl, b3⟩
            have hconv3 := fill_text (fill_next F2.out b3)
            have B3 := Lib.hid (bel_next B2.out b3)
            have D3 := Lib.hid (deb_next D2.out b3)
            clear b3 hconv
            go_wp2_with fail
            refine (alive_any _ D3.out).mono ?_
            rintro e w4 ⟨rfl, b4⟩
            have B4 := Lib.hid (bel_next B3.out b4)
            clear b4
            go_wp2_with fail
            go_ret
            exact ⟨rfl, B4.out⟩

set_option maxRecDepth 100000 in
theorem lifted (os : Os) (started : os.Started) (H : Type) (enc : TypeId × Value → H) :
    ReturnsInHanded {} Tryd.checked os 5 .any (fun w args => (Rows.wordsLimitSpec.pre enc Tryd.prog Tryd.f5 [] false w args ∧ laidMetH Tryd.prog Go.Proofs.YtnechpciaidkmaaDoor.Laidw.laid7 w) ∧ sizedMet enc Tryd.prog Tryd.f5 (OpenSpec.ofChange Rows.wordsLimitSpec) false w args)
      (Rows.wordsLimitSpec.post enc Tryd.prog Tryd.f5 false true false false) := by
  refine Go.Proofs.YtnechpciaidkmaaDoor.Laidw.returns_and_shaped (C := Tryd.checked) (X := fun w _ => laidMetH Tryd.prog Go.Proofs.YtnechpciaidkmaaDoor.Laidw.laid7 w) (fun _ _ _ hh h => h.of_heap hh) own started (by kernel_rfl) Tryd.func5
    (ChangeSpec.witness_shaped (enc := enc) (C := Tryd.checked) (os := os) (X := fun w _ => laidMetH Tryd.prog Go.Proofs.YtnechpciaidkmaaDoor.Laidw.laid7 w) false (World.laidAll Tryd.prog os Go.Proofs.YtnechpciaidkmaaDoor.Laidw.laid7) #[.int .i64 0] 8 (World.laidAll_os _ _ _) (Go.Proofs.YtnechpciaidkmaaDoor.Laidw.laid_shaped os _) (by kernel_rfl) (by kernel_rfl) (by kernel_rfl) (Go.Proofs.YtnechpciaidkmaaDoor.Laidw.laid_met os _)) ?_
  intro W base args ds gs before hval0 hW hcnd hsz0 hL hsh
  have hval : ∀ (j : Nat) t v, Tryd.f5.params[j]? = some t → args[j]? = some v → Value.okWide Tryd.prog W .any base t v := hval0
  have hW' := hW
  obtain ⟨p, q, hA0, hV, rfl, hfz, hnd⟩ := hW
  have hA : DataW.TrodAll enc Tryd.prog W 0 (fun _ => true) true Tryd.f5.params.toList args.toList ds p := hA0
  have hsz : (DataW.weightsEach Tryd.prog (Tryd.f5.params.toList ++ Rows.wordsLimitSpec.plain.varTypes Tryd.prog) (ds ++ gs)).all (· ≤ reachBytes) = true := hsz0
  rw [Tryd.params5] at hA hval hsz
  obtain ⟨v0, vs0, d0, ds0, p0, q0, hargs, rfl, rfl, h0, r0⟩ := trodAll_cons hA
  obtain ⟨rfl, rfl, rfl⟩ := trodAll_nil r0
  obtain rfl : args = #[v0] := by cases args; simp_all
  obtain ⟨rfl, rfl⟩ := trodVars_none hV
  obtain ⟨a0, rfl, rfl, rfl, w0⟩ := open_int Tryd.underlying3 (hval 0 3 v0 rfl rfl) h0
  clear hA0 hval0
  simp only [List.append_nil] at hW'
  refine (walk a0 W w0 (Go.Proofs.YtnechpciaidkmaaDoor.Laidw.of_laid hL hsh)).mono fun e W' ⟨he, bel⟩ => ?_
  subst he
  exact ⟨_, rfl, _, _, _, [], _, [], hW', trodAll_mk1 (shut_bool Tryd.underlying4 _), (trodAll_cons_mk (shut_int Tryd.underlying3 w0) trodAll_mk0), rfl, bel.frame _, fun h => by cases h⟩

theorem over : Rows.wordsLimitRow.holds Tryd.pinned (OpenSpec.ofChange Rows.wordsLimitSpec) :=
  OpenClaim.holds_of_wide 5 Tryd.f5 rfl rfl rfl rfl rfl rfl rfl ⟨rfl, rfl, rfl, rfl, rfl⟩ rfl rfl rfl rfl rfl (by kernel_rfl) Tryd.func5 (by kernel_rfl)
    (of_decide_eq_true (by kernel_rfl)) (by unfold Func.isWrapper; first | (rw [if_pos (by decide +kernel)]; kernel_rfl) | (rw [if_neg (by decide +kernel)]; exact ⟨rfl, rfl⟩))
    (fun os started H enc _ => lifted os started H enc)

theorem card_holds : Claim7.holds Tryd.pinned (.plain (OpenSpec.ofChange Rows.wordsLimitSpec)) Rows.wordsLimitCard :=
  Claim7.holds_tied_plain_at .later [] [.data, .data, .data, .data, .sentinel, .sentinel, .pinned] true (true, "51c859ddad675148d441ecfc7626b45112e6231030f9fdf80a71aa67985728c3") true
    over (fun _ h => by cases h) (by kernel_rfl) (fun _ h => by cases h) wordsLimit_row_tie rfl ⟨rfl, rfl⟩ (by kernel_rfl) rfl
    (fun f fn hf hfn => by
      obtain rfl : f = 5 := Option.some.inj ((show Tryd.prog.funcNamed "signalling/signallinglaw05.WordsLimit" = some 5 by kernel_rfl).symm.trans hf) |>.symm
      obtain rfl : fn = Tryd.f5 := (Option.some.inj (Tryd.func5.symm.trans hfn)).symm
      exact ⟨by kernel_rfl, fun j t ht => by
        rw [Tryd.params5] at ht
        have hm : t ∈ [3] := by simpa using Array.mem_of_getElem? ht
        have hall : ([3].all fun u => !Tryd.prog.wantsStandIn u) = true := by kernel_rfl
        exact (show Tryd.prog.wantsStandIn t = false by simpa using List.all_eq_true.1 hall t hm)⟩)
    (by kernel_rfl)

/-- The statement. -/
theorem proved : Rows.WordsLimitCardSaid := card_holds
#print axioms proved
end Go.Proofs.YtnechpciaidkmaaDoor.wordsLimit
