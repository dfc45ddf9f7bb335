/- Layer 5, WordsLists: for every text and list of numbers the law returns true, that is, List and FormatList of words give what the reference gives, and lists are restored from their text (and the chapter's examples hold). The listed variables of Go's library hold what their texts lay. -/
import Derived.Test.YtnechpciaidkmaaDoorRows
import Derived.WalkKit
import Derived.ProofKit
import Derived.OpenShut
import Derived.ShutString
import Derived.Below
import Derived.SizedLaws
import Derived.ChangeOld
import Derived.Test.YtnechpciaidkmaaDoorOpen
import Derived.Test.YtnechpciaidkmaaDoorOpenw
import Derived.Test.YtnechpciaidkmaaDoorLaidw
import Derived.Test.YtnechpciaidkmaaDoorTie
import Derived.Test.YtnechpciaidkmaaDoorCards
import Derived.SevenTiedAt
import Derived.ChangeVars
import Derived.ChangeSame
import Derived.Test.YtnechpciaidkmaaDoorAlivew
namespace Go.Proofs.YtnechpciaidkmaaDoor.wordsLists
open Go.ChangeShapes Go.WideShapes Go.ChangeAt
open Go.RowKit hiding intOf
open Go.ChangeMaps (open_string shut_string)
open Go.Lib Go.Proofs.YtnechpciaidkmaaDoor.Text Go.Proofs.YtnechpciaidkmaaDoor.Numt Go.Proofs.YtnechpciaidkmaaDoor.Kind Go.Proofs.YtnechpciaidkmaaDoor.Word Go.Proofs.YtnechpciaidkmaaDoor.Rword Go.Proofs.YtnechpciaidkmaaDoor.Reads Go.Proofs.YtnechpciaidkmaaDoor.Rows2 Go.Proofs.YtnechpciaidkmaaDoor.Samew Go.Proofs.YtnechpciaidkmaaDoor.Debw Go.Proofs.YtnechpciaidkmaaDoor.Ownl Go.Proofs.YtnechpciaidkmaaDoor.Linw Go.Proofs.YtnechpciaidkmaaDoor.Rlinw Go.Proofs.YtnechpciaidkmaaDoor.Joinw Go.Proofs.YtnechpciaidkmaaDoor.Rjoinw Go.Proofs.YtnechpciaidkmaaDoor.Fmtw Go.Proofs.YtnechpciaidkmaaDoor.Intw Go.Proofs.YtnechpciaidkmaaDoor.Listw Go.Proofs.YtnechpciaidkmaaDoor.Flistw Go.Proofs.YtnechpciaidkmaaDoor.Alivew
set_option linter.unusedVariables false

theorem own : ownKnob Tryd.prog.godebug = none := by kernel_rfl
theorem laidOut : laidOutB Tryd.prog = true := by kernel_rfl

theorem list_len {s : (List UInt8)} {l : List Int} (h : listR s = (l, 0)) : l.length ≤ s.length + 1 := by
  unfold listR at h
  split at h
  · simp only [Prod.mk.injEq, and_true] at h
    rw [← h]; simp
  · obtain ⟨k, hl, hk⟩ := itoa_of_seqI _ _ _ h
    rw [List.nil_append] at hl
    subst hl
    have := congrArg List.length hk
    rw [List.length_map] at this
    have h2 := parts_length 44 s []
    omega
theorem fmt_size {l : List Int} (h : ∀ n ∈ l, (Lit.int .i64 n).wf = true) : (fmtL l).length ≤ 22 * l.length + 1 := by
  by_cases h0 : l = []
  · rw [h0, fmt_nil]; simp
  · rw [fmt_cons h0]
    have := fmt_len h
    omega

set_option maxHeartbeats 3200000 in
theorem walk (a0 : ByteArray) (a1 : Value) (l1 : List Int) (w : World) (w0 : a0.size ≤ maxLen) (w1 : Go.Proofs.YtnechpciaidkmaaDoor.Reads.Reads w.heap.size w a1 l1) (hdeb : Go.Proofs.YtnechpciaidkmaaDoor.Debw.Deb w) :
    Calls Tryd.prog 10 #[.string a0, a1] w fun e w' => e = .returned (.bool true) ∧ Below w.heap.size w w' := by
  have HD := Lib.hid hdeb
  have HW := Lib.hid w1
  have hwf := w1.wf
  have HI := Lib.hid (list_of_fmt (l := l1) (fun n hn => wf_bounds (hwf n hn)))
  have HSZ := Lib.hid (fmt_size hwf)
  obtain ⟨av, cv, rfl, hm⟩ := rshape w1
  clear hdeb w1 hwf
  by_cases h : 1000 < a0.size
  · go_enter Tryd.func10, Tryd.ntmps10
    go_wp2_with fail
    refine (alive_any _ HD.out).mono ?_
    rintro e w1 ⟨rfl, b1⟩
    have B1 := Lib.hid b1
    clear b1
    go_wp2_with fail
    go_ret
    exact ⟨rfl, B1.out⟩
  · by_cases h2 : 200 < l1.length
    · have h2' : decide ((200 : Int) < l1.length) = true := decide_eq_true (by omega)
      go_enter Tryd.func10, Tryd.ntmps10
      go_wp2_with fail
      refine (alive_any _ HD.out).mono ?_
      rintro e w1 ⟨rfl, b1⟩
      have B1 := Lib.hid b1
      clear b1
      go_wp2_with fail
      go_ret
      exact ⟨rfl, B1.out⟩
    · have h2' : decide ((200 : Int) < l1.length) = false := decide_eq_false (by omega)
      have H1 := Lib.hid (fun w h => list_any a0 w (by omega) h)
      have H2 := Lib.hid (fun w => rlist_any a0 w (by omega))
      have hsz0 : a0.size = a0.data.toList.length := Lib.size_eq a0
      obtain ⟨⟨l, e⟩, hR⟩ : ∃ r, listR a0.data.toList = r := ⟨_, rfl⟩
      unfold ListOut at H1 H2
      rw [hR] at H1 H2
      have H3 := Lib.hid (fun w h => list_any (bs (fmtL l1)) w (by rw [bs_size]; have := HSZ.out; omega) h)
      rw [bs_list, HI.out] at H3
      unfold ListOut at H3
      have hl1 : l1.length ≤ 100000 := by omega
      have hqe : ((e : Int) == (e : Int)) = true := by simp
      have hqn : ((e : Int) != (e : Int)) = false := by simp
      by_cases he : e = 0
      · subst he
        have HLl := Lib.hid (show l.length ≤ 100000 by have := list_len hR; omega)
        have HF := Lib.hid (show bs (fmtL l) = a0 by rw [fmt_of_list hR, bs_of])
        clear hR hsz0
        go_enter Tryd.func10, Tryd.ntmps10
        go_wp2_with fail
        refine (H1.out _ HD.out).mono ?_
        rintro e w1 ⟨v1, rfl, r1, b1⟩
        have R1 := Lib.hid r1
        have B1 := Lib.hid b1
        have D1 := Lib.hid (deb_next HD.out b1)
        clear b1 r1
        go_wp2_with fail
        refine (H2.out _).mono ?_
        rintro e w2 ⟨v2, rfl, r2, b2⟩
        have R2 := Lib.hid r2
        have Q2 := Lib.hid (ints_next R1.out b2)
        have B2 := Lib.hid (bel_next B1.out b2)
        have D2 := Lib.hid (deb_next D1.out b2)
        clear b2 r2 R1 B1 D1
        go_wp2_with fail
        refine (sameInts_any Q2.out R2.out).mono ?_
        rintro e w3 ⟨rfl, b3⟩
        have Q3 := Lib.hid (ints_next Q2.out b3)
        have B3 := Lib.hid (bel_next B2.out b3)
        have D3 := Lib.hid (deb_next D2.out b3)
        clear b3 B2 D2 Q2 R2
        go_wp2_with fail
        refine (formatList_any Q3.out HLl.out D3.out).mono ?_
        rintro e w4 ⟨rfl, b4⟩
        rw [HF.out]
        have B4 := Lib.hid (bel_next B3.out b4)
        have D4 := Lib.hid (deb_next D3.out b4)
        clear b4 B3 D3 Q3
        go_wp2_with fail
        refine (formatList_any (ints_next HW.out B4.out) hl1 D4.out).mono ?_
        rintro e w5 ⟨rfl, b5⟩
        have B5 := Lib.hid (bel_next B4.out b5)
        have D5 := Lib.hid (deb_next D4.out b5)
        clear b5 B4 D4
        go_wp2_with fail
        refine (H3.out _ D5.out).mono ?_
        rintro e w6 ⟨v6, rfl, r6, b6⟩
        have R6 := Lib.hid r6
        have B6 := Lib.hid (bel_next B5.out b6)
        have D6 := Lib.hid (deb_next D5.out b6)
        clear b6 r6 B5 D5
        go_wp2_with fail
        refine (rformatList_any (ints_next HW.out B6.out) hl1).mono ?_
        rintro e w6 ⟨rfl, rfl⟩
        go_wp2_with fail
        refine (sameInts_any R6.out (ints_next HW.out B6.out)).mono ?_
        rintro e w7 ⟨rfl, b7⟩
        have B7 := Lib.hid (bel_next B6.out b7)
        have D7 := Lib.hid (deb_next D6.out b7)
        clear b7
        go_wp2_with fail
        refine (alive_any _ D7.out).mono ?_
        rintro e w8 ⟨rfl, b8⟩
        have B8 := Lib.hid (bel_next B7.out b8)
        clear b8
        go_wp2_with fail
        go_ret
        exact ⟨rfl, B8.out⟩
      · have he0 : ((e : Int) == 0) = false := by simp; omega
        clear hR hsz0 he
        go_enter Tryd.func10, Tryd.ntmps10
        go_wp2_with fail
        refine (H1.out _ HD.out).mono ?_
        rintro e w1 ⟨v1, rfl, r1, b1⟩
        have R1 := Lib.hid r1
        have B1 := Lib.hid b1
        have D1 := Lib.hid (deb_next HD.out b1)
        clear b1 r1
        go_wp2_with fail
        refine (H2.out _).mono ?_
        rintro e w2 ⟨v2, rfl, r2, b2⟩
        have R2 := Lib.hid r2
        have Q2 := Lib.hid (ints_next R1.out b2)
        have B2 := Lib.hid (bel_next B1.out b2)
        have D2 := Lib.hid (deb_next D1.out b2)
        clear b2 r2 R1 B1 D1
        go_wp2_with fail
        refine (sameInts_any Q2.out R2.out).mono ?_
        rintro e w4 ⟨rfl, b3⟩
        have B4 := Lib.hid (bel_next B2.out b3)
        have D4 := Lib.hid (deb_next D2.out b3)
        clear b3 B2 D2 Q2 R2
        go_wp2_with fail
        refine (formatList_any (ints_next HW.out B4.out) hl1 D4.out).mono ?_
        rintro e w5 ⟨rfl, b5⟩
        have B5 := Lib.hid (bel_next B4.out b5)
        have D5 := Lib.hid (deb_next D4.out b5)
        clear b5 B4 D4
        go_wp2_with fail
        refine (H3.out _ D5.out).mono ?_
        rintro e w6 ⟨v6, rfl, r6, b6⟩
        have R6 := Lib.hid r6
        have B6 := Lib.hid (bel_next B5.out b6)
        have D6 := Lib.hid (deb_next D5.out b6)
        clear b6 r6 B5 D5
        go_wp2_with fail
        refine (rformatList_any (ints_next HW.out B6.out) hl1).mono ?_
        rintro e w6 ⟨rfl, rfl⟩
        go_wp2_with fail
        refine (sameInts_any R6.out (ints_next HW.out B6.out)).mono ?_
        rintro e w7 ⟨rfl, b7⟩
        have B7 := Lib.hid (bel_next B6.out b7)
        have D7 := Lib.hid (deb_next D6.out b7)
        clear b7
        go_wp2_with fail
        refine (alive_any _ D7.out).mono ?_
        rintro e w8 ⟨rfl, b8⟩
        have B8 := Lib.hid (bel_next B7.out b8)
        clear b8
        go_wp2_with fail
        go_ret
        exact ⟨rfl, B8.out⟩

set_option maxRecDepth 100000 in
theorem lifted (os : Os) (started : os.Started) (H : Type) (enc : TypeId × Value → H) :
    ReturnsInHanded {} Tryd.checked os 10 .any (fun w args => (Rows.wordsListsSpec.pre enc Tryd.prog Tryd.f10 [] false w args ∧ laidMetH Tryd.prog Go.Proofs.YtnechpciaidkmaaDoor.Laidw.laid7 w) ∧ sizedMet enc Tryd.prog Tryd.f10 (OpenSpec.ofChange Rows.wordsListsSpec) false w args)
      (Rows.wordsListsSpec.post enc Tryd.prog Tryd.f10 false true false false) := by
  refine Go.Proofs.YtnechpciaidkmaaDoor.Laidw.returns_and_shaped (C := Tryd.checked) (X := fun w _ => laidMetH Tryd.prog Go.Proofs.YtnechpciaidkmaaDoor.Laidw.laid7 w) (fun _ _ _ hh h => h.of_heap hh) own started (by kernel_rfl) Tryd.func10
    (ChangeSpec.witness_shaped (enc := enc) (C := Tryd.checked) (os := os) (X := fun w _ => laidMetH Tryd.prog Go.Proofs.YtnechpciaidkmaaDoor.Laidw.laid7 w) false (World.laidAll Tryd.prog os Go.Proofs.YtnechpciaidkmaaDoor.Laidw.laid7) #[.string ByteArray.empty, .slice none 0 0] 8 (World.laidAll_os _ _ _) (Go.Proofs.YtnechpciaidkmaaDoor.Laidw.laid_shaped os _) (by kernel_rfl) (by kernel_rfl) (by kernel_rfl) (Go.Proofs.YtnechpciaidkmaaDoor.Laidw.laid_met os _)) ?_
  intro W base args ds gs before hval0 hW hcnd hsz0 hL hsh
  have hval : ∀ (j : Nat) t v, Tryd.f10.params[j]? = some t → args[j]? = some v → Value.okWide Tryd.prog W .any base t v := hval0
  have hW' := hW
  obtain ⟨p, q, hA0, hV, rfl, hfz, hnd⟩ := hW
  have hA : DataW.TrodAll enc Tryd.prog W 0 (fun _ => true) true Tryd.f10.params.toList args.toList ds p := hA0
  have hsz : (DataW.weightsEach Tryd.prog (Tryd.f10.params.toList ++ Rows.wordsListsSpec.plain.varTypes Tryd.prog) (ds ++ gs)).all (· ≤ reachBytes) = true := hsz0
  rw [Tryd.params10] at hA hval hsz
  obtain ⟨v0, vs0, d0, ds0, p0, q0, hargs, rfl, rfl, h0, r0⟩ := trodAll_cons hA
  obtain ⟨v1, vs1, d1, ds1, p1, q1, rfl, rfl, rfl, h1, r1⟩ := trodAll_cons r0
  obtain ⟨rfl, rfl, rfl⟩ := trodAll_nil r1
  obtain rfl : args = #[v0, v1] := by cases args; simp_all
  obtain ⟨rfl, rfl⟩ := trodVars_none hV
  obtain ⟨a0, rfl, rfl, rfl, w0⟩ := open_string Tryd.underlying9 (hval 0 9 v0 rfl rfl) h0
  have k1 := h1
  have lt1 : ∀ x ∈ p1, x.block < W.heap.size := by obtain ⟨m, hm⟩ := k1; exact DataW.trod_lt m _ _ _ hm
  obtain ⟨fuel1, hf1⟩ := h1
  obtain ⟨b1, len1, cap1, rfl⟩ := okWide_slice Tryd.underlying39 (hval 1 39 v1 rfl rfl)
  obtain ⟨l1, w1⟩ := Go.Proofs.YtnechpciaidkmaaDoor.Open.open_reads Tryd.underlying39 Tryd.underlying3 (by kernel_rfl) hf1
  clear hA0 hval0
  refine (walk a0 _ l1 W w0 w1 (Go.Proofs.YtnechpciaidkmaaDoor.Laidw.of_laid hL hsh)).mono fun e W' ⟨he, bel⟩ => ?_
  subst he
  exact ⟨_, rfl, _, _, _, [], _, [], hW', trodAll_mk1 (shut_bool Tryd.underlying4 _), (trodAll_cons_mk (shut_string Tryd.underlying9 w0) (trodAll_cons_mk (Below.trod laidOut (by kernel_rfl) (of_decide_eq_true (by kernel_rfl)) k1 bel lt1) trodAll_mk0)), rfl, bel.frame _, fun h => by cases h⟩

theorem over : Rows.wordsListsRow.holds Tryd.pinned (OpenSpec.ofChange Rows.wordsListsSpec) :=
  OpenClaim.holds_of_wide 10 Tryd.f10 rfl rfl rfl rfl rfl rfl rfl ⟨rfl, rfl, rfl, rfl, rfl⟩ rfl rfl rfl rfl rfl (by kernel_rfl) Tryd.func10 (by kernel_rfl)
    (of_decide_eq_true (by kernel_rfl)) (by unfold Func.isWrapper; first | (rw [if_pos (by decide +kernel)]; kernel_rfl) | (rw [if_neg (by decide +kernel)]; exact ⟨rfl, rfl⟩))
    (fun os started H enc _ => lifted os started H enc)

theorem card_holds : Claim7.holds Tryd.pinned (.plain (OpenSpec.ofChange Rows.wordsListsSpec)) Rows.wordsListsCard :=
  Claim7.holds_tied_plain_at .later [] [.data, .data, .data, .data, .sentinel, .sentinel, .pinned] true (true, "51c859ddad675148d441ecfc7626b45112e6231030f9fdf80a71aa67985728c3") true
    over (fun _ h => by cases h) (by kernel_rfl) (fun _ h => by cases h) wordsLists_row_tie rfl ⟨rfl, rfl⟩ (by kernel_rfl) rfl
    (fun f fn hf hfn => by
      obtain rfl : f = 10 := Option.some.inj ((show Tryd.prog.funcNamed "signalling/signallinglaw05.WordsLists" = some 10 by kernel_rfl).symm.trans hf) |>.symm
      obtain rfl : fn = Tryd.f10 := (Option.some.inj (Tryd.func10.symm.trans hfn)).symm
      exact ⟨by kernel_rfl, fun j t ht => by
        rw [Tryd.params10] at ht
        have hm : t ∈ [9, 39] := by simpa using Array.mem_of_getElem? ht
        have hall : ([9, 39].all fun u => !Tryd.prog.wantsStandIn u) = true := by kernel_rfl
        exact (show Tryd.prog.wantsStandIn t = false by simpa using List.all_eq_true.1 hall t hm)⟩)
    (by kernel_rfl)

/-- The statement. -/
theorem proved : Rows.WordsListsCardSaid := card_holds
#print axioms proved
end Go.Proofs.YtnechpciaidkmaaDoor.wordsLists
