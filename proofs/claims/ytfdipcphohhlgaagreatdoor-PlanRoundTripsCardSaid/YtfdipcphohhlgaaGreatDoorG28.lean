/- Texts of this proof, merged: Prnd. -/
import Derived.Test.YtfdipcphohhlgaaGreatDoorG10
import Derived.Test.YtfdipcphohhlgaaGreatDoorG11
import Derived.Test.YtfdipcphohhlgaaGreatDoorG27
import Derived.Deep.DeepCutAuto

/- The call of the statement PlanRoundTrips, from what the program's Print and Parse are to give. -/
namespace Go.Proofs.YtfdipcphohhlgaaGreatDoor.Prnd
open Go.RowKit Go.Lib Go.Proofs.YtfdipcphohhlgaaGreatDoor.Reads Go.Proofs.YtfdipcphohhlgaaGreatDoor.Rows2 Go.Proofs.YtfdipcphohhlgaaGreatDoor.Lay Go.Proofs.YtfdipcphohhlgaaGreatDoor.Layf Go.Proofs.YtfdipcphohhlgaaGreatDoor.Ldup Go.Proofs.YtfdipcphohhlgaaGreatDoor.Lext Go.Proofs.YtfdipcphohhlgaaGreatDoor.Lnmd Go.Proofs.YtfdipcphohhlgaaGreatDoor.Few0 Go.Proofs.YtfdipcphohhlgaaGreatDoor.Plnf Go.Proofs.YtfdipcphohhlgaaGreatDoor.Plna Go.Proofs.YtfdipcphohhlgaaGreatDoor.Plnc Go.Proofs.YtfdipcphohhlgaaGreatDoor.Ptwo Go.Proofs.YtfdipcphohhlgaaGreatDoor.Pali Go.Proofs.YtfdipcphohhlgaaGreatDoor.Pfew Go.Proofs.YtfdipcphohhlgaaGreatDoor.Rsam
open Go.Proofs.YtfdipcphohhlgaaGreatDoor.Text hiding lineL joinR

theorem join_len (ls : List (List (List UInt8))) : (Text.joinR ls).1.length ≤ 32768 := by
  unfold Text.joinR
  split
  · simp
  · split
    · simp
    · rename_i h
      simpa using Nat.le_of_not_lt h
theorem print_len (L : Lay) : (printF L).1.length ≤ 32768 := by
  unfold printF
  split
  · exact join_len _
  · simp

set_option maxRecDepth 100000 in
set_option maxHeartbeats 6400000 in
theorem rounds_any {D : World → Prop} (T : Two D) (L : Lay) (s : List UInt8) {vs ve vj vg vb : Value} (w : World) (h : LayAt (In w) w L vs ve vj vg vb) (hd : D w) :
    Calls Tryz.prog 4 #[layV L vs ve vj vg vb, .string (bs s)] w (BoolOut true w) := by
  have b0 := (Below.refl w.heap.size w).alloc (Nat.le_refl _) (.cells #[.string (bs L.name), vs, ve, vj, vg, vb] 28)
  have hh := h.next b0
  have hx := lbox_new w 28 L vs ve vj vg vb
  have dd := T.keep _ _ hd b0
  have hs0 : w.heap.size < (w.alloc (.cells #[.string (bs L.name), vs, ve, vj, vg, vb] 28)).heap.size := by simp
  obtain ⟨W, hW⟩ : ∃ W, w.alloc (.cells #[.string (bs L.name), vs, ve, vj, vg, vb] 28) = W := ⟨_, rfl⟩
  rw [hW] at b0 hh hx dd hs0
  have HW := Lib.hid hW
  have B0 := Lib.hid b0
  have HX := Lib.hid hx
  have HS := Lib.hid hs0
  have HH := Lib.hid hh
  have DD := Lib.hid (fun w' (b : Below W.heap.size W w') => T.keep _ _ dd b)
  have HF := Lib.hid (few8_any L _ hh)
  have HA := Lib.hid (fun w' (b : Below W.heap.size W w') => alive_any T _ (DD.out _ b))
  clear h hh hd dd hW b0 hx hs0
  obtain ⟨b, hb⟩ : ∃ b, fewB L = b := ⟨_, rfl⟩
  rw [hb] at HF
  have HFW := Lib.hid hb
  clear hb
  unfold layV
  go_enter Tryz.func4, Tryz.ntmps4
  go_wp2_with fail
  rw [HW.out]
  obtain ⟨x0, x1, x2, x3, x4, x5⟩ := HX.out
  refine HF.out.mono ?_
  rintro e w1 ⟨rfl, b1⟩
  have B1 := Lib.hid b1
  clear b1 x0 x1 x2 x3 x4 x5
  obtain ⟨x0, x1, x2, x3, x4, x5⟩ := HX.out.next B1.out HS.out
  have hlen : (bs s).size = s.length := rfl
  cases b
  · go_wp2_with fail
    refine (HA.out _ B1.out).mono ?_
    rintro e w2 ⟨rfl, b2⟩
    have B2 := Lib.hid (bel_next B1.out b2)
    clear b2
    go_wp2_with fail
    go_ret
    exact ⟨rfl, bel_next B0.out B2.out⟩
  · by_cases hsl : s.length ≤ 10000
    · have hg1 : ¬ (10000 : Int) < ((bs s).size : Int) := by rw [hlen]; omega
      obtain ⟨f1, f2, f3, f4, f5⟩ := few_yes HFW.out
      have hT := T.prn L _ _ _ _ _ w1 (HH.out.next B1.out) (DD.out _ B1.out) (by omega)
      have hC := fun w' (b : Below W.heap.size W w') => Pchk.check_any L w' (HH.out.next b) (by omega)
      have hpe := print_err (L := L) f3
      have hpl := print_len L
      obtain ⟨⟨t, e0⟩, hr⟩ : ∃ r, printF L = r := ⟨_, rfl⟩
      rw [hr] at hT hpe hpl
      simp only at hpe hpl
      rw [← hpe] at hC
      have HT := Lib.hid hT
      have HC := Lib.hid hC
      have HR := Lib.hid hr
      have HPE := Lib.hid hpe
      have HPL := Lib.hid hpl
      have HJ3 := Lib.hid f3
      clear hT hC hr hpe hpl f1 f2 f3 f4 f5
      unfold layV at HT HC
      go_wp2_with fail
      refine HT.out.mono ?_
      rintro e w2 ⟨rfl, b2⟩
      have B2 := Lib.hid (bel_next B1.out b2)
      clear b2 x0 x1 x2 x3 x4 x5
      obtain ⟨x0, x1, x2, x3, x4, x5⟩ := HX.out.next B2.out HS.out
      go_wp2_with fail
      refine (HC.out _ B2.out).mono ?_
      rintro e w3 ⟨rfl, b3⟩
      have B3 := Lib.hid (bel_next B2.out b3)
      clear b3 x0 x1 x2 x3 x4 x5
      obtain ⟨x0, x1, x2, x3, x4, x5⟩ := HX.out.next B3.out HS.out
      have hne : (e0 == e0) = true := by simp
      go_upto_if 34 with fail
      go_cut [7] (fun _ wx => Below W.heap.size W wx)
      case first =>
        by_cases he0 : e0 = 0
        · subst he0
          have hP := T.prs t w3 (by have := HPL.out; omega) (DD.out _ B3.out)
          have hpp := parse_of_print (L := L) HPE.out.symm HJ3.out
          rw [HR.out] at hpp
          simp only at hpp
          rw [hpp] at hP
          have HP := Lib.hid hP
          clear hP hpp
          go_wp2_with fail
          refine HP.out.mono ?_
          rintro e w4 ⟨us, ue, uj, ug, ub, rfl, l4, b4⟩
          obtain ⟨sa, sc, ea, ec, ja, jc, ga, gc, ba, bc, rfl, rfl, rfl, rfl, rfl⟩ := Lown.shapes l4
          have B4 := Lib.hid (bel_next B3.out b4)
          have L4 := Lib.hid l4
          clear b4 l4 x0 x1 x2 x3 x4 x5
          obtain ⟨x0, x1, x2, x3, x4, x5⟩ := HX.out.next B4.out HS.out
          have hlt : w.heap.size < w4.heap.size := Nat.lt_of_lt_of_le HS.out B4.out.size
          have b5 := (Below.refl w4.heap.size w4).alloc (Nat.le_refl _) (.cells #[.string (bs L.name), .slice sa L.secs.length sc, .slice ea L.els.length ec, .slice ja L.joints.length jc, .slice ga L.sigs.length gc, .slice ba L.bals.length bc] 28)
          have HSM := Lib.hid (rsame_any L _ (L4.out.next b5) (HH.out.next (bel_next B4.out b5)))
          have B5 := Lib.hid (bel_next B4.out b5)
          clear b5
          unfold layV at HSM ⊢
          go_wp2_with fail
          refine HSM.out.mono ?_
          rintro e w6 ⟨rfl, b6⟩
          have B6 := Lib.hid (bel_next B5.out b6)
          clear b6
          go_wp2_with fail
          go_meet
          exact B6.out
        · have he1 : (e0 == 0) = false := by simpa using he0
          go_wp2_with fail
          go_meet
          exact B3.out
      case rest =>
        have BC := Lib.hid hcut
        clear hcut x0 x1 x2 x3 x4 x5
        have hP := T.prs s wc (by omega) (DD.out _ BC.out)
        obtain ⟨⟨M, n, f⟩, hr⟩ : ∃ r, parseF s = r := ⟨_, rfl⟩
        rw [hr] at hP
        have HP := Lib.hid hP
        have HR2 := Lib.hid hr
        clear hP hr
        go_wp2_with fail
        refine HP.out.mono ?_
        rintro e w4 ⟨us, ue, uj, ug, ub, rfl, l4, b4⟩
        obtain ⟨sa, sc, ea, ec, ja, jc, ga, gc, ba, bc, rfl, rfl, rfl, rfl, rfl⟩ := Lown.shapes l4
        have b5 := (Below.refl w4.heap.size w4).alloc (Nat.le_refl _) (.cells #[.string (bs M.name), .slice sa M.secs.length sc, .slice ea M.els.length ec, .slice ja M.joints.length jc, .slice ga M.sigs.length gc, .slice ba M.bals.length bc] 28)
        have x5 := lbox_new w4 28 M (.slice sa M.secs.length sc) (.slice ea M.els.length ec) (.slice ja M.joints.length jc) (.slice ga M.sigs.length gc) (.slice ba M.bals.length bc)
        have g5 : w4.heap.size < (w4.alloc (.cells #[.string (bs M.name), .slice sa M.secs.length sc, .slice ea M.els.length ec, .slice ja M.joints.length jc, .slice ga M.sigs.length gc, .slice ba M.bals.length bc] 28)).heap.size := by simp
        have l5 := l4.next b5
        have B5 := Lib.hid (bel_next (bel_next BC.out b4) b5)
        by_cases hf : f = 0
        · subst hf
          obtain ⟨hpm, hcm⟩ := print_of_parse HR2.out
          have hjm := parse_joints HR2.out
          have HPM := Lib.hid hpm
          have HCM := Lib.hid hcm
          have HJM := Lib.hid hjm
          clear hpm hcm hjm
          obtain ⟨W5, hW5⟩ : ∃ W5, w4.alloc (.cells #[.string (bs M.name), .slice sa M.secs.length sc, .slice ea M.els.length ec, .slice ja M.joints.length jc, .slice ga M.sigs.length gc, .slice ba M.bals.length bc] 28) = W5 := ⟨_, rfl⟩
          rw [hW5] at x5 g5 l5 B5
          have HW5 := Lib.hid hW5
          have X5 := Lib.hid x5
          have G5 := Lib.hid g5
          have L5 := Lib.hid l5
          have HQ := Lib.hid (T.prn M _ _ _ _ _ W5 l5 (DD.out _ B5.out) (by have := HJM.out; omega))
          have HCQ := Lib.hid (fun w' (b : Below W5.heap.size W5 w') => Pchk.check_any M w' (L5.out.next b) (by have := HJM.out; omega))
          rw [HPM.out] at HQ
          rw [HCM.out] at HCQ
          clear hW5 x5 g5 l5 l4 b4 b5
          unfold layV at HQ HCQ ⊢
          obtain ⟨y0, y1, y2, y3, y4, y5⟩ := X5.out
          go_wp2_with fail
          rw [HW5.out]
          refine HQ.out.mono ?_
          rintro e w6 ⟨rfl, b6⟩
          have C6 := Lib.hid b6
          have B6 := Lib.hid (bel_next B5.out b6)
          clear b6 y0 y1 y2 y3 y4 y5
          obtain ⟨y0, y1, y2, y3, y4, y5⟩ := X5.out.next C6.out G5.out
          go_wp2_with fail
          refine (HCQ.out _ C6.out).mono ?_
          rintro e w7 ⟨rfl, b7⟩
          have B7 := Lib.hid (bel_next B6.out b7)
          clear b7 y0 y1 y2 y3 y4 y5
          go_wp2_with fail
          refine (HA.out _ B7.out).mono ?_
          rintro e w8 ⟨rfl, b8⟩
          have B8 := Lib.hid (bel_next B7.out b8)
          clear b8
          go_wp2_with fail
          go_ret
          exact ⟨rfl, bel_next B0.out B8.out⟩
        · have hf1 : (f == 0) = false := by simpa using hf
          clear x5 g5 l5 l4 b4 b5
          unfold layV
          go_wp2_with fail
          refine (HA.out _ B5.out).mono ?_
          rintro e w8 ⟨rfl, b8⟩
          have B8 := Lib.hid (bel_next B5.out b8)
          clear b8
          go_wp2_with fail
          go_ret
          exact ⟨rfl, bel_next B0.out B8.out⟩
    · have hg1 : (10000 : Int) < ((bs s).size : Int) := by rw [hlen]; omega
      go_wp2_with fail
      refine (HA.out _ B1.out).mono ?_
      rintro e w2 ⟨rfl, b2⟩
      have B2 := Lib.hid (bel_next B1.out b2)
      clear b2
      go_wp2_with fail
      go_ret
      exact ⟨rfl, bel_next B0.out B2.out⟩

end Go.Proofs.YtfdipcphohhlgaaGreatDoor.Prnd
