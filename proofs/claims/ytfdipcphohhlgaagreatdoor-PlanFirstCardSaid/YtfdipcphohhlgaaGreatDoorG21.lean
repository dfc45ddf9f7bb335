/- Texts of this proof, merged: Rl3. -/
import Derived.Test.YtfdipcphohhlgaaGreatDoorG20
import Derived.Deep.RegionLaw
import Derived.BigRegion

/- The program's reader reads a line: an element. -/
namespace Go.Proofs.YtfdipcphohhlgaaGreatDoor.Rl3
open Go.RowKit Go.Lib Go.Proofs.YtfdipcphohhlgaaGreatDoor.Reads Go.Proofs.YtfdipcphohhlgaaGreatDoor.Rows2 Go.Proofs.YtfdipcphohhlgaaGreatDoor.Lay Go.Proofs.YtfdipcphohhlgaaGreatDoor.Layf Go.Proofs.YtfdipcphohhlgaaGreatDoor.Lcon Go.Proofs.YtfdipcphohhlgaaGreatDoor.Ldup Go.Proofs.YtfdipcphohhlgaaGreatDoor.Lext Go.Proofs.YtfdipcphohhlgaaGreatDoor.Lnmd Go.Proofs.YtfdipcphohhlgaaGreatDoor.Numt Go.Proofs.YtfdipcphohhlgaaGreatDoor.Plnf Go.Proofs.YtfdipcphohhlgaaGreatDoor.Pkin Go.Proofs.YtfdipcphohhlgaaGreatDoor.Prds Go.Proofs.YtfdipcphohhlgaaGreatDoor.Pelm Go.Proofs.YtfdipcphohhlgaaGreatDoor.Rdr Go.Proofs.YtfdipcphohhlgaaGreatDoor.Rdk Go.Proofs.YtfdipcphohhlgaaGreatDoor.Rdx Go.Proofs.YtfdipcphohhlgaaGreatDoor.Rdn Go.Proofs.YtfdipcphohhlgaaGreatDoor.Rde Go.Proofs.YtfdipcphohhlgaaGreatDoor.Rdo Go.Proofs.YtfdipcphohhlgaaGreatDoor.Rla
open Go.Proofs.YtfdipcphohhlgaaGreatDoor.Debw (Deb)
open Go.Proofs.YtfdipcphohhlgaaGreatDoor.Text hiding lineL joinR
set_option linter.unusedVariables false

set_option maxRecDepth 100000 in
set_option maxHeartbeats 3200000 in
theorem read_3 {W0 w : World} {g : Nat} {L : Lay} {vs ve vj vg vb lv : Value} {pl : Int} {ws0 : List (List UInt8)} {k : List UInt8} {r : List (List UInt8)} (hd : Deb W0) (h : RW W0 g w L vs ve vj vg vb pl ⟨ws0, false, false⟩) (hl : Strs (In W0) W0 lv (k :: r)) (hsh : ∀ x ∈ r, x.length ≤ 40000)
    (hns : L.secs.length ≤ 100000) (hne : L.els.length ≤ 100000) (hnj : L.joints.length ≤ 100000) (hng : L.sigs.length ≤ 100000) (hnb : L.bals.length ≤ 100000) (hc : canB pl (placeF k) = true) (hp : placeF k = 3) :
    Calls Tryz.prog 40 #[.pointer (some ⟨g, 0, none⟩), lv] w (ReadOut W0 g 3 (progL L (k :: r)).2 (progL L (k :: r)).1 (finE (progL L (k :: r)).1)) := by
  obtain ⟨b, off, c, rfl, hb, hn, hx, ad, c', hsl, hs2⟩ := line_head hl
  have x0 := (h.bel.cell (p := ⟨b, off, none⟩) hb).trans hx
  have H0 := Lib.hid h
  have HP := Lib.hid (fun w => place_any k w)
  have HC := Lib.hid (fun w' (q : RW W0 g w' L vs ve vj vg vb pl ⟨ws0, false, false⟩) => can_any 3 q)
  rw [hp] at HP hc
  rw [hc] at HC
  have HST := Lib.hid (fun w' (q : RW W0 g w' L vs ve vj vg vb pl ⟨ws0, false, false⟩) => line_start (p := 3) q hs2 hsh)
  have HL := Lib.hid (fun w' (q : RW W0 g w' L vs ve vj vg vb 3 ⟨r, false, false⟩) => elem_any (kindOf k) hd q)
  have HPR : Hid (progL L (k :: r) = (Rs.elemS (kindOf k) L ⟨r, false, false⟩, { L with els := L.els ++ [elemX (kindOf k) L ⟨r, false, false⟩] })) := by
    show _ = _
    simp [progL, hp]
  have HWF : Hid ((elemX (kindOf k) L ⟨r, false, false⟩).name.length ≤ maxLen ∧ (elemX (kindOf k) L ⟨r, false, false⟩).Wf) := by
    have := hd_short (s := ⟨r, false, false⟩) hsh
    exact ⟨show (Rs.hd ⟨r, false, false⟩).length ≤ maxLen by unfold maxLen; omega, elem_wf k _ hns⟩
  have HLK := Lib.hid (fun w' q (e : w'.heap[q]? = _) => look_any k q w' e false)
  have HKN := Lib.hid (fun w' => kinds_any w')
  have HXB := Lib.hid (fun w' (q : Below W0.heap.size W0 w') => (q.cell (p := ⟨b, off, none⟩) hb).trans hx)
  obtain ⟨x, hxx⟩ : ∃ n, elemX (kindOf k) L ⟨r, false, false⟩ = n := ⟨_, rfl⟩
  obtain ⟨s', hs'⟩ : ∃ n, Rs.elemS (kindOf k) L ⟨r, false, false⟩ = n := ⟨_, rfl⟩
  rw [hxx] at HL HPR HWF
  rw [hs'] at HL HPR
  obtain ⟨kk, hkk⟩ : ∃ n, kindOf k = n := ⟨_, rfl⟩
  rw [hkk] at HL HLK
  have HE := Lib.hid (fun w' ve' (q : RW W0 g w' { L with els := L.els ++ [x] } vs ve' vj vg vb 3 s') => lerr_any q)
  unfold elemV at HL
  obtain ⟨f, hf⟩ : ∃ n, finE s' = n := ⟨_, rfl⟩
  rw [hf] at HE
  have HF := Lib.hid hf
  have HNL := Lib.hid hne
  obtain ⟨i0, hi, hz0, hz1, hz2⟩ := info_parts infoEl
  have HI0 := Lib.hid hi
  have HZ0 := Lib.hid hz0
  have HZ1 := Lib.hid hz1
  have HZ2 := Lib.hid hz2
  clear hxx hs' hkk hf hns hne hnj hng hnb hi hz0 hz1 hz2
  obtain ⟨N, hN⟩ : ∃ N, r.length + 1 = N := ⟨_, rfl⟩
  have hN2 : (N : Int) ≤ 9223372036854775807 := by omega
  rw [hN] at hsl
  have q3 : 0 < N := by omega
  have q4 : (0 : Int) < (N : Int) := by omega
  rw [hN]
  clear h hl hn hN hc hsh hs2
  go_enter Tryz.func40, Tryz.ntmps40
  go_wp2_with fail
  refine (HP.out _).mono ?_
  rintro e w1 ⟨rfl, b1⟩
  have R1 := Lib.hid (H0.out.next b1)
  clear b1 x0
  go_wp2_with fail
  refine (HC.out _ R1.out).mono ?_
  rintro e w2 ⟨rfl, rfl⟩
  obtain ⟨vr, hbx, hbr⟩ := R1.out.box
  obtain ⟨-, -, -, -, -, -, y6, y7, -, -⟩ := hbx.cells
  have z6 := hbx.frozen 6
  have z7 := hbx.frozen 7
  have hlt := hbx.lt
  clear hbx hbr
  go_wp2_with fail
  go_region
  have T4 := HST.out _ R1.out
  obtain ⟨W4, hW4⟩ : ∃ x, ((w2.setCell ⟨g, 6, none⟩ (.int .i64 3)).setCell ⟨g, 7, none⟩ (.slice (some ad) r.length c')).drew = x := ⟨_, rfl⟩
  rw [hW4] at T4 ⊢
  have R4 := Lib.hid T4
  clear T4 hW4 y6 y7 z6 z7 hlt
  obtain ⟨A3, C3, rfl⟩ := own_any R4.out.own.oe
  have y3 := (RW.six R4.out).2.2.1
  have y4 := HXB.out _ R4.out.bel
  have l4 := RW.glt R4.out
  go_wp2_with fail
  go_region_law (first
    | (go_simp; go_at_call 83; (with_reducible refine (HKN.out _).mono ?_); rintro e w5 ⟨rfl, hw5⟩; have R5 := Lib.hid (show RW W0 g w5 L vs _ vj vg vb 3 ⟨r, false, false⟩ from hw5 ▸ R4.out.drew.next ((Below.refl _ _).alloc (Nat.le_refl _) (.map kEs 3))); have hlk := HLK.out w5 W4.heap.size (by rw [hw5]; exact heap_alloc_new W4.drew _); have x5 := (RW.six R5.out).2.2.1; have u5 := HXB.out _ R5.out.bel; have l5 := RW.glt R5.out; clear hw5)
    | (go_simp; go_at_call 82; (with_reducible refine (HL.out _ R5.out).mono ?_); rintro e w6 ⟨rfl, r6⟩; have R6 := Lib.hid r6.rw; have x6 := (RW.six r6.rw).2.2.1; have l6 := RW.glt r6.rw; clear r6)
    | (refine step_row rfl (.tmp 54) (.tmp 62) 23 rfl W0.heap.size 45 i0 _ 7 64 Tryz.underlying23 HI0.out HZ0.out HZ1.out HZ2.out rfl (by decide) _ _ _ rfl R6.out.own.oe 45 (Elem.cells x) rfl rfl (fun u hu => by simp only [Elem.cells, List.mem_cons, List.not_mem_nil, or_false] at hu; rcases hu with rfl | rfl | rfl | rfl | rfl | rfl | rfl <;> rfl) (by have := HNL.out; unfold maxLen; omega) (by have := HNL.out; omega) R6.out.bel.size ?_; intro v7 w7 k1 k2 k3; obtain ⟨⟨y7, z7, l7⟩, r8⟩ := grow_e x R6.out HWF.out k1 k2 k3; have R8 := Lib.hid r8; obtain ⟨A7, C7, rfl⟩ := own_any k1; clear k1 k2 k3 r8))
  all_goals
    go_wp2_with fail
    refine (HE.out _ _ R8.out).mono ?_
    rintro e w9 ⟨rfl, rfl⟩
    go_wp2_with fail
    go_ret
    rw [HPR.out, HF.out]
    have := ReadOut.of R8.out
    rwa [HF.out] at this

end Go.Proofs.YtfdipcphohhlgaaGreatDoor.Rl3
