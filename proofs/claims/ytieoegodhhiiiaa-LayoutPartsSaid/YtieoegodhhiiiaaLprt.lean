/- The call of the statement LayoutParts, from what the program's seven functions give. -/
import Derived.Test.YtieoegodhhiiiaaLali
import Derived.Test.YtieoegodhhiiiaaLcnt
import Derived.Deep.RegionLaw
import Derived.Lib.QuietBelow
import Derived.BigGuardPart
import Derived.BigQuiet
namespace Go.Proofs.Ytieoegodhhiiiaa.Lprt
open Go.Proofs.Ytieoegodhhiiiaa.Text hiding lineL joinR
open Go.RowKit Go.Lib Go.Proofs.Ytieoegodhhiiiaa.Reads Go.Proofs.Ytieoegodhhiiiaa.Rows2 Go.Proofs.Ytieoegodhhiiiaa.Lay Go.Proofs.Ytieoegodhhiiiaa.Layf Go.Proofs.Ytieoegodhhiiiaa.Lcon Go.Proofs.Ytieoegodhhiiiaa.Ldup Go.Proofs.Ytieoegodhhiiiaa.Lext Go.Proofs.Ytieoegodhhiiiaa.Ljoi Go.Proofs.Ytieoegodhhiiiaa.Lmem Go.Proofs.Ytieoegodhhiiiaa.Lnmd Go.Proofs.Ytieoegodhhiiiaa.Lfew Go.Proofs.Ytieoegodhhiiiaa.Lsev Go.Proofs.Ytieoegodhhiiiaa.Lali Go.Proofs.Ytieoegodhhiiiaa.Lsid Go.Proofs.Ytieoegodhhiiiaa.Lsig Go.Proofs.Ytieoegodhhiiiaa.Lcnt

theorem allMem_le {L : Lay} {s : Nat} : ∀ {n : Nat}, s ≤ n → (allMem L s).length ≤ (allMem L n).length
  | 0, h => by rw [show s = 0 by omega]; exact Nat.le_refl _
  | n + 1, h => by
    by_cases e : s = n + 1
    · subst e; exact Nat.le_refl _
    · rw [allMem, List.length_append]
      have := allMem_le (L := L) (s := s) (n := n) (by omega)
      omega
/-- What holds at the head of the loop over the sections. -/
def SecRel (L : Lay) (g : Nat) (W2 : World) (vsum vi : Value) (wr : World) : Prop :=
  ∃ s : Nat, vi = .int .i64 (s : Int) ∧ s ≤ L.secs.length ∧ vsum = .int .i64 ((allMem L s).length : Int) ∧ Cnt g L.els.length (allMem L s) wr ∧ But g W2.heap.size W2 wr
/-- What holds at the head of the loop over a section's members. -/
def MemRel (g n : Nat) (p l : List Int) (WM : World) (vsum vj : Value) (wr : World) : Prop :=
  ∃ j : Nat, vj = .int .i64 (j : Int) ∧ j ≤ l.length ∧ vsum = .int .i64 ((p ++ l.take j).length : Int) ∧ Cnt g n (p ++ l.take j) wr ∧ But g WM.heap.size WM wr
/-- What holds at the head of the loop over the elements. -/
def PtRel (L : Lay) (l : List Int) (W3 : World) (va vi : Value) (wr : World) : Prop :=
  ∃ i q : Nat, vi = .int .i64 (i : Int) ∧ va = .int .i64 (q : Int) ∧ i ≤ L.els.length ∧ q ≤ l.length ∧ l.drop q = pick isSlow i (L.els.drop i) ∧ Below W3.heap.size W3 wr
theorem but_trans {g B B' : Nat} {a b c : World} (h : But g B a b) (h2 : But g B' b c) (hB : B ≤ B') : But g B a c :=
  ⟨h2.os.trans h.os, h2.tape.trans h.tape, h2.output.trans h.output, Nat.le_trans h.size h2.size, fun k hk hne => (h2.block k (by omega) hne).trans (h.block k hk hne)⟩
theorem take_more {p l : List Int} {j : Nat} {x : Int} (h : l[j]? = some x) : p ++ l.take (j + 1) = (p ++ l.take j) ++ [x] := by
  obtain ⟨hj, rfl⟩ := List.getElem?_eq_some_iff.1 h
  rw [List.take_succ_eq_append_getElem hj, List.append_assoc]

set_option maxRecDepth 100000 in
set_option maxHeartbeats 3200000 in
theorem parts_any {D : World → Prop} (S : Seven D) (L : Lay) {vs ve vj vg vb : Value} (w : World) (h : LayAt (In w) w L vs ve vj vg vb) (hd : D w) :
    Calls Try.prog 5 #[layV L vs ve vj vg vb] w (BoolOut true w) := by
  obtain ⟨sa, scap, rfl, hsm, -⟩ := h.sn
  obtain ⟨a, cap, rfl, hm, -⟩ := h.el
  have b0 := (Below.refl w.heap.size w).alloc (Nat.le_refl _) (.cells #[.string (bs L.name), .slice sa L.secs.length scap, .slice a L.els.length cap, vj, vg, vb] 28)
  have hh := h.box (.cells #[.string (bs L.name), .slice sa L.secs.length scap, .slice a L.els.length cap, vj, vg, vb] 28)
  have hx := lbox_new w 28 L (.slice sa L.secs.length scap) (.slice a L.els.length cap) vj vg vb
  have dd := S.keep _ _ hd b0
  have hs0 : w.heap.size < (w.alloc (.cells #[.string (bs L.name), .slice sa L.secs.length scap, .slice a L.els.length cap, vj, vg, vb] 28)).heap.size := by simp
  obtain ⟨W, hW⟩ : ∃ W, w.alloc (.cells #[.string (bs L.name), .slice sa L.secs.length scap, .slice a L.els.length cap, vj, vg, vb] 28) = W := ⟨_, rfl⟩
  rw [hW] at b0 hh hx dd hs0
  have HW := Lib.hid hW
  have B0 := Lib.hid b0
  have HX := Lib.hid hx
  have HS := Lib.hid hs0
  have HF := Lib.hid (few_any L _ hh)
  have HA := Lib.hid (fun w' (b : Below W.heap.size W w') => alive_any S _ (S.keep _ _ dd b))
  have HC := Lib.hid (fun (hf : fewB L = true) w' (b : Below W.heap.size W w') => S.chk L _ _ _ _ _ _ (hh.next b) (S.keep _ _ dd b) hf)
  have HH := Lib.hid hh
  have DD := Lib.hid dd
  obtain ⟨a', cap', he, -, hel⟩ := hh.el
  cases he
  have HE := Lib.hid hel
  clear h hh hd dd hW b0 hx hs0 hel
  obtain ⟨r, hr⟩ : ∃ r, checkF L = r := ⟨_, rfl⟩
  rw [hr] at HC
  have HCK := Lib.hid hr
  clear hr
  obtain ⟨b, hb⟩ : ∃ b, fewB L = b := ⟨_, rfl⟩
  rw [hb] at HF HC
  have HFW := Lib.hid hb
  clear hb
  unfold layV
  go_enter Try.func5, Try.ntmps5
  go_wp2_with fail
  rw [HW.out]
  obtain ⟨x0, x1, x2, x3, x4, x5⟩ := HX.out
  refine HF.out.mono ?_
  rintro e w1 ⟨rfl, b1⟩
  have B1 := Lib.hid b1
  clear b1 x0 x1 x2 x3 x4 x5
  obtain ⟨x0, x1, x2, x3, x4, x5⟩ := HX.out.next B1.out HS.out
  cases b
  · go_wp2_with fail
    refine (HA.out _ B1.out).mono ?_
    rintro e w2 ⟨rfl, b2⟩
    have B2 := Lib.hid (bel_next B1.out b2)
    clear b2
    go_wp2_with fail
    go_ret
    exact ⟨rfl, bel_next B0.out B2.out⟩
  · go_wp2_with fail
    refine (HC.out (by trivial) _ B1.out).mono ?_
    rintro e w2 ⟨rfl, b2⟩
    have B2 := Lib.hid (bel_next B1.out b2)
    clear b2 x0 x1 x2 x3 x4 x5
    obtain ⟨x0, x1, x2, x3, x4, x5⟩ := HX.out.next B2.out HS.out
    by_cases hr0 : r = 0
    · subst hr0
      have hn := (few_yes HFW.out).2.1
      have hn2 := (few_yes HFW.out).1
      have hmk := fun w => make_ints L.els.length hn w
      have hlt : w.heap.size < w2.heap.size := Nat.lt_of_lt_of_le HS.out B2.out.size
      clear HC
      go_wp2_with fail
      have c2 := cnt_start L.els.length w2
      have bm := (Below.refl w2.heap.size w2).alloc (Nat.le_refl _) (.cells (madeCells zi L.els.length) 3)
      have gs : w2.heap.size < (w2.alloc (.cells (madeCells zi L.els.length) 3)).heap.size := by simp
      obtain ⟨W2, hW2⟩ : ∃ W2, w2.alloc (.cells (madeCells zi L.els.length) 3) = W2 := ⟨_, rfl⟩
      rw [hW2] at c2 bm gs ⊢
      have BM := Lib.hid (bel_next B2.out bm)
      have C2 := Lib.hid c2
      have GS := Lib.hid gs
      have HLW := Lib.hid (fun wr (b : But w2.heap.size W2.heap.size W2 wr) => lay_but HH.out BM.out B2.out.size b)
      have HDW := Lib.hid (fun wr (b : But w2.heap.size W2.heap.size W2 wr) => S.keep _ _ DD.out (But.below BM.out b (Nat.le_trans B2.out.size (Nat.le_of_lt GS.out)) B2.out.size))
      have HBW := Lib.hid (fun wr (b : But w2.heap.size W2.heap.size W2 wr) => But.below BM.out b (Nat.le_trans B2.out.size (Nat.le_of_lt GS.out)) B2.out.size)
      clear c2 bm gs hW2 hmk x0 x1 x2 x3 x4 x5
      have HML := Lib.hid (members_all HCK.out)
      go_loopw [4, 29] (fun vsum vi wr => SecRel L w2.heap.size W2 vsum vi wr) (fun _ vi _ => L.secs.length - (RowKit.intOf vi).toNat)
      case atStart => exact ⟨0, rfl, Nat.zero_le _, rfl, C2.out, But.refl _ _ _⟩
      case round =>
        obtain ⟨s, rfl, hs, rfl, hc, hb⟩ := hrel
        have CN := Lib.hid hc
        have BT := Lib.hid hb
        clear hc hb
        obtain ⟨wo, rfl⟩ : ∃ wo : World, wo = wr := ⟨_, rfl⟩
        have hal : (allMem L s).length ≤ 60 := Nat.le_trans (allMem_le hs) (by rw [HML.out]; exact hn)
        obtain ⟨x0, x1, x2, x3, x4, x5⟩ := HX.out.next (HBW.out _ BT.out) HS.out
        by_cases hl : s < L.secs.length
        · go_wp2_with fail
          refine (S.mem L s _ _ _ _ _ _ (HLW.out _ BT.out) (HDW.out _ BT.out) HFW.out HCK.out hl).mono ?_
          rintro e w3 ⟨v, rfl, hv, b3⟩
          have HMS := Lib.hid (members_some HCK.out hl)
          have HMA := Lib.hid (fun (y : Int) (hy : y ∈ membersF L (s : Int)) => member_at hy)
          have hal2 := allMem_le (L := L) (s := s + 1) (n := L.secs.length) hl
          rw [HML.out, allMem, List.length_append] at hal2
          obtain ⟨l, hlm⟩ : ∃ l, membersF L (s : Int) = l := ⟨_, rfl⟩
          rw [hlm] at hv HMS HMA hal2
          have HLM := Lib.hid hlm
          clear hlm
          obtain ⟨va, vcap, rfl, hvm, hvc⟩ := own_cell hv
          have HV := Lib.hid hvc
          have B3 := Lib.hid b3
          have BT3 := Lib.hid (but_call BT.out BT.out.size b3)
          have CN3 := Lib.hid (cnt_next CN.out b3)
          clear hv hvc b3 x0 x1 x2 x3 x4 x5
          obtain ⟨x0, x1, x2, x3, x4, x5⟩ := HX.out.next (HBW.out _ BT3.out) HS.out
          have hlne : (((l.length : Nat) : Int) == 0) = false := by
            have := HMS.out
            cases l
            · exact absurd rfl this
            · simp
              omega
          go_wp2_with fail
          go_loopw [4, 37] (fun vsum vj wr => MemRel w2.heap.size L.els.length (allMem L s) l w3 vsum vj wr) (fun _ vj _ => l.length - (RowKit.intOf vj).toNat)
          case atStart => exact ⟨0, rfl, Nat.zero_le _, by simp, by simpa using CN3.out, But.refl _ _ _⟩
          case round =>
            obtain ⟨j, rfl, hj, rfl, hc, hb⟩ := hrel
            obtain ⟨wi, rfl⟩ : ∃ wi : World, wi = wr := ⟨_, rfl⟩
            have CJ := Lib.hid hc
            have BJ := Lib.hid hb
            clear hc hb
            by_cases hlj : j < l.length
            · obtain ⟨x, hx⟩ := at_lt hlj
              obtain ⟨bb, off, rfl, hb1, hb2, hcell⟩ := HV.out j x hx
              obtain ⟨k, y, rfl, hy, hsec⟩ := HMA.out x (List.mem_of_getElem? hx)
              have hk := (List.getElem?_eq_some_iff.1 hy).1
              have c1 := (BJ.out.cell (p := ⟨bb, off + j, none⟩) hb2 (by have := BT.out.size; have := GS.out; show bb ≠ _; omega)).trans hcell
              have BTJ := Lib.hid (but_trans BT3.out BJ.out BT3.out.size)
              clear x0 x1 x2 x3 x4 x5
              obtain ⟨x0, x1, x2, x3, x4, x5⟩ := HX.out.next (HBW.out _ BTJ.out) HS.out
              have HTM := Lib.hid (take_more (p := allMem L s) hx)
              have hdl : (allMem L s ++ l.take j).length ≤ 60 := by rw [List.length_append, List.length_take]; omega
              obtain ⟨d, hd⟩ : ∃ d, allMem L s ++ l.take j = d := ⟨_, rfl⟩
              rw [hd] at CJ HTM hdl ⊢
              have hcl : d.count (k : Int) ≤ 60 := Nat.le_trans List.count_le_length hdl
              have HCE := Lib.hid (section_at hy)
              rw [hsec] at HCE
              have hkn : (k : Int) < (L.els.length : Int) := by omega
              clear hd hx hy hsec hcell hb1 hb2
              go_wp2_with fail
              refine (S.sct L k _ _ _ _ _ _ (HLW.out _ BTJ.out) (HDW.out _ BTJ.out) HFW.out HCK.out hk).mono ?_
              rintro e w4 ⟨rfl, b4⟩
              rw [HCE.out]
              have CK := Lib.hid (cnt_next CJ.out b4)
              have BK := Lib.hid (but_call BJ.out BJ.out.size b4)
              obtain ⟨q1, q2⟩ := cnt_cell CK.out hk
              obtain ⟨c, hc⟩ : ∃ c, d.count (k : Int) = c := ⟨_, rfl⟩
              rw [hc] at q1 hcl
              have HCC := Lib.hid hc
              have hg4 : w2.heap.size < w4.heap.size := by have := GS.out; have := BT3.out.size; have := BK.out.size; omega
              clear hc b4 x0 x1 x2 x3 x4 x5 c1
              go_wp2_with fail
              go_roundw
              case rel => exact ⟨j + 1, by simp, hlj, by rw [HTM.out]; simp, by rw [HTM.out]; exact cnt_more CK.out hk (by rw [HCC.out]), BK.out.setCell (.inl rfl) _⟩
              case measure => simp [RowKit.intOf]; omega
            · have hej : j = l.length := by omega
              subst hej
              clear hlj hj
              rw [List.take_length] at CJ ⊢
              go_wp2_with fail
              go_roundw
              case rel => exact ⟨s + 1, by simp, hl, by rw [allMem, HLM.out], by rw [allMem, HLM.out]; exact CJ.out, but_trans BT3.out BJ.out BT3.out.size⟩
              case measure => simp [RowKit.intOf]; omega
        · have hes : s = L.secs.length := by omega
          subst hes
          rw [HML.out]
          clear hl hs hal
          have HPS := Lib.hid (points_slow HCK.out)
          have HON := Lib.hid (fun (i : Nat) (x : Elem) (hx : L.els[i]? = some x) => members_one HCK.out hx)
          have HEN := Lib.hid (fun (i : Nat) (x : Elem) (hx : L.els[i]? = some x) => element_name HCK.out hx)
          have HNM := Lib.hid (fun (i : Nat) (x : Elem) (hx : L.els[i]? = some x) => HH.out.elName x (List.mem_of_getElem? hx))
          go_wp2_with fail
          refine (S.pts L _ _ _ _ _ _ (HLW.out _ BT.out) (HDW.out _ BT.out) HFW.out HCK.out).mono ?_
          rintro e w3 ⟨v, rfl, hv, b3⟩
          obtain ⟨l, hlm⟩ : ∃ l, pointsF L = l := ⟨_, rfl⟩
          rw [hlm] at hv HPS
          clear hlm
          obtain ⟨va, vcap, rfl, hvm, hvc⟩ := own_cell hv
          have HV := Lib.hid hvc
          have BT3 := Lib.hid (but_call BT.out BT.out.size b3)
          have CN3 := Lib.hid (cnt_next CN.out b3)
          clear hv hvc b3 x0 x1 x2 x3 x4 x5
          obtain ⟨x0, x1, x2, x3, x4, x5⟩ := HX.out.next (HBW.out _ BT3.out) HS.out
          go_wp2_with fail
          go_loopw [9, 72] (fun va vi wr => PtRel L l w3 va vi wr) (fun _ vi _ => L.els.length - (RowKit.intOf vi).toNat)
          case atStart => exact ⟨0, 0, rfl, rfl, Nat.zero_le _, Nat.zero_le _, HPS.out, Below.refl _ _⟩
          case round =>
            obtain ⟨i, q, rfl, rfl, hi, hq, hlq, hb⟩ := hrel
            obtain ⟨wr', rfl⟩ : ∃ wi : World, wi = wr := ⟨_, rfl⟩
            have BTR := Lib.hid (but_call BT3.out BT3.out.size hb)
            have CNR := Lib.hid (cnt_next CN3.out hb)
            have HB3 := Lib.hid hb
            have HLQ := Lib.hid hlq
            clear hb hlq x0 x1 x2 x3 x4 x5
            obtain ⟨x0, x1, x2, x3, x4, x5⟩ := HX.out.next (HBW.out _ BTR.out) HS.out
            have hl0 : w.heap.size < wr'.heap.size := Nat.lt_of_lt_of_le HS.out (HBW.out _ BTR.out).size
            by_cases hlt : i < L.els.length
            · obtain ⟨x, hx⟩ := at_lt hlt
              obtain ⟨b, off, rfl, c0, c1, c2, c3, c4, c5, c6⟩ := HE.out wr' (HBW.out _ BTR.out) i x hx
              have HDR := Lib.hid (drop_at hx)
              have HEN1 := Lib.hid (HEN.out i x hx)
              have hnm := HNM.out i x hx
              have HON1 := Lib.hid (HON.out i x hx)
              clear hx
              obtain ⟨nm, kd, ln, gr, sp, sl, sc⟩ := x
              simp only at c0 c1 c2 c3 c4 c5 c6 HEN1 hnm
              obtain ⟨q1, q2⟩ := cnt_cell CNR.out hlt
              rw [HON1.out] at q1
              have hg4 : w2.heap.size < wr'.heap.size := Nat.lt_of_lt_of_le GS.out BTR.out.size
              go_wp2_with fail
              have hbe : Below wr'.heap.size wr' (wr'.alloc (.cells #[.string (bs nm), .int .i64 kd, .int .i64 ln, .int .i64 gr, .int .i64 sp, .int .i64 sl, .int .i64 sc] 34)) := (Below.refl _ _).alloc (Nat.le_refl _) (.cells #[.string (bs nm), .int .i64 kd, .int .i64 ln, .int .i64 gr, .int .i64 sp, .int .i64 sl, .int .i64 sc] 34)
              have hfl : (wr'.alloc (.cells #[.string (bs nm), .int .i64 kd, .int .i64 ln, .int .i64 gr, .int .i64 sp, .int .i64 sl, .int .i64 sc] 34)).cell? ⟨wr'.heap.size, 5, none⟩ = some (.int .i64 sl) := by rw [World.cell?_alloc_at _ _ _ _ rfl]; rfl
              have hge : wr'.heap.size < (wr'.alloc (.cells #[.string (bs nm), .int .i64 kd, .int .i64 ln, .int .i64 gr, .int .i64 sp, .int .i64 sl, .int .i64 sc] 34)).heap.size := by simp
              obtain ⟨wE, hwE⟩ : ∃ wE, wr'.alloc (.cells #[.string (bs nm), .int .i64 kd, .int .i64 ln, .int .i64 gr, .int .i64 sp, .int .i64 sl, .int .i64 sc] 34) = wE := ⟨_, rfl⟩
              rw [hwE] at hbe hfl hge ⊢
              have BTE := Lib.hid (but_call BTR.out BTR.out.size hbe)
              have HFL := Lib.hid hfl
              have HGE := Lib.hid hge
              have HB4 := Lib.hid (bel_next HB3.out hbe)
              clear hwE hbe hfl hge c0 c1 c2 c3 c4 c5 c6 q1 q2 x0 x1 x2 x3 x4 x5 hg4 hl0
              refine (S.elm L nm _ _ _ _ _ _ (HLW.out _ BTE.out) (HDW.out _ BTE.out) HFW.out HCK.out hnm).mono ?_
              rintro e w5 ⟨rfl, b5⟩
              rw [HEN1.out]
              have f1 := (b5.cell (p := ⟨wr'.heap.size, 5, none⟩) HGE.out).trans HFL.out
              have HB5 := Lib.hid (bel_next HB4.out b5)
              clear b5
              by_cases hsl : 0 < sl
              · have hpk := HLQ.out
                rw [HDR.out, pick_yes (by simp [isSlow, hsl])] at hpk
                have hlq' : q < l.length := by
                  rcases Nat.lt_or_ge q l.length with h | h
                  · exact h
                  · rw [List.drop_of_length_le h] at hpk; cases hpk
                obtain ⟨x', hx'⟩ := at_lt hlq'
                obtain ⟨pb, poff, rfl, hp1, hp2, hpc⟩ := HV.out q x' hx'
                rw [drop_at hx'] at hpk
                injection hpk with hpk1 hpk2
                subst hpk1
                have f2 := (HB5.out.cell (p := ⟨pb, poff + q, none⟩) hp2).trans hpc
                have HPK := Lib.hid hpk2
                clear hpk2 hpc hx'
                go_wp2_with fail
                go_roundw
                case rel => exact ⟨i + 1, q + 1, by simp, by simp, hlt, hlq', HPK.out, HB5.out⟩
                case measure => simp [RowKit.intOf]; omega
              · have hpk := HLQ.out
                rw [HDR.out, pick_no (by simpa [isSlow] using hsl)] at hpk
                have HPK := Lib.hid hpk
                clear hpk
                go_wp2_with fail
                go_roundw
                case rel => exact ⟨i + 1, q, by simp, rfl, hlt, hq, HPK.out, HB5.out⟩
                case measure => simp [RowKit.intOf]; omega
            · have hei : i = L.els.length := by omega
              subst hei
              have hql : q = l.length := by
                have := HLQ.out
                rw [List.drop_length, pick, List.drop_eq_nil_iff] at this
                omega
              subst hql
              clear hi hq hlt
              go_wp2_with fail
              refine (HA.out _ (HBW.out _ BTR.out)).mono ?_
              rintro e w6 ⟨rfl, b6⟩
              have B6 := Lib.hid (bel_next (HBW.out _ BTR.out) b6)
              clear b6
              go_wp2_with fail
              go_ret
              exact ⟨rfl, bel_next B0.out B6.out⟩
    · have hq : (r == 0) = false := by simpa using hr0
      go_wp2_with fail
      refine (HA.out _ B2.out).mono ?_
      rintro e w3 ⟨rfl, b3⟩
      have B3 := Lib.hid (bel_next B2.out b3)
      clear b3
      go_wp2_with fail
      go_ret
      exact ⟨rfl, bel_next B0.out B3.out⟩

end Go.Proofs.Ytieoegodhhiiiaa.Lprt
