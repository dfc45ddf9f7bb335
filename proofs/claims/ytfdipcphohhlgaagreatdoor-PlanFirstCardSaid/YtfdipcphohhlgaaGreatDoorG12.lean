/- Texts of this proof, merged: Rpla, Rpre, Bldw, Joinw. -/
import Derived.Test.YtfdipcphohhlgaaGreatDoorG09
import Derived.Test.YtfdipcphohhlgaaGreatDoorG11
import Derived.Test.YtfdipcphohhlgaaGreatDoorG06
import Derived.Test.YtfdipcphohhlgaaGreatDoorG04
import Derived.Lib.Builder
import Derived.Lib.AppendStr
import Derived.Lib.Walk
import Derived.Laws.Externs
import Derived.Laws.IdiomCopy
import Derived.Deep.DeepFit

/- The calls of the reference's name, line and element of layouts as text. -/
namespace Go.Proofs.YtfdipcphohhlgaaGreatDoor.Rpla
open Go.RowKit Go.Lib Go.Proofs.YtfdipcphohhlgaaGreatDoor.Numt Go.Proofs.YtfdipcphohhlgaaGreatDoor.Reads Go.Proofs.YtfdipcphohhlgaaGreatDoor.Rows2 Go.Proofs.YtfdipcphohhlgaaGreatDoor.Lay Go.Proofs.YtfdipcphohhlgaaGreatDoor.Layf Go.Proofs.YtfdipcphohhlgaaGreatDoor.Lcon Go.Proofs.YtfdipcphohhlgaaGreatDoor.Ldup Go.Proofs.YtfdipcphohhlgaaGreatDoor.Lext Go.Proofs.YtfdipcphohhlgaaGreatDoor.Plnf Go.Proofs.YtfdipcphohhlgaaGreatDoor.Plnb Go.Proofs.YtfdipcphohhlgaaGreatDoor.Ownl Go.Proofs.YtfdipcphohhlgaaGreatDoor.Fmtw Go.Proofs.YtfdipcphohhlgaaGreatDoor.Owns
open Go.Proofs.YtfdipcphohhlgaaGreatDoor.Text hiding lineL joinR

/-- What a call gives that returns a list of texts of its own. -/
def FreshOut (ss : List (List UInt8)) (w : World) (e : Ending) (w' : World) : Prop := ∃ v, e = .returned v ∧ (∃ a n c, v = .slice a n c) ∧ Strs (fun b => w.heap.size ≤ b ∧ b < w'.heap.size) w' v ss ∧ Below w.heap.size w w'

set_option maxRecDepth 100000 in
theorem rname_any (L : Lay) (i : Nat) (x : Elem) {vs ve vj vg vb : Value} (w : World) (h : LayAt (In w) w L vs ve vj vg vb) (hx : L.els[i]? = some x) :
    Calls Tryz.prog 21 #[layV L vs ve vj vg vb, .int .i64 (i : Int)] w fun e w' => e = .returned (.string (bs x.name)) ∧ Below w.heap.size w w' := by
  obtain ⟨a, cap, rfl, hm, hel⟩ := h.el
  have HB := Lib.hid ((Below.refl w.heap.size w).alloc (Nat.le_refl _) (.cells #[.string (bs L.name), vs, .slice a L.els.length cap, vj, vg, vb] 28))
  obtain ⟨b, off, rfl, c0, _⟩ := hel w (Below.refl _ _) i x hx
  have hil := (List.getElem?_eq_some_iff.1 hx).1
  have hbl : b < w.heap.size := block_lt_of_cell c0
  have hlt : (i : Int) < (L.els.length : Int) := by omega
  obtain ⟨nm, kd, ln, gr, sp, sl, sc⟩ := x
  simp only at c0
  unfold layV
  clear h hel hx
  go_enter Tryz.func21, Tryz.ntmps21
  go_wp2_with fail
  go_ret
  exact ⟨rfl, HB.out⟩

theorem src_strs {w : World} {v : Value} {ss : List (List UInt8)} (h : Strs (In w) w v ss) : ∃ a cap, v = .slice a ss.length cap ∧ ∀ b off, a = some ⟨b, off, none⟩ → ∀ wr : World, wr.heap[b]? = w.heap[b]? → ∀ j u, (strV ss)[j]? = some u → wr.cell? ((⟨b, off, none⟩ : Addr).add j) = some u := by
  obtain ⟨a, cap, h1, _, _, _, h5⟩ := h.shape
  refine ⟨a, cap, h1, fun b off e wr hwr j u hu => ?_⟩
  obtain ⟨s, hs, rfl⟩ : ∃ s, ss[j]? = some s ∧ .string (bs s) = u := by simpa [strV] using hu
  obtain ⟨_, b', off', e', _, hc⟩ := h5 j s hs
  rw [e] at e'
  cases e'
  rw [Lnam.add_mk, cell_same hwr]
  exact hc
theorem empty_own (w : World) (e : TypeId) : (w.alloc (.cells #[] e)).ownsRow w.heap.size e 1 (.slice (some ⟨w.heap.size, 0, none⟩) 0 0) 0 [] :=
  World.ownsRow_lit w #[] 0 (Nat.le_refl _) (by unfold maxLen; omega) (by simp)

/-- What holds at the head of the loop over the numbers. -/
def NRel (ws : List (List UInt8)) (ns : List Int) (w : World) (vo vi : Value) (wr : World) : Prop :=
  ∃ i : Nat, vi = .int .i64 (i : Int) ∧ i ≤ ns.length ∧ OwnS w.heap.size wr vo (ws ++ (ns.take i).map itoa) ∧ Below w.heap.size w wr

set_option maxRecDepth 100000 in
set_option maxHeartbeats 1600000 in
theorem rline_any {vw vn : Value} {ws : List (List UInt8)} {ns : List Int} (w : World) (hw : Strs (In w) w vw ws) (hne : 0 < ws.length) (hw7 : ws.length ≤ 7) (hn : Reads w.heap.size w vn ns) (hn7 : ns.length ≤ 7) :
    Calls Tryz.prog 23 #[vw, vn] w (FreshOut (ws ++ ns.map itoa) w) := by
  obtain ⟨a, cap, rfl, hsrc⟩ := src_strs hw
  have hwl := hw.2
  obtain ⟨a', cap', he, _, _, _, hw5⟩ := hw.shape
  cases he
  obtain ⟨s0, hs0⟩ := at_lt hne
  obtain ⟨_, b, off, rfl, hbl, _⟩ := hw5 0 s0 hs0
  obtain ⟨na, ncap, rfl, hnm, hnc⟩ := ints_shape hn
  have hnw := hn.wf
  have HSRC := Lib.hid (hsrc b off rfl)
  have HWL := Lib.hid hwl
  have HNC := Lib.hid hnc
  have HNW := Lib.hid hnw
  have hbl2 : b < w.heap.size := hbl
  obtain ⟨j0, hi, hz0, hz1, hz2⟩ := info_parts infoS
  have HJ := Lib.hid hi
  have HY0 := Lib.hid hz0
  have HY1 := Lib.hid hz1
  have HY2 := Lib.hid hz2
  clear hi hz0 hz1 hz2 hw hn hsrc hwl hnc hnw hw5 hs0 hbl
  have b0 := Lib.hid ((Below.refl w.heap.size w).alloc (Nat.le_refl _) (.cells #[] 9))
  go_enter Tryz.func23, Tryz.ntmps23
  go_wp2_with (at_builtin; refine wpList_append_own_at _ rfl (.tmp 7) (.tmp 8) 22 rfl w.heap.size 9 j0 (.string ByteArray.empty) 1 16 Tryz.underlying22 HJ.out HY0.out HY1.out HY2.out rfl (by decide) _ _ _ rfl (empty_own w _) ⟨b, off, none⟩ ws.length cap (strV ws) rfl (by rw [strV_len]; omega) (HSRC.out _ (b0.out.block b hbl2)) (Lnam.strV_one _) (by unfold maxLen; omega) (by omega) (by simp) ?_; intro v1 w1 h1own hg1 _ _; have R1 := Lib.hid h1own; have R2 := Lib.hid hg1; clear h1own hg1)
  have B1 := Lib.hid (b0.out.grown R2.out (by simp) (fun g hg => ((empty_own w 9).lt g hg).1))
  have O1 : Hid (OwnS w.heap.size w1 v1 ws) := ⟨by have := R1.out; rwa [Nat.zero_add, List.nil_append] at this, HWL.out⟩
  clear R1 R2
  go_loopw [5, 6] (fun vo vi wr => NRel ws ns w vo vi wr) (fun _ vi _ => ns.length - (RowKit.intOf vi).toNat)
  case atStart => exact ⟨0, rfl, Nat.zero_le _, by simpa using O1.out, B1.out⟩
  case round =>
    obtain ⟨i, rfl, hi, ho, hb⟩ := hrel
    have HO := Lib.hid ho
    have HB := Lib.hid hb
    clear ho hb
    by_cases hl : i < ns.length
    · obtain ⟨x, hx⟩ := at_lt hl
      obtain ⟨nb, noff, rfl, hnb, hc⟩ := HNC.out i x hx
      have g1 := (HB.out.cell (p := ⟨nb, noff + i, none⟩) hnb).trans hc
      obtain ⟨wf0, wf1⟩ := wf_bounds (HNW.out x (List.mem_of_getElem? hx))
      have HF := Lib.hid (fun w => rformat_any x w wf0 wf1)
      have HT := Lib.hid (show ws ++ (ns.take (i + 1)).map itoa = (ws ++ (ns.take i).map itoa) ++ [itoa x] by
        obtain ⟨_, rfl⟩ := List.getElem?_eq_some_iff.1 hx
        rw [List.take_succ_eq_append_getElem hl, List.map_append, List.append_assoc]
        rfl)
      have HL : Hid ((itoa x).length ≤ maxLen) := by
        have := itoa_length_le x wf0 wf1
        show _ ≤ _
        unfold maxLen
        omega
      have HLN := Lib.hid (show (ws ++ (ns.take i).map itoa).length ≤ 14 by rw [List.length_append, List.length_map, List.length_take]; omega)
      clear hc hx wf0 wf1
      obtain ⟨ss, hss⟩ : ∃ ss, ws ++ (ns.take i).map itoa = ss := ⟨_, rfl⟩
      rw [hss] at HO HT HLN
      obtain ⟨t, ht⟩ : ∃ t, itoa x = t := ⟨_, rfl⟩
      rw [ht] at HF HT HL
      clear hss ht
      go_wp2_with fail
      refine (HF.out _).mono ?_
      rintro e w' ⟨rfl, rfl⟩
      go_wp2_with (at_builtin; refine wpList_append_own_at _ rfl (.tmp 16) (.tmp 22) 22 rfl w.heap.size 9 j0 (.string ByteArray.empty) 1 16 Tryz.underlying22 HJ.out HY0.out HY1.out HY2.out rfl (by decide) _ _ _ rfl (HO.out.1.alloc _) ⟨w'.heap.size, 0, none⟩ 1 1 [.string (bs t)] rfl rfl (by simpa using cell_one_new w' (.string (bs t)) 9) (by intro u hu; simp at hu; subst hu; rfl) (by have := HLN.out; unfold maxLen; omega) (by have := HLN.out; omega) (by have := HB.out.size; simp; omega) ?_; intro v2 w2 h1own hg1 _ _; have R1 := Lib.hid h1own; have R2 := Lib.hid hg1; clear h1own hg1)
      go_roundw
      case rel => exact ⟨i + 1, by simp, by omega, by
        rw [HT.out]
        refine ⟨by rw [strV_snoc, List.length_append]; exact R1.out, fun s hs => ?_⟩
        rcases List.mem_append.1 hs with hs | hs
        · exact HO.out.2 s hs
        · rw [List.mem_singleton.1 hs]; exact HL.out, (HB.out.alloc HB.out.size _).grown R2.out (by have := HB.out.size; simp; omega) (fun g hg => (HO.out.1.lt g hg).1)⟩
      case measure => simp [RowKit.intOf]; omega
    · have he : i = ns.length := by omega
      subst he
      have HT := Lib.hid (show ws ++ (ns.take ns.length).map itoa = ws ++ ns.map itoa by rw [List.take_length])
      rw [HT.out] at HO
      clear HT
      obtain ⟨A1, C1, rfl⟩ := Lnmd.own_len HO.out.1
      go_wp2_with fail
      go_ret
      exact ⟨_, rfl, ⟨_, _, _, rfl⟩, ⟨row_own (by rw [strV_len]; exact HO.out.1) (fun g hg hlt => ⟨(HO.out.1.lt g hg).1, hlt⟩), HO.out.2⟩, HB.out⟩

/-! An element's line. -/
theorem three_at (w : World) (s0 s1 s2 : List UInt8) (T : TypeId) (o : Obj) (h0 : s0.length ≤ maxLen) (h1 : s1.length ≤ maxLen) (h2 : s2.length ≤ maxLen) :
    Strs (In ((w.alloc (.cells #[.string (bs s0), .string (bs s1), .string (bs s2)] T)).alloc o)) ((w.alloc (.cells #[.string (bs s0), .string (bs s1), .string (bs s2)] T)).alloc o) (.slice (some ⟨w.heap.size, 0, none⟩) 3 3) [s0, s1, s2] :=
  (strs_fresh [s0, s1, s2] (T := T) (w := w) (cs := #[.string (bs s0), .string (bs s1), .string (bs s2)]) (n := 3) rfl rfl (by unfold maxLen; omega) (fun s hs => by
    simp only [List.mem_cons, List.not_mem_nil, or_false] at hs
    rcases hs with rfl | rfl | rfl
    · exact h0
    · exact h1
    · exact h2)).keep (keep_next ((Below.refl _ _).alloc (Nat.le_refl _) o))
theorem ints_at_end (w : World) (xs : List Int) (cs : Array Value) (T : TypeId) (n : Nat) (hcs : cs = (xs.map (Value.int .i64)).toArray) (hn : n = xs.length) (hm : n ≤ maxLen) (hw : ∀ x ∈ xs, (Lit.int .i64 x).wf = true) :
    Reads (w.alloc (.cells cs T)).heap.size (w.alloc (.cells cs T)) (.slice (some ⟨w.heap.size, 0, none⟩) n n) xs := by
  subst hcs hn
  refine ⟨_, _, rfl, Nat.le_refl _, hm, hw, .inr ⟨w.heap.size, 0, rfl, by simp, fun j hj => ?_⟩⟩
  rw [World.cell?_alloc_at _ _ _ _ rfl]
  simp [List.getElem?_eq_getElem hj, List.getD_eq_getElem?_getD]
theorem wf_of {n : Int} (h0 : -1000000 ≤ n) (h1 : n ≤ 1000000) : (Lit.int .i64 n).wf = true := WalkArith.wf_i64 (by omega)

set_option maxRecDepth 100000 in
set_option maxHeartbeats 1600000 in
theorem relement_any (L : Lay) (x : Elem) {vs ve vj vg vb : Value} (w : World) (h : LayAt (In w) w L vs ve vj vg vb) (hg : Fine L) (hx : x ∈ L.els) :
    Calls Tryz.prog 20 #[layV L vs ve vj vg vb, elV x] w (FreshOut (elL L x) w) := by
  obtain ⟨i, s, hi, hs⟩ := hg.sec x hx
  obtain ⟨⟨a1, a2⟩, ⟨a3, a4⟩, ⟨a5, a6⟩, ⟨a7, a8⟩, _⟩ := hg.nums x hx
  have hsn : secName L x.sec = s := by unfold secName; rw [hi, Int.toNat_natCast, hs]; rfl
  obtain ⟨a, cap, rfl, hm, hsc⟩ := h.sn
  obtain ⟨b, off, rfl, c0⟩ := hsc w (Below.refl _ _) i s hs
  have hil := (List.getElem?_eq_some_iff.1 hs).1
  have hsl := h.secs.2 s (List.mem_of_getElem? hs)
  have hnl := h.elName x hx
  have hbl : b < w.heap.size := block_lt_of_cell c0
  have hlt : (i : Int) < (L.secs.length : Int) := by omega
  have q1 := wf_of a1 a2
  have q2 := wf_of a3 a4
  have q3 := wf_of a5 a6
  have q4 := wf_of a7 a8
  have HQ : Hid (∀ n ∈ [x.len, x.grade, x.speed, x.slow], (Lit.int .i64 n).wf = true) := by
    intro n hn
    simp only [List.mem_cons, List.not_mem_nil, or_false] at hn
    rcases hn with rfl | rfl | rfl | rfl
    · exact q1
    · exact q2
    · exact q3
    · exact q4
  have HQ3 : Hid (∀ n ∈ [x.len, x.grade, x.speed], (Lit.int .i64 n).wf = true) := by
    intro n hn
    simp only [List.mem_cons, List.not_mem_nil, or_false] at hn
    rcases hn with rfl | rfl | rfl
    · exact q1
    · exact q2
    · exact q3
  have HSL := Lib.hid hsl
  have HNL := Lib.hid hnl
  have HD := Lib.hid (show elL L x = (if x.kind = 2 then [kPts, x.name, s] ++ [x.len, x.grade, x.speed, x.slow].map itoa else [if x.kind = 3 then kCrs else kTrk, x.name, s] ++ [x.len, x.grade, x.speed].map itoa) by
    unfold elL
    rw [hsn]
    rfl)
  rw [HD.out]
  have B2 := Lib.hid (((Below.refl w.heap.size w).alloc (Nat.le_refl _) (.cells #[.string (bs L.name), .slice (some ⟨b, off, none⟩) L.secs.length cap, ve, vj, vg, vb] 28)).alloc (by simp) (.cells #[.string (bs x.name), .int .i64 x.kind, .int .i64 x.len, .int .i64 x.grade, .int .i64 x.speed, .int .i64 x.slow, .int .i64 x.sec] 45))
  obtain ⟨nm, kd, ln, gr, sp, sl, sc⟩ := x
  simp only at hi HQ HQ3 HNL B2 ⊢
  subst hi
  unfold layV elV
  simp only
  clear h hg hx hsc hsn hsl hnl q1 q2 q3 q4 HD hs
  obtain ⟨W2, hW2⟩ : ∃ W2, (w.alloc (.cells #[.string (bs L.name), .slice (some ⟨b, off, none⟩) L.secs.length cap, ve, vj, vg, vb] 28)).alloc (.cells #[.string (bs nm), .int .i64 kd, .int .i64 ln, .int .i64 gr, .int .i64 sp, .int .i64 sl, .int .i64 (i : Int)] 45) = W2 := ⟨_, rfl⟩
  rw [hW2] at B2
  have HW2 := Lib.hid hW2
  clear hW2
  have HS2 := Lib.hid (show W2.heap.size = w.heap.size + 1 + 1 by rw [← HW2.out]; simp)
  by_cases hk2 : kd = 2
  · subst hk2
    rw [if_pos rfl]
    have HC := Lib.hid (rline_any (ws := [kPts, nm, s]) (ns := [ln, gr, sp, sl]) _ (three_at W2 kPts nm s 9 (.cells #[.int .i64 ln, .int .i64 gr, .int .i64 sp, .int .i64 sl] 3) (by decide) HNL.out HSL.out) (by simp) (by simp) (ints_at_end _ [ln, gr, sp, sl] _ _ 4 rfl rfl (by unfold maxLen; omega) HQ.out) (by simp))
    have B4 := Lib.hid ((B2.out.alloc B2.out.size (.cells #[.string (bs kPts), .string (bs nm), .string (bs s)] 9)).alloc (by have := B2.out.size; simp; omega) (.cells #[.int .i64 ln, .int .i64 gr, .int .i64 sp, .int .i64 sl] 3))
    rw [show (W2.alloc (.cells #[.string (bs kPts), .string (bs nm), .string (bs s)] 9)).heap.size = w.heap.size + 1 + 1 + 1 by simp [HS2.out], HS2.out] at HC
    go_enter Tryz.func20, Tryz.ntmps20
    go_wp2_with fail
    rw [HW2.out]
    refine HC.out.mono ?_
    rintro e w' ⟨v, rfl, ⟨va, vn, vc, rfl⟩, hst, hb⟩
    have HST := Lib.hid hst
    have HBE := Lib.hid hb
    clear hst hb
    go_wp2_with fail
    go_ret
    exact ⟨_, rfl, ⟨_, _, _, rfl⟩, HST.out.keep fun b hb => ⟨⟨Nat.le_trans B4.out.size hb.1, hb.2⟩, rfl⟩, bel_next B4.out HBE.out⟩
  · rw [if_neg hk2]
    have q2 : (kd == 2) = false := by simpa using hk2
    by_cases hk3 : kd = 3
    · subst hk3
      rw [if_pos rfl]
      have HC := Lib.hid (rline_any (ws := [kCrs, nm, s]) (ns := [ln, gr, sp]) _ (three_at W2 kCrs nm s 9 (.cells #[.int .i64 ln, .int .i64 gr, .int .i64 sp] 3) (by decide) HNL.out HSL.out) (by simp) (by simp) (ints_at_end _ [ln, gr, sp] _ _ 3 rfl rfl (by unfold maxLen; omega) HQ3.out) (by simp))
      have B4 := Lib.hid ((B2.out.alloc B2.out.size (.cells #[.string (bs kCrs), .string (bs nm), .string (bs s)] 9)).alloc (by have := B2.out.size; simp; omega) (.cells #[.int .i64 ln, .int .i64 gr, .int .i64 sp] 3))
      rw [show (W2.alloc (.cells #[.string (bs kCrs), .string (bs nm), .string (bs s)] 9)).heap.size = w.heap.size + 1 + 1 + 1 by simp [HS2.out], HS2.out] at HC
      clear hk2
      go_enter Tryz.func20, Tryz.ntmps20
      go_wp2_with fail
      rw [HW2.out]
      refine HC.out.mono ?_
      rintro e w' ⟨v, rfl, ⟨va, vn, vc, rfl⟩, hst, hb⟩
      have HST := Lib.hid hst
      have HBE := Lib.hid hb
      clear hst hb
      go_wp2_with fail
      go_ret
      exact ⟨_, rfl, ⟨_, _, _, rfl⟩, HST.out.keep fun b hb => ⟨⟨Nat.le_trans B4.out.size hb.1, hb.2⟩, rfl⟩, bel_next B4.out HBE.out⟩
    · rw [if_neg hk3]
      have q3 : (kd == 3) = false := by simpa using hk3
      have HC := Lib.hid (rline_any (ws := [kTrk, nm, s]) (ns := [ln, gr, sp]) _ (three_at W2 kTrk nm s 9 (.cells #[.int .i64 ln, .int .i64 gr, .int .i64 sp] 3) (by decide) HNL.out HSL.out) (by simp) (by simp) (ints_at_end _ [ln, gr, sp] _ _ 3 rfl rfl (by unfold maxLen; omega) HQ3.out) (by simp))
      have B4 := Lib.hid ((B2.out.alloc B2.out.size (.cells #[.string (bs kTrk), .string (bs nm), .string (bs s)] 9)).alloc (by have := B2.out.size; simp; omega) (.cells #[.int .i64 ln, .int .i64 gr, .int .i64 sp] 3))
      rw [show (W2.alloc (.cells #[.string (bs kTrk), .string (bs nm), .string (bs s)] 9)).heap.size = w.heap.size + 1 + 1 + 1 by simp [HS2.out], HS2.out] at HC
      clear hk2 hk3
      go_enter Tryz.func20, Tryz.ntmps20
      go_wp2_with fail
      rw [HW2.out]
      refine HC.out.mono ?_
      rintro e w' ⟨v, rfl, ⟨va, vn, vc, rfl⟩, hst, hb⟩
      have HST := Lib.hid hst
      have HBE := Lib.hid hb
      clear hst hb
      go_wp2_with fail
      go_ret
      exact ⟨_, rfl, ⟨_, _, _, rfl⟩, HST.out.keep fun b hb => ⟨⟨Nat.le_trans B4.out.size hb.1, hb.2⟩, rfl⟩, bel_next B4.out HBE.out⟩

end Go.Proofs.YtfdipcphohhlgaaGreatDoor.Rpla

/- Lines put behind lines: what the reference's Print wants. -/
namespace Go.Proofs.YtfdipcphohhlgaaGreatDoor.Rpre
open Go.RowKit Go.Lib Go.Proofs.YtfdipcphohhlgaaGreatDoor.Numt Go.Proofs.YtfdipcphohhlgaaGreatDoor.Reads Go.Proofs.YtfdipcphohhlgaaGreatDoor.Rows2 Go.Proofs.YtfdipcphohhlgaaGreatDoor.Lay Go.Proofs.YtfdipcphohhlgaaGreatDoor.Layf Go.Proofs.YtfdipcphohhlgaaGreatDoor.Ldup Go.Proofs.YtfdipcphohhlgaaGreatDoor.Plnf Go.Proofs.YtfdipcphohhlgaaGreatDoor.Plnc Go.Proofs.YtfdipcphohhlgaaGreatDoor.Ownl Go.Proofs.YtfdipcphohhlgaaGreatDoor.Linw
open Go.Proofs.YtfdipcphohhlgaaGreatDoor.Text hiding lineL joinR

theorem fresh_line (ss : List (List UInt8)) {T : TypeId} {w : World} {cs : Array Value} {n : Nat} (hcs : cs = (strV ss).toArray) (hn : n = ss.length) (hm : n ≤ maxLen) (hs : ∀ s ∈ ss, s.length ≤ maxLen) :
    Strs (fun b => w.heap.size ≤ b ∧ b < (w.alloc (.cells cs T)).heap.size) (w.alloc (.cells cs T)) (.slice (some ⟨w.heap.size, 0, none⟩) n n) ss := by
  obtain ⟨⟨a, cap, h1, h2, h3, h4⟩, h5⟩ := strs_fresh ss (T := T) (w := w) hcs hn hm hs
  refine ⟨⟨a, cap, h1, h2, h3, h4.imp id fun ⟨b, off, e, hb, hc⟩ => ⟨b, off, e, ⟨?_, hb⟩, hc⟩⟩, h5⟩
  rw [e] at h1
  simp only [Value.slice.injEq, Option.some.injEq] at h1
  have hb1 : w.heap.size = b := congrArg Addr.block h1.1
  rw [hb1]
  exact Nat.le_refl _
/-- The first line. -/
theorem own_start {w : World} {B : Nat} (hB : B ≤ w.heap.size) (ss : List (List UInt8)) {T : TypeId} {cs : Array Value} {n : Nat} (hcs : cs = (strV ss).toArray) (hn : n = ss.length) (hm : n ≤ maxLen) (hs : ∀ s ∈ ss, s.length ≤ maxLen) :
    OwnL B ((w.alloc (.cells cs T)).alloc (.cells #[.slice (some ⟨w.heap.size, 0, none⟩) n n] 22)) (.slice (some ⟨w.heap.size + 1, 0, none⟩) 1 1) [ss] none := by
  have hf := fresh_line ss (T := T) (w := w) hcs hn hm hs
  have hz : (w.alloc (.cells cs T)).heap.size = w.heap.size + 1 := by simp
  rw [← hz]
  refine ⟨[.slice (some ⟨w.heap.size, 0, none⟩) n n], World.ownsRow_lit _ #[.slice (some ⟨w.heap.size, 0, none⟩) n n] 1 (by omega) (by unfold maxLen; omega) rfl, .inr (by simp [Value.ownBlock]), fun j x l hx hl => ?_⟩
  have hj : j = 0 := by
    have := (List.getElem?_eq_some_iff.1 hx).1
    simp at this
    omega
  subst hj
  simp at hx hl
  subst hx hl
  refine hf.keep fun b hb => ⟨⟨?_, ?_, by simp⟩, ?_⟩
  · have := hb.2
    simp at this ⊢
    omega
  · have := hb.2
    show some b ≠ some _
    simp
    simp at this
    omega
  · exact ((Below.refl _ (w.alloc (.cells cs T))).alloc (Nat.le_refl _) _).block b hb.2

/-- All but one block is as it was. -/
def Off (v : Value) (w w' : World) : Prop := ∀ k, k < w.heap.size → some k ≠ v.ownBlock → w'.heap[k]? = w.heap[k]?
theorem off_below {v : Value} {w w' : World} (h : Below w.heap.size w w') : Off v w w' := fun k hk _ => h.block k hk
theorem Off.trans {v : Value} {w w' w'' : World} (h : Off v w w') (hs : w.heap.size ≤ w'.heap.size) (k : Off v w' w'') : Off v w w'' := fun j hj hn => (k j (Nat.lt_of_lt_of_le hj hs) hn).trans (h j hj hn)
theorem Off.cell {v : Value} {w w' : World} (h : Off v w w') {p : Addr} (hp : p.block < w.heap.size) (hn : some p.block ≠ v.ownBlock) : w'.cell? p = w.cell? p := cell_same (h _ hp hn)

/-- A line behind the others, in a region that draws its order. -/
theorem step_append_line {P : Program} {ops : Array Oper} {o : Oper} {a : Act} {wr : World} {K : Act → World → Prop} {Q : Exit → Act → World → Prop} {E : Prop}
    (hg : o.guard = none) (s x : Operand) (t : TypeId) (hop : o.op = Op.call { callee := Callee.builtin Builtin.append, args := #[s, x], argTypes := #[t, t] })
    (W : World) (i : TypeInfo) (ht : P.underlying t = some (.slice 22)) (hi : P.info? 22 = some i) (hz : i.zero = some (.slice none 0 0)) (hsize : i.size = 1) (hby : i.bytes = 24)
    {v xv : Value} {ls : List (List (List UInt8))} {l : List (List UInt8)} {T : TypeId} {g : Nat} (hs : a.eval s = v) (hx : a.eval x = .slice (some ⟨g, 0, none⟩) 1 1) (hgs : g = wr.heap.size) (hx1 : xv.oneCell' = true)
    (ho : OwnL W.heap.size wr v ls none) (hl : Strs (fun b => b < wr.heap.size ∧ some b ≠ v.ownBlock) wr xv l) (hb : Below W.heap.size W wr) (hn : ls.length ≤ 400)
    (h : ∀ v' w', OwnL W.heap.size w' v' (ls ++ [l]) none → Below W.heap.size W w' → Off v wr w' → K (a.put o.dst v') w') :
    if Region.wanted o (yielded ops a.tmps) = true then Oper.wp P o a (wr.alloc (.cells #[xv] T)) K Q else E := by
  subst hgs
  have hw : Region.wanted o (yielded ops a.tmps) = true := by simp [Region.wanted, hg]
  rw [if_pos hw]
  have hlt := own_lt ho
  obtain ⟨xs, h1, h2, h3⟩ := ho
  obtain ⟨v', w', hr, q2, q3, _, q5⟩ := run_append_own_at (P := P) (wr.alloc (.cells #[xv] T)) W.heap.size t o.type 22 i (.slice none 0 0) 1 24 ht hi hz hsize hby rfl (by decide) v ls.length xs (h1.alloc _) ⟨wr.heap.size, 0, none⟩ 1 1 [xv] rfl (cell_one_new _ _ _) (by intro u hu; simp at hu; subst hu; exact hx1) (by unfold maxLen; omega) (by omega) (by have := hb.size; simp; omega)
  have hq := ownL_push hl q2 h3 q3 q5
  have hbe := grown_end hb (fun g hg => (hlt g hg).1) q3
  unfold Oper.wp execOp
  simp only [hop, resolve, invoke, builtin, Sem.run_bind, Sem.run_pure, Result.andThen_ok, List.map_toArray, List.map_cons, List.map_nil, hs, hx, hr]
  refine h v' w' hq hbe fun k hk hne => ?_
  rw [q3.block k (by simp; omega) hne]
  exact ((Below.refl _ wr).alloc (Nat.le_refl _) (.cells #[xv] T)).block k hk

theorem cell_two_new (w : World) (o : Obj) (x : Value) (T : TypeId) : ∀ j u, [x][j]? = some u → ((w.alloc o).alloc (.cells #[x] T)).cell? ((⟨w.heap.size + 1, 0, none⟩ : Addr).add j) = some u := by
  have h := cell_one_new (w.alloc o) x T
  rwa [show (w.alloc o).heap.size = w.heap.size + 1 by simp] at h

/-! Where a layout's lines stand. -/
theorem at_sec {L : Lay} {i : Nat} {s : List UInt8} (h : L.secs[i]? = some s) : (linesOf L)[1 + i]? = some (scL s) := by
  have hi := (List.getElem?_eq_some_iff.1 h).1
  unfold linesOf
  rw [show 1 + i = i + 1 by omega, List.getElem?_cons_succ, List.getElem?_append_left (by simpa using hi), List.getElem?_map, h]
  rfl
theorem at_el {L : Lay} {i : Nat} {x : Elem} (h : L.els[i]? = some x) : (linesOf L)[1 + L.secs.length + i]? = some (elL L x) := by
  have hi := (List.getElem?_eq_some_iff.1 h).1
  unfold linesOf
  rw [show 1 + L.secs.length + i = (L.secs.length + i) + 1 by omega, List.getElem?_cons_succ, List.getElem?_append_right (by simp), List.length_map, Nat.add_sub_cancel_left, List.getElem?_append_left (by simpa using hi), List.getElem?_map, h]
  rfl
theorem at_jt {L : Lay} {i : Nat} {x : (Int × Int) × (Int × Int)} (h : L.joints[i]? = some x) : (linesOf L)[1 + L.secs.length + L.els.length + i]? = some (jtL L x) := by
  have hi := (List.getElem?_eq_some_iff.1 h).1
  unfold linesOf
  rw [show 1 + L.secs.length + L.els.length + i = (L.secs.length + (L.els.length + i)) + 1 by omega, List.getElem?_cons_succ, List.getElem?_append_right (by simp), List.length_map, Nat.add_sub_cancel_left, List.getElem?_append_right (by simp), List.length_map, Nat.add_sub_cancel_left, List.getElem?_append_left (by simpa using hi), List.getElem?_map, h]
  rfl
theorem at_sg {L : Lay} {i : Nat} {x : Sig} (h : L.sigs[i]? = some x) : (linesOf L)[1 + L.secs.length + L.els.length + L.joints.length + i]? = some (sgL L x) := by
  have hi := (List.getElem?_eq_some_iff.1 h).1
  unfold linesOf
  rw [show 1 + L.secs.length + L.els.length + L.joints.length + i = (L.secs.length + (L.els.length + (L.joints.length + i))) + 1 by omega, List.getElem?_cons_succ, List.getElem?_append_right (by simp), List.length_map, Nat.add_sub_cancel_left, List.getElem?_append_right (by simp), List.length_map, Nat.add_sub_cancel_left, List.getElem?_append_right (by simp), List.length_map, Nat.add_sub_cancel_left, List.getElem?_append_left (by simpa using hi), List.getElem?_map, h]
  rfl
theorem at_bl {L : Lay} {i : Nat} {x : Bal} (h : L.bals[i]? = some x) : (linesOf L)[1 + L.secs.length + L.els.length + L.joints.length + L.sigs.length + i]? = some (blL L x) := by
  unfold linesOf
  rw [show 1 + L.secs.length + L.els.length + L.joints.length + L.sigs.length + i = (L.secs.length + (L.els.length + (L.joints.length + (L.sigs.length + i)))) + 1 by omega, List.getElem?_cons_succ, List.getElem?_append_right (by simp), List.length_map, Nat.add_sub_cancel_left, List.getElem?_append_right (by simp), List.length_map, Nat.add_sub_cancel_left, List.getElem?_append_right (by simp), List.length_map, Nat.add_sub_cancel_left, List.getElem?_append_right (by simp), List.length_map, Nat.add_sub_cancel_left, List.getElem?_map, h]
  rfl
theorem take_line {α : Type} {l : List α} {k : Nat} {x : α} (h : l[k]? = some x) : l.take (k + 1) = l.take k ++ [x] := by
  obtain ⟨hk, rfl⟩ := List.getElem?_eq_some_iff.1 h
  exact List.take_succ_eq_append_getElem hk
theorem el_name' {L : Lay} {i : Nat} {x : Elem} (h : L.els[i]? = some x) : elName L (i : Int) = x.name := by
  unfold elName
  rw [Int.toNat_natCast, h]
  rfl

/-- What holds at the head of each loop: the lines up to the k-th and i more. -/
def PRel (W : World) (all : List (List (List UInt8))) (k n : Nat) (vo vi : Value) (wr : World) : Prop :=
  ∃ i : Nat, vi = .int .i64 (i : Int) ∧ i ≤ n ∧ OwnL W.heap.size wr vo (all.take (k + i)) none ∧ Below W.heap.size W wr

end Go.Proofs.YtfdipcphohhlgaaGreatDoor.Rpre

/- A strings.Builder that the call has made: copyCheck and WriteString, walked at this program (the body of copyCheck bears a refused statement here, so the library's laying does not fit), and String as the library has it. -/
namespace Go.Proofs.YtfdipcphohhlgaaGreatDoor.Bldw
open Go.RowKit Go.Lib Go.Proofs.YtfdipcphohhlgaaGreatDoor.Text

theorem infoB : (Tryz.prog.info? 5).map (fun i => (i.zero, i.size, i.bytes)) = some (some (.int .u8 0), 1, 1) := by kernel_rfl
theorem sizeBuilder : (Tryz.prog.info? 82).map (·.size) = some 2 := by kernel_rfl
theorem liesBuilder : liesAt Tryz.prog Tryz.prog.depth 82 (2 / Tryz.prog.cellsOf 82) 0 82 1 = true := by kernel_rfl

set_option maxRecDepth 100000 in
theorem check_used (b : Nat) (w : World) (h0 : w.cell? ⟨b, 0, none⟩ = some (.pointer (some ⟨b, 0, none⟩))) :
    Calls Tryz.prog 91 #[.pointer (some ⟨b, 0, none⟩)] w fun e w' => e = .returned (.tuple #[]) ∧ w = w' := by
  obtain ⟨j, hj, _⟩ := Option.map_eq_some_iff.1 sizeBuilder
  have HJ := Lib.hid hj
  clear hj
  go_enter Tryz.func91, Tryz.ntmps91
  go_wp2
  rw [Lib.run_neq_ptr_same w _ Tryz.underlying79 HJ.out]
  go_wp2
  go_end0
  exact ⟨rfl, rfl⟩

set_option maxRecDepth 100000 in
theorem check_fresh (b : Nat) (w : World) (h0 : w.cell? ⟨b, 0, none⟩ = some (.pointer none)) (hsh : w.shape? b = some (82, 2)) (hfz : w.frozen? ⟨b, 0, none⟩ = false) :
    Calls Tryz.prog 91 #[.pointer (some ⟨b, 0, none⟩)] w fun e w' => e = .returned (.tuple #[]) ∧ w' = w.setCell ⟨b, 0, none⟩ (.pointer (some ⟨b, 0, none⟩)) := by
  obtain ⟨j, hj, hjs⟩ := Option.map_eq_some_iff.1 sizeBuilder
  have HJ := Lib.hid hj
  have HJS := Lib.hid hjs
  have HSH := Lib.hid hsh
  clear hj hjs hsh
  go_enter Tryz.func91, Tryz.ntmps91
  go_wp2
  rw [Lib.run_to_unsafe w ⟨b, 0, none⟩ Tryz.underlying79 Tryz.underlying142 HJ.out (by rw [HJS.out]; decide) HSH.out (Nat.zero_lt_succ 1)]
  simp only [Result.andThen]
  rw [Oper.upon_value]
  go_wp2
  rw [run_callFunc_extern Tryz.func133 (by kernel_rfl) (by kernel_rfl) (by kernel_rfl) (e := Extern.AbiNoEscape.same) (by kernel_rfl)]
  rw [Lib.run_noEscape]
  simp only [Result.andThen]
  rw [Oper.upon_value]
  go_wp2
  rw [Lib.run_from_unsafe w ⟨b, 0, none⟩ Tryz.underlying142 Tryz.underlying79 HJ.out HSH.out liesBuilder]
  simp only [Result.andThen]
  rw [Oper.upon_value]
  go_wp2
  go_end0
  exact ⟨rfl, rfl⟩

theorem check_any (B b : Nat) (bs : List Value) (w : World) (h : Lib.IsBuilder 82 5 B b bs w) :
    Calls Tryz.prog 91 #[.pointer (some ⟨b, 0, none⟩)] w fun e w' => e = .returned (.tuple #[]) ∧ Lib.BuilderAt 82 5 B b (.pointer (some ⟨b, 0, none⟩)) bs w' ∧ Below B w w' := by
  rcases h with h | h
  · refine (check_fresh b w h.cell0 h.shape h.frozen0).mono ?_
    rintro e w' ⟨rfl, rfl⟩
    exact ⟨rfl, h.used _, (Below.refl B w).setCell (p := ⟨b, 0, none⟩) h.1 _⟩
  · refine (check_used b w h.cell0).mono ?_
    rintro e w' ⟨rfl, rfl⟩
    exact ⟨rfl, h, Below.refl B _⟩

/-- What a builder of the call's own holds behind a write. -/
def Wrote (B b : Nat) (bs : List Value) (n : Int) (w : World) (e : Ending) (w' : World) : Prop :=
  e = .returned (.tuple #[.int .i64 n, .nilIface]) ∧ Lib.IsBuilder 82 5 B b bs w' ∧ Below B w w'

theorem own_shape {w : World} {B n : Nat} {e : TypeId} {v : Value} {xs : List Value} (h : w.ownsRow B e 1 v n xs) : ∃ a m c, v = .slice a m c := by
  rcases h.2 with ⟨h, _⟩ | ⟨g, cap, cur, h, _⟩
  · exact ⟨_, _, _, h⟩
  · exact ⟨_, _, _, h⟩
theorem wrote_of {B b : Nat} {bs news : List Value} {n : Int} {w w1 w2 : World} {v v' : Value} (hB : B ≤ b) (hb2 : w2.heap[b]? = some (.cells #[.pointer (some ⟨b, 0, none⟩), v] 82 (0, 0))) {m : Nat} (hown : w2.ownsRow B 5 1 v' m (bs ++ news)) (hb1 : Below B w w1) (hg : w1.grownBy w2 v.ownBlock)
    (_hne : v.ownBlock ≠ some b) (hs : w.heap.size ≤ w1.heap.size) (hBw : B ≤ w.heap.size) (hk : ∀ k, v.ownBlock = some k → B ≤ k) : Wrote B b (bs ++ news) n w (.returned (.tuple #[.int .i64 n, .nilIface])) (w2.setCell ⟨b, 1, none⟩ v') := by
  have hm : m = (bs ++ news).length := by have := hown.1; omega
  subst hm
  exact ⟨rfl, .inr (Lib.BuilderAt.put hB hb2 hown (by decide)), (hb1.grown hg (Nat.le_trans hBw hs) hk).setCell (p := ⟨b, 1, none⟩) hB _⟩

set_option maxRecDepth 100000 in
set_option maxHeartbeats 800000 in
theorem write_any (B b : Nat) (bs : List Value) (s : ByteArray) (w : World) (h : Lib.IsBuilder 82 5 B b bs w) (hlen : bs.length + s.size ≤ 140737488355328) (hBw : B ≤ w.heap.size) :
    Calls Tryz.prog 45 #[.pointer (some ⟨b, 0, none⟩), .string s] w (Wrote B b (bs ++ Lib.strCells s) (s.size : Int) w) := by
  obtain ⟨i0, hi, hz0, hz1, hz2⟩ := info_parts infoB
  have HI := Lib.hid hi
  have HZ0 := Lib.hid hz0
  have HZ1 := Lib.hid hz1
  have HZ2 := Lib.hid hz2
  have HC := Lib.hid (check_any B b bs w h)
  have HL := Lib.hid hlen
  have HBW := Lib.hid hBw
  clear hi hz0 hz1 hz2 h hlen hBw
  go_enter Tryz.func45, Tryz.ntmps45
  go_wp2_with fail
  refine HC.out.mono ?_
  rintro e w1 ⟨rfl, h1, hb1⟩
  obtain ⟨hB, v, hbk, hown, hne⟩ := h1
  have HB := Lib.hid hB
  have HBK := Lib.hid hbk
  have HO := Lib.hid hown
  have HNE := Lib.hid hne
  have HB1 := Lib.hid hb1
  have HLT := Lib.hid (show b < w1.heap.size from (Array.getElem?_eq_some_iff.1 hbk).1)
  have c1 : w1.cell? ⟨b, 1, none⟩ = some v := by rw [Lib.cell_of_heap hbk]; rfl
  clear hB hbk hown hne hb1
  go_wp2_with (at_builtin; refine Lib.wpList_append_own_string _ rfl _ _ 80 9 rfl B 5 i0 Tryz.underlying80 Tryz.underlying9 HI.out HZ0.out HZ1.out HZ2.out _ _ _ rfl HO.out s rfl (by have := HL.out; unfold maxLen; omega) HL.out (Nat.le_trans HBW.out HB1.out.size) ?_; intro v' w2 hown' hgrow _; have HO2 := Lib.hid hown'; have HG2 := Lib.hid hgrow; have HBK2 := Lib.hid (show w2.heap[b]? = some (.cells #[.pointer (some ⟨b, 0, none⟩), v] 82 (0, 0)) from (hgrow.block b HLT.out (fun e => HNE.out e.symm)).trans HBK.out); have d1 : w2.cell? ⟨b, 1, none⟩ = some v := (by rw [Lib.cell_of_heap HBK2.out]; rfl); have f1 : w2.frozen? ⟨b, 1, none⟩ = false := Lib.frozen_of_heap HBK2.out 1; obtain ⟨ao, n2, cap, rfl⟩ := own_shape hown'; clear hown' hgrow)
  go_ret2
  exact wrote_of HB.out HBK2.out HO2.out HB1.out HG2.out HNE.out HB1.out.size HBW.out (fun k hk => (HO.out.lt k hk).1)

theorem builder_below {T e : TypeId} {B b : Nat} {bs : List Value} {w w' : World} (h : IsBuilder T e B b bs w) (hb : Below w.heap.size w w') : IsBuilder T e B b bs w' := by
  have key : ∀ p, BuilderAt T e B b p bs w → BuilderAt T e B b p bs w' := by
    intro p hp
    have hlt := hp.lt
    obtain ⟨h1, v, h2, h3, h4⟩ := hp
    exact ⟨h1, v, (hb.block b hlt).trans h2, h3.kept (row := none) ⟨hb.os, hb.tape, hb.output, hb.size, fun j hj _ => hb.block j hj⟩ (by cases hv : v.ownBlock <;> simp), h4⟩
  exact h.imp (key _) (key _)
theorem strCells_bs (l : List UInt8) : strCells (bs l) = byteCells l := by
  rw [strCells_eq]
  show byteCells l.toArray.toList = _
  simp

end Go.Proofs.YtfdipcphohhlgaaGreatDoor.Bldw

/- Join of words. -/
namespace Go.Proofs.YtfdipcphohhlgaaGreatDoor.Joinw
open Go.RowKit Go.Lib Go.Proofs.YtfdipcphohhlgaaGreatDoor.Text Go.Proofs.YtfdipcphohhlgaaGreatDoor.Kind Go.Proofs.YtfdipcphohhlgaaGreatDoor.Word Go.Proofs.YtfdipcphohhlgaaGreatDoor.Rword Go.Proofs.YtfdipcphohhlgaaGreatDoor.Reads Go.Proofs.YtfdipcphohhlgaaGreatDoor.Rows2 Go.Proofs.YtfdipcphohhlgaaGreatDoor.Samew Go.Proofs.YtfdipcphohhlgaaGreatDoor.Debw Go.Proofs.YtfdipcphohhlgaaGreatDoor.Ownl Go.Proofs.YtfdipcphohhlgaaGreatDoor.Linw Go.Proofs.YtfdipcphohhlgaaGreatDoor.Bldw Go.Proofs.YtfdipcphohhlgaaGreatDoor.Fmtw

theorem tail_len (c : UInt8) : ∀ ps : List (List UInt8), ps.length ≤ (tailL c ps).length
  | [] => Nat.zero_le _
  | p :: ps => by
    have := tail_len c ps
    simp only [tailL, List.map_cons, List.flatten_cons, List.length_append, List.length_cons] at this ⊢
    omega
theorem join_count (c : UInt8) : ∀ ps : List (List UInt8), ps.length ≤ (Lib.join ps [c]).length + 1
  | [] => by simp
  | p :: ps => by
    have := tail_len c ps
    rw [join_tail, List.length_append, List.length_cons]
    omega
theorem line_le {ls : List (List (List UInt8))} {l : List (List UInt8)} (h : l ∈ ls) : (Lib.join l [32]).length + 1 ≤ (joinT ls).length := by
  induction ls with
  | nil => cases h
  | cons x ls ih =>
    rw [joinT_cons, List.length_append]
    rcases List.mem_cons.1 h with rfl | h
    · have : (lineT l).length = (Lib.join l [32]).length + 1 := by simp [lineT]
      omega
    · have := ih h; omega
theorem take_le (ls : List (List (List UInt8))) (k : Nat) : (joinT (ls.take k)).length ≤ (joinT ls).length := by
  induction ls generalizing k with
  | nil => simp
  | cons x ls ih =>
    cases k with
    | zero => simp [joinT]
    | succ k =>
      rw [List.take_succ_cons, joinT_cons, joinT_cons, List.length_append, List.length_append]
      have := ih k
      omega
theorem take_at {ls : List (List (List UInt8))} {k : Nat} {l : List (List UInt8)} (h : ls[k]? = some l) : joinT (ls.take (k + 1)) = joinT (ls.take k) ++ lineT l := by
  rw [List.take_add_one, h]
  exact joinT_snoc _ _
theorem take_full {α : Type} {ls : List α} {k : Nat} (h : ¬ k < ls.length) : ls.take k = ls := List.take_of_length_le (by omega)

/-- strings.Join at one byte. -/
theorem joins_any (c : UInt8) {v : Value} {ws : List (List UInt8)} {w : World} (h : Strs (fun b => b < w.heap.size) w v ws) (h0 : ws ≠ []) (hj : (Lib.join ws [c]).length ≤ 1000000000000) :
    Calls Tryz.prog 46 #[v, .string ⟨#[c]⟩] w fun e w' => e = .returned (.string (bs (Lib.join ws [c]))) ∧ Below w.heap.size w w' := by
  have hcount := join_count c ws
  obtain ⟨⟨a, cap, rfl, h2, h3, h4⟩, _⟩ := h
  rw [strV_len] at h2 ⊢
  have hmap : (ws.map bs).map (·.data.toList) = ws := by
    rw [List.map_map]
    have : ((fun x : ByteArray => x.data.toList) ∘ bs) = id := by funext x; rfl
    rw [this, List.map_id]
  rcases h4 with h4 | ⟨b, off, rfl, hb, hc⟩
  · exact absurd (by simpa [strV] using h4) h0
  · have hlen : (ws.map bs).length = ws.length := by simp
    have := Tryz.strings_Join b off cap (ws.map bs) ⟨#[c]⟩ w (fun j x hx => by
      refine hc j _ ?_
      rw [List.getElem?_map] at hx
      obtain ⟨y, hy, rfl⟩ := Option.map_eq_some_iff.1 hx
      exact strV_at hy) hb (by rw [hlen]; omega) (by rw [hlen]; exact h2) (by rw [hmap]; show (Lib.join ws [c]).length ≤ _; omega)
    rw [hmap, hlen] at this
    exact this

/-- The answer of Join, as the call hands it back. -/
def joinV (ls : List (List (List UInt8))) : Value := .tuple #[.string (bs (joinR ls).1), .int .i64 ((joinR ls).2 : Int)]
theorem joinV_of {ls : List (List (List UInt8))} {t : (List UInt8)} {e : Nat} (h : joinR ls = (t, e)) : joinV ls = .tuple #[.string (bs t), .int .i64 (e : Int)] := by rw [joinV, h]
theorem join_bad {ls : List (List (List UInt8))} (h : ls.all lineL = false) : joinR ls = ([], 1) := by rw [joinR, if_pos h]
theorem join_long {ls : List (List (List UInt8))} (h : ls.all lineL = true) (hl : 32768 < (joinT ls).length) : joinR ls = ([], 2) := by rw [joinR, if_neg (by simp [h]), if_pos hl]
theorem join_good {ls : List (List (List UInt8))} (h : ls.all lineL = true) (hl : ¬ 32768 < (joinT ls).length) : joinR ls = (joinT ls, 0) := by rw [joinR, if_neg (by simp [h]), if_neg hl]
theorem line_ne {l : List (List UInt8)} (h : lineL l = true) : l ≠ [] := by
  simp only [lineL, Bool.and_eq_true, decide_eq_true_eq] at h
  exact h.1

/-- What holds at the head of the second loop. -/
def JRel (ls : List (List (List UInt8))) (w : World) (vi : Value) (wr : World) : Prop :=
  ∃ k : Nat, vi = .int .i64 k ∧ k ≤ ls.length ∧ (joinT (ls.take k)).length ≤ 32768 ∧ IsBuilder 82 5 w.heap.size w.heap.size (byteCells (joinT (ls.take k))) wr ∧ Below w.heap.size w wr

set_option maxRecDepth 100000 in
set_option maxHeartbeats 1600000 in
theorem join_any {v : Value} {ls : List (List (List UInt8))} {w : World} (h : Lns (fun b => b < w.heap.size) w v ls) (hT : (joinT ls).length ≤ 1000000000000) :
    Calls Tryz.prog 15 #[v] w fun e w' => e = .returned (joinV ls) ∧ Below w.heap.size w w' := by
  obtain ⟨a, cap, rfl, hm, _, _, hc⟩ := h.shape
  have HC := Lib.hid hc
  have HT := Lib.hid hT
  obtain ⟨A, hA⟩ : ∃ A, ls.all lineL = A := ⟨_, rfl⟩
  have HA := Lib.hid hA
  clear h hc hA hT
  go_enter Tryz.func15, Tryz.ntmps15
  go_wp2_with fail
  go_loopw [11] (fun vi wr => ∃ k : Nat, vi = .int .i64 k ∧ k ≤ ls.length ∧ (ls.drop k).all lineL = A ∧ Below w.heap.size w wr) (fun vi _ => ls.length - (RowKit.intOf vi).toNat)
  case atStart => exact ⟨0, rfl, Nat.zero_le _, HA.out, Below.refl _ _⟩
  case round =>
    obtain ⟨k, rfl, hk, hr, hbel⟩ := hrel
    have HR := Lib.hid hr
    have HB := Lib.hid hbel
    clear hr hbel
    by_cases hlt : k < ls.length
    · obtain ⟨l, hl⟩ := at_lt hlt
      obtain ⟨b, off, x, rfl, hb, hcell, hx⟩ := HC.out k l hl
      have g1 := (HB.out.cell hb).trans hcell
      have HW := Lib.hid (line_any (hx.keep (keep_below HB.out HB.out.size)))
      rw [drop_cons hl, List.all_cons] at HR
      clear hl hcell hb hx
      rcases Bool.eq_false_or_eq_true (lineL l) with h1 | h1
      · rw [h1] at HW HR
        go_wp2_with fail
        refine HW.out.mono ?_
        rintro e w1 ⟨rfl, hb1⟩
        have HB1 := Lib.hid (HB.out.trans (hb1.mono HB.out.size))
        clear hb1
        go_wp2_with fail
        go_roundw
        case rel => exact ⟨k + 1, by simp, by omega, by have := HR.out; rwa [Bool.true_and] at this, HB1.out⟩
        case measure => simp [RowKit.intOf]; omega
      · rw [h1] at HW HR
        have HF := Lib.hid (show A = false by have := HR.out; rwa [Bool.false_and, eq_comm] at this)
        have HG := Lib.hid (joinV_of (join_bad (HA.out.trans HF.out)))
        go_wp2_with fail
        refine HW.out.mono ?_
        rintro e w1 ⟨rfl, hb1⟩
        have HB1 := Lib.hid (HB.out.trans (hb1.mono HB.out.size))
        clear hb1
        go_wp2_with fail
        go_ret2
        exact ⟨by rw [HG.out]; rfl, HB1.out⟩
    · have hAt : A = true := by
        have := HR.out
        rw [List.drop_eq_nil_of_le (by omega)] at this
        exact this.symm
      have HAL := Lib.hid (HA.out.trans hAt)
      obtain ⟨W1, rfl⟩ : ∃ g, g = wr := ⟨_, rfl⟩
      have HF := Lib.hid (fresh_isBuilder 82 5 W1)
      have HFB := Lib.hid ((Below.refl W1.heap.size W1).alloc (Nat.le_refl _) (.cells #[.pointer none, .slice none 0 0] 82))
      clear hAt
      obtain rfl : k = ls.length := by omega
      clear hk hlt
      go_wp2_with fail
      go_loopw [21] (fun vi wr => JRel ls W1 vi wr) (fun vi _ => ls.length - (RowKit.intOf vi).toNat)
      case atStart => exact ⟨0, rfl, Nat.zero_le _, by simp [joinT], HF.out, HFB.out⟩
      case round =>
        obtain ⟨q, rfl, hq, hql, hqb, hqB⟩ := hrel
        have HQB := Lib.hid hqb
        have HQ := Lib.hid hqB
        have hsz0 : W1.heap.size ≤ wr.heap.size := hqB.size
        clear hqb hqB
        by_cases hlt2 : q < ls.length
        · obtain ⟨l, hl⟩ := at_lt hlt2
          obtain ⟨b, off, x, rfl, hb, hcell, hx⟩ := HC.out q l hl
          have HBQ := Lib.hid (HB.out.trans (HQ.out.mono HB.out.size))
          have g1 := (HBQ.out.cell hb).trans hcell
          have hll := line_le (List.mem_of_getElem? hl)
          have hlineL : lineL l = true := List.all_eq_true.1 HAL.out l (List.mem_of_getElem? hl)
          have HJ := Lib.hid (joins_any 32 (hx.keep (keep_below HBQ.out HBQ.out.size)) (line_ne hlineL) (by have := HT.out; omega))
          have HAdd := Lib.hid (fun w => add_bs (P := Tryz.prog) (Lib.join l [32]) [10] (by have := HT.out; simp; omega) w)
          have hadd : ∀ w, (Op.stringOp .add (bs (Lib.join l [32])) ⟨#[10]⟩).run Tryz.prog w = .ok (.string (bs (Lib.join l [32] ++ [10]))) w := HAdd.out
          have HTK := Lib.hid (take_at hl)
          have hmono := take_le ls (q + 1)
          obtain ⟨L, hL⟩ : ∃ L, Lib.join l [32] ++ [10] = L := ⟨_, rfl⟩
          have hlt' : lineT l = L := hL
          have hLlen : L.length ≤ 1000000000000 := by
            have := HT.out
            rw [← hL, List.length_append]
            simp
            omega
          rw [hL] at hadd
          rw [hlt'] at HTK
          have HLL := Lib.hid hLlen
          have hTL : (joinT (ls.take (q + 1))).length = (joinT (ls.take q)).length + L.length := by rw [HTK.out, List.length_append]
          clear hl hcell hb hx hlineL hL hlt' HAdd
          go_wp2_with fail
          refine HJ.out.mono ?_
          rintro e w3 ⟨rfl, hb3⟩
          have HB3 := Lib.hid hb3
          have HQ3 := Lib.hid (HQ.out.trans (hb3.mono hsz0))
          have HF3 := Lib.hid (builder_below HQB.out hb3)
          clear hb3
          go_wp2_with fail
          refine (write_any _ _ _ (bs L) _ HF3.out (by rw [bs_size]; simp [byteCells]; have := HLL.out; omega) HQ3.out.size).mono ?_
          rintro e w4 ⟨rfl, F, hb4⟩
          have HB4 := Lib.hid (HQ3.out.trans hb4)
          rw [strCells_bs, ← byteCells_append, ← HTK.out] at F
          have HF4 := Lib.hid F
          clear F hb4
          go_wp2_with fail
          refine (Tryz.Builder_Len _ _ _ _ HF4.out).mono ?_
          rintro e w4 ⟨rfl, rfl⟩
          rw [show (byteCells (joinT (ls.take (q + 1)))).length = (joinT (ls.take (q + 1))).length by simp [byteCells]]
          have HTL := Lib.hid hTL
          clear hTL
          obtain ⟨N, hN⟩ : ∃ N, (joinT (ls.take (q + 1))).length = N := ⟨_, rfl⟩
          rw [hN] at hmono ⊢
          have HN := Lib.hid hN
          clear hN
          by_cases hov : 32768 < N
          · have HG := Lib.hid (joinV_of (join_long HAL.out (show 32768 < (joinT ls).length by omega)))
            go_wp2_with fail
            go_ret2
            exact ⟨by rw [HG.out]; rfl, HB.out.trans (HB4.out.mono HB.out.size)⟩
          · go_wp2_with fail
            go_roundw
            case rel => exact ⟨q + 1, by simp, by omega, by rw [HN.out]; omega, HF4.out, HB4.out⟩
            case measure => simp [RowKit.intOf]; omega
        · have HTF := Lib.hid (take_full (ls := ls) hlt2)
          rw [HTF.out] at HQB hql
          have HG := Lib.hid (joinV_of (join_good HAL.out (show ¬ 32768 < (joinT ls).length by omega)))
          go_wp2_with fail
          refine (Tryz.Builder_String_any _ _ _ _ HQB.out hsz0).mono ?_
          rintro e w6 ⟨rfl, b6⟩
          have HB6 := Lib.hid (HQ.out.trans b6)
          clear b6
          go_wp2_with fail
          go_ret2
          exact ⟨by rw [HG.out]; rfl, HB.out.trans (HB6.out.mono HB.out.size)⟩

end Go.Proofs.YtfdipcphohhlgaaGreatDoor.Joinw
