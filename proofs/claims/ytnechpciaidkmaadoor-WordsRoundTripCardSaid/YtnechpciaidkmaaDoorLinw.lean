/- Lines of words. -/
import Derived.Test.YtnechpciaidkmaaDoorSamew
import Derived.Test.YtnechpciaidkmaaDoorOwnl
namespace Go.Proofs.YtnechpciaidkmaaDoor.Linw
open Go.RowKit Go.Lib Go.Proofs.YtnechpciaidkmaaDoor.Text Go.Proofs.YtnechpciaidkmaaDoor.Kind Go.Proofs.YtnechpciaidkmaaDoor.Reads Go.Proofs.YtnechpciaidkmaaDoor.Rows2 Go.Proofs.YtnechpciaidkmaaDoor.Samew Go.Proofs.YtnechpciaidkmaaDoor.Debw Go.Proofs.YtnechpciaidkmaaDoor.Ownl

/-- What a call of Lines gives. -/
def LinesOut (r : List (List (List UInt8)) × Nat × Nat) (w : World) (e : Ending) (w' : World) : Prop :=
  ∃ v, e = .returned (.tuple #[v, .int .i64 (r.2.1 : Int), .int .i64 (r.2.2 : Int)]) ∧ Lns (fun b => b < w'.heap.size) w' v r.1 ∧ Below w.heap.size w w'
theorem lines_bad {r : List (List (List UInt8)) × Nat × Nat} {n e : Nat} {w w' : World} {x : Ending} (h : r = ([], n, e)) (hx : x = .returned (.tuple #[.slice none 0 0, .int .i64 (n : Int), .int .i64 (e : Int)])) (hb : Below w.heap.size w w') : LinesOut r w x w' := by
  subst h hx
  exact ⟨_, rfl, lns_nil _ _, hb⟩
theorem lines_ok {r : List (List (List UInt8)) × Nat × Nat} {ls : List (List (List UInt8))} {v : Value} {w w' : World} {x : Ending} (h : r = (ls, 0, 0)) (hx : x = .returned (.tuple #[v, .int .i64 0, .int .i64 0])) (hr : Lns (fun b => b < w'.heap.size) w' v ls) (hb : Below w.heap.size w w') : LinesOut r w x w' := by
  subst h hx
  exact ⟨_, rfl, hr, hb⟩

theorem lines_long {l : (List UInt8)} (h : 32768 < l.length) : linesR l = ([], 0, 2) := by rw [linesR, if_pos h]
theorem lines_short {l : (List UInt8)} (h : ¬ 32768 < l.length) : linesR l = endL [] (scan 0 [] [] l) := by rw [linesR, if_neg h]
theorem end_bad {outs : List (List (List UInt8))} {k : Nat} : endL outs (.error (k + 1)) = ([], k + 1, 4) := rfl
theorem end_map {outs : List (List (List UInt8))} {x : List (List UInt8)} {y : Except Nat (List (List (List UInt8)))} : endL outs (y.map (x :: ·)) = endL (outs ++ [x]) y := by
  cases y with
  | error k => rfl
  | ok ls => simp [Except.map, endL]
theorem scan_nil (k : Nat) : scan k [] [] [] = .ok [] := rfl
theorem end_done {outs : List (List (List UInt8))} : endL outs (.ok []) = (outs, 0, 0) := by simp [endL]
theorem line_parts (c : UInt8) (l : (List UInt8)) : lineL (parts c [] l) = (parts c [] l).all wordL := by
  rw [lineL]
  have : decide (parts c [] l ≠ []) = true := decide_eq_true (parts_ne c l [])
  rw [this, Bool.true_and]

/-- What holds at the head of the loop. -/
def LRel (R : List (List (List UInt8)) × Nat × Nat) (w : World) (vs vl : Value) (wr : World) : Prop :=
  ∃ (r : (List UInt8)) (outs : List (List (List UInt8))), vs = .string (bs r) ∧ endL outs (scan outs.length [] [] r) = R ∧ outs.length + r.length ≤ 32768 ∧ OwnL w.heap.size wr vl outs none ∧ Below w.heap.size w wr
def slen (v : Value) : Nat := match v with | .string x => x.size | _ => 0
theorem slen_bs (l : (List UInt8)) : slen (.string (bs l)) = l.length := rfl
theorem own_shape {w : World} {B n : Nat} {e : TypeId} {v : Value} {xs : List Value} (h : w.ownsRow B e 1 v n xs) : ∃ a c, v = .slice a n c := by
  rcases h.2 with ⟨hv, h0⟩ | ⟨g, cap, cur, hv, _⟩
  · subst h0
    exact ⟨_, _, hv⟩
  · exact ⟨_, _, hv⟩
theorem ownL_shape {B : Nat} {w : World} {v : Value} {ls : List (List (List UInt8))} {no : Option Nat} (h : OwnL B w v ls no) : ∃ a c, v = .slice a ls.length c := by
  obtain ⟨xs, h1, _⟩ := h
  exact own_shape h1

theorem own_lt {B : Nat} {w : World} {v : Value} {ls : List (List (List UInt8))} {no : Option Nat} (h : OwnL B w v ls no) : ∀ g, v.ownBlock = some g → B ≤ g ∧ g < w.heap.size := by
  obtain ⟨xs, h1, _⟩ := h
  exact h1.lt
theorem strs_off {w' : World} {x : Value} {l : List (List UInt8)} {v : Value} {C : Nat} (ho : ∀ g, v.ownBlock = some g → g < C) (h : Strs (fun b => C ≤ b ∧ b < w'.heap.size) w' x l) : Strs (fun b => b < w'.heap.size ∧ some b ≠ v.ownBlock) w' x l := by
  refine h.keep fun b hb => ⟨⟨hb.2, ?_⟩, rfl⟩
  cases hv : v.ownBlock with
  | none => simp
  | some g =>
    have := ho g hv
    have hb1 := hb.1
    simp
    omega
theorem grown_end {w w3 w4 : World} {v : Value} {o : Obj} (hb : Below w.heap.size w w3) (ho : ∀ g, v.ownBlock = some g → w.heap.size ≤ g) (hg : (w3.alloc o).grownBy w4 v.ownBlock) : Below w.heap.size w w4 :=
  (hb.alloc hb.size _).grown hg (by have := hb.size; simp; omega) ho

set_option maxRecDepth 100000 in
set_option maxHeartbeats 1600000 in
theorem lines_any (s : ByteArray) (w : World) (hs : s.size ≤ 9223372036854775807) (hdeb : Deb w) :
    Calls Tryd.prog 12 #[.string s] w (LinesOut (linesR s.data.toList) w) := by
  have hsz : s.size = s.data.toList.length := Lib.size_eq s
  by_cases hlong : 32768 < s.size
  · have HR := Lib.hid (lines_long (l := s.data.toList) (by omega))
    clear hsz
    go_enter Tryd.func12, Tryd.ntmps12
    go_wp2_with fail
    go_ret3
    exact lines_bad HR.out rfl (Below.refl _ _)
  · have hR := lines_short (l := s.data.toList) (by omega)
    have hl : s.data.toList.length ≤ 32768 := by omega
    obtain ⟨R, hRR⟩ : ∃ R, linesR s.data.toList = R := ⟨_, rfl⟩
    rw [hRR] at hR ⊢
    have HR := Lib.hid hR.symm
    have HL := Lib.hid hl
    have HD := Lib.hid hdeb
    obtain ⟨i0, hi, hz0, hz1, hz2⟩ := info_parts infoL
    have HI := Lib.hid hi
    have HZ0 := Lib.hid hz0
    have HZ1 := Lib.hid hz1
    have HZ2 := Lib.hid hz2
    clear hi hz0 hz1 hz2 hR hRR hl hsz hdeb
    go_enter Tryd.func12, Tryd.ntmps12
    go_wp2_with fail
    go_loopw [0, 5] (fun vs vl wr => LRel R w vs vl wr) (fun vs _ _ => slen vs)
    case atStart => exact ⟨s.data.toList, [], rfl, HR.out, by simpa using HL.out, ownL_nil _ _ _, Below.refl _ _⟩
    case round =>
      obtain ⟨r, outs, rfl, hr, hlen, ho, hb⟩ := hrel
      obtain ⟨ao, co, rfl⟩ := ownL_shape ho
      have HRR := Lib.hid hr
      have HO := Lib.hid ho
      have HB := Lib.hid hb
      have HDr := Lib.hid (deb_next HD.out hb)
      clear hr ho hb
      by_cases h0 : r = []
      · subst h0
        have hq : (bs []).toList.isEmpty = true := by rw [ByteArray.toList_eq]; rfl
        have HE := Lib.hid (show R = (outs, 0, 0) by rw [← HRR.out, scan_nil, end_done])
        go_wp2_with fail
        go_ret3
        exact lines_ok HE.out rfl HO.out.lns HB.out
      · have hq : (bs r).toList.isEmpty = false := by rw [ByteArray.toList_eq, bs_list]; simpa using h0
        have hrl : r.length ≤ 1000000 := by omega
        have HCut := Lib.hid (cut_any 10 r wr hrl HDr.out)
        rcases first_of 10 r with hmiss | ⟨l, r2, rfl, hnl⟩
        · have HE := Lib.hid (show R = ([], outs.length + 1, 4) by rw [← HRR.out, scan_end _ _ _ _ hmiss (.inl h0)]; rfl)
          rw [cut_miss 10 r hmiss] at HCut
          have HSp := Lib.hid (fun w h => split_any 32 r w hrl h)
          clear hmiss h0
          go_wp2_with fail
          refine HCut.out.mono ?_
          rintro e w1 ⟨rfl, hb1⟩
          have HB1 := Lib.hid hb1
          clear hb1
          go_wp2_with fail
          refine (HSp.out _ (deb_next HDr.out HB1.out)).mono ?_
          rintro e w2 ⟨v, rfl, _, hb2⟩
          have HB2 := Lib.hid (bel_next HB.out (bel_next HB1.out hb2))
          clear hb2
          go_wp2_with fail
          go_ret3
          exact lines_bad HE.out (by simp) HB2.out
        · rw [cut_hit 10 l r2 hnl] at HCut
          rw [scan_line _ _ _ _ _ hnl] at HRR
          have hll : l.length ≤ 1000000 := by simp at hrl; omega
          have HSp := Lib.hid (fun w h => split_any 32 l w hll h)
          have hplen := parts_length 32 l []
          obtain ⟨ps, hps⟩ : ∃ ps, parts 32 [] l = ps := ⟨_, rfl⟩
          have HLi := Lib.hid (fun (w : World) (v : Value) (h : Strs (fun b => b < w.heap.size) w v ps) => line_any h)
          have hlp : lineL ps = ps.all wordL := by rw [← hps]; exact line_parts 32 l
          rw [hps] at HRR hplen
          rw [hlp] at HLi
          unfold SplitOut at HSp
          rw [hps] at HSp
          have hlen2 : outs.length + l.length + 1 + r2.length ≤ 32768 := by simp at hlen; omega
          clear hps hlp hnl h0 hlen
          rcases Bool.eq_false_or_eq_true (ps.all wordL) with hA | hA
          · rw [hA] at HRR HLi
            have HE := Lib.hid (show endL (outs ++ [ps]) (scan (outs ++ [ps]).length [] [] r2) = R by
              rw [← HRR.out, if_pos rfl, end_map, List.nil_append, List.length_append]; rfl)
            clear hA
            go_wp2_with fail
            refine HCut.out.mono ?_
            rintro e w1 ⟨rfl, hb1⟩
            have HB1 := Lib.hid hb1
            clear hb1
            go_wp2_with fail
            refine (HSp.out _ (deb_next HDr.out HB1.out)).mono ?_
            rintro e w2 ⟨v, rfl, hv, hb2⟩
            obtain ⟨av, cv, rfl, _⟩ := hv.shape
            have HV := Lib.hid hv
            have HV2 := Lib.hid (hv.keep (ok' := fun b => b < w2.heap.size) (w' := w2) fun b hb => ⟨hb.2, rfl⟩)
            have HB2 := Lib.hid hb2
            clear hv hb2
            go_wp2_with fail
            refine (HLi.out _ _ HV2.out).mono ?_
            rintro e w3 ⟨rfl, hb3⟩
            have HB3 := Lib.hid hb3
            clear hb3
            have HBall := Lib.hid (bel_next HB1.out (bel_next HB2.out HB3.out))
            have HO3 := Lib.hid (HO.out.next HBall.out)
            obtain ⟨xs, hxs1, hxs2, hxs3⟩ := HO3.out
            have HX1 := Lib.hid hxs1
            have HX3 := Lib.hid hxs3
            have HVr := Lib.hid (HV.out.keep (ok' := fun b => wr.heap.size ≤ b ∧ b < w3.heap.size) (w' := w3) fun b hb => ⟨⟨Nat.le_trans HB1.out.size hb.1, Nat.lt_of_lt_of_le hb.2 HB3.out.size⟩, HB3.out.block b hb.2⟩)
            have hw0 : w.heap.size ≤ w3.heap.size := Nat.le_trans HB.out.size HBall.out.size
            clear hxs1 hxs2 hxs3
            go_wp2_with (at_builtin; refine wpList_append_own_at _ rfl (.tmp 33) (.tmp 35) 23 rfl w.heap.size 33 i0 (.slice none 0 0) 1 24 Tryd.underlying23 HI.out HZ0.out HZ1.out HZ2.out rfl (by decide) _ _ _ rfl (HX1.out.alloc _) ⟨w3.heap.size, 0, none⟩ 1 1 [.slice av ps.length cv] rfl rfl (cell_one_new _ _ _) (by intro u hu; simp at hu; subst hu; rfl) (by unfold maxLen; omega) (by omega) (by simp; omega) ?_; intro v1 w4 h1own hg1 _ hblk; have R1 := Lib.hid h1own; have R2 := Lib.hid hg1; have R3 := Lib.hid hblk; clear h1own hg1 hblk)
            go_roundw
            case rel => exact ⟨r2, outs ++ [ps], rfl, HE.out, by simp; omega, ownL_push (strs_off (fun g hg => (own_lt HO.out g hg).2) HVr.out) R1.out HX3.out R2.out R3.out, grown_end (bel_next HB.out HBall.out) (fun g hg => (own_lt HO.out g hg).1) R2.out⟩
            case measure => rw [slen_bs, slen_bs]; simp; omega
          · rw [hA] at HRR HLi
            have HE := Lib.hid (show R = ([], outs.length + 1, 4) by rw [← HRR.out]; rfl)
            clear hA
            go_wp2_with fail
            refine HCut.out.mono ?_
            rintro e w1 ⟨rfl, hb1⟩
            have HB1 := Lib.hid hb1
            clear hb1
            go_wp2_with fail
            refine (HSp.out _ (deb_next HDr.out HB1.out)).mono ?_
            rintro e w2 ⟨v, rfl, hv, hb2⟩
            have HV2 := Lib.hid (hv.keep (ok' := fun b => b < w2.heap.size) (w' := w2) fun b hb => ⟨hb.2, rfl⟩)
            have HB2 := Lib.hid hb2
            clear hv hb2
            go_wp2_with fail
            refine (HLi.out _ _ HV2.out).mono ?_
            rintro e w3 ⟨rfl, hb3⟩
            have HB3 := Lib.hid (bel_next HB.out (bel_next HB1.out (bel_next HB2.out hb3)))
            clear hb3
            go_wp2_with fail
            go_ret3
            exact lines_bad HE.out (by simp) HB3.out

end Go.Proofs.YtnechpciaidkmaaDoor.Linw
