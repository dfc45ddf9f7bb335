/- The calls of the reference's Need, Out and Legs. -/
import Derived.Test.YtgbgpncacpgikaaDoorRlegs
namespace Go.Proofs.YtgbgpncacpgikaaDoor.Rref
open Go.RowKit Go.Lib Go.Proofs.YtgbgpncacpgikaaDoor.Rail Go.Proofs.YtgbgpncacpgikaaDoor.Rtab Go.Proofs.YtgbgpncacpgikaaDoor.Reads Go.Proofs.YtgbgpncacpgikaaDoor.Rlegs

theorem need1 (i o : Int) : needC 1 i o = (0, decide (min i o = 0 ∧ max i o = 1)) := by simp [needC]
theorem need2 (i o : Int) : needC 2 i o = if min i o = 0 ∧ max i o = 1 then (1, true) else if min i o = 0 ∧ max i o = 2 then (2, true) else (0, false) := by simp [needC]
theorem need3 (i o : Int) : needC 3 i o = (0, decide ((min i o = 0 ∧ max i o = 1) ∨ (min i o = 2 ∧ max i o = 3))) := by simp [needC]
theorem rleaf {k i o x : Int} {b : Bool} {r : Int × Bool} {w : World} (hr : needF k i o = r) (h : needC k i o = (x, b)) :
    Ending.returned (.tuple #[.int .i64 x, .bool b]) = Ending.returned (.tuple #[.int .i64 r.1, .bool r.2]) ∧ w = w := by
  rw [← hr, needF_eq, h]
  exact ⟨rfl, rfl⟩

set_option maxRecDepth 100000 in
set_option maxHeartbeats 1600000 in
theorem rneed_any (k i o : Int) (w : World) :
    Calls Tryd.prog 19 #[.int .i64 k, .int .i64 i, .int .i64 o] w fun e w' => e = .returned (.tuple #[.int .i64 (needF k i o).1, .bool (needF k i o).2]) ∧ w = w' := by
  obtain ⟨r, hr⟩ : ∃ r, needF k i o = r := ⟨_, rfl⟩
  rw [hr]
  have HR := Lib.hid hr
  clear hr
  rcases kinds k with rfl | rfl | rfl | ⟨h1, h2, h3⟩
  all_goals
    go_enter Tryd.func19, Tryd.ntmps19
    go_wp2_with fail
    all_goals
      go_ret2
      refine rleaf HR.out ?_
      first
        | rw [need1]
        | rw [need2]
        | rw [need3]
        | rw [needC_none ⟨h1, h2, h3⟩]
      repeat' split
      all_goals first
        | rfl
        | (exfalso; omega)
        | (exfalso; simp only [beq_iff_eq, beq_eq_false_iff_ne] at *; omega)
        | exact congrArg (Prod.mk 0) (decide_eq_true (by omega))
        | exact congrArg (Prod.mk 0) (decide_eq_false (by omega))
        | (refine Prod.ext rfl ?_
           show _ = _
           rw [Bool.eq_iff_iff]
           simp only [decide_eq_true_eq, beq_iff_eq]
           omega)

theorem oleaf {k i p x : Int} {r : Int × Bool} {o n : Nat} {w : World} (hr : r = oR k i p o (n + 1)) (hn : needF k i (o : Int) = (x, true)) (hx : x = 0 ∨ x = p) :
    Ending.returned (.tuple #[.int .i64 (o : Int), .bool true]) = Ending.returned (.tuple #[.int .i64 r.1, .bool r.2]) ∧ w = w := by
  rw [hr, oR_yes hn hx]
  exact ⟨rfl, rfl⟩

set_option maxRecDepth 100000 in
set_option maxHeartbeats 800000 in
theorem rout_any (k i p : Int) (w : World) :
    Calls Tryd.prog 17 #[.int .i64 k, .int .i64 i, .int .i64 p] w fun e w' => e = .returned (.tuple #[.int .i64 (outF k i p).1, .bool (outF k i p).2]) ∧ w = w' := by
  rw [← oR_eq]
  obtain ⟨r, hr⟩ : ∃ r, oR k i p 0 4 = r := ⟨_, rfl⟩
  rw [hr]
  have HR := Lib.hid hr.symm
  clear hr
  go_enter Tryd.func17, Tryd.ntmps17
  go_wp2_with fail
  go_loopw [8] (fun vo wr => ∃ o n : Nat, o + n = 4 ∧ vo = .int .i64 (o : Int) ∧ r = oR k i p o n ∧ w = wr) (fun vo _ => 4 - (intOf vo).toNat)
  case atStart => exact ⟨0, 4, rfl, rfl, HR.out, rfl⟩
  case round =>
    obtain ⟨o, n, hn, rfl, hr, rfl⟩ := hrel
    have HJ := Lib.hid hr
    clear hr
    rcases n with _ | n
    · have e : o = 4 := by omega
      subst e
      go_wp2_with fail
      go_ret2
      exact ⟨by rw [HJ.out]; rfl, rfl⟩
    · have hl : o < 4 := by omega
      have HM := Lib.hid (rneed_any k i (o : Int) w)
      obtain ⟨⟨x, b⟩, hx⟩ : ∃ x, needF k i (o : Int) = x := ⟨_, rfl⟩
      rw [hx] at HM
      have HX := Lib.hid hx
      clear hx
      cases b
      · go_wp2_with fail
        refine HM.out.mono ?_
        rintro e w' ⟨rfl, rfl⟩
        go_wp2_with fail
        go_roundw
        case rel => exact ⟨o + 1, n, by omega, by simp, by rw [HJ.out, oR_none HX.out], by simp⟩
        case measure => simp [intOf]; omega
      · by_cases hz : x = 0
        · subst hz
          go_wp2_with fail
          refine HM.out.mono ?_
          rintro e w' ⟨rfl, rfl⟩
          go_wp2_with fail
          go_ret2
          exact oleaf HJ.out HX.out (.inl rfl)
        · have hq : (x == 0) = false := by simp [hz]
          by_cases hp : x = p
          · subst hp
            go_wp2_with fail
            refine HM.out.mono ?_
            rintro e w' ⟨rfl, rfl⟩
            go_wp2_with fail
            go_ret2
            exact oleaf HJ.out HX.out (.inr rfl)
          · have hq2 : (x == p) = false := by simp [hp]
            have HN := Lib.hid (show ¬ (x = 0 ∨ x = p) by omega)
            go_wp2_with fail
            refine HM.out.mono ?_
            rintro e w' ⟨rfl, rfl⟩
            go_wp2_with fail
            go_roundw
            case rel => exact ⟨o + 1, n, by omega, by simp, by rw [HJ.out, oR_no HX.out HN.out], by simp⟩
            case measure => simp [intOf]; omega

/-- What holds at the head of the loop of Legs. -/
def MRel (k i : Int) (r : List Int) (w : World) (vout vo : Value) (wr : World) : Prop :=
  ∃ (o n : Nat) (acc : List Int), o + n = 4 ∧ vo = .int .i64 (o : Int) ∧ r = acc ++ lR k i o n ∧ acc.length ≤ o ∧ (∀ x ∈ acc, (Lit.int .i64 x).wf = true) ∧ wr.ownsRow w.heap.size 3 1 vout acc.length (acc.map (Value.int .i64)) ∧ Below w.heap.size w wr
theorem mmore {k i x : Int} {r : List Int} {o n : Nat} {w wr w1 : World} {vout v1 : Value} {acc : List Int} (hn : o + (n + 1) = 4) (hr : r = acc ++ lR k i o (n + 1)) (h : needF k i (o : Int) = (x, true))
    (ha : acc.length ≤ o) (hw : ∀ x ∈ acc, (Lit.int .i64 x).wf = true) (ho : wr.ownsRow w.heap.size 3 1 vout acc.length (acc.map (Value.int .i64))) (hb : Below w.heap.size w wr)
    (h1 : w1.ownsRow w.heap.size 3 1 v1 (acc.length + 1) (acc.map (Value.int .i64) ++ [.int .i64 (o : Int)]))
    (hg : (wr.alloc (.cells #[.int .i64 (o : Int)] 3)).grownBy w1 vout.ownBlock) : MRel k i r w v1 (.int .i64 ((o : Int) + 1)) w1 := by
  refine ⟨o + 1, n, acc ++ [(o : Int)], by omega, by simp, by rw [hr, lR_yes h, List.append_assoc]; rfl, by simp; omega, ?_, by simpa using h1, ?_⟩
  · intro x hx
    rcases List.mem_append.1 hx with hx | hx
    · exact hw x hx
    · rw [List.mem_singleton.1 hx]; exact WalkArith.wf_i64 (by omega)
  · exact (hb.alloc hb.size _).grown hg (by have := hb.size; simp; omega) (fun g hg => (ho.lt g hg).1)

set_option maxRecDepth 100000 in
set_option maxHeartbeats 800000 in
theorem rlegs_any (k i : Int) (w : World) :
    Calls Tryd.prog 12 #[.int .i64 k, .int .i64 i] w (ListOut (legsF k i) w) := by
  rw [← lR_eq]
  obtain ⟨r, hr⟩ : ∃ r, lR k i 0 4 = r := ⟨_, rfl⟩
  rw [hr]
  have HR := Lib.hid hr.symm
  clear hr
  obtain ⟨i0, hi, hz0, hz1, hz2⟩ := info_parts infoI
  have HI0 := Lib.hid hi
  have HZ0 := Lib.hid hz0
  have HZ1 := Lib.hid hz1
  have HZ2 := Lib.hid hz2
  clear hi hz0 hz1 hz2
  go_enter Tryd.func12, Tryd.ntmps12
  go_wp2_with fail
  go_loopw [5, 6] (fun vout vo wr => MRel k i r w vout vo wr) (fun _ vo _ => 4 - (intOf vo).toNat)
  case atStart => exact ⟨0, 4, [], rfl, rfl, by rw [← HR.out]; rfl, Nat.le_refl _, by simp, World.ownsRow_nil _ _ _ _, Below.refl _ _⟩
  case round =>
    obtain ⟨o, n, acc, hn, rfl, hrj, ha, hw, ho, hb⟩ := hrel
    have HB := Lib.hid hb
    have HS := Lib.hid hb.size
    have HJ := Lib.hid hrj
    have HA := Lib.hid ha
    have HW := Lib.hid hw
    have HO := Lib.hid ho
    clear hb hrj ha hw ho
    rcases n with _ | n
    · have e : o = 4 := by omega
      subst e
      go_wp2_with fail
      go_ret
      have e : r = acc := by
        rw [HJ.out]
        simp [lR]
      subst e
      exact ⟨_, rfl, reads_own HO.out HW.out (Nat.le_refl _), HB.out⟩
    · have hl : o < 4 := by omega
      have HM := Lib.hid (rneed_any k i (o : Int) wr)
      obtain ⟨⟨x, b⟩, hx⟩ : ∃ x, needF k i (o : Int) = x := ⟨_, rfl⟩
      rw [hx] at HM
      have HX := Lib.hid hx
      have HN := Lib.hid hn
      clear hx
      cases b
      · go_wp2_with fail
        refine HM.out.mono ?_
        rintro e w' ⟨rfl, rfl⟩
        go_wp2_with fail
        go_roundw
        case rel => exact ⟨o + 1, n, acc, by have := HN.out; omega, by simp, by rw [HJ.out, lR_no HX.out], Nat.le_succ_of_le HA.out, HW.out, HO.out, HB.out⟩
        case measure => simp [intOf]; omega
      · go_wp2_with fail
        refine HM.out.mono ?_
        rintro e w' ⟨rfl, rfl⟩
        go_wp2_with (at_builtin; refine wpList_append_own_at _ rfl (.tmp 21) (.tmp 23) 24 rfl w.heap.size 3 i0 (.int .i64 0) 1 8 Tryd.underlying24 HI0.out HZ0.out HZ1.out HZ2.out rfl (by decide) _ _ _ rfl (HO.out.alloc _) ⟨wr.heap.size, 0, none⟩ 1 1 [.int .i64 (o : Int)] rfl rfl (cell_one_new _ _ _) (by intro u hu; simp at hu; subst hu; rfl) (by have := HA.out; unfold maxLen; omega) (by have := HA.out; omega) (by have := HS.out; simp; omega) ?_; intro v1 w1 h1own hg1 _ _; have R1 := Lib.hid h1own; have R2 := Lib.hid hg1; clear h1own hg1)
        go_roundw
        case rel => exact mmore HN.out HJ.out HX.out HA.out HW.out HO.out HB.out R1.out R2.out
        case measure => simp [intOf]; omega

end Go.Proofs.YtgbgpncacpgikaaDoor.Rref
