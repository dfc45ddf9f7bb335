/- The calls of rail.Legs, rail.Facing and rail.Sides, and of the reference's Sides and Facing. -/
import Derived.Test.YtgbgpncacpgikaaDoorRtab
import Derived.Test.YtgbgpncacpgikaaDoorIntsr
import Derived.Maps.AppendAt
namespace Go.Proofs.YtgbgpncacpgikaaDoor.Rlegs
open Go.RowKit Go.Lib Go.Proofs.YtgbgpncacpgikaaDoor.Rail Go.Proofs.YtgbgpncacpgikaaDoor.Rtab Go.Proofs.YtgbgpncacpgikaaDoor.Reads

theorem infoI : (Tryd.prog.info? 3).map (fun i => (i.zero, i.size, i.bytes)) = some (some (.int .i64 0), 1, 8) := by kernel_rfl
/-- What a call gives that returns a list. -/
def ListOut (l : List Int) (w : World) (e : Ending) (w' : World) : Prop := ∃ v, e = .returned v ∧ Reads w'.heap.size w' v l ∧ Below w.heap.size w w'

/-- What holds at the head of the loop. -/
def LRel (k i : Int) (r : List Int) (w : World) (vout vj : Value) (wr : World) : Prop :=
  ∃ (j : Nat) (acc : List Int), j ≤ 10 ∧ vj = .int .i64 (j : Int) ∧ r = acc ++ legsR k i (rows.drop j) ∧ acc.length ≤ j ∧ (∀ x ∈ acc, (Lit.int .i64 x).wf = true) ∧ wr.ownsRow w.heap.size 3 1 vout acc.length (acc.map (Value.int .i64)) ∧ Below w.heap.size w wr

theorem row_wf {j : Nat} {a b c d : Int} {l : List (Int × Int × Int × Int)} (h : rows.drop j = (a, b, c, d) :: l) : (Lit.int .i64 c).wf = true := by
  have hm : (a, b, c, d) ∈ rows := List.mem_of_mem_drop (by rw [h]; exact List.mem_cons_self)
  have : ∀ x ∈ rows, (Lit.int .i64 x.2.2.1).wf = true := by decide
  exact this _ hm
theorem lskip {k i a b c d : Int} {r : List Int} {j : Nat} {w wr : World} {o : Obj} {vout : Value} {acc : List Int} (hl : j < 10) (hr : r = acc ++ legsR k i (rows.drop j)) (hd : rows.drop j = (a, b, c, d) :: rows.drop (j + 1)) (h : ¬ (k = a ∧ i = b))
    (ha : acc.length ≤ j) (hw : ∀ x ∈ acc, (Lit.int .i64 x).wf = true) (ho : wr.ownsRow w.heap.size 3 1 vout acc.length (acc.map (Value.int .i64))) (hb : Below w.heap.size w wr) :
    LRel k i r w vout (.int .i64 ((j : Int) + 1)) (wr.alloc o) :=
  ⟨j + 1, acc, hl, by simp, by rw [hr, hd, legsR_no h], by omega, hw, ho.alloc _, hb.alloc hb.size _⟩
theorem lmore {k i a b c d : Int} {r : List Int} {j : Nat} {w wr w1 : World} {o : Obj} {vout v1 : Value} {acc : List Int} (hl : j < 10) (hr : r = acc ++ legsR k i (rows.drop j)) (hd : rows.drop j = (a, b, c, d) :: rows.drop (j + 1)) (h : k = a ∧ i = b)
    (ha : acc.length ≤ j) (hw : ∀ x ∈ acc, (Lit.int .i64 x).wf = true) (ho : wr.ownsRow w.heap.size 3 1 vout acc.length (acc.map (Value.int .i64))) (hb : Below w.heap.size w wr)
    (h1 : w1.ownsRow w.heap.size 3 1 v1 (acc.length + 1) (acc.map (Value.int .i64) ++ [.int .i64 c]))
    (hg : ((wr.alloc o).alloc (.cells #[.int .i64 c] 3)).grownBy w1 vout.ownBlock) : LRel k i r w v1 (.int .i64 ((j : Int) + 1)) w1 := by
  refine ⟨j + 1, acc ++ [c], hl, by simp, by rw [hr, hd, legsR_yes h.1 h.2, List.append_assoc]; rfl, by simp; omega, ?_, by simpa using h1, ?_⟩
  · intro x hx
    rcases List.mem_append.1 hx with hx | hx
    · exact hw x hx
    · rw [List.mem_singleton.1 hx]; exact row_wf hd
  · have h2 := (hb.alloc hb.size o).alloc (by have := hb.size; simp; omega) (.cells #[.int .i64 c] 3)
    exact h2.grown hg (by have := hb.size; simp; omega) (fun g hg => (ho.lt g hg).1)

set_option maxRecDepth 100000 in
set_option maxHeartbeats 800000 in
theorem legs_any (k i : Int) (w : World) (h : RTab w) :
    Calls Tryd.prog 11 #[.int .i64 k, .int .i64 i] w (ListOut (legsF k i) w) := by
  obtain ⟨r, hr⟩ : ∃ r, legsF k i = r := ⟨_, rfl⟩
  rw [hr]
  have HR := Lib.hid hr
  have HL := Lib.hid (rtab_lt h)
  obtain ⟨T, fr, hg⟩ := h
  have hT := hg
  clear hr
  obtain ⟨i0, hi, hz0, hz1, hz2⟩ := info_parts infoI
  have HI0 := Lib.hid hi
  have HZ0 := Lib.hid hz0
  have HZ1 := Lib.hid hz1
  have HZ2 := Lib.hid hz2
  clear hi hz0 hz1 hz2
  go_enter Tryd.func11, Tryd.ntmps11
  go_wp2_with (refine wpList_load_row rfl 34 _ rfl 0 rfl T _ fr _ hT Tryd.underlying34 rfl (by kernel_rfl) ?_)
  go_loopw [5, 9] (fun vout vj wr => LRel k i r w vout vj wr) (fun _ vj _ => 10 - (intOf vj).toNat)
  case atStart => exact ⟨0, [], Nat.zero_le _, rfl, by rw [← HR.out]; rfl, Nat.le_refl _, by simp, World.ownsRow_nil _ _ _ _, Below.refl _ _⟩
  case round =>
    obtain ⟨j, acc, hj, rfl, hrj, ha, hw, ho, hb⟩ := hrel
    have HB := Lib.hid hb
    have HS := Lib.hid hb.size
    have HJ := Lib.hid hrj
    have HA := Lib.hid ha
    have HW := Lib.hid hw
    have HO := Lib.hid ho
    clear hb hrj ha hw ho
    by_cases hl : j < 10
    · have hix := fun w => idx_any hl w
      have HD := Lib.hid (drop_row hl)
      unfold rowV at hix
      obtain ⟨⟨a, b, c, d⟩, hrow⟩ : ∃ x, row j = x := ⟨_, rfl⟩
      rw [hrow] at hix HD
      simp only at hix
      clear hrow
      by_cases hit : k = a ∧ i = b
      · obtain ⟨rfl, rfl⟩ := hit
        go_wp2_with (at_builtin; refine wpList_append_own_at _ rfl (.tmp 22) (.tmp 25) 24 rfl w.heap.size 3 i0 (.int .i64 0) 1 8 Tryd.underlying24 HI0.out HZ0.out HZ1.out HZ2.out rfl (by decide) _ _ _ rfl ((HO.out.alloc _).alloc _) ⟨wr.heap.size + 1, 0, none⟩ 1 1 [.int .i64 c] rfl rfl (by simpa using cell_one_new (wr.alloc _) (.int .i64 c) 3) (by intro u hu; simp at hu; subst hu; rfl) (by have := HA.out; unfold maxLen; omega) (by have := HA.out; omega) (by have := HS.out; simp; omega) ?_; intro v1 w1 h1own hg1 _ _; have R1 := Lib.hid h1own; have R2 := Lib.hid hg1; clear h1own hg1)
        go_roundw
        case rel => exact lmore hl HJ.out HD.out ⟨rfl, rfl⟩ HA.out HW.out HO.out HB.out R1.out R2.out
        case measure => simp [intOf]; omega
      · have hq : (a == k) = false ∨ (b == i) = false := by
          simp only [beq_eq_false_iff_ne]
          omega
        rcases hq with hq | hq
        · go_wp2_with fail
          go_roundw
          case rel => exact lskip hl HJ.out HD.out hit HA.out HW.out HO.out HB.out
          case measure => simp [intOf]; omega
        · go_wp2_with fail
          all_goals
            go_roundw
            case rel => exact lskip hl HJ.out HD.out hit HA.out HW.out HO.out HB.out
            case measure => simp [intOf]; omega
    · have he : j = 10 := by omega
      subst he
      clear hl hj
      go_wp2_with fail
      go_ret
      have e : r = acc := by
        rw [HJ.out, show rows.drop 10 = [] from rfl]
        simp [legsR]
      subst e
      exact ⟨_, rfl, reads_own HO.out HW.out (Nat.le_refl _), HB.out⟩

theorem facing_any (k i : Int) (w : World) (h : RTab w) :
    Calls Tryd.prog 13 #[.int .i64 k, .int .i64 i] w fun e w' => e = .returned (.bool (facF k i)) ∧ Below w.heap.size w w' := by
  have H := Lib.hid (legs_any k i w h)
  have HF := Lib.hid (fac_len k i)
  clear h
  go_enter Tryd.func13, Tryd.ntmps13
  go_wp2_with fail
  refine H.out.mono ?_
  rintro e w' ⟨v, rfl, R, b⟩
  obtain ⟨a, cap, rfl, hm⟩ := Ints.rshape R
  have HB := Lib.hid b
  clear R b
  go_wp2_with fail
  go_ret
  exact ⟨by rw [← HF.out]; rfl, HB.out⟩

theorem sides_any (k : Int) (w : World) : Calls Tryd.prog 8 #[.int .i64 k] w fun e w' => e = .returned (.int .i64 (sidesF k)) ∧ w = w' := by
  rcases kinds k with rfl | rfl | rfl | ⟨h1, h2, h3⟩
  all_goals
    go_enter Tryd.func8, Tryd.ntmps8
    go_wp2_with fail
    go_ret
    first
      | exact ⟨rfl, rfl⟩
      | exact ⟨by simp [sidesF, h1, h2, h3], rfl⟩
theorem rsides_any (k : Int) (w : World) : Calls Tryd.prog 9 #[.int .i64 k] w fun e w' => e = .returned (.int .i64 (sidesF k)) ∧ w = w' := by
  rcases kinds k with rfl | rfl | rfl | ⟨h1, h2, h3⟩
  all_goals
    go_enter Tryd.func9, Tryd.ntmps9
    go_wp2_with fail
    go_ret
    first
      | exact ⟨rfl, rfl⟩
      | exact ⟨by simp [sidesF, h1, h2, h3], rfl⟩
theorem rfacing_any (k i : Int) (w : World) : Calls Tryd.prog 14 #[.int .i64 k, .int .i64 i] w fun e w' => e = .returned (.bool (facF k i)) ∧ w = w' := by
  by_cases h : k = 2
  · subst h
    by_cases h0 : i = 0
    · subst h0
      go_enter Tryd.func14, Tryd.ntmps14
      go_wp2_with fail
      go_ret
      exact ⟨rfl, rfl⟩
    · have hq : (i == 0) = false := by simp [h0]
      go_enter Tryd.func14, Tryd.ntmps14
      go_wp2_with fail
      go_ret
      exact ⟨by simp [facF, h0], rfl⟩
  · have hq : (k == 2) = false := by simp [h]
    go_enter Tryd.func14, Tryd.ntmps14
    go_wp2_with fail
    go_ret
    exact ⟨by simp [facF, h], rfl⟩

end Go.Proofs.YtgbgpncacpgikaaDoor.Rlegs
