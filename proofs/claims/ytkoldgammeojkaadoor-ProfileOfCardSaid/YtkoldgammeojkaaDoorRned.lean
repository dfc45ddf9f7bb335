/- The calls of rail.Need. -/
import Derived.Test.YtkoldgammeojkaaDoorRtab
namespace Go.Proofs.YtkoldgammeojkaaDoor.Rout
open Go.RowKit Go.Lib Go.Proofs.YtkoldgammeojkaaDoor.Rail Go.Proofs.YtkoldgammeojkaaDoor.Rtab

/-- What holds at the head of the loop: the result is that from row j on. -/
def NRel (k i p : Int) (r : Int × Bool) (w : World) (vj : Value) (wr : World) : Prop :=
  ∃ j : Nat, j ≤ 10 ∧ vj = .int .i64 (j : Int) ∧ r = needR k i p (rows.drop j) ∧ Below w.heap.size w wr

theorem nleaf {k i p a b c d : Int} {r : Int × Bool} {j : Nat} {w wr : World} {o : Obj} {l : List (Int × Int × Int × Int)} (hr : r = needR k i p (rows.drop j)) (hd : rows.drop j = (a, b, c, d) :: l) (h : k = a ∧ i = b ∧ p = c) (hb : Below w.heap.size w wr) :
    Ending.returned (.tuple #[.int .i64 d, .bool true]) = Ending.returned (.tuple #[.int .i64 r.1, .bool r.2]) ∧ Below w.heap.size w (wr.alloc o) := by
  rw [hr, hd, needR_yes h.1 h.2.1 h.2.2]
  exact ⟨rfl, hb.alloc hb.size _⟩
theorem nstep {k i p a b c d : Int} {r : Int × Bool} {j : Nat} {w wr : World} {o : Obj} (hl : j < 10) (hr : r = needR k i p (rows.drop j)) (hd : rows.drop j = (a, b, c, d) :: rows.drop (j + 1)) (h : ¬ (k = a ∧ i = b ∧ p = c)) (hb : Below w.heap.size w wr) :
    NRel k i p r w (.int .i64 ((j : Int) + 1)) (wr.alloc o) := by
  refine ⟨j + 1, hl, by simp, ?_, hb.alloc hb.size _⟩
  rw [hr, hd, needR_no h]

set_option maxRecDepth 100000 in
set_option maxHeartbeats 800000 in
theorem need_any (k i p : Int) (w : World) (h : RTab w) :
    Calls Tryd.prog 42 #[.int .i64 k, .int .i64 i, .int .i64 p] w fun e w' => e = .returned (.tuple #[.int .i64 (needF k i p).1, .bool (needF k i p).2]) ∧ Below w.heap.size w w' := by
  obtain ⟨r, hr⟩ : ∃ r, needF k i p = r := ⟨_, rfl⟩
  rw [hr]
  have HR := Lib.hid hr
  have HL := Lib.hid (rtab_lt h)
  obtain ⟨T, fr, hg⟩ := h
  have hT := hg
  clear hr
  go_enter Tryd.func42, Tryd.ntmps42
  go_wp2_with (refine wpList_load_row rfl 86 _ rfl 0 rfl T _ fr _ hT Tryd.underlying86 rfl (by kernel_rfl) ?_)
  go_loopw [11] (fun vj wr => NRel k i p r w vj wr) (fun vj _ => 10 - (intOf vj).toNat)
  case atStart => exact ⟨0, Nat.zero_le _, rfl, by rw [← HR.out]; rfl, Below.refl _ _⟩
  case round =>
    obtain ⟨j, hj, rfl, hrj, hb⟩ := hrel
    have HB := Lib.hid hb
    have HJ := Lib.hid hrj
    clear hb hrj
    by_cases hl : j < 10
    · have hix := fun w => idx_any hl w
      have HD := Lib.hid (drop_row hl)
      unfold rowV at hix
      obtain ⟨⟨a, b, c, d⟩, hrow⟩ : ∃ x, row j = x := ⟨_, rfl⟩
      rw [hrow] at hix HD
      simp only at hix
      clear hrow
      by_cases hdp : p = c
      · subst hdp
        go_wp2_with fail
        all_goals first
          | (go_ret2
             exact nleaf HJ.out HD.out (by omega) HB.out)
          | (go_roundw
             case rel => exact nstep hl HJ.out HD.out (by omega) HB.out
             case measure => simp [intOf]; omega)
      · have hq : (c == p) = false := by simp; omega
        go_wp2_with fail
        all_goals first
          | (go_ret2
             exact nleaf HJ.out HD.out (by omega) HB.out)
          | (go_roundw
             case rel => exact nstep hl HJ.out HD.out (by omega) HB.out
             case measure => simp [intOf]; omega)
    · have he : j = 10 := by omega
      subst he
      clear hl hj
      go_wp2_with fail
      go_ret2
      exact ⟨by rw [HJ.out]; rfl, HB.out⟩

end Go.Proofs.YtkoldgammeojkaaDoor.Rout
