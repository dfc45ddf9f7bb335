/- IdsetAlgebra: for all lists of at most 100 ints, idset.Union and Common can be exchanged and distributed, and a difference can be taken step by step; of longer lists only the examples are said. No condition. -/
import Derived.Test.YtjlnlcnddhilhaaRows
import Derived.WalkKit
import Derived.ProofKit
import Derived.OpenShut
import Derived.ShutString
import Derived.ChangeOld
import Derived.Below
import Derived.Test.YtjlnlcnddhilhaaSetlaws
namespace Go.Proofs.Ytjlnlcnddhilhaa.idsetAlgebra
open Go.ChangeShapes Go.WideShapes Go.ChangeAt Go.RowKit
open Go.ChangeMaps (open_string shut_string)
open Go.Sort Go.Proofs.Ytjlnlcnddhilhaa.Sets Go.Proofs.Ytjlnlcnddhilhaa.Reads Go.Proofs.Ytjlnlcnddhilhaa.Idset Go.Proofs.Ytjlnlcnddhilhaa.Rsets
set_option linter.unusedVariables false

theorem own : ownKnob Try.prog.godebug = none := by kernel_rfl
theorem laidOut : laidOutB Try.prog = true := by kernel_rfl

/-- WHAT THE WALK IS TOLD OF A SLICE OF INTEGERS THAT CAME IN: it is nil; or it leads to a row of 'cap' cells, the numbers 'zs' (the first 'len' are its elements, the rest its spare room), each fitting its kind. -/
def IsRow (k : IntKind) (w : World) (a : Option Addr) (len cap : Nat) (zs : List Int) : Prop :=
  (a = none ∧ len = 0 ∧ cap = 0 ∧ zs = []) ∨
  ∃ x, a = some x ∧ len ≤ cap ∧ cap ≤ maxLen ∧ zs.length = cap ∧ (∀ i, i < zs.length → w.cell? (x.add i) = some (.int k (zs.getD i 0))) ∧ ∀ n ∈ zs, (Lit.int k n).wf = true

theorem lens (A B C : List Int) : (unionV A B).length ≤ A.length + B.length ∧ (unionV B C).length ≤ B.length + C.length ∧ (commonV A B).length ≤ A.length ∧ (commonV A C).length ≤ A.length ∧ (minusV A B).length ≤ A.length :=
  ⟨unionV_len _ _, unionV_len _ _, commonV_len _ _, commonV_len _ _, minusV_len _ _⟩
set_option maxHeartbeats 1000000 in
theorem walk_near {va vb vc : Value} {A B C : List Int} {w : World} (h : Reads w.heap.size w va A) (hy : Reads w.heap.size w vb B) (hz : Reads w.heap.size w vc C) (hl : A.length ≤ 100 ∧ B.length ≤ 100 ∧ C.length ≤ 100) :
    Calls Try.prog 7 #[va, vb, vc] w fun e w' => e = .returned (.bool true) ∧ Below w.heap.size w w' := by
  have HA := Lib.hid h
  have HB := Lib.hid hy
  have HC := Lib.hid hz
  have HL := Lib.hid hl
  obtain ⟨lA, lB, lC⟩ := hl
  clear h hy hz
  obtain ⟨a0, ca, rfl, hma⟩ := rshape HA.out
  obtain ⟨b0, cb, rfl, hmb⟩ := rshape HB.out
  obtain ⟨c0, cc, rfl, hmc⟩ := rshape HC.out
  go_enter Try.func7, Try.ntmps7
  go_wp2_with fail
  refine (union_any HA.out HB.out (by have := HL.out; have := lens A B C; omega) (by have := HL.out; have := lens A B C; omega)).mono ?_
  rintro e w1 ⟨v1, rfl, Rx⟩
  have HA_1 := Lib.hid (next HA.out Rx.2)
  have HB_1 := Lib.hid (next HB.out Rx.2)
  have HC_1 := Lib.hid (next HC.out Rx.2)
  have B_1 := Lib.hid (bel_next (Below.refl _ _) Rx.2)
  have HU_1 := Lib.hid (Rx.1)
  clear Rx HA HB HC
  go_wp2_with fail
  refine (union_any HB_1.out HA_1.out (by have := HL.out; have := lens A B C; omega) (by have := HL.out; have := lens A B C; omega)).mono ?_
  rintro e w2 ⟨v2, rfl, Rx⟩
  have HA_2 := Lib.hid (next HA_1.out Rx.2)
  have HB_2 := Lib.hid (next HB_1.out Rx.2)
  have HC_2 := Lib.hid (next HC_1.out Rx.2)
  have HU_2 := Lib.hid (next HU_1.out Rx.2)
  have B_2 := Lib.hid (bel_next B_1.out Rx.2)
  have HV_2 := Lib.hid (Rx.1)
  clear Rx HA_1 HB_1 HC_1 HU_1 B_1
  go_wp2_with fail
  refine (rsame_any HU_2.out HV_2.out).mono ?_
  rintro e w3 ⟨rfl, Rx⟩
  rw [show sameB (unionV A B) (unionV B A) = true by simp [sameB, unionV_comm A B]]
  have HA_3 := Lib.hid (next HA_2.out Rx)
  have HB_3 := Lib.hid (next HB_2.out Rx)
  have HC_3 := Lib.hid (next HC_2.out Rx)
  have HU_3 := Lib.hid (next HU_2.out Rx)
  have HV_3 := Lib.hid (next HV_2.out Rx)
  have B_3 := Lib.hid (bel_next B_2.out Rx)
  clear Rx HA_2 HB_2 HC_2 HU_2 HV_2 B_2
  go_wp2_with fail
  refine (common_any HA_3.out HB_3.out (by have := HL.out; have := lens A B C; omega) (by have := HL.out; have := lens A B C; omega)).mono ?_
  rintro e w4 ⟨v4, rfl, Rx⟩
  have HA_4 := Lib.hid (next HA_3.out Rx.2)
  have HB_4 := Lib.hid (next HB_3.out Rx.2)
  have HC_4 := Lib.hid (next HC_3.out Rx.2)
  have B_4 := Lib.hid (bel_next B_3.out Rx.2)
  have HU_4 := Lib.hid (Rx.1)
  clear Rx HA_3 HB_3 HC_3 B_3
  go_wp2_with fail
  refine (common_any HB_4.out HA_4.out (by have := HL.out; have := lens A B C; omega) (by have := HL.out; have := lens A B C; omega)).mono ?_
  rintro e w5 ⟨v5, rfl, Rx⟩
  have HA_5 := Lib.hid (next HA_4.out Rx.2)
  have HB_5 := Lib.hid (next HB_4.out Rx.2)
  have HC_5 := Lib.hid (next HC_4.out Rx.2)
  have HU_5 := Lib.hid (next HU_4.out Rx.2)
  have B_5 := Lib.hid (bel_next B_4.out Rx.2)
  have HV_5 := Lib.hid (Rx.1)
  clear Rx HA_4 HB_4 HC_4 HU_4 B_4
  go_wp2_with fail
  refine (rsame_any HU_5.out HV_5.out).mono ?_
  rintro e w6 ⟨rfl, Rx⟩
  rw [show sameB (commonV A B) (commonV B A) = true by simp [sameB, commonV_comm A B]]
  have HA_6 := Lib.hid (next HA_5.out Rx)
  have HB_6 := Lib.hid (next HB_5.out Rx)
  have HC_6 := Lib.hid (next HC_5.out Rx)
  have HU_6 := Lib.hid (next HU_5.out Rx)
  have HV_6 := Lib.hid (next HV_5.out Rx)
  have B_6 := Lib.hid (bel_next B_5.out Rx)
  clear Rx HA_5 HB_5 HC_5 HU_5 HV_5 B_5
  go_wp2_with fail
  refine (union_any HB_6.out HC_6.out (by have := HL.out; have := lens A B C; omega) (by have := HL.out; have := lens A B C; omega)).mono ?_
  rintro e w7 ⟨v7, rfl, Rx⟩
  have HA_7 := Lib.hid (next HA_6.out Rx.2)
  have HB_7 := Lib.hid (next HB_6.out Rx.2)
  have HC_7 := Lib.hid (next HC_6.out Rx.2)
  have B_7 := Lib.hid (bel_next B_6.out Rx.2)
  have HU_7 := Lib.hid (Rx.1)
  clear Rx HA_6 HB_6 HC_6 B_6
  go_wp2_with fail
  refine (common_any HA_7.out HU_7.out (by have := HL.out; have := lens A B C; omega) (by have := HL.out; have := lens A B C; omega)).mono ?_
  rintro e w8 ⟨v8, rfl, Rx⟩
  have HA_8 := Lib.hid (next HA_7.out Rx.2)
  have HB_8 := Lib.hid (next HB_7.out Rx.2)
  have HC_8 := Lib.hid (next HC_7.out Rx.2)
  have HU_8 := Lib.hid (next HU_7.out Rx.2)
  have B_8 := Lib.hid (bel_next B_7.out Rx.2)
  have HV_8 := Lib.hid (Rx.1)
  clear Rx HA_7 HB_7 HC_7 HU_7 B_7
  go_wp2_with fail
  refine (common_any HA_8.out HB_8.out (by have := HL.out; have := lens A B C; omega) (by have := HL.out; have := lens A B C; omega)).mono ?_
  rintro e w9 ⟨v9, rfl, Rx⟩
  have HA_9 := Lib.hid (next HA_8.out Rx.2)
  have HB_9 := Lib.hid (next HB_8.out Rx.2)
  have HC_9 := Lib.hid (next HC_8.out Rx.2)
  have HU_9 := Lib.hid (next HU_8.out Rx.2)
  have HV_9 := Lib.hid (next HV_8.out Rx.2)
  have B_9 := Lib.hid (bel_next B_8.out Rx.2)
  have HW_9 := Lib.hid (Rx.1)
  clear Rx HA_8 HB_8 HC_8 HU_8 HV_8 B_8
  go_wp2_with fail
  refine (common_any HA_9.out HC_9.out (by have := HL.out; have := lens A B C; omega) (by have := HL.out; have := lens A B C; omega)).mono ?_
  rintro e w10 ⟨v10, rfl, Rx⟩
  have HA_10 := Lib.hid (next HA_9.out Rx.2)
  have HB_10 := Lib.hid (next HB_9.out Rx.2)
  have HC_10 := Lib.hid (next HC_9.out Rx.2)
  have HU_10 := Lib.hid (next HU_9.out Rx.2)
  have HV_10 := Lib.hid (next HV_9.out Rx.2)
  have HW_10 := Lib.hid (next HW_9.out Rx.2)
  have B_10 := Lib.hid (bel_next B_9.out Rx.2)
  have HX_10 := Lib.hid (Rx.1)
  clear Rx HA_9 HB_9 HC_9 HU_9 HV_9 HW_9 B_9
  go_wp2_with fail
  refine (union_any HW_10.out HX_10.out (by have := HL.out; have := lens A B C; omega) (by have := HL.out; have := lens A B C; omega)).mono ?_
  rintro e w11 ⟨v11, rfl, Rx⟩
  have HA_11 := Lib.hid (next HA_10.out Rx.2)
  have HB_11 := Lib.hid (next HB_10.out Rx.2)
  have HC_11 := Lib.hid (next HC_10.out Rx.2)
  have HU_11 := Lib.hid (next HU_10.out Rx.2)
  have HV_11 := Lib.hid (next HV_10.out Rx.2)
  have HW_11 := Lib.hid (next HW_10.out Rx.2)
  have HX_11 := Lib.hid (next HX_10.out Rx.2)
  have B_11 := Lib.hid (bel_next B_10.out Rx.2)
  have HY_11 := Lib.hid (Rx.1)
  clear Rx HA_10 HB_10 HC_10 HU_10 HV_10 HW_10 HX_10 B_10
  go_wp2_with fail
  refine (rsame_any HV_11.out HY_11.out).mono ?_
  rintro e w12 ⟨rfl, Rx⟩
  rw [show sameB (commonV A (unionV B C)) (unionV (commonV A B) (commonV A C)) = true by simp [sameB, commonV_unionV A B C]]
  have HA_12 := Lib.hid (next HA_11.out Rx)
  have HB_12 := Lib.hid (next HB_11.out Rx)
  have HC_12 := Lib.hid (next HC_11.out Rx)
  have HU_12 := Lib.hid (next HU_11.out Rx)
  have HV_12 := Lib.hid (next HV_11.out Rx)
  have HW_12 := Lib.hid (next HW_11.out Rx)
  have HX_12 := Lib.hid (next HX_11.out Rx)
  have HY_12 := Lib.hid (next HY_11.out Rx)
  have B_12 := Lib.hid (bel_next B_11.out Rx)
  clear Rx HA_11 HB_11 HC_11 HU_11 HV_11 HW_11 HX_11 HY_11 B_11
  go_wp2_with fail
  refine (union_any HB_12.out HC_12.out (by have := HL.out; have := lens A B C; omega) (by have := HL.out; have := lens A B C; omega)).mono ?_
  rintro e w13 ⟨v13, rfl, Rx⟩
  have HA_13 := Lib.hid (next HA_12.out Rx.2)
  have HB_13 := Lib.hid (next HB_12.out Rx.2)
  have HC_13 := Lib.hid (next HC_12.out Rx.2)
  have B_13 := Lib.hid (bel_next B_12.out Rx.2)
  have HU_13 := Lib.hid (Rx.1)
  clear Rx HA_12 HB_12 HC_12 B_12
  go_wp2_with fail
  refine (minus_any HA_13.out HU_13.out (by have := HL.out; have := lens A B C; omega) (by have := HL.out; have := lens A B C; omega)).mono ?_
  rintro e w14 ⟨v14, rfl, Rx⟩
  have HA_14 := Lib.hid (next HA_13.out Rx.2)
  have HB_14 := Lib.hid (next HB_13.out Rx.2)
  have HC_14 := Lib.hid (next HC_13.out Rx.2)
  have HU_14 := Lib.hid (next HU_13.out Rx.2)
  have B_14 := Lib.hid (bel_next B_13.out Rx.2)
  have HV_14 := Lib.hid (Rx.1)
  clear Rx HA_13 HB_13 HC_13 HU_13 B_13
  go_wp2_with fail
  refine (minus_any HA_14.out HB_14.out (by have := HL.out; have := lens A B C; omega) (by have := HL.out; have := lens A B C; omega)).mono ?_
  rintro e w15 ⟨v15, rfl, Rx⟩
  have HA_15 := Lib.hid (next HA_14.out Rx.2)
  have HB_15 := Lib.hid (next HB_14.out Rx.2)
  have HC_15 := Lib.hid (next HC_14.out Rx.2)
  have HU_15 := Lib.hid (next HU_14.out Rx.2)
  have HV_15 := Lib.hid (next HV_14.out Rx.2)
  have B_15 := Lib.hid (bel_next B_14.out Rx.2)
  have HW_15 := Lib.hid (Rx.1)
  clear Rx HA_14 HB_14 HC_14 HU_14 HV_14 B_14
  go_wp2_with fail
  refine (minus_any HW_15.out HC_15.out (by have := HL.out; have := lens A B C; omega) (by have := HL.out; have := lens A B C; omega)).mono ?_
  rintro e w16 ⟨v16, rfl, Rx⟩
  have HA_16 := Lib.hid (next HA_15.out Rx.2)
  have HB_16 := Lib.hid (next HB_15.out Rx.2)
  have HC_16 := Lib.hid (next HC_15.out Rx.2)
  have HU_16 := Lib.hid (next HU_15.out Rx.2)
  have HV_16 := Lib.hid (next HV_15.out Rx.2)
  have HW_16 := Lib.hid (next HW_15.out Rx.2)
  have B_16 := Lib.hid (bel_next B_15.out Rx.2)
  have HX_16 := Lib.hid (Rx.1)
  clear Rx HA_15 HB_15 HC_15 HU_15 HV_15 HW_15 B_15
  go_wp2_with fail
  refine (rsame_any HV_16.out HX_16.out).mono ?_
  rintro e w17 ⟨rfl, Rx⟩
  rw [show sameB (minusV A (unionV B C)) (minusV (minusV A B) C) = true by simp [sameB, minusV_unionV A B C]]
  have HA_17 := Lib.hid (next HA_16.out Rx)
  have HB_17 := Lib.hid (next HB_16.out Rx)
  have HC_17 := Lib.hid (next HC_16.out Rx)
  have HU_17 := Lib.hid (next HU_16.out Rx)
  have HV_17 := Lib.hid (next HV_16.out Rx)
  have HW_17 := Lib.hid (next HW_16.out Rx)
  have HX_17 := Lib.hid (next HX_16.out Rx)
  have B_17 := Lib.hid (bel_next B_16.out Rx)
  clear Rx HA_16 HB_16 HC_16 HU_16 HV_16 HW_16 HX_16 B_16
  go_wp2_with fail
  refine (minus_any HA_17.out HB_17.out (by have := HL.out; have := lens A B C; omega) (by have := HL.out; have := lens A B C; omega)).mono ?_
  rintro e w18 ⟨v18, rfl, Rx⟩
  have HA_18 := Lib.hid (next HA_17.out Rx.2)
  have HB_18 := Lib.hid (next HB_17.out Rx.2)
  have HC_18 := Lib.hid (next HC_17.out Rx.2)
  have B_18 := Lib.hid (bel_next B_17.out Rx.2)
  have HU_18 := Lib.hid (Rx.1)
  clear Rx HA_17 HB_17 HC_17 B_17
  go_wp2_with fail
  refine (common_any HA_18.out HB_18.out (by have := HL.out; have := lens A B C; omega) (by have := HL.out; have := lens A B C; omega)).mono ?_
  rintro e w19 ⟨v19, rfl, Rx⟩
  have HA_19 := Lib.hid (next HA_18.out Rx.2)
  have HB_19 := Lib.hid (next HB_18.out Rx.2)
  have HC_19 := Lib.hid (next HC_18.out Rx.2)
  have HU_19 := Lib.hid (next HU_18.out Rx.2)
  have B_19 := Lib.hid (bel_next B_18.out Rx.2)
  have HV_19 := Lib.hid (Rx.1)
  clear Rx HA_18 HB_18 HC_18 HU_18 B_18
  go_wp2_with fail
  refine (union_any HU_19.out HV_19.out (by have := HL.out; have := lens A B C; omega) (by have := HL.out; have := lens A B C; omega)).mono ?_
  rintro e w20 ⟨v20, rfl, Rx⟩
  have HA_20 := Lib.hid (next HA_19.out Rx.2)
  have HB_20 := Lib.hid (next HB_19.out Rx.2)
  have HC_20 := Lib.hid (next HC_19.out Rx.2)
  have HU_20 := Lib.hid (next HU_19.out Rx.2)
  have HV_20 := Lib.hid (next HV_19.out Rx.2)
  have B_20 := Lib.hid (bel_next B_19.out Rx.2)
  have HW_20 := Lib.hid (Rx.1)
  clear Rx HA_19 HB_19 HC_19 HU_19 HV_19 B_19
  go_wp2_with fail
  refine (make_any HA_20.out (by have := HL.out; omega)).mono ?_
  rintro e w21 ⟨v21, rfl, Rx⟩
  have HA_21 := Lib.hid (next HA_20.out Rx.2)
  have HB_21 := Lib.hid (next HB_20.out Rx.2)
  have HC_21 := Lib.hid (next HC_20.out Rx.2)
  have HU_21 := Lib.hid (next HU_20.out Rx.2)
  have HV_21 := Lib.hid (next HV_20.out Rx.2)
  have HW_21 := Lib.hid (next HW_20.out Rx.2)
  have B_21 := Lib.hid (bel_next B_20.out Rx.2)
  have HX_21 := Lib.hid (Rx.1)
  clear Rx HA_20 HB_20 HC_20 HU_20 HV_20 HW_20 B_20
  go_wp2_with fail
  refine (rsame_any HW_21.out HX_21.out).mono ?_
  rintro e w22 ⟨rfl, Rx⟩
  rw [show sameB (unionV (minusV A B) (commonV A B)) (sset A) = true by simp [sameB, unionV_parts A B]]
  have HA_22 := Lib.hid (next HA_21.out Rx)
  have HB_22 := Lib.hid (next HB_21.out Rx)
  have HC_22 := Lib.hid (next HC_21.out Rx)
  have HU_22 := Lib.hid (next HU_21.out Rx)
  have HV_22 := Lib.hid (next HV_21.out Rx)
  have HW_22 := Lib.hid (next HW_21.out Rx)
  have HX_22 := Lib.hid (next HX_21.out Rx)
  have B_22 := Lib.hid (bel_next B_21.out Rx)
  clear Rx HA_21 HB_21 HC_21 HU_21 HV_21 HW_21 HX_21 B_21
  go_wp2_with fail
  refine (alive_any _).mono ?_
  rintro e w23 ⟨rfl, Rx⟩
  have HA_23 := Lib.hid (next HA_22.out Rx)
  have HB_23 := Lib.hid (next HB_22.out Rx)
  have HC_23 := Lib.hid (next HC_22.out Rx)
  have HU_23 := Lib.hid (next HU_22.out Rx)
  have HV_23 := Lib.hid (next HV_22.out Rx)
  have B_23 := Lib.hid (bel_next B_22.out Rx)
  clear Rx HA_22 HB_22 HC_22 HU_22 HV_22 B_22
  go_wp2_with fail
  go_ret
  exact ⟨rfl, B_23.out⟩

theorem walk_out {va vb vc : Value} {A B C : List Int} {w : World} (h : Reads w.heap.size w va A) (hy : Reads w.heap.size w vb B) (hz : Reads w.heap.size w vc C) (hl : 100 < A.length ∨ 100 < B.length ∨ 100 < C.length) :
    Calls Try.prog 7 #[va, vb, vc] w fun e w' => e = .returned (.bool true) ∧ Below w.heap.size w w' := by
  obtain ⟨a0, ca, rfl, hma⟩ := rshape h
  obtain ⟨b0, cb, rfl, hmb⟩ := rshape hy
  obtain ⟨c0, cc, rfl, hmc⟩ := rshape hz
  clear h hy hz
  by_cases h1 : 100 < A.length
  · clear hl
    go_enter Try.func7, Try.ntmps7
    go_wp2_with fail
    refine (alive_any _).mono ?_
    rintro e w1 ⟨rfl, Rx⟩
    have B_1 := Lib.hid (bel_next (Below.refl _ _) Rx)
    clear Rx 
    go_wp2_with fail
    go_ret
    exact ⟨rfl, B_1.out⟩
  · by_cases h2 : 100 < B.length
    · clear hl
      go_enter Try.func7, Try.ntmps7
      go_wp2_with fail
      refine (alive_any _).mono ?_
      rintro e w1 ⟨rfl, Rx⟩
      have B_1 := Lib.hid (bel_next (Below.refl _ _) Rx)
      clear Rx 
      go_wp2_with fail
      go_ret
      exact ⟨rfl, B_1.out⟩
    · have h3 : 100 < C.length := by omega
      clear hl
      go_enter Try.func7, Try.ntmps7
      go_wp2_with fail
      refine (alive_any _).mono ?_
      rintro e w1 ⟨rfl, Rx⟩
      have B_1 := Lib.hid (bel_next (Below.refl _ _) Rx)
      clear Rx 
      go_wp2_with fail
      go_ret
      exact ⟨rfl, B_1.out⟩

theorem walk (a0 : Option Addr) (len0 cap0 : Nat) (z0 : List Int) (a1 : Option Addr) (len1 cap1 : Nat) (z1 : List Int) (a2 : Option Addr) (len2 cap2 : Nat) (z2 : List Int) (w : World) (w0 : IsRow .i64 w a0 len0 cap0 z0) (w1 : IsRow .i64 w a1 len1 cap1 z1) (w2 : IsRow .i64 w a2 len2 cap2 z2) :
    Calls Try.prog 7 #[.slice a0 len0 cap0, .slice a1 len1 cap1, .slice a2 len2 cap2] w fun e w' => e = .returned (.bool true) ∧ Below w.heap.size w w' := by
  by_cases h : (z0.take len0).length ≤ 100 ∧ (z1.take len1).length ≤ 100 ∧ (z2.take len2).length ≤ 100
  · exact walk_near (reads_arg w0).1 (reads_arg w1).1 (reads_arg w2).1 h
  · exact walk_out (reads_arg w0).1 (reads_arg w1).1 (reads_arg w2).1 (by omega)

set_option maxRecDepth 100000 in
theorem lifted (os : Os) (started : os.Started) (H : Type) (enc : TypeId × Value → H) :
    ReturnsInHanded {} Try.checked os 7 .any (Rows.idsetAlgebraSpec.pre6 enc Try.prog Try.f7 Rows.idsetAlgebraRow.domain false) (Rows.idsetAlgebraSpec.post enc Try.prog Try.f7 false true false false) := by
  refine returnsInHanded_of_change (C := Try.checked) own started (by kernel_rfl) Try.func7
    (ChangeSpec.witness6 (enc := enc) (C := Try.checked) false ⟨#[], #[.slice none 0 0, .slice none 0 0, .slice none 0 0], []⟩ 8 (by kernel_rfl) (by kernel_rfl) (by kernel_rfl) (by kernel_rfl)) ?_
  intro W base args ds gs before hval0 hW hcnd _
  have hval : ∀ (j : Nat) t v, Try.f7.params[j]? = some t → args[j]? = some v → Value.okWide Try.prog W .any base t v := hval0
  have hW' := hW
  obtain ⟨p, q, hA0, hV, rfl, hfz, hnd⟩ := hW
  have hA : DataW.TrodAll enc Try.prog W 0 (fun _ => true) true Try.f7.params.toList args.toList ds p := hA0
  rw [Try.params7] at hA hval
  obtain ⟨v0, vs0, d0, ds0, p0, q0, hargs, rfl, rfl, h0, r0⟩ := trodAll_cons hA
  obtain ⟨v1, vs1, d1, ds1, p1, q1, rfl, rfl, rfl, h1, r1⟩ := trodAll_cons r0
  obtain ⟨v2, vs2, d2, ds2, p2, q2, rfl, rfl, rfl, h2, r2⟩ := trodAll_cons r1
  obtain ⟨rfl, rfl, rfl⟩ := trodAll_nil r2
  obtain rfl : args = #[v0, v1, v2] := by cases args; simp_all
  obtain ⟨rfl, rfl⟩ := trodVars_none hV
  obtain ⟨a0, len0, cap0, rfl⟩ := okWide_slice Try.underlying22 (hval 0 22 v0 rfl rfl)
  have k0 := h0
  have lt0 : ∀ x ∈ p0, x.block < W.heap.size := by obtain ⟨m, hm⟩ := k0; exact DataW.trod_lt m _ _ _ hm
  obtain ⟨z0, w0⟩ : ∃ zs, IsRow .i64 W a0 len0 cap0 zs := by
    obtain ⟨fuel, hf⟩ := h0
    rcases open_ints Try.underlying22 Try.underlying3 (by kernel_rfl) hf with ⟨hcs, _⟩ | ⟨x, l, c, zs, hcs, _, hl, hm, hz, _, hcell, hwz⟩
    · simp [Value.cells] at hcs
      obtain ⟨rfl, rfl, rfl⟩ := hcs
      exact ⟨[], .inl ⟨rfl, rfl, rfl, rfl⟩⟩
    · simp [Value.cells] at hcs
      obtain ⟨rfl, rfl, rfl⟩ := hcs
      exact ⟨zs, .inr ⟨_, rfl, hl, hm, by simpa using hz, hcell, hwz⟩⟩
  obtain ⟨a1, len1, cap1, rfl⟩ := okWide_slice Try.underlying22 (hval 1 22 v1 rfl rfl)
  have k1 := h1
  have lt1 : ∀ x ∈ p1, x.block < W.heap.size := by obtain ⟨m, hm⟩ := k1; exact DataW.trod_lt m _ _ _ hm
  obtain ⟨z1, w1⟩ : ∃ zs, IsRow .i64 W a1 len1 cap1 zs := by
    obtain ⟨fuel, hf⟩ := h1
    rcases open_ints Try.underlying22 Try.underlying3 (by kernel_rfl) hf with ⟨hcs, _⟩ | ⟨x, l, c, zs, hcs, _, hl, hm, hz, _, hcell, hwz⟩
    · simp [Value.cells] at hcs
      obtain ⟨rfl, rfl, rfl⟩ := hcs
      exact ⟨[], .inl ⟨rfl, rfl, rfl, rfl⟩⟩
    · simp [Value.cells] at hcs
      obtain ⟨rfl, rfl, rfl⟩ := hcs
      exact ⟨zs, .inr ⟨_, rfl, hl, hm, by simpa using hz, hcell, hwz⟩⟩
  obtain ⟨a2, len2, cap2, rfl⟩ := okWide_slice Try.underlying22 (hval 2 22 v2 rfl rfl)
  have k2 := h2
  have lt2 : ∀ x ∈ p2, x.block < W.heap.size := by obtain ⟨m, hm⟩ := k2; exact DataW.trod_lt m _ _ _ hm
  obtain ⟨z2, w2⟩ : ∃ zs, IsRow .i64 W a2 len2 cap2 zs := by
    obtain ⟨fuel, hf⟩ := h2
    rcases open_ints Try.underlying22 Try.underlying3 (by kernel_rfl) hf with ⟨hcs, _⟩ | ⟨x, l, c, zs, hcs, _, hl, hm, hz, _, hcell, hwz⟩
    · simp [Value.cells] at hcs
      obtain ⟨rfl, rfl, rfl⟩ := hcs
      exact ⟨[], .inl ⟨rfl, rfl, rfl, rfl⟩⟩
    · simp [Value.cells] at hcs
      obtain ⟨rfl, rfl, rfl⟩ := hcs
      exact ⟨zs, .inr ⟨_, rfl, hl, hm, by simpa using hz, hcell, hwz⟩⟩
  clear hA0 hval0
  refine (walk a0 len0 cap0 z0 a1 len1 cap1 z1 a2 len2 cap2 z2 W w0 w1 w2).mono fun e W' ⟨he, bel⟩ => ?_
  subst he
  exact ⟨_, rfl, _, _, _, [], _, [], hW', trodAll_mk1 (shut_bool Try.underlying4 _), (trodAll_cons_mk (Below.trod laidOut (by kernel_rfl) (of_decide_eq_true (by kernel_rfl)) k0 bel lt0) (trodAll_cons_mk (Below.trod laidOut (by kernel_rfl) (of_decide_eq_true (by kernel_rfl)) k1 bel lt1) (trodAll_cons_mk (Below.trod laidOut (by kernel_rfl) (of_decide_eq_true (by kernel_rfl)) k2 bel lt2) trodAll_mk0))), rfl, bel.frame _, fun h => by cases h⟩

theorem over : Rows.idsetAlgebraRow.holds Try.pinned (OpenSpec.ofChange Rows.idsetAlgebraSpec) :=
  OpenClaim.holds_of_wide 7 Try.f7 rfl rfl rfl rfl rfl rfl rfl ⟨rfl, rfl, rfl, rfl, rfl⟩ rfl rfl rfl rfl rfl (by kernel_rfl) Try.func7 (by kernel_rfl)
    (of_decide_eq_true (by kernel_rfl)) (by unfold Func.isWrapper; first | (rw [if_pos (by decide +kernel)]; kernel_rfl) | (rw [if_neg (by decide +kernel)]; exact ⟨rfl, rfl⟩))
    (fun os started H enc _ => lifted os started H enc)

/-- The statement. -/
theorem proved : Rows.IdsetAlgebraSaid := over
#print axioms proved
end Go.Proofs.Ytjlnlcnddhilhaa.idsetAlgebra
