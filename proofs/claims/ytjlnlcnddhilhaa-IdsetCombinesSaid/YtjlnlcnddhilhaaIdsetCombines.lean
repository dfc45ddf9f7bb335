/- IdsetCombines: for all lists of at most 200 ints, idset.Union, Common and Minus return what the reference does; of longer lists only the examples are said. No condition. -/
import Derived.Test.YtjlnlcnddhilhaaRows
import Derived.WalkKit
import Derived.ProofKit
import Derived.OpenShut
import Derived.ShutString
import Derived.ChangeOld
import Derived.Below
import Derived.Test.YtjlnlcnddhilhaaSetlaws
namespace Go.Proofs.Ytjlnlcnddhilhaa.idsetCombines
open Go.ChangeShapes Go.WideShapes Go.ChangeAt Go.RowKit
open Go.ChangeMaps (open_string shut_string)
open Go.Sort Go.Proofs.Ytjlnlcnddhilhaa.Sets Go.Proofs.Ytjlnlcnddhilhaa.Reads Go.Proofs.Ytjlnlcnddhilhaa.Idset Go.Proofs.Ytjlnlcnddhilhaa.Rsets
set_option linter.unusedVariables false

theorem own : ownKnob Try.prog.godebug = none := by kernel_rfl
theorem laidOut : laidOutB Try.prog = true := by kernel_rfl

/-- WHAT THE WALK IS TOLD OF A SLICE OF INTEGERS THAT CAME IN: it is nil; or it leads to a row of 'cap' cells, the numbers 'zs' (the first 'len' are its elements, the rest its spare room), each fitting its kind. -/
def IsRow (k : IntKind) (w : World) (a : Option Addr) (len cap : Nat) (zs : List Int) : Prop :=
  (a = none ∧ len = 0 ∧ cap = 0 ∧ zs = []) ∨
  ∃ x, a = some x ∧ len ≤ cap ∧ cap ≤ maxLen ∧ zs.length = cap ∧ (∀ i, i < zs.length → w.cell? (x.add i) = some (.int k (zs.getD i 0))) ∧ ∀ n ∈ zs, (Lit.int k n).wf = true

theorem walk_near {va vb : Value} {A B : List Int} {w : World} (h : Reads w.heap.size w va A) (hy : Reads w.heap.size w vb B) (lA : A.length ≤ 200) (lB : B.length ≤ 200) :
    Calls Try.prog 5 #[va, vb] w fun e w' => e = .returned (.bool true) ∧ Below w.heap.size w w' := by
  have HA := Lib.hid h
  have HB := Lib.hid hy
  clear h hy
  go_enter Try.func5, Try.ntmps5
  go_wp2_with fail
  refine (large_no HA.out HB.out lA lB).mono ?_
  rintro e w' ⟨rfl, rfl⟩
  go_wp2_with fail
  refine (union_any HA.out HB.out (by omega) (by omega)).mono ?_
  rintro e w1 ⟨v1, rfl, Rx⟩
  have HA_1 := Lib.hid (next HA.out Rx.2)
  have HB_1 := Lib.hid (next HB.out Rx.2)
  have B_1 := Lib.hid (bel_next (Below.refl _ _) Rx.2)
  have HU_1 := Lib.hid (Rx.1)
  clear Rx HA HB
  go_wp2_with fail
  refine (runion_any HA_1.out HB_1.out (by omega) (by omega)).mono ?_
  rintro e w2 ⟨v2, rfl, Rx⟩
  have HA_2 := Lib.hid (next HA_1.out Rx.2)
  have HB_2 := Lib.hid (next HB_1.out Rx.2)
  have HU_2 := Lib.hid (next HU_1.out Rx.2)
  have B_2 := Lib.hid (bel_next B_1.out Rx.2)
  have HV_2 := Lib.hid (Rx.1)
  clear Rx HA_1 HB_1 HU_1 B_1
  go_wp2_with fail
  refine (rsame_any HU_2.out HV_2.out).mono ?_
  rintro e w3 ⟨rfl, Rx⟩
  rw [show sameB (unionV A B) (unionV A B) = true by simp [sameB]]
  have HA_3 := Lib.hid (next HA_2.out Rx)
  have HB_3 := Lib.hid (next HB_2.out Rx)
  have HU_3 := Lib.hid (next HU_2.out Rx)
  have HV_3 := Lib.hid (next HV_2.out Rx)
  have B_3 := Lib.hid (bel_next B_2.out Rx)
  clear Rx HA_2 HB_2 HU_2 HV_2 B_2
  go_wp2_with fail
  refine (common_any HA_3.out HB_3.out (by omega) (by omega)).mono ?_
  rintro e w4 ⟨v4, rfl, Rx⟩
  have HA_4 := Lib.hid (next HA_3.out Rx.2)
  have HB_4 := Lib.hid (next HB_3.out Rx.2)
  have B_4 := Lib.hid (bel_next B_3.out Rx.2)
  have HU_4 := Lib.hid (Rx.1)
  clear Rx HA_3 HB_3 B_3
  go_wp2_with fail
  refine (rcommon_any HA_4.out HB_4.out (by omega)).mono ?_
  rintro e w5 ⟨v5, rfl, Rx⟩
  have HA_5 := Lib.hid (next HA_4.out Rx.2)
  have HB_5 := Lib.hid (next HB_4.out Rx.2)
  have HU_5 := Lib.hid (next HU_4.out Rx.2)
  have B_5 := Lib.hid (bel_next B_4.out Rx.2)
  have HV_5 := Lib.hid (Rx.1)
  clear Rx HA_4 HB_4 HU_4 B_4
  go_wp2_with fail
  refine (rsame_any HU_5.out HV_5.out).mono ?_
  rintro e w6 ⟨rfl, Rx⟩
  rw [show sameB (commonV A B) (commonV A B) = true by simp [sameB]]
  have HA_6 := Lib.hid (next HA_5.out Rx)
  have HB_6 := Lib.hid (next HB_5.out Rx)
  have HU_6 := Lib.hid (next HU_5.out Rx)
  have HV_6 := Lib.hid (next HV_5.out Rx)
  have B_6 := Lib.hid (bel_next B_5.out Rx)
  clear Rx HA_5 HB_5 HU_5 HV_5 B_5
  go_wp2_with fail
  refine (minus_any HA_6.out HB_6.out (by omega) (by omega)).mono ?_
  rintro e w7 ⟨v7, rfl, Rx⟩
  have HA_7 := Lib.hid (next HA_6.out Rx.2)
  have HB_7 := Lib.hid (next HB_6.out Rx.2)
  have B_7 := Lib.hid (bel_next B_6.out Rx.2)
  have HU_7 := Lib.hid (Rx.1)
  clear Rx HA_6 HB_6 B_6
  go_wp2_with fail
  refine (rminus_any HA_7.out HB_7.out (by omega)).mono ?_
  rintro e w8 ⟨v8, rfl, Rx⟩
  have HA_8 := Lib.hid (next HA_7.out Rx.2)
  have HB_8 := Lib.hid (next HB_7.out Rx.2)
  have HU_8 := Lib.hid (next HU_7.out Rx.2)
  have B_8 := Lib.hid (bel_next B_7.out Rx.2)
  have HV_8 := Lib.hid (Rx.1)
  clear Rx HA_7 HB_7 HU_7 B_7
  go_wp2_with fail
  refine (rsame_any HU_8.out HV_8.out).mono ?_
  rintro e w9 ⟨rfl, Rx⟩
  rw [show sameB (minusV A B) (minusV A B) = true by simp [sameB]]
  have HA_9 := Lib.hid (next HA_8.out Rx)
  have HB_9 := Lib.hid (next HB_8.out Rx)
  have HU_9 := Lib.hid (next HU_8.out Rx)
  have HV_9 := Lib.hid (next HV_8.out Rx)
  have B_9 := Lib.hid (bel_next B_8.out Rx)
  clear Rx HA_8 HB_8 HU_8 HV_8 B_8
  go_wp2_with fail
  refine (alive_any _).mono ?_
  rintro e w10 ⟨rfl, Rx⟩
  have HA_10 := Lib.hid (next HA_9.out Rx)
  have HB_10 := Lib.hid (next HB_9.out Rx)
  have B_10 := Lib.hid (bel_next B_9.out Rx)
  clear Rx HA_9 HB_9 B_9
  go_wp2_with fail
  go_ret
  exact ⟨rfl, B_10.out⟩

theorem walk_out {va vb : Value} {A B : List Int} {w : World} (h : Reads w.heap.size w va A) (hy : Reads w.heap.size w vb B) (hl : 200 < A.length ∨ 200 < B.length) :
    Calls Try.prog 5 #[va, vb] w fun e w' => e = .returned (.bool true) ∧ Below w.heap.size w w' := by
  have HA := Lib.hid h
  have HB := Lib.hid hy
  clear h hy
  go_enter Try.func5, Try.ntmps5
  go_wp2_with fail
  refine (large_yes HA.out HB.out hl).mono ?_
  rintro e w' ⟨rfl, rfl⟩
  go_wp2_with fail
  refine (alive_any _).mono ?_
  rintro e w1 ⟨rfl, Rx⟩
  have B_1 := Lib.hid (bel_next (Below.refl _ _) Rx)
  clear Rx 
  go_wp2_with fail
  go_ret
  exact ⟨rfl, B_1.out⟩

theorem walk (a0 : Option Addr) (len0 cap0 : Nat) (z0 : List Int) (a1 : Option Addr) (len1 cap1 : Nat) (z1 : List Int) (w : World) (w0 : IsRow .i64 w a0 len0 cap0 z0) (w1 : IsRow .i64 w a1 len1 cap1 z1) :
    Calls Try.prog 5 #[.slice a0 len0 cap0, .slice a1 len1 cap1] w fun e w' => e = .returned (.bool true) ∧ Below w.heap.size w w' := by
  by_cases h : (z0.take len0).length ≤ 200 ∧ (z1.take len1).length ≤ 200
  · exact walk_near (reads_arg w0).1 (reads_arg w1).1 h.1 h.2
  · exact walk_out (reads_arg w0).1 (reads_arg w1).1 (by omega)

set_option maxRecDepth 100000 in
theorem lifted (os : Os) (started : os.Started) (H : Type) (enc : TypeId × Value → H) :
    ReturnsInHanded {} Try.checked os 5 .any (Rows.idsetCombinesSpec.pre6 enc Try.prog Try.f5 Rows.idsetCombinesRow.domain false) (Rows.idsetCombinesSpec.post enc Try.prog Try.f5 false true false false) := by
  refine returnsInHanded_of_change (C := Try.checked) own started (by kernel_rfl) Try.func5
    (ChangeSpec.witness6 (enc := enc) (C := Try.checked) false ⟨#[], #[.slice none 0 0, .slice none 0 0], []⟩ 8 (by kernel_rfl) (by kernel_rfl) (by kernel_rfl) (by kernel_rfl)) ?_
  intro W base args ds gs before hval0 hW hcnd _
  have hval : ∀ (j : Nat) t v, Try.f5.params[j]? = some t → args[j]? = some v → Value.okWide Try.prog W .any base t v := hval0
  have hW' := hW
  obtain ⟨p, q, hA0, hV, rfl, hfz, hnd⟩ := hW
  have hA : DataW.TrodAll enc Try.prog W 0 (fun _ => true) true Try.f5.params.toList args.toList ds p := hA0
  rw [Try.params5] at hA hval
  obtain ⟨v0, vs0, d0, ds0, p0, q0, hargs, rfl, rfl, h0, r0⟩ := trodAll_cons hA
  obtain ⟨v1, vs1, d1, ds1, p1, q1, rfl, rfl, rfl, h1, r1⟩ := trodAll_cons r0
  obtain ⟨rfl, rfl, rfl⟩ := trodAll_nil r1
  obtain rfl : args = #[v0, v1] := by cases args; simp_all
  obtain ⟨rfl, rfl⟩ := trodVars_none hV
  obtain ⟨a0, len0, cap0, rfl⟩ := okWide_slice Try.underlying22 (hval 0 22 v0 rfl rfl)
  have k0 := h0
  have lt0 : ∀ x ∈ p0, x.block < W.heap.size := by obtain ⟨m, hm⟩ := k0; exact DataW.trod_lt m _ _ _ hm
  obtain ⟨z0, w0⟩ : ∃ zs, IsRow .i64 W a0 len0 cap0 zs := by
    obtain ⟨fuel, hf⟩ := h0
    rcases open_ints Try.underlying22 Try.underlying3 (by kernel_rfl) hf with ⟨hcs, _⟩ | ⟨x, l, c, zs, hcs, _, hl, hm, hz, _, hcell, hwz⟩
    · simp [Value.cells] at hcs
      obtain ⟨rfl, rfl, rfl⟩ := hcs
      exact ⟨[], .inl ⟨rfl, rfl, rfl, rfl⟩⟩
    · simp [Value.cells] at hcs
      obtain ⟨rfl, rfl, rfl⟩ := hcs
      exact ⟨zs, .inr ⟨_, rfl, hl, hm, by simpa using hz, hcell, hwz⟩⟩
  obtain ⟨a1, len1, cap1, rfl⟩ := okWide_slice Try.underlying22 (hval 1 22 v1 rfl rfl)
  have k1 := h1
  have lt1 : ∀ x ∈ p1, x.block < W.heap.size := by obtain ⟨m, hm⟩ := k1; exact DataW.trod_lt m _ _ _ hm
  obtain ⟨z1, w1⟩ : ∃ zs, IsRow .i64 W a1 len1 cap1 zs := by
    obtain ⟨fuel, hf⟩ := h1
    rcases open_ints Try.underlying22 Try.underlying3 (by kernel_rfl) hf with ⟨hcs, _⟩ | ⟨x, l, c, zs, hcs, _, hl, hm, hz, _, hcell, hwz⟩
    · simp [Value.cells] at hcs
      obtain ⟨rfl, rfl, rfl⟩ := hcs
      exact ⟨[], .inl ⟨rfl, rfl, rfl, rfl⟩⟩
    · simp [Value.cells] at hcs
      obtain ⟨rfl, rfl, rfl⟩ := hcs
      exact ⟨zs, .inr ⟨_, rfl, hl, hm, by simpa using hz, hcell, hwz⟩⟩
  clear hA0 hval0
  refine (walk a0 len0 cap0 z0 a1 len1 cap1 z1 W w0 w1).mono fun e W' ⟨he, bel⟩ => ?_
  subst he
  exact ⟨_, rfl, _, _, _, [], _, [], hW', trodAll_mk1 (shut_bool Try.underlying4 _), (trodAll_cons_mk (Below.trod laidOut (by kernel_rfl) (of_decide_eq_true (by kernel_rfl)) k0 bel lt0) (trodAll_cons_mk (Below.trod laidOut (by kernel_rfl) (of_decide_eq_true (by kernel_rfl)) k1 bel lt1) trodAll_mk0)), rfl, bel.frame _, fun h => by cases h⟩

theorem over : Rows.idsetCombinesRow.holds Try.pinned (OpenSpec.ofChange Rows.idsetCombinesSpec) :=
  OpenClaim.holds_of_wide 5 Try.f5 rfl rfl rfl rfl rfl rfl rfl ⟨rfl, rfl, rfl, rfl, rfl⟩ rfl rfl rfl rfl rfl (by kernel_rfl) Try.func5 (by kernel_rfl)
    (of_decide_eq_true (by kernel_rfl)) (by unfold Func.isWrapper; first | (rw [if_pos (by decide +kernel)]; kernel_rfl) | (rw [if_neg (by decide +kernel)]; exact ⟨rfl, rfl⟩))
    (fun os started H enc _ => lifted os started H enc)

/-- The statement. -/
theorem proved : Rows.IdsetCombinesSaid := over
#print axioms proved
end Go.Proofs.Ytjlnlcnddhilhaa.idsetCombines
