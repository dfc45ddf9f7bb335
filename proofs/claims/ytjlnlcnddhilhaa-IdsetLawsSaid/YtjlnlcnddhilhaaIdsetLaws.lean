/- IdsetLaws: for all lists of at most 200 ints and every int, it is an element of idset.Union, Common and Minus exactly as P2.4 says, these are ascending, and their lengths add up; of longer lists only the examples are said. No condition. -/
import Derived.Test.YtjlnlcnddhilhaaRows
import Derived.WalkKit
import Derived.ProofKit
import Derived.OpenShut
import Derived.ShutString
import Derived.ChangeOld
import Derived.Below
import Derived.Test.YtjlnlcnddhilhaaSetlaws
namespace Go.Proofs.Ytjlnlcnddhilhaa.idsetLaws
open Go.ChangeShapes Go.WideShapes Go.ChangeAt Go.RowKit
open Go.ChangeMaps (open_string shut_string)
open Go.Sort Go.Proofs.Ytjlnlcnddhilhaa.Sets Go.Proofs.Ytjlnlcnddhilhaa.Reads Go.Proofs.Ytjlnlcnddhilhaa.Idset Go.Proofs.Ytjlnlcnddhilhaa.Rsets
set_option linter.unusedVariables false

theorem own : ownKnob Try.prog.godebug = none := by kernel_rfl
theorem laidOut : laidOutB Try.prog = true := by kernel_rfl

/-- WHAT THE WALK IS TOLD OF A SLICE OF INTEGERS THAT CAME IN: it is nil; or it leads to a row of 'cap' cells, the numbers 'zs' (the first 'len' are its elements, the rest its spare room), each fitting its kind. -/
def IsRow (k : IntKind) (w : World) (a : Option Addr) (len cap : Nat) (zs : List Int) : Prop :=
  (a = none ∧ len = 0 ∧ cap = 0 ∧ zs = []) ∨
  ∃ x, a = some x ∧ len ≤ cap ∧ cap ≤ maxLen ∧ zs.length = cap ∧ (∀ i, i < zs.length → w.cell? (x.add i) = some (.int k (zs.getD i 0))) ∧ ∀ n ∈ zs, (Lit.int k n).wf = true

theorem has_or (n : Int) (A B : List Int) : hasB n (unionV A B) = (hasB n A || hasB n B) := by unfold hasB; rw [Bool.eq_iff_iff]; simp [mem_unionV]
theorem has_and (n : Int) (A B : List Int) : hasB n (commonV A B) = (hasB n A && hasB n B) := by unfold hasB; rw [Bool.eq_iff_iff]; simp [mem_commonV]
theorem has_less (n : Int) (A B : List Int) : hasB n (minusV A B) = (hasB n A && !hasB n B) := by unfold hasB; rw [Bool.eq_iff_iff]; simp [mem_minusV]
set_option maxHeartbeats 2000000 in
theorem walk_near {va vb : Value} {A B : List Int} {n : Int} {w : World} (h : Reads w.heap.size w va A) (hy : Reads w.heap.size w vb B) (lA : A.length ≤ 200) (lB : B.length ≤ 200) :
    Calls Try.prog 6 #[va, vb, .int .i64 n] w fun e w' => e = .returned (.bool true) ∧ Below w.heap.size w w' := by
  have HA := Lib.hid h
  have HB := Lib.hid hy
  clear h hy
  obtain ⟨x, hx⟩ : ∃ x, hasB n A = x := ⟨_, rfl⟩
  obtain ⟨y, hy⟩ : ∃ y, hasB n B = y := ⟨_, rfl⟩
  have HX1 := Lib.hid hx
  have HY1 := Lib.hid hy
  have HU1 := Lib.hid (show hasB n (unionV A B) = (x || y) by rw [has_or, hx, hy])
  have HC1 := Lib.hid (show hasB n (commonV A B) = (x && y) by rw [has_and, hx, hy])
  have HM1 := Lib.hid (show hasB n (minusV A B) = (x && !y) by rw [has_less, hx, hy])
  have E1 := Lib.hid (union_count A B)
  have E2 := Lib.hid (common_count A B)
  clear hx hy
  cases x <;> cases y
  all_goals
    go_enter Try.func6, Try.ntmps6
    go_wp2_with fail
    refine (large_no HA.out HB.out lA lB).mono ?_
    rintro e w' ⟨rfl, rfl⟩
    go_wp2_with fail
    refine (union_any HA.out HB.out (by omega) (by omega)).mono ?_
    rintro e w1 ⟨v1, rfl, Rx⟩
    have HA_1 := Lib.hid (next HA.out Rx.2)
    have HB_1 := Lib.hid (next HB.out Rx.2)
    have B_1 := Lib.hid (bel_next (Below.refl _ _) Rx.2)
    have HU_1 := Lib.hid (Rx.1)
    clear Rx HA HB
    go_wp2_with fail
    refine (common_any HA_1.out HB_1.out (by omega) (by omega)).mono ?_
    rintro e w2 ⟨v2, rfl, Rx⟩
    have HA_2 := Lib.hid (next HA_1.out Rx.2)
    have HB_2 := Lib.hid (next HB_1.out Rx.2)
    have HU_2 := Lib.hid (next HU_1.out Rx.2)
    have B_2 := Lib.hid (bel_next B_1.out Rx.2)
    have HC_2 := Lib.hid (Rx.1)
    clear Rx HA_1 HB_1 HU_1 B_1
    go_wp2_with fail
    refine (minus_any HA_2.out HB_2.out (by omega) (by omega)).mono ?_
    rintro e w3 ⟨v3, rfl, Rx⟩
    have HA_3 := Lib.hid (next HA_2.out Rx.2)
    have HB_3 := Lib.hid (next HB_2.out Rx.2)
    have HU_3 := Lib.hid (next HU_2.out Rx.2)
    have HC_3 := Lib.hid (next HC_2.out Rx.2)
    have B_3 := Lib.hid (bel_next B_2.out Rx.2)
    have HM_3 := Lib.hid (Rx.1)
    clear Rx HA_2 HB_2 HU_2 HC_2 B_2
    go_wp2_with fail
    refine (has_any (n := n) HA_3.out).mono ?_
    rintro e w' ⟨rfl, rfl⟩
    rw [HX1.out]
    go_wp2_with fail
    refine (has_any (n := n) HB_3.out).mono ?_
    rintro e w' ⟨rfl, rfl⟩
    rw [HY1.out]
    go_wp2_with fail
    refine (has_any (n := n) HU_3.out).mono ?_
    rintro e w' ⟨rfl, rfl⟩
    rw [HU1.out]
    go_wp2_with fail
    refine (has_any (n := n) HC_3.out).mono ?_
    rintro e w' ⟨rfl, rfl⟩
    rw [HC1.out]
    go_wp2_with fail
    refine (has_any (n := n) HM_3.out).mono ?_
    rintro e w' ⟨rfl, rfl⟩
    rw [HM1.out]
    go_wp2_with fail
    refine (ascending_any HU_3.out (asc_unionV _ _)).mono ?_
    rintro e w4 ⟨rfl, Rx⟩
    have HA_4 := Lib.hid (next HA_3.out Rx)
    have HB_4 := Lib.hid (next HB_3.out Rx)
    have HU_4 := Lib.hid (next HU_3.out Rx)
    have HC_4 := Lib.hid (next HC_3.out Rx)
    have HM_4 := Lib.hid (next HM_3.out Rx)
    have B_4 := Lib.hid (bel_next B_3.out Rx)
    clear Rx HA_3 HB_3 HU_3 HC_3 HM_3 B_3
    go_wp2_with fail
    refine (ascending_any HC_4.out (asc_commonV _ _)).mono ?_
    rintro e w5 ⟨rfl, Rx⟩
    have HA_5 := Lib.hid (next HA_4.out Rx)
    have HB_5 := Lib.hid (next HB_4.out Rx)
    have HU_5 := Lib.hid (next HU_4.out Rx)
    have HC_5 := Lib.hid (next HC_4.out Rx)
    have HM_5 := Lib.hid (next HM_4.out Rx)
    have B_5 := Lib.hid (bel_next B_4.out Rx)
    clear Rx HA_4 HB_4 HU_4 HC_4 HM_4 B_4
    go_wp2_with fail
    refine (ascending_any HM_5.out (asc_minusV _ _)).mono ?_
    rintro e w6 ⟨rfl, Rx⟩
    have HA_6 := Lib.hid (next HA_5.out Rx)
    have HB_6 := Lib.hid (next HB_5.out Rx)
    have HU_6 := Lib.hid (next HU_5.out Rx)
    have HC_6 := Lib.hid (next HC_5.out Rx)
    have HM_6 := Lib.hid (next HM_5.out Rx)
    have B_6 := Lib.hid (bel_next B_5.out Rx)
    clear Rx HA_5 HB_5 HU_5 HC_5 HM_5 B_5
    obtain ⟨a1, c1, rfl, hm1⟩ := rshape HU_6.out
    obtain ⟨a2, c2, rfl, hm2⟩ := rshape HC_6.out
    obtain ⟨a3, c3, rfl, hm3⟩ := rshape HM_6.out
    have l1 : (minusV A B).length ≤ 200 := by have := minusV_len A B; omega
    have l2 : (commonV A B).length ≤ 200 := by have := commonV_len A B; omega
    have l3 : (sset B).length ≤ 200 := by have := sset_len B; omega
    have e1 : (((unionV A B).length : Int) == ((minusV A B).length : Int) + ((sset B).length : Int)) = true := by rw [E1.out]; simp
    have e2 : (((commonV A B).length : Int) + ((minusV A B).length : Int) == ((sset A).length : Int)) = true := by rw [← E2.out]; simp
    go_wp2_with fail
    refine (make_any HB_6.out (by omega)).mono ?_
    rintro e w7 ⟨v7, rfl, Rx⟩
    have HA_7 := Lib.hid (next HA_6.out Rx.2)
    have HB_7 := Lib.hid (next HB_6.out Rx.2)
    have B_7 := Lib.hid (bel_next B_6.out Rx.2)
    have HD_7 := Lib.hid (Rx.1)
    clear Rx HA_6 HB_6 B_6
    obtain ⟨a4, c4, rfl, hm4⟩ := rshape HD_7.out
    go_wp2_with fail
    refine (make_any HA_7.out (by omega)).mono ?_
    rintro e w8 ⟨v8, rfl, Rx⟩
    have HA_8 := Lib.hid (next HA_7.out Rx.2)
    have HB_8 := Lib.hid (next HB_7.out Rx.2)
    have B_8 := Lib.hid (bel_next B_7.out Rx.2)
    have HE_8 := Lib.hid (Rx.1)
    clear Rx HA_7 HB_7 B_7
    obtain ⟨a5, c5, rfl, hm5⟩ := rshape HE_8.out
    go_wp2_with fail
    refine (alive_any _).mono ?_
    rintro e w9 ⟨rfl, Rx⟩
    have HA_9 := Lib.hid (next HA_8.out Rx)
    have HB_9 := Lib.hid (next HB_8.out Rx)
    have B_9 := Lib.hid (bel_next B_8.out Rx)
    clear Rx HA_8 HB_8 B_8
    go_wp2_with fail
    go_ret
    exact ⟨rfl, B_9.out⟩

theorem walk_out {va vb : Value} {A B : List Int} {n : Int} {w : World} (h : Reads w.heap.size w va A) (hy : Reads w.heap.size w vb B) (hl : 200 < A.length ∨ 200 < B.length) :
    Calls Try.prog 6 #[va, vb, .int .i64 n] w fun e w' => e = .returned (.bool true) ∧ Below w.heap.size w w' := by
  have HA := Lib.hid h
  have HB := Lib.hid hy
  clear h hy
  go_enter Try.func6, Try.ntmps6
  go_wp2_with fail
  refine (large_yes HA.out HB.out hl).mono ?_
  rintro e w' ⟨rfl, rfl⟩
  go_wp2_with fail
  refine (alive_any _).mono ?_
  rintro e w1 ⟨rfl, Rx⟩
  have B_1 := Lib.hid (bel_next (Below.refl _ _) Rx)
  clear Rx 
  go_wp2_with fail
  go_ret
  exact ⟨rfl, B_1.out⟩

theorem walk (a0 : Option Addr) (len0 cap0 : Nat) (z0 : List Int) (a1 : Option Addr) (len1 cap1 : Nat) (z1 : List Int) (a2 : Int) (w : World) (w0 : IsRow .i64 w a0 len0 cap0 z0) (w1 : IsRow .i64 w a1 len1 cap1 z1) (w2 : (Lit.int .i64 a2).wf = true) :
    Calls Try.prog 6 #[.slice a0 len0 cap0, .slice a1 len1 cap1, .int .i64 a2] w fun e w' => e = .returned (.bool true) ∧ Below w.heap.size w w' := by
  by_cases h : (z0.take len0).length ≤ 200 ∧ (z1.take len1).length ≤ 200
  · exact walk_near (reads_arg w0).1 (reads_arg w1).1 h.1 h.2
  · exact walk_out (reads_arg w0).1 (reads_arg w1).1 (by omega)

set_option maxRecDepth 100000 in
theorem lifted (os : Os) (started : os.Started) (H : Type) (enc : TypeId × Value → H) :
    ReturnsInHanded {} Try.checked os 6 .any (Rows.idsetLawsSpec.pre6 enc Try.prog Try.f6 Rows.idsetLawsRow.domain false) (Rows.idsetLawsSpec.post enc Try.prog Try.f6 false true false false) := by
  refine returnsInHanded_of_change (C := Try.checked) own started (by kernel_rfl) Try.func6
    (ChangeSpec.witness6 (enc := enc) (C := Try.checked) false ⟨#[], #[.slice none 0 0, .slice none 0 0, .int .i64 0], []⟩ 8 (by kernel_rfl) (by kernel_rfl) (by kernel_rfl) (by kernel_rfl)) ?_
  intro W base args ds gs before hval0 hW hcnd _
  have hval : ∀ (j : Nat) t v, Try.f6.params[j]? = some t → args[j]? = some v → Value.okWide Try.prog W .any base t v := hval0
  have hW' := hW
  obtain ⟨p, q, hA0, hV, rfl, hfz, hnd⟩ := hW
  have hA : DataW.TrodAll enc Try.prog W 0 (fun _ => true) true Try.f6.params.toList args.toList ds p := hA0
  rw [Try.params6] at hA hval
  obtain ⟨v0, vs0, d0, ds0, p0, q0, hargs, rfl, rfl, h0, r0⟩ := trodAll_cons hA
  obtain ⟨v1, vs1, d1, ds1, p1, q1, rfl, rfl, rfl, h1, r1⟩ := trodAll_cons r0
  obtain ⟨v2, vs2, d2, ds2, p2, q2, rfl, rfl, rfl, h2, r2⟩ := trodAll_cons r1
  obtain ⟨rfl, rfl, rfl⟩ := trodAll_nil r2
  obtain rfl : args = #[v0, v1, v2] := by cases args; simp_all
  obtain ⟨rfl, rfl⟩ := trodVars_none hV
  obtain ⟨a0, len0, cap0, rfl⟩ := okWide_slice Try.underlying22 (hval 0 22 v0 rfl rfl)
  have k0 := h0
  have lt0 : ∀ x ∈ p0, x.block < W.heap.size := by obtain ⟨m, hm⟩ := k0; exact DataW.trod_lt m _ _ _ hm
  obtain ⟨z0, w0⟩ : ∃ zs, IsRow .i64 W a0 len0 cap0 zs := by
    obtain ⟨fuel, hf⟩ := h0
    rcases open_ints Try.underlying22 Try.underlying3 (by kernel_rfl) hf with ⟨hcs, _⟩ | ⟨x, l, c, zs, hcs, _, hl, hm, hz, _, hcell, hwz⟩
    · simp [Value.cells] at hcs
      obtain ⟨rfl, rfl, rfl⟩ := hcs
      exact ⟨[], .inl ⟨rfl, rfl, rfl, rfl⟩⟩
    · simp [Value.cells] at hcs
      obtain ⟨rfl, rfl, rfl⟩ := hcs
      exact ⟨zs, .inr ⟨_, rfl, hl, hm, by simpa using hz, hcell, hwz⟩⟩
  obtain ⟨a1, len1, cap1, rfl⟩ := okWide_slice Try.underlying22 (hval 1 22 v1 rfl rfl)
  have k1 := h1
  have lt1 : ∀ x ∈ p1, x.block < W.heap.size := by obtain ⟨m, hm⟩ := k1; exact DataW.trod_lt m _ _ _ hm
  obtain ⟨z1, w1⟩ : ∃ zs, IsRow .i64 W a1 len1 cap1 zs := by
    obtain ⟨fuel, hf⟩ := h1
    rcases open_ints Try.underlying22 Try.underlying3 (by kernel_rfl) hf with ⟨hcs, _⟩ | ⟨x, l, c, zs, hcs, _, hl, hm, hz, _, hcell, hwz⟩
    · simp [Value.cells] at hcs
      obtain ⟨rfl, rfl, rfl⟩ := hcs
      exact ⟨[], .inl ⟨rfl, rfl, rfl, rfl⟩⟩
    · simp [Value.cells] at hcs
      obtain ⟨rfl, rfl, rfl⟩ := hcs
      exact ⟨zs, .inr ⟨_, rfl, hl, hm, by simpa using hz, hcell, hwz⟩⟩
  obtain ⟨a2, rfl, rfl, rfl, w2⟩ := open_int Try.underlying3 (hval 2 3 v2 rfl rfl) h2
  clear hA0 hval0
  refine (walk a0 len0 cap0 z0 a1 len1 cap1 z1 a2 W w0 w1 w2).mono fun e W' ⟨he, bel⟩ => ?_
  subst he
  exact ⟨_, rfl, _, _, _, [], _, [], hW', trodAll_mk1 (shut_bool Try.underlying4 _), (trodAll_cons_mk (Below.trod laidOut (by kernel_rfl) (of_decide_eq_true (by kernel_rfl)) k0 bel lt0) (trodAll_cons_mk (Below.trod laidOut (by kernel_rfl) (of_decide_eq_true (by kernel_rfl)) k1 bel lt1) (trodAll_cons_mk (shut_int Try.underlying3 w2) trodAll_mk0))), rfl, bel.frame _, fun h => by cases h⟩

theorem over : Rows.idsetLawsRow.holds Try.pinned (OpenSpec.ofChange Rows.idsetLawsSpec) :=
  OpenClaim.holds_of_wide 6 Try.f6 rfl rfl rfl rfl rfl rfl rfl ⟨rfl, rfl, rfl, rfl, rfl⟩ rfl rfl rfl rfl rfl (by kernel_rfl) Try.func6 (by kernel_rfl)
    (of_decide_eq_true (by kernel_rfl)) (by unfold Func.isWrapper; first | (rw [if_pos (by decide +kernel)]; kernel_rfl) | (rw [if_neg (by decide +kernel)]; exact ⟨rfl, rfl⟩))
    (fun os started H enc _ => lifted os started H enc)

/-- The statement. -/
theorem proved : Rows.IdsetLawsSaid := over
#print axioms proved
end Go.Proofs.Ytjlnlcnddhilhaa.idsetLaws
