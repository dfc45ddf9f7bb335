/- IdsetMakes: for all lists of at most 200 ints, idset.Make returns the ascending list of the elements (as the reference does), and leaves its own result as it is; of longer lists only the examples are said. No condition. -/
import Derived.Test.YtjlnlcnddhilhaaRows
import Derived.WalkKit
import Derived.ProofKit
import Derived.OpenShut
import Derived.ShutString
import Derived.ChangeOld
import Derived.Below
import Derived.Test.YtjlnlcnddhilhaaSetlaws
namespace Go.Proofs.Ytjlnlcnddhilhaa.idsetMakes
open Go.ChangeShapes Go.WideShapes Go.ChangeAt Go.RowKit
open Go.ChangeMaps (open_string shut_string)
open Go.Sort Go.Proofs.Ytjlnlcnddhilhaa.Sets Go.Proofs.Ytjlnlcnddhilhaa.Reads Go.Proofs.Ytjlnlcnddhilhaa.Idset Go.Proofs.Ytjlnlcnddhilhaa.Rsets
set_option linter.unusedVariables false

theorem own : ownKnob Try.prog.godebug = none := by kernel_rfl
theorem laidOut : laidOutB Try.prog = true := by kernel_rfl

/-- WHAT THE WALK IS TOLD OF A SLICE OF INTEGERS THAT CAME IN: it is nil; or it leads to a row of 'cap' cells, the numbers 'zs' (the first 'len' are its elements, the rest its spare room), each fitting its kind. -/
def IsRow (k : IntKind) (w : World) (a : Option Addr) (len cap : Nat) (zs : List Int) : Prop :=
  (a = none ∧ len = 0 ∧ cap = 0 ∧ zs = []) ∨
  ∃ x, a = some x ∧ len ≤ cap ∧ cap ≤ maxLen ∧ zs.length = cap ∧ (∀ i, i < zs.length → w.cell? (x.add i) = some (.int k (zs.getD i 0))) ∧ ∀ n ∈ zs, (Lit.int k n).wf = true

theorem walk_near {v : Value} {xs : List Int} {w : World} (h : Reads w.heap.size w v xs) (hl : xs.length ≤ 200) :
    Calls Try.prog 3 #[v] w fun e w' => e = .returned (.bool true) ∧ Below w.heap.size w w' := by
  have HX := Lib.hid h
  clear h
  go_enter Try.func3, Try.ntmps3
  go_wp2_with fail
  refine (large_no HX.out (reads_nil _ _) hl (by decide)).mono ?_
  rintro e w' ⟨rfl, rfl⟩
  go_wp2_with fail
  refine (make_any HX.out (by omega)).mono ?_
  rintro e w1 ⟨v1, rfl, Rx⟩
  have HX_1 := Lib.hid (next HX.out Rx.2)
  have B_1 := Lib.hid (bel_next (Below.refl _ _) Rx.2)
  have HS_1 := Lib.hid (Rx.1)
  clear Rx HX
  go_wp2_with fail
  refine (rmake_any HX_1.out (by omega)).mono ?_
  rintro e w2 ⟨v2, rfl, Rx⟩
  have HX_2 := Lib.hid (next HX_1.out Rx.2)
  have HS_2 := Lib.hid (next HS_1.out Rx.2)
  have B_2 := Lib.hid (bel_next B_1.out Rx.2)
  have HM_2 := Lib.hid (Rx.1)
  clear Rx HX_1 HS_1 B_1
  go_wp2_with fail
  refine (rsame_any HS_2.out HM_2.out).mono ?_
  rintro e w3 ⟨rfl, Rx⟩
  rw [show sameB (sset xs) (sset xs) = true by simp [sameB]]
  have HX_3 := Lib.hid (next HX_2.out Rx)
  have HS_3 := Lib.hid (next HS_2.out Rx)
  have HM_3 := Lib.hid (next HM_2.out Rx)
  have B_3 := Lib.hid (bel_next B_2.out Rx)
  clear Rx HX_2 HS_2 HM_2 B_2
  go_wp2_with fail
  refine (make_any HS_3.out (by have := sset_len xs; omega)).mono ?_
  rintro e w4 ⟨v4, rfl, Rx⟩
  rw [sset_self (asc_sset xs)] at Rx
  have HX_4 := Lib.hid (next HX_3.out Rx.2)
  have HS_4 := Lib.hid (next HS_3.out Rx.2)
  have HM_4 := Lib.hid (next HM_3.out Rx.2)
  have B_4 := Lib.hid (bel_next B_3.out Rx.2)
  have HT_4 := Lib.hid (Rx.1)
  clear Rx HX_3 HS_3 HM_3 B_3
  go_wp2_with fail
  refine (rsame_any HT_4.out HS_4.out).mono ?_
  rintro e w5 ⟨rfl, Rx⟩
  rw [show sameB (sset xs) (sset xs) = true by simp [sameB]]
  have HX_5 := Lib.hid (next HX_4.out Rx)
  have HS_5 := Lib.hid (next HS_4.out Rx)
  have HM_5 := Lib.hid (next HM_4.out Rx)
  have HT_5 := Lib.hid (next HT_4.out Rx)
  have B_5 := Lib.hid (bel_next B_4.out Rx)
  clear Rx HX_4 HS_4 HM_4 HT_4 B_4
  go_wp2_with fail
  refine (alive_any _).mono ?_
  rintro e w6 ⟨rfl, Rx⟩
  have HX_6 := Lib.hid (next HX_5.out Rx)
  have HS_6 := Lib.hid (next HS_5.out Rx)
  have HM_6 := Lib.hid (next HM_5.out Rx)
  have HT_6 := Lib.hid (next HT_5.out Rx)
  have B_6 := Lib.hid (bel_next B_5.out Rx)
  clear Rx HX_5 HS_5 HM_5 HT_5 B_5
  go_wp2_with fail
  go_ret
  exact ⟨rfl, B_6.out⟩

theorem walk_out {v : Value} {xs : List Int} {w : World} (h : Reads w.heap.size w v xs) (hl : 200 < xs.length) :
    Calls Try.prog 3 #[v] w fun e w' => e = .returned (.bool true) ∧ Below w.heap.size w w' := by
  have HX := Lib.hid h
  clear h
  go_enter Try.func3, Try.ntmps3
  go_wp2_with fail
  refine (large_yes HX.out (reads_nil _ _) (.inl hl)).mono ?_
  rintro e w' ⟨rfl, rfl⟩
  go_wp2_with fail
  refine (alive_any _).mono ?_
  rintro e w1 ⟨rfl, Rx⟩
  have B_1 := Lib.hid (bel_next (Below.refl _ _) Rx)
  clear Rx 
  go_wp2_with fail
  go_ret
  exact ⟨rfl, B_1.out⟩

theorem walk (a0 : Option Addr) (len0 cap0 : Nat) (z0 : List Int) (w : World) (w0 : IsRow .i64 w a0 len0 cap0 z0) :
    Calls Try.prog 3 #[.slice a0 len0 cap0] w fun e w' => e = .returned (.bool true) ∧ Below w.heap.size w w' := by
  by_cases h : (z0.take len0).length ≤ 200
  · exact walk_near (reads_arg w0).1 h
  · exact walk_out (reads_arg w0).1 (by omega)

set_option maxRecDepth 100000 in
theorem lifted (os : Os) (started : os.Started) (H : Type) (enc : TypeId × Value → H) :
    ReturnsInHanded {} Try.checked os 3 .any (Rows.idsetMakesSpec.pre6 enc Try.prog Try.f3 Rows.idsetMakesRow.domain false) (Rows.idsetMakesSpec.post enc Try.prog Try.f3 false true false false) := by
  refine returnsInHanded_of_change (C := Try.checked) own started (by kernel_rfl) Try.func3
    (ChangeSpec.witness6 (enc := enc) (C := Try.checked) false ⟨#[], #[.slice none 0 0], []⟩ 8 (by kernel_rfl) (by kernel_rfl) (by kernel_rfl) (by kernel_rfl)) ?_
  intro W base args ds gs before hval0 hW hcnd _
  have hval : ∀ (j : Nat) t v, Try.f3.params[j]? = some t → args[j]? = some v → Value.okWide Try.prog W .any base t v := hval0
  have hW' := hW
  obtain ⟨p, q, hA0, hV, rfl, hfz, hnd⟩ := hW
  have hA : DataW.TrodAll enc Try.prog W 0 (fun _ => true) true Try.f3.params.toList args.toList ds p := hA0
  rw [Try.params3] at hA hval
  obtain ⟨v0, vs0, d0, ds0, p0, q0, hargs, rfl, rfl, h0, r0⟩ := trodAll_cons hA
  obtain ⟨rfl, rfl, rfl⟩ := trodAll_nil r0
  obtain rfl : args = #[v0] := by cases args; simp_all
  obtain ⟨rfl, rfl⟩ := trodVars_none hV
  obtain ⟨a0, len0, cap0, rfl⟩ := okWide_slice Try.underlying22 (hval 0 22 v0 rfl rfl)
  have k0 := h0
  have lt0 : ∀ x ∈ p0, x.block < W.heap.size := by obtain ⟨m, hm⟩ := k0; exact DataW.trod_lt m _ _ _ hm
  obtain ⟨z0, w0⟩ : ∃ zs, IsRow .i64 W a0 len0 cap0 zs := by
    obtain ⟨fuel, hf⟩ := h0
    rcases open_ints Try.underlying22 Try.underlying3 (by kernel_rfl) hf with ⟨hcs, _⟩ | ⟨x, l, c, zs, hcs, _, hl, hm, hz, _, hcell, hwz⟩
    · simp [Value.cells] at hcs
      obtain ⟨rfl, rfl, rfl⟩ := hcs
      exact ⟨[], .inl ⟨rfl, rfl, rfl, rfl⟩⟩
    · simp [Value.cells] at hcs
      obtain ⟨rfl, rfl, rfl⟩ := hcs
      exact ⟨zs, .inr ⟨_, rfl, hl, hm, by simpa using hz, hcell, hwz⟩⟩
  clear hA0 hval0
  refine (walk a0 len0 cap0 z0 W w0).mono fun e W' ⟨he, bel⟩ => ?_
  subst he
  exact ⟨_, rfl, _, _, _, [], _, [], hW', trodAll_mk1 (shut_bool Try.underlying4 _), (trodAll_cons_mk (Below.trod laidOut (by kernel_rfl) (of_decide_eq_true (by kernel_rfl)) k0 bel lt0) trodAll_mk0), rfl, bel.frame _, fun h => by cases h⟩

theorem over : Rows.idsetMakesRow.holds Try.pinned (OpenSpec.ofChange Rows.idsetMakesSpec) :=
  OpenClaim.holds_of_wide 3 Try.f3 rfl rfl rfl rfl rfl rfl rfl ⟨rfl, rfl, rfl, rfl, rfl⟩ rfl rfl rfl rfl rfl (by kernel_rfl) Try.func3 (by kernel_rfl)
    (of_decide_eq_true (by kernel_rfl)) (by unfold Func.isWrapper; first | (rw [if_pos (by decide +kernel)]; kernel_rfl) | (rw [if_neg (by decide +kernel)]; exact ⟨rfl, rfl⟩))
    (fun os started H enc _ => lifted os started H enc)

/-- The statement. -/
theorem proved : Rows.IdsetMakesSaid := over
#print axioms proved
end Go.Proofs.Ytjlnlcnddhilhaa.idsetMakes
