/- WireTakes: for every text and every offset, wire.TakeUint, TakeInt and TakeBool return the value, the offset and the error that the reference returns. No condition. -/
import Derived.Test.YtpbmkapeieoiaaaRows
import Derived.WalkKit
import Derived.ProofKit
import Derived.OpenShut
import Derived.ShutString
import Derived.Test.YtpbmkapeieoiaaaAlive
import Derived.Below
import Derived.SizedLaws
namespace Go.Proofs.Ytpbmkapeieoiaaa.wireTakes
open Go.ChangeShapes Go.WideShapes Go.ChangeAt Go.RowKit
open Go.ChangeMaps (open_string shut_string)
open Go.RowKit Go.Lib Go.Proofs.Ytpbmkapeieoiaaa.Uints Go.Proofs.Ytpbmkapeieoiaaa.Takes Go.Proofs.Ytpbmkapeieoiaaa.Ints
set_option linter.unusedVariables false      -- a walk need not use every 'w<i>' (that an integer argument fits its kind)

theorem own : ownKnob Try.prog.godebug = none := by kernel_rfl

theorem tuV_form (s : ByteArray) (t : Int) : ∃ x y z : Int, tuV s t = .tuple #[.int .u64 x, .int .i64 y, .int .i64 z] := ⟨_, _, _, rfl⟩
theorem tiV_form (s : ByteArray) (t : Int) : ∃ x y z : Int, tiV s t = .tuple #[.int .i64 x, .int .i64 y, .int .i64 z] := ⟨_, _, _, rfl⟩
theorem tbV_form (s : ByteArray) (t : Int) : ∃ (x : Bool) (y z : Int), tbV s t = .tuple #[.bool x, .int .i64 y, .int .i64 z] := ⟨_, _, _, rfl⟩
set_option maxRecDepth 100000 in

set_option maxHeartbeats 800000 in
theorem walk (a0 : ByteArray) (a1 : Int) (w0 : a0.size ≤ maxLen) (w1 : (Lit.int .i64 a1).wf = true) (s0 : a0.size ≤ 140737488351232) (w : World) :
    Calls Try.prog 4 #[.string a0, .int .i64 a1] w fun e w' => e = .returned (.bool true) ∧ Below w.heap.size w w' := by
  have H1 := Lib.hid (fun w => takeUint_any a0 a1 w s0)
  have H2 := Lib.hid (fun w => rtakeUint_any a0 a1 w s0)
  have H3 := Lib.hid (fun w => takeInt_any a0 a1 w s0)
  have H4 := Lib.hid (fun w => rtakeInt_any a0 a1 w s0)
  have H5 := Lib.hid (fun w => takeBool_any a0 a1 w s0)
  have H6 := Lib.hid (fun w => rtakeBool_any a0 a1 w s0)
  obtain ⟨x1, y1, z1, h1⟩ := tuV_form a0 a1
  obtain ⟨x2, y2, z2, h2⟩ := tiV_form a0 a1
  obtain ⟨x3, y3, z3, h3⟩ := tbV_form a0 a1
  rw [h1] at H1 H2
  rw [h2] at H3 H4
  rw [h3] at H5 H6
  clear h1 h2 h3 w0 w1
  have q1 : (x1 == x1) = true := by simp
  have q2 : (y1 == y1) = true := by simp
  have q3 : (z1 == z1) = true := by simp
  have q4 : (x2 == x2) = true := by simp
  have q5 : (y2 == y2) = true := by simp
  have q6 : (z2 == z2) = true := by simp
  have q7 : (x3 == x3) = true := by simp
  have q8 : (y3 == y3) = true := by simp
  have q9 : (z3 == z3) = true := by simp
  go_enter Try.func4, Try.ntmps4
  go_wp2_with fail
  refine (H1.out _).mono ?_
  rintro e w1 ⟨rfl, b⟩
  have B1 := Lib.hid b
  clear b
  go_wp2_with fail
  refine (H2.out _).mono ?_
  rintro e w' ⟨rfl, rfl⟩
  go_wp2_with fail
  refine (H3.out _).mono ?_
  rintro e w3 ⟨rfl, b⟩
  have B3 := Lib.hid (bel_next B1.out b)
  clear b B1
  go_wp2_with fail
  refine (H4.out _).mono ?_
  rintro e w' ⟨rfl, rfl⟩
  go_wp2_with fail
  refine (H5.out _).mono ?_
  rintro e w' ⟨rfl, rfl⟩
  go_wp2_with fail
  refine (H6.out _).mono ?_
  rintro e w' ⟨rfl, rfl⟩
  go_wp2_with fail
  refine (alive_any _).mono ?_
  rintro e w4 ⟨rfl, b⟩
  have B4 := Lib.hid (bel_next B3.out b)
  clear b B3
  go_wp2_with fail
  go_ret
  exact ⟨rfl, B4.out⟩

set_option maxRecDepth 100000 in
theorem lifted (os : Os) (started : os.Started) (H : Type) (enc : TypeId × Value → H) :
    ReturnsInHanded {} Try.checked os 4 .any (Rows.wireTakesSpec.pre6 enc Try.prog Try.f4 Rows.wireTakesRow.domain false) (Rows.wireTakesSpec.post enc Try.prog Try.f4 false true false false) := by
  refine returnsInHanded_of_change_sized (C := Try.checked) own started (by kernel_rfl) Try.func4
    (ChangeSpec.witness6 (enc := enc) (C := Try.checked) false ⟨#[], #[.string ByteArray.empty, .int .i64 0], []⟩ 8 (by kernel_rfl) (by kernel_rfl) (by kernel_rfl) (by kernel_rfl)) ?_
  intro W base args ds gs before hval0 hW hcnd hsz0 _
  have hval : ∀ (j : Nat) t v, Try.f4.params[j]? = some t → args[j]? = some v → Value.okWide Try.prog W .any base t v := hval0
  have hW' := hW
  obtain ⟨p, q, hA0, hV, rfl, hfz, hnd⟩ := hW
  have hA : DataW.TrodAll enc Try.prog W 0 (fun _ => true) true Try.f4.params.toList args.toList ds p := hA0
  have hsz : (DataW.weightsEach Try.prog (Try.f4.params.toList ++ Rows.wireTakesSpec.plain.varTypes Try.prog) (ds ++ gs)).all (· ≤ reachBytes) = true := hsz0
  rw [Try.params4] at hA hval hsz
  obtain ⟨v0, vs0, d0, ds0, p0, q0, hargs, rfl, rfl, h0, r0⟩ := trodAll_cons hA
  obtain ⟨v1, vs1, d1, ds1, p1, q1, rfl, rfl, rfl, h1, r1⟩ := trodAll_cons r0
  obtain ⟨rfl, rfl, rfl⟩ := trodAll_nil r1
  obtain rfl : args = #[v0, v1] := by cases args; simp_all
  obtain ⟨rfl, rfl⟩ := trodVars_none hV
  obtain ⟨a0, rfl, rfl, rfl, w0⟩ := open_string Try.underlying9 (hval 0 9 v0 rfl rfl) h0
  obtain ⟨a1, rfl, rfl, rfl, w1⟩ := open_int Try.underlying3 (hval 1 3 v1 rfl rfl) h1
  have s0 : a0.size ≤ 140737488351232 := by
    have := sized_string hsz (j := 0) (t := 9) rfl rfl
    simpa [reachBytes] using this
  clear hA0 hval0
  simp only [List.append_nil] at hW'
  refine (walk a0 a1 w0 w1 s0 W).mono fun e W' ⟨he, bel⟩ => ?_
  subst he
  exact ⟨_, rfl, _, _, _, [], _, [], hW', trodAll_mk1 (shut_bool Try.underlying4 _), (trodAll_cons_mk (shut_string Try.underlying9 w0) (trodAll_cons_mk (shut_int Try.underlying3 w1) trodAll_mk0)), rfl, bel.frame _, fun h => by cases h⟩

theorem over : Rows.wireTakesRow.holds Try.pinned (OpenSpec.ofChange Rows.wireTakesSpec) :=
  OpenClaim.holds_of_wide 4 Try.f4 rfl rfl rfl rfl rfl rfl rfl ⟨rfl, rfl, rfl, rfl, rfl⟩ rfl rfl rfl rfl rfl (by kernel_rfl) Try.func4 (by kernel_rfl)
    (of_decide_eq_true (by kernel_rfl)) (by unfold Func.isWrapper; first | (rw [if_pos (by decide +kernel)]; kernel_rfl) | (rw [if_neg (by decide +kernel)]; exact ⟨rfl, rfl⟩))
    (fun os started H enc _ => lifted os started H enc)

/-- The statement. -/
theorem proved : Rows.WireTakesSaid :=
  over
#print axioms proved
end Go.Proofs.Ytpbmkapeieoiaaa.wireTakes
