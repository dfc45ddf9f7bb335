/- WireLists: for every text of at most 2000 bytes, every offset and every limit, wire.TakeText, TakeCount and TakeInts return what the reference returns; of longer texts only the examples are said. No condition. -/
import Derived.Test.YtpbmkapeieoiaaaRows
import Derived.WalkKit
import Derived.ProofKit
import Derived.OpenShut
import Derived.ShutString
import Derived.Test.YtpbmkapeieoiaaaAlive
import Derived.Below
namespace Go.Proofs.Ytpbmkapeieoiaaa.wireLists
open Go.ChangeShapes Go.WideShapes Go.ChangeAt Go.RowKit
open Go.ChangeMaps (open_string shut_string)
open Go.RowKit Go.Lib Go.Proofs.Ytpbmkapeieoiaaa.Uints Go.Proofs.Ytpbmkapeieoiaaa.Takes Go.Proofs.Ytpbmkapeieoiaaa.Ints Go.Proofs.Ytpbmkapeieoiaaa.Reads
set_option linter.unusedVariables false      -- a walk need not use every 'w<i>' (that an integer argument fits its kind)

theorem own : ownKnob Try.prog.godebug = none := by kernel_rfl

theorem ttV_form (s : ByteArray) (t m : Int) : ∃ (x : ByteArray) (y z : Int), ttV s t m = .tuple #[.string x, .int .i64 y, .int .i64 z] := by
  unfold ttV
  by_cases h : (tc s t m).2.2 ≠ 0
  · simp only [if_pos h]; exact ⟨_, _, _, rfl⟩
  · simp only [if_neg h]; exact ⟨_, _, _, rfl⟩
theorem tcV_form (s : ByteArray) (t m : Int) : ∃ x y z : Int, tcV s t m = .tuple #[.int .i64 x, .int .i64 y, .int .i64 z] := ⟨_, _, _, rfl⟩
set_option maxRecDepth 100000 in
set_option maxHeartbeats 800000 in
theorem walk_near (s : ByteArray) (t m : Int) (w : World) (h : s.size ≤ 2000) (hm : m ≤ 9223372036854775807) :
    Calls Try.prog 5 #[.string s, .int .i64 t, .int .i64 m] w fun e w' => e = .returned (.bool true) ∧ Below w.heap.size w w' := by
  have H1 := Lib.hid (fun w => takeText_any s t m w (by omega) hm)
  have H2 := Lib.hid (fun w => rtakeText_any s t m w (by omega) hm)
  have H3 := Lib.hid (fun w => takeCount_any s t m w (by omega) hm)
  have H4 := Lib.hid (fun w => rtakeCount_any s t m w (by omega) hm)
  have H5 := Lib.hid (fun w => takeInts_any s t m w (by omega) hm)
  have H6 := Lib.hid (fun w => rtakeInts_any s t m w (by omega) hm)
  obtain ⟨x1, y1, z1, h1⟩ := ttV_form s t m
  obtain ⟨x2, y2, z2, h2⟩ := tcV_form s t m
  obtain ⟨⟨L, to, er⟩, h3⟩ : ∃ r, tl s t m = r := ⟨_, rfl⟩
  rw [h1] at H1 H2
  rw [h2] at H3 H4
  rw [h3] at H5 H6
  clear h1 h2 h3 hm
  have q2 : (y1 == y1) = true := by simp
  have q3 : (z1 == z1) = true := by simp
  have q4 : (x2 == x2) = true := by simp
  have q5 : (y2 == y2) = true := by simp
  have q6 : (z2 == z2) = true := by simp
  have q7 : ((to : Int) == (to : Int)) = true := by simp
  have q8 : ((er : Int) == (er : Int)) = true := by simp
  have q9 : (to == to) = true := by simp
  have q10 : (er == er) = true := by simp
  go_enter Try.func5, Try.ntmps5
  go_wp2_with fail
  refine (H1.out _).mono ?_
  rintro e w1 ⟨rfl, b⟩
  have B1 := Lib.hid b
  clear b
  go_wp2_with fail
  refine (H2.out _).mono ?_
  rintro e w' ⟨rfl, rfl⟩
  go_wp2_with fail
  refine (H3.out _).mono ?_
  rintro e w3 ⟨rfl, b⟩
  have B3 := Lib.hid (bel_next B1.out b)
  clear b B1
  go_wp2_with fail
  refine (H4.out _).mono ?_
  rintro e w' ⟨rfl, rfl⟩
  go_wp2_with fail
  refine (H5.out _).mono ?_
  rintro e w4 ⟨v, rfl, R, b⟩
  have R4 := Lib.hid R
  have B4 := Lib.hid (bel_next B3.out b)
  clear b B3 R
  go_wp2_with fail
  refine (H6.out _).mono ?_
  rintro e w5 ⟨v', rfl, R, b⟩
  have R5 := Lib.hid (next R4.out b)
  have Q5 := Lib.hid R
  have B5 := Lib.hid (bel_next B4.out b)
  clear b B4 R R4
  go_wp2_with fail
  refine (same_any R5.out Q5.out).mono ?_
  rintro e w6 ⟨rfl, b⟩
  rw [show sameB L L = true by simp [sameB]]
  have B6 := Lib.hid (bel_next B5.out b)
  clear b B5 R5 Q5
  go_wp2_with fail
  refine (alive_any _).mono ?_
  rintro e w7 ⟨rfl, b⟩
  have B7 := Lib.hid (bel_next B6.out b)
  clear b B6
  go_wp2_with fail
  go_ret
  exact ⟨rfl, B7.out⟩

set_option maxRecDepth 100000 in
theorem walk_out (s : ByteArray) (t m : Int) (w : World) (h : 2000 < s.size) (hs : s.size ≤ maxLen) :
    Calls Try.prog 5 #[.string s, .int .i64 t, .int .i64 m] w fun e w' => e = .returned (.bool true) ∧ Below w.heap.size w w' := by
  unfold maxLen at hs
  go_enter Try.func5, Try.ntmps5
  go_wp2_with fail
  refine (alive_any _).mono ?_
  rintro e w7 ⟨rfl, b⟩
  have B7 := Lib.hid b
  clear b
  go_wp2_with fail
  go_ret
  exact ⟨rfl, B7.out⟩

theorem walk (a0 : ByteArray) (a1 : Int) (a2 : Int) (w0 : a0.size ≤ maxLen) (w1 : (Lit.int .i64 a1).wf = true) (w2 : (Lit.int .i64 a2).wf = true) (w : World) :
    Calls Try.prog 5 #[.string a0, .int .i64 a1, .int .i64 a2] w fun e w' => e = .returned (.bool true) ∧ Below w.heap.size w w' := by
  have hm := (wf_bounds w2).2
  by_cases h : a0.size ≤ 2000
  · exact walk_near a0 a1 a2 w h hm
  · exact walk_out a0 a1 a2 w (by omega) w0

set_option maxRecDepth 100000 in
theorem lifted (os : Os) (started : os.Started) (H : Type) (enc : TypeId × Value → H) :
    ReturnsInHanded {} Try.checked os 5 .any (Rows.wireListsSpec.pre6 enc Try.prog Try.f5 Rows.wireListsRow.domain false) (Rows.wireListsSpec.post enc Try.prog Try.f5 false true false false) := by
  refine returnsInHanded_of_change (C := Try.checked) own started (by kernel_rfl) Try.func5
    (ChangeSpec.witness6 (enc := enc) (C := Try.checked) false ⟨#[], #[.string ByteArray.empty, .int .i64 0, .int .i64 0], []⟩ 8 (by kernel_rfl) (by kernel_rfl) (by kernel_rfl) (by kernel_rfl)) ?_
  intro W base args ds gs before hval0 hW hcnd _
  have hval : ∀ (j : Nat) t v, Try.f5.params[j]? = some t → args[j]? = some v → Value.okWide Try.prog W .any base t v := hval0
  have hW' := hW
  obtain ⟨p, q, hA0, hV, rfl, hfz, hnd⟩ := hW
  have hA : DataW.TrodAll enc Try.prog W 0 (fun _ => true) true Try.f5.params.toList args.toList ds p := hA0
  rw [Try.params5] at hA hval
  obtain ⟨v0, vs0, d0, ds0, p0, q0, hargs, rfl, rfl, h0, r0⟩ := trodAll_cons hA
  obtain ⟨v1, vs1, d1, ds1, p1, q1, rfl, rfl, rfl, h1, r1⟩ := trodAll_cons r0
  obtain ⟨v2, vs2, d2, ds2, p2, q2, rfl, rfl, rfl, h2, r2⟩ := trodAll_cons r1
  obtain ⟨rfl, rfl, rfl⟩ := trodAll_nil r2
  obtain rfl : args = #[v0, v1, v2] := by cases args; simp_all
  obtain ⟨rfl, rfl⟩ := trodVars_none hV
  obtain ⟨a0, rfl, rfl, rfl, w0⟩ := open_string Try.underlying9 (hval 0 9 v0 rfl rfl) h0
  obtain ⟨a1, rfl, rfl, rfl, w1⟩ := open_int Try.underlying3 (hval 1 3 v1 rfl rfl) h1
  obtain ⟨a2, rfl, rfl, rfl, w2⟩ := open_int Try.underlying3 (hval 2 3 v2 rfl rfl) h2
  clear hA0 hval0
  simp only [List.append_nil] at hW'
  refine (walk a0 a1 a2 w0 w1 w2 W).mono fun e W' ⟨he, bel⟩ => ?_
  subst he
  exact ⟨_, rfl, _, _, _, [], _, [], hW', trodAll_mk1 (shut_bool Try.underlying4 _), (trodAll_cons_mk (shut_string Try.underlying9 w0) (trodAll_cons_mk (shut_int Try.underlying3 w1) (trodAll_cons_mk (shut_int Try.underlying3 w2) trodAll_mk0))), rfl, bel.frame _, fun h => by cases h⟩

theorem over : Rows.wireListsRow.holds Try.pinned (OpenSpec.ofChange Rows.wireListsSpec) :=
  OpenClaim.holds_of_wide 5 Try.f5 rfl rfl rfl rfl rfl rfl rfl ⟨rfl, rfl, rfl, rfl, rfl⟩ rfl rfl rfl rfl rfl (by kernel_rfl) Try.func5 (by kernel_rfl)
    (of_decide_eq_true (by kernel_rfl)) (by unfold Func.isWrapper; first | (rw [if_pos (by decide +kernel)]; kernel_rfl) | (rw [if_neg (by decide +kernel)]; exact ⟨rfl, rfl⟩))
    (fun os started H enc _ => lifted os started H enc)

/-- The statement. -/
theorem proved : Rows.WireListsSaid :=
  over
#print axioms proved
end Go.Proofs.Ytpbmkapeieoiaaa.wireLists
