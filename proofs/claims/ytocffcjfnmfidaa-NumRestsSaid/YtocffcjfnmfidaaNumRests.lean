/- NumRests: for all ints a and b, where num.Floor returns OK, a is b times its number and a rest that is less than b, and num.Ceil's number is the same, or one more if there is a rest; elsewhere both return 0 and the same error. No condition. -/
import Derived.Test.YtocffcjfnmfidaaRows
import Derived.WalkKit
import Derived.ProofKit
import Derived.OpenShut
import Derived.ShutString
import Derived.Test.YtocffcjfnmfidaaRefs
import Derived.Below
namespace Go.Proofs.Ytocffcjfnmfidaa.numRests
open Go.ChangeShapes Go.WideShapes Go.ChangeAt Go.RowKit
open Go.ChangeMaps (open_string shut_string)
open Go.Proofs.Ytocffcjfnmfidaa.Plain Go.Proofs.Ytocffcjfnmfidaa.Nums Go.Proofs.Ytocffcjfnmfidaa.Sums Go.Proofs.Ytocffcjfnmfidaa.Refs
set_option linter.unusedVariables false      -- a walk need not use every 'w<i>' (that an integer argument fits its kind)

theorem own : ownKnob Try.prog.godebug = none := by kernel_rfl

set_option maxHeartbeats 1000000 in
theorem walk (a0 : Int) (a1 : Int) (w0 : (Lit.int .i64 a0).wf = true) (w1 : (Lit.int .i64 a1).wf = true) (w : World) :
    Calls Try.prog 4 #[.int .i64 a0, .int .i64 a1] w fun e w' => e = .returned (.bool true) ∧ Below w.heap.size w w' := by
  have F := floor_any a0 a1 w w0
  have C := ceil_any a0 a1 w w0
  have H5 := Lib.hid (alive_any w)
  have b0 := bounds_i64 w0
  have b1 := bounds_i64 w1
  clear w0 w1
  by_cases hb : a1 = 0
  · subst hb
    rw [show flV a0 0 = 0 by simp [flV], show flE a0 0 = 1 by simp [flE]] at F
    rw [show clV a0 0 = 0 by simp [clV, flV, flE], show flE a0 0 = 1 by simp [flE]] at C
    have H1 := Lib.hid F
    have H2 := Lib.hid C
    clear F C b0 b1
    go_enter Try.func4, Try.ntmps4
    go_wp2_with fail
    refine H1.out.mono ?_
    rintro e w' ⟨rfl, rfl⟩
    go_wp2_with fail
    refine H2.out.mono ?_
    rintro e w' ⟨rfl, rfl⟩
    go_wp2_with fail
    refine H5.out.mono ?_
    rintro e w' ⟨rfl, hb⟩
    go_wp2_with fail
    go_ret
    exact ⟨rfl, hb⟩
  · by_cases ho : a0 = -9223372036854775808 ∧ a1 = -1
    · obtain ⟨rfl, rfl⟩ := ho
      rw [show flV (-9223372036854775808) (-1) = 0 by simp [flV], show flE (-9223372036854775808) (-1) = 17 by simp [flE]] at F
      rw [show clV (-9223372036854775808) (-1) = 0 by simp [clV, flV, flE], show flE (-9223372036854775808) (-1) = 17 by simp [flE]] at C
      have H1 := Lib.hid F
      have H2 := Lib.hid C
      clear F C b0 b1 hb
      go_enter Try.func4, Try.ntmps4
      go_wp2_with fail
      refine H1.out.mono ?_
      rintro e w' ⟨rfl, rfl⟩
      go_wp2_with fail
      refine H2.out.mono ?_
      rintro e w' ⟨rfl, rfl⟩
      go_wp2_with fail
      refine H5.out.mono ?_
      rintro e w' ⟨rfl, hb⟩
      go_wp2_with fail
      go_ret
      exact ⟨rfl, hb⟩
    · have hE : flE a0 a1 = 0 := by unfold flE; rw [if_neg hb, if_neg ho]
      have hV : flV a0 a1 = flQ a0 a1 := by unfold flV; rw [if_neg hb, if_neg ho]
      have hq := flQ_bd a0 a1 b0 hb ho
      have hr := flQ_rest a0 a1 hb
      have hz := rest_zero a0 a1
      have hT := flQ_top a0 a1 b0 hb
      have hC : clV a0 a1 = if a0 - a1 * flQ a0 a1 = 0 then flQ a0 a1 else flQ a0 a1 + 1 := by
        unfold clV
        rw [hE, hV]
        by_cases h : a0 - a1 * flQ a0 a1 = 0
        · rw [if_pos h, if_neg (fun k => k.2 (hz.1 h))]
        · rw [if_neg h, if_pos ⟨rfl, fun k => h (hz.2 k)⟩]
      rw [hE, hV] at F
      rw [hE, hC] at C
      have hm : a0 - a1 * flQ a0 a1 ≠ 0 → flQ a0 a1 < 9223372036854775807 := fun h => hT (fun k => h (hz.2 k))
      clear hE hV hz hT hC
      obtain ⟨q, hqq⟩ : ∃ q, flQ a0 a1 = q := ⟨_, rfl⟩
      rw [hqq] at F C hq hr hm
      obtain ⟨R, hR⟩ : ∃ R, a0 - a1 * q = R := ⟨_, rfl⟩
      rw [hR] at C hr hm
      have hw : wrap64 (a0 - wrap64 (q * a1)) = R := by
        rw [Int.mul_comm q a1]
        have : -9223372036854775808 ≤ R ∧ R ≤ 9223372036854775807 := by
          rcases Int.lt_or_lt_of_ne hb with h | h
          · have := hr.2 h; omega
          · have := hr.1 h; omega
        unfold wrap64; omega
      have HO : (a0 == -9223372036854775808) = false ∨ ((a0 == -9223372036854775808) = true ∧ (a1 == -1) = false) := by
        by_cases h : a0 = -9223372036854775808
        · exact .inr ⟨by simpa using h, by simpa using fun h' => ho ⟨h, h'⟩⟩
        · exact .inl (by simpa using h)
      have hb' : (a1 == 0) = false := by simpa using hb
      have H1 := Lib.hid F
      clear F hqq hR ho b0 b1
      rcases HO with g1 | ⟨g1, g2⟩
      all_goals
        rcases Int.lt_or_lt_of_ne hb with h | h
        all_goals
          by_cases hz : R = 0
          · subst hz
            rw [if_pos rfl] at C
            have H2 := Lib.hid C
            clear C hm hr
            go_enter Try.func4, Try.ntmps4
            go_wp2_with fail
            refine H1.out.mono ?_
            rintro e w' ⟨rfl, rfl⟩
            go_wp2_with fail
            refine H2.out.mono ?_
            rintro e w' ⟨rfl, rfl⟩
            go_wp2_with fail
            refine H5.out.mono ?_
            rintro e w' ⟨rfl, hb⟩
            go_wp2_with fail
            go_ret
            exact ⟨rfl, hb⟩
          · rw [if_neg hz] at C
            have H2 := Lib.hid C
            have hz' : (R == 0) = false := by simpa using hz
            have hr1 := hr.1
            have hr2 := hr.2
            have h4 : (0 < a1 → 0 ≤ R ∧ R < a1) ∧ (a1 < 0 → R ≤ 0 ∧ a1 < R) := hr
            have h5 : q < 9223372036854775807 := hm hz
            have h6 : (q + 1 == q) = false := by simp; omega
            have h7 : (0 < a1 ∧ 0 ≤ R ∧ R < a1) ∨ (a1 < 0 ∧ R ≤ 0 ∧ a1 < R) := by omega
            clear C hm hr hr1 hr2 h4 hz
            rcases h7 with ⟨k1, k2, k3⟩ | ⟨k1, k2, k3⟩
            all_goals
              first
                | omega
                | (clear h
                   go_enter Try.func4, Try.ntmps4
                   go_wp2_with fail
                   refine H1.out.mono ?_
                   rintro e w' ⟨rfl, rfl⟩
                   go_wp2_with fail
                   refine H2.out.mono ?_
                   rintro e w' ⟨rfl, rfl⟩
                   go_wp2_with fail
                   refine H5.out.mono ?_
                   rintro e w' ⟨rfl, hb⟩
                   go_wp2_with fail
                   go_ret
                   exact ⟨rfl, hb⟩)

set_option maxRecDepth 100000 in
theorem lifted (os : Os) (started : os.Started) (H : Type) (enc : TypeId × Value → H) :
    ReturnsInHanded {} Try.checked os 4 .any (Rows.numRestsSpec.pre6 enc Try.prog Try.f4 Rows.numRestsRow.domain false) (Rows.numRestsSpec.post enc Try.prog Try.f4 false true false false) := by
  refine returnsInHanded_of_change (C := Try.checked) own started (by kernel_rfl) Try.func4
    (ChangeSpec.witness6 (enc := enc) (C := Try.checked) false ⟨#[], #[.int .i64 0, .int .i64 0], []⟩ 8 (by kernel_rfl) (by kernel_rfl) (by kernel_rfl) (by kernel_rfl)) ?_
  intro W base args ds gs before hval0 hW hcnd _
  have hval : ∀ (j : Nat) t v, Try.f4.params[j]? = some t → args[j]? = some v → Value.okWide Try.prog W .any base t v := hval0
  have hW' := hW
  obtain ⟨p, q, hA0, hV, rfl, hfz, hnd⟩ := hW
  have hA : DataW.TrodAll enc Try.prog W 0 (fun _ => true) true Try.f4.params.toList args.toList ds p := hA0
  rw [Try.params4] at hA hval
  obtain ⟨v0, vs0, d0, ds0, p0, q0, hargs, rfl, rfl, h0, r0⟩ := trodAll_cons hA
  obtain ⟨v1, vs1, d1, ds1, p1, q1, rfl, rfl, rfl, h1, r1⟩ := trodAll_cons r0
  obtain ⟨rfl, rfl, rfl⟩ := trodAll_nil r1
  obtain rfl : args = #[v0, v1] := by cases args; simp_all
  obtain ⟨rfl, rfl⟩ := trodVars_none hV
  obtain ⟨a0, rfl, rfl, rfl, w0⟩ := open_int Try.underlying3 (hval 0 3 v0 rfl rfl) h0
  obtain ⟨a1, rfl, rfl, rfl, w1⟩ := open_int Try.underlying3 (hval 1 3 v1 rfl rfl) h1
  clear hA0 hval0
  simp only [List.append_nil] at hW'
  refine (walk a0 a1 w0 w1 W).mono fun e W' ⟨he, bel⟩ => ?_
  subst he
  exact ⟨_, rfl, _, _, _, [], _, [], hW', trodAll_mk1 (shut_bool Try.underlying4 _), (trodAll_cons_mk (shut_int Try.underlying3 w0) (trodAll_cons_mk (shut_int Try.underlying3 w1) trodAll_mk0)), rfl, bel.frame _, fun h => by cases h⟩

theorem over : Rows.numRestsRow.holds Try.pinned (OpenSpec.ofChange Rows.numRestsSpec) :=
  OpenClaim.holds_of_wide 4 Try.f4 rfl rfl rfl rfl rfl rfl rfl ⟨rfl, rfl, rfl, rfl, rfl⟩ rfl rfl rfl rfl rfl (by kernel_rfl) Try.func4 (by kernel_rfl)
    (of_decide_eq_true (by kernel_rfl)) (by unfold Func.isWrapper; first | (rw [if_pos (by decide +kernel)]; kernel_rfl) | (rw [if_neg (by decide +kernel)]; exact ⟨rfl, rfl⟩))
    (fun os started H enc _ => lifted os started H enc)

/-- The statement. -/
theorem proved : Rows.NumRestsSaid :=
  over
#print axioms proved
end Go.Proofs.Ytocffcjfnmfidaa.numRests
