/- ProfileLimits: for every list of segments, every two coordinates and every speed, profile.Limit returns the segments that the reference returns, wherever the list has at most 300 segments; beyond that the statement asks nothing more. -/
import Derived.Test.YtkoldgammeojkaaRows
import Derived.WalkKit
import Derived.ProofKit
import Derived.OpenShut
import Derived.ShutString
import Derived.Below
import Derived.ChangeOld
import Derived.Test.YtkoldgammeojkaaSopn
import Derived.Test.YtkoldgammeojkaaRlm
import Derived.Test.YtkoldgammeojkaaPal10
import Derived.Deep.RegionHeld3
import Derived.Lib.QuietBelow
namespace Go.Proofs.Ytkoldgammeojkaa.profileLimits
open Go.ChangeShapes Go.WideShapes Go.ChangeAt
open Go.RowKit hiding intOf
open Go.ChangeMaps (open_string shut_string)
open Go.Proofs.Ytkoldgammeojkaa.Segs Go.Proofs.Ytkoldgammeojkaa.Plm Go.Proofs.Ytkoldgammeojkaa.Rlm Go.Proofs.Ytkoldgammeojkaa.Pal10 Go.Proofs.Ytkoldgammeojkaa.Smp Go.Proofs.Ytkoldgammeojkaa.Sopn
set_option linter.unusedVariables false

theorem own : ownKnob Try.prog.godebug = none := by kernel_rfl
theorem laidOut : laidOutB Try.prog = true := by kernel_rfl


theorem walk (a0 : Value) (l0 : List Go.Proofs.Ytkoldgammeojkaa.Segs.Sg) (a1 : Go.Proofs.Ytkoldgammeojkaa.Sopn.Rg) (w : World) (w0 : Go.Proofs.Ytkoldgammeojkaa.Segs.SegIn w a0 l0) (w1 : Go.Proofs.Ytkoldgammeojkaa.Sopn.rgW a1) :
    Calls Try.prog 5 #[a0, Go.Proofs.Ytkoldgammeojkaa.Sopn.rgV a1] w fun e w' => e = .returned (.bool true) ∧ Below w.heap.size w w' := by
  obtain ⟨x1, x2, x3⟩ := a1
  obtain ⟨y1, y2, y3⟩ := w1
  simp only at y1 y2 y3
  unfold rgV
  simp only
  obtain ⟨A1, C1, rfl, hm1, -, -, -⟩ := segs w0.1
  have HL := Lib.hid (fun w' => alive_any w')
  have HJ := Lib.hid (fun w' (b : Below w.heap.size w w') => limit_any x1 x2 x3 (w0.next b) y1 y2 y3)
  have HR := Lib.hid (fun w' (b : Below w.heap.size w w') => rlimit_any x1 x2 x3 (w0.next b) y1 y2 y3)
  obtain ⟨l, hr⟩ : ∃ r, limitF l0 x1 x2 x3 = r := ⟨_, rfl⟩
  rw [hr] at HJ HR
  obtain ⟨N1, e1⟩ : ∃ N, l0.length = N := ⟨_, rfl⟩
  rw [e1] at hm1 HJ HR ⊢
  have B0 := Lib.hid ((Below.refl w.heap.size w).alloc (Nat.le_refl _) (.cells #[.int .i64 x1, .int .i64 x2, .int .i64 x3] 37))
  have hrow := heap_alloc_new w (.cells #[.int .i64 x1, .int .i64 x2, .int .i64 x3] 37)
  obtain ⟨W, hW⟩ : ∃ W, w.alloc (.cells #[.int .i64 x1, .int .i64 x2, .int .i64 x3] 37) = W := ⟨_, rfl⟩
  have hlt : w.heap.size < W.heap.size := by rw [← hW]; simp
  rw [hW] at B0 hrow
  have HW := Lib.hid hW
  have HRW := Lib.hid hrow
  have HLT := Lib.hid hlt
  have HK : Hid (∀ w', Below W.heap.size W w' → w'.cell? ⟨w.heap.size, 0, none⟩ = some (.int .i64 x1) ∧ w'.cell? ⟨w.heap.size, 1, none⟩ = some (.int .i64 x2) ∧ w'.cell? ⟨w.heap.size, 2, none⟩ = some (.int .i64 x3)) := by
    refine Lib.hid (fun w' b => ⟨(b.cell hlt).trans ?_, (b.cell hlt).trans ?_, (b.cell hlt).trans ?_⟩)
    all_goals
      rw [cell_of_row _ _ _ _ _ _ hrow]
      rfl
  obtain ⟨p0, p1, p2⟩ := HK.out W (Below.refl _ _)
  clear w0 y1 y2 y3 hr e1 hW hrow hlt
  by_cases hbig : 300 < N1
  · have g1 : decide ((300 : Int) < (N1 : Int)) = true := decide_eq_true (by omega)
    have C1 := Lib.hid (fun d os => Calls.regrown_of (w := W) (d := d) (os := os) (HL.out _))
    clear hbig
    go_enter Try.func5, Try.ntmps5
    go_wp2_with fail
    rw [HW.out]
    refine wp_region_quiet_below (by kernel_rfl) (by kernel_rfl) ?_
    repeat (go_big_quiet_step (with_reducible exact C1.out _ _))
    refine wpQuiet_nil ?_
    intro w6 hw'
    obtain ⟨⟨dq, osq⟩, hw''⟩ := hw'
    have B6 := Lib.hid (show Below w.heap.size w w6 by rw [hw'']; exact bel_next B0.out (below_regrown W dq osq))
    clear hw''
    go_wp2_with fail
    go_ret
    exact ⟨rfl, B6.out⟩
  · have g1 : decide ((300 : Int) < (N1 : Int)) = false := decide_eq_false (by omega)
    have hJ := fun w' (b : Below W.heap.size W w') => HJ.out w' (bel_next B0.out b)
    have hR := fun w' (b : Below W.heap.size W w') => HR.out w' (bel_next B0.out b)
    have C2 := Lib.hid hJ
    have C3 := Lib.hid hR
    clear hbig hJ hR HJ HR
    go_enter Try.func5, Try.ntmps5
    go_wp2_with fail
    rw [HW.out]
    go_region_held3 (fun w' => w'.cell? ⟨w.heap.size, 0, none⟩ = some (.int .i64 x1) ∧ w'.cell? ⟨w.heap.size, 1, none⟩ = some (.int .i64 x2) ∧ w'.cell? ⟨w.heap.size, 2, none⟩ = some (.int .i64 x3))
      (first
        | with_reducible exact HK.out _ E6.out
        | with_reducible exact HK.out _ E5.out
        | with_reducible exact HK.out _ E4.out
        | with_reducible exact HK.out _ E3.out
        | go_keep)
      (first
        | (go_at_call 22; (with_reducible refine (C2.out _ (Below.refl W.heap.size W).drew).mono ?_); rintro e w3 ⟨v3, rfl, o3, b3⟩; have O3 := Lib.hid o3; have E3 := Lib.hid ((Below.refl W.heap.size W).drew.trans (b3.mono (Below.refl W.heap.size W).drew.size)); clear b3 o3)
        | (go_at_call 23; (with_reducible refine (C3.out _ E3.out).mono ?_); rintro e w4 ⟨v4, rfl, o4, b4⟩; have E4 := Lib.hid (bel_next E3.out b4); have GA := Lib.hid (grid_next (grid_in (grid_of_own O3.out)) b4); have GB := Lib.hid (grid_in (grid_of_own o4)); clear b4 o4)
        | (go_at_call 17; (with_reducible refine (same_any GA.out GB.out).mono ?_); rintro e w5 ⟨rfl, b5⟩; have E5 := Lib.hid (bel_next E4.out b5); clear b5)
        | (go_at_call 8; (with_reducible refine (HL.out _).mono ?_); rintro e w6 ⟨rfl, b6⟩; have E6 := Lib.hid (bel_next E5.out b6); clear b6))
    go_wp2_with fail
    go_ret
    exact ⟨by simp, bel_next B0.out E6.out⟩

set_option maxRecDepth 100000 in
theorem lifted (os : Os) (started : os.Started) (H : Type) (enc : TypeId × Value → H) :
    ReturnsInHanded {} Try.checked os 5 .any (Rows.profileLimitsSpec.pre6 enc Try.prog Try.f5 Rows.profileLimitsRow.domain false) (Rows.profileLimitsSpec.post enc Try.prog Try.f5 false true false false) := by
  refine returnsInHanded_of_change (C := Try.checked) own started (by kernel_rfl) Try.func5
    (ChangeSpec.witness6 (enc := enc) (C := Try.checked) false ⟨#[], #[.slice none 0 0, .agg #[.int .i64 0, .int .i64 0, .int .i64 0]], []⟩ 8 (by kernel_rfl) (by kernel_rfl) (by kernel_rfl) (by kernel_rfl)) ?_
  intro W base args ds gs before hval0 hW hcnd _
  have hval : ∀ (j : Nat) t v, Try.f5.params[j]? = some t → args[j]? = some v → Value.okWide Try.prog W .any base t v := hval0
  have hW' := hW
  obtain ⟨p, q, hA0, hV, rfl, hfz, hnd⟩ := hW
  have hA : DataW.TrodAll enc Try.prog W 0 (fun _ => true) true Try.f5.params.toList args.toList ds p := hA0
  rw [Try.params5] at hA hval
  obtain ⟨v0, vs0, d0, ds0, p0, q0, hargs, rfl, rfl, h0, r0⟩ := trodAll_cons hA
  obtain ⟨v1, vs1, d1, ds1, p1, q1, rfl, rfl, rfl, h1, r1⟩ := trodAll_cons r0
  obtain ⟨rfl, rfl, rfl⟩ := trodAll_nil r1
  obtain rfl : args = #[v0, v1] := by cases args; simp_all
  obtain ⟨rfl, rfl⟩ := trodVars_none hV
  have k0 := h0
  have lt0 : ∀ x ∈ p0, x.block < W.heap.size := by obtain ⟨m, hm⟩ := k0; exact DataW.trod_lt m _ _ _ hm
  obtain ⟨l0, w0⟩ := Go.Proofs.Ytkoldgammeojkaa.Sopn.open_segs (hval 0 22 v0 rfl rfl) h0
  have k1 := h1
  have lt1 : ∀ x ∈ p1, x.block < W.heap.size := by obtain ⟨m, hm⟩ := k1; exact DataW.trod_lt m _ _ _ hm
  obtain ⟨a1, rfl, w1⟩ := Go.Proofs.Ytkoldgammeojkaa.Sopn.open_range (hval 1 37 v1 rfl rfl) h1
  clear hA0 hval0
  refine (walk _ l0 a1 W w0 w1).mono fun e W' ⟨he, bel⟩ => ?_
  subst he
  exact ⟨_, rfl, _, _, _, [], _, [], hW', trodAll_mk1 (shut_bool Try.underlying4 _), (trodAll_cons_mk (Below.trod laidOut (by kernel_rfl) (of_decide_eq_true (by kernel_rfl)) k0 bel lt0) (trodAll_cons_mk (Below.trod laidOut (by kernel_rfl) (of_decide_eq_true (by kernel_rfl)) k1 bel lt1) trodAll_mk0)), rfl, bel.frame _, fun h => by cases h⟩

theorem over : Rows.profileLimitsRow.holds Try.pinned (OpenSpec.ofChange Rows.profileLimitsSpec) :=
  OpenClaim.holds_of_wide 5 Try.f5 rfl rfl rfl rfl rfl rfl rfl ⟨rfl, rfl, rfl, rfl, rfl⟩ rfl rfl rfl rfl rfl (by kernel_rfl) Try.func5 (by kernel_rfl)
    (of_decide_eq_true (by kernel_rfl)) (by unfold Func.isWrapper; first | (rw [if_pos (by decide +kernel)]; kernel_rfl) | (rw [if_neg (by decide +kernel)]; exact ⟨rfl, rfl⟩))
    (fun os started H enc _ => lifted os started H enc)

/-- The statement. -/
theorem proved : Rows.ProfileLimitsSaid := over
#print axioms proved
end Go.Proofs.Ytkoldgammeojkaa.profileLimits
