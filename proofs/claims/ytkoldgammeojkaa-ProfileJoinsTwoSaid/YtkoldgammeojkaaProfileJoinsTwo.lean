/- ProfileJoinsTwo: for every two lists of segments, profile.Join returns the segments and the error that the reference returns, wherever both have at most 300 segments; beyond that the statement asks nothing more. -/
import Derived.Test.YtkoldgammeojkaaRows
import Derived.WalkKit
import Derived.ProofKit
import Derived.OpenShut
import Derived.ShutString
import Derived.Below
import Derived.ChangeOld
import Derived.Test.YtkoldgammeojkaaSopn
import Derived.Test.YtkoldgammeojkaaRjo
import Derived.Test.YtkoldgammeojkaaPal10
namespace Go.Proofs.Ytkoldgammeojkaa.profileJoinsTwo
open Go.ChangeShapes Go.WideShapes Go.ChangeAt
open Go.RowKit hiding intOf
open Go.ChangeMaps (open_string shut_string)
open Go.Proofs.Ytkoldgammeojkaa.Segs Go.Proofs.Ytkoldgammeojkaa.Pjo Go.Proofs.Ytkoldgammeojkaa.Rjo Go.Proofs.Ytkoldgammeojkaa.Pal10 Go.Proofs.Ytkoldgammeojkaa.Smp
set_option linter.unusedVariables false

theorem own : ownKnob Try.prog.godebug = none := by kernel_rfl
theorem laidOut : laidOutB Try.prog = true := by kernel_rfl


theorem walk (a0 : Value) (l0 : List Go.Proofs.Ytkoldgammeojkaa.Segs.Sg) (a1 : Value) (l1 : List Go.Proofs.Ytkoldgammeojkaa.Segs.Sg) (w : World) (w0 : Go.Proofs.Ytkoldgammeojkaa.Segs.SegIn w a0 l0) (w1 : Go.Proofs.Ytkoldgammeojkaa.Segs.SegIn w a1 l1) :
    Calls Try.prog 4 #[a0, a1] w fun e w' => e = .returned (.bool true) ∧ Below w.heap.size w w' := by
  obtain ⟨A1, C1, rfl, hm1, -, -, -⟩ := segs w0.1
  obtain ⟨A2, C2, rfl, hm2, -, -, -⟩ := segs w1.1
  have HA := Lib.hid w0
  have HB := Lib.hid w1
  have HL := Lib.hid (fun w' => alive_any w')
  have HJ := Lib.hid (join_any w0 w1)
  have HR := Lib.hid (fun w' (b : Below w.heap.size w w') => rjoin_any (w0.next b) (w1.next b))
  obtain ⟨⟨l, n⟩, hr⟩ : ∃ r, joinF l0 l1 = r := ⟨_, rfl⟩
  rw [hr] at HJ HR
  obtain ⟨N1, e1⟩ : ∃ N, l0.length = N := ⟨_, rfl⟩
  obtain ⟨N2, e2⟩ : ∃ N, l1.length = N := ⟨_, rfl⟩
  rw [e1] at hm1 HA HJ HR ⊢
  rw [e2] at hm2 HB HJ HR ⊢
  clear w0 w1 hr e1 e2
  by_cases hbig : 300 < N1 ∨ 300 < N2
  · have hb : (300 : Int) < (N1 : Int) ∨ (¬ (300 : Int) < (N1 : Int) ∧ (300 : Int) < (N2 : Int)) := by omega
    clear hbig
    rcases hb with g1 | ⟨g1, g2⟩
    all_goals
      go_enter Try.func4, Try.ntmps4
      go_wp2_with fail
      refine (HL.out _).mono ?_
      rintro e w' ⟨rfl, b⟩
      have B := Lib.hid b
      clear b
      go_wp2_with fail
      go_ret
      exact ⟨rfl, B.out⟩
  · have g1 : ¬ (300 : Int) < (N1 : Int) := by omega
    have g2 : ¬ (300 : Int) < (N2 : Int) := by omega
    clear hbig
    go_enter Try.func4, Try.ntmps4
    go_wp2_with fail
    refine HJ.out.mono ?_
    rintro e w1 ⟨v1, rfl, o1, b1⟩
    have O1 := Lib.hid o1
    have B1 := Lib.hid b1
    clear o1 b1
    go_wp2_with fail
    refine (HR.out _ B1.out).mono ?_
    rintro e w2 ⟨v2, rfl, o2, b2⟩
    have HS := Lib.hid (same_any (grid_next (grid_in (grid_of_own O1.out)) b2) (grid_in (grid_of_own o2)))
    rw [decide_eq_true rfl] at HS
    have B2 := Lib.hid (bel_next B1.out b2)
    clear o2 b2
    go_wp2_with fail
    refine HS.out.mono ?_
    rintro e w3 ⟨rfl, b3⟩
    have B3 := Lib.hid (bel_next B2.out b3)
    clear b3
    go_wp2_with fail
    refine (HL.out _).mono ?_
    rintro e w4 ⟨rfl, b4⟩
    have B4 := Lib.hid (bel_next B3.out b4)
    clear b4
    go_wp2_with fail
    go_ret
    exact ⟨rfl, B4.out⟩

set_option maxRecDepth 100000 in
theorem lifted (os : Os) (started : os.Started) (H : Type) (enc : TypeId × Value → H) :
    ReturnsInHanded {} Try.checked os 4 .any (Rows.profileJoinsTwoSpec.pre6 enc Try.prog Try.f4 Rows.profileJoinsTwoRow.domain false) (Rows.profileJoinsTwoSpec.post enc Try.prog Try.f4 false true false false) := by
  refine returnsInHanded_of_change (C := Try.checked) own started (by kernel_rfl) Try.func4
    (ChangeSpec.witness6 (enc := enc) (C := Try.checked) false ⟨#[], #[.slice none 0 0, .slice none 0 0], []⟩ 8 (by kernel_rfl) (by kernel_rfl) (by kernel_rfl) (by kernel_rfl)) ?_
  intro W base args ds gs before hval0 hW hcnd _
  have hval : ∀ (j : Nat) t v, Try.f4.params[j]? = some t → args[j]? = some v → Value.okWide Try.prog W .any base t v := hval0
  have hW' := hW
  obtain ⟨p, q, hA0, hV, rfl, hfz, hnd⟩ := hW
  have hA : DataW.TrodAll enc Try.prog W 0 (fun _ => true) true Try.f4.params.toList args.toList ds p := hA0
  rw [Try.params4] at hA hval
  obtain ⟨v0, vs0, d0, ds0, p0, q0, hargs, rfl, rfl, h0, r0⟩ := trodAll_cons hA
  obtain ⟨v1, vs1, d1, ds1, p1, q1, rfl, rfl, rfl, h1, r1⟩ := trodAll_cons r0
  obtain ⟨rfl, rfl, rfl⟩ := trodAll_nil r1
  obtain rfl : args = #[v0, v1] := by cases args; simp_all
  obtain ⟨rfl, rfl⟩ := trodVars_none hV
  have k0 := h0
  have lt0 : ∀ x ∈ p0, x.block < W.heap.size := by obtain ⟨m, hm⟩ := k0; exact DataW.trod_lt m _ _ _ hm
  obtain ⟨l0, w0⟩ := Go.Proofs.Ytkoldgammeojkaa.Sopn.open_segs (hval 0 22 v0 rfl rfl) h0
  have k1 := h1
  have lt1 : ∀ x ∈ p1, x.block < W.heap.size := by obtain ⟨m, hm⟩ := k1; exact DataW.trod_lt m _ _ _ hm
  obtain ⟨l1, w1⟩ := Go.Proofs.Ytkoldgammeojkaa.Sopn.open_segs (hval 1 22 v1 rfl rfl) h1
  clear hA0 hval0
  refine (walk _ l0 _ l1 W w0 w1).mono fun e W' ⟨he, bel⟩ => ?_
  subst he
  exact ⟨_, rfl, _, _, _, [], _, [], hW', trodAll_mk1 (shut_bool Try.underlying4 _), (trodAll_cons_mk (Below.trod laidOut (by kernel_rfl) (of_decide_eq_true (by kernel_rfl)) k0 bel lt0) (trodAll_cons_mk (Below.trod laidOut (by kernel_rfl) (of_decide_eq_true (by kernel_rfl)) k1 bel lt1) trodAll_mk0)), rfl, bel.frame _, fun h => by cases h⟩

theorem over : Rows.profileJoinsTwoRow.holds Try.pinned (OpenSpec.ofChange Rows.profileJoinsTwoSpec) :=
  OpenClaim.holds_of_wide 4 Try.f4 rfl rfl rfl rfl rfl rfl rfl ⟨rfl, rfl, rfl, rfl, rfl⟩ rfl rfl rfl rfl rfl (by kernel_rfl) Try.func4 (by kernel_rfl)
    (of_decide_eq_true (by kernel_rfl)) (by unfold Func.isWrapper; first | (rw [if_pos (by decide +kernel)]; kernel_rfl) | (rw [if_neg (by decide +kernel)]; exact ⟨rfl, rfl⟩))
    (fun os started H enc _ => lifted os started H enc)

/-- The statement. -/
theorem proved : Rows.ProfileJoinsTwoSaid := over
#print axioms proved
end Go.Proofs.Ytkoldgammeojkaa.profileJoinsTwo
