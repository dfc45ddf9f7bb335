/- ProfileReads: for every list of segments and every two coordinates, profile.Valid, At, Slowest, Steepest and Cut return what the reference returns, wherever the list has at most 300 segments; beyond that the statement asks nothing more. -/
import Derived.Test.YtkoldgammeojkaaRows
import Derived.WalkKit
import Derived.ProofKit
import Derived.OpenShut
import Derived.ShutString
import Derived.Below
import Derived.ChangeOld
import Derived.Test.YtkoldgammeojkaaSopn
import Derived.Test.YtkoldgammeojkaaRsl
import Derived.Test.YtkoldgammeojkaaPal10
namespace Go.Proofs.Ytkoldgammeojkaa.profileReads
open Go.ChangeShapes Go.WideShapes Go.ChangeAt
open Go.RowKit hiding intOf
open Go.ChangeMaps (open_string shut_string)
open Go.Proofs.Ytkoldgammeojkaa.Segs Go.Proofs.Ytkoldgammeojkaa.Pvd Go.Proofs.Ytkoldgammeojkaa.Rvd Go.Proofs.Ytkoldgammeojkaa.Pat Go.Proofs.Ytkoldgammeojkaa.Rat Go.Proofs.Ytkoldgammeojkaa.Rtc Go.Proofs.Ytkoldgammeojkaa.Rsl Go.Proofs.Ytkoldgammeojkaa.Pct Go.Proofs.Ytkoldgammeojkaa.Pal10 Go.Proofs.Ytkoldgammeojkaa.Smp Go.Proofs.Ytkoldgammeojkaa.Sopn
set_option linter.unusedVariables false

theorem own : ownKnob Try.prog.godebug = none := by kernel_rfl
theorem laidOut : laidOutB Try.prog = true := by kernel_rfl


theorem walk (a0 : Value) (l0 : List Go.Proofs.Ytkoldgammeojkaa.Segs.Sg) (a1 : Int) (a2 : Int) (w : World) (w0 : Go.Proofs.Ytkoldgammeojkaa.Segs.SegIn w a0 l0) (w1 : (Lit.int .i64 a1).wf = true) (w2 : (Lit.int .i64 a2).wf = true) :
    Calls Try.prog 3 #[a0, .int .i64 a1, .int .i64 a2] w fun e w' => e = .returned (.bool true) ∧ Below w.heap.size w w' := by
  obtain ⟨A1, C1, rfl, hm1, -, -, -⟩ := segs w0.1
  have HL := Lib.hid (fun w' => alive_any w')
  have HG := Lib.hid (fun w' (b : Below w.heap.size w w') => grid_next w0.1 b)
  obtain ⟨N1, e1⟩ : ∃ N, l0.length = N := ⟨_, rfl⟩
  have E1 := Lib.hid e1
  rw [e1] at hm1 HG ⊢
  clear w0 w1 w2 e1
  by_cases hbig : 300 < N1
  · have g1 : (300 : Int) < (N1 : Int) := by omega
    clear hbig
    go_enter Try.func3, Try.ntmps3
    go_wp2_with fail
    refine (HL.out _).mono ?_
    rintro e w' ⟨rfl, b⟩
    have B := Lib.hid b
    clear b
    go_wp2_with fail
    go_ret
    exact ⟨rfl, B.out⟩
  · have g1 : ¬ (300 : Int) < (N1 : Int) := by omega
    have HN : Hid (l0.length ≤ 1000) := Lib.hid (by rw [E1.out]; omega)
    clear hbig
    have C1 := Lib.hid (fun w' (b : Below w.heap.size w w') => at_any a1 (HG.out w' b))
    have C2 := Lib.hid (fun w' (b : Below w.heap.size w w') => rat_any a1 (HG.out w' b))
    have C3 := Lib.hid (fun w' (b : Below w.heap.size w w') => pvalid_any (HG.out w' b))
    have C4 := Lib.hid (fun w' (b : Below w.heap.size w w') => rvalid_any (HG.out w' b))
    have C5 := Lib.hid (fun w' (b : Below w.heap.size w w') => slow_any a1 a2 (HG.out w' b))
    have C6 := Lib.hid (fun w' (b : Below w.heap.size w w') => rslow_any a1 a2 (HG.out w' b) HN.out)
    have C7 := Lib.hid (fun w' (b : Below w.heap.size w w') => steep_any a1 a2 (HG.out w' b))
    have C8 := Lib.hid (fun w' (b : Below w.heap.size w w') => rsteep_any a1 a2 (HG.out w' b) HN.out)
    have C9 := Lib.hid (fun w' (b : Below w.heap.size w w') => cut_any a1 a2 (HG.out w' b))
    have C10 := Lib.hid (fun w' (b : Below w.heap.size w w') => rcut_any a1 a2 (HG.out w' b) HN.out)
    obtain ⟨⟨⟨s1, s2, s3, s4⟩, ok⟩, hat⟩ : ∃ r, atF l0 a1 = r := ⟨_, rfl⟩
    obtain ⟨vq, hvq⟩ : ∃ r, validF l0 = r := ⟨_, rfl⟩
    obtain ⟨sl, hsl⟩ : ∃ r, slowF l0 a1 a2 = r := ⟨_, rfl⟩
    obtain ⟨st, hst⟩ : ∃ r, steepF l0 a1 a2 = r := ⟨_, rfl⟩
    obtain ⟨ct, hct⟩ : ∃ r, cutF l0 a1 a2 = r := ⟨_, rfl⟩
    rw [hat] at C1 C2
    rw [hvq] at C3 C4
    rw [hsl] at C5 C6
    rw [hst] at C7 C8
    rw [hct] at C9 C10
    unfold AtOut sgV at C1 C2
    simp only at C1 C2
    clear hat hvq hsl hst hct
    go_enter Try.func3, Try.ntmps3
    go_wp2_with fail
    refine (C1.out _ (Below.refl _ _)).mono ?_
    rintro e w1 ⟨rfl, b1⟩
    obtain ⟨V1, hV1, bV1, lV1, v10, v11, v12, v13, hr1⟩ := box_new w1 s1 s2 s3 s4 25
    have HV1 := Lib.hid hV1
    have B1 := Lib.hid (bel_next b1 bV1)
    have L1 := Lib.hid lV1
    have R1 := Lib.hid hr1
    clear b1 hV1 bV1 lV1 v10 v11 v12 v13 hr1
    go_wp2_with fail
    rw [HV1.out]
    refine (C2.out _ B1.out).mono ?_
    rintro e w2 ⟨rfl, b2⟩
    obtain ⟨V2, hV2, bV2, lV2, v20, v21, v22, v23, hr2⟩ := box_new w2 s1 s2 s3 s4 25
    have HV2 := Lib.hid hV2
    have HB2 := Lib.hid (bel_next b2 bV2)
    have B2 := Lib.hid (bel_next B1.out HB2.out)
    have L2 := Lib.hid lV2
    have L12 := Lib.hid (Nat.lt_of_lt_of_le L1.out HB2.out.size)
    have R2 := Lib.hid hr2
    have R12 := Lib.hid ((HB2.out.block _ L1.out).trans R1.out)
    clear b2 hV2 bV2 lV2 v20 v21 v22 v23 hr2
    go_wp2_with fail
    rw [HV2.out]
    refine (C3.out _ B2.out).mono ?_
    rintro e w3 ⟨rfl, b3⟩
    have HB3 := Lib.hid b3
    have B3 := Lib.hid (bel_next B2.out b3)
    clear b3
    go_wp2_with fail
    refine (C4.out _ B3.out).mono ?_
    rintro e w4 ⟨rfl, b4⟩
    have HB4 := Lib.hid (bel_next HB3.out b4)
    have B4 := Lib.hid (bel_next B3.out b4)
    have hr1 := (HB4.out.block _ L12.out).trans R12.out
    have hr2 := (HB4.out.block _ L2.out).trans R2.out
    have p0 := cell_of_row w4 w1.heap.size 0 _ _ _ hr1
    have p1 := cell_of_row w4 w1.heap.size 1 _ _ _ hr1
    have p2 := cell_of_row w4 w1.heap.size 2 _ _ _ hr1
    have p3 := cell_of_row w4 w1.heap.size 3 _ _ _ hr1
    have q0 := cell_of_row w4 w2.heap.size 0 _ _ _ hr2
    have q1 := cell_of_row w4 w2.heap.size 1 _ _ _ hr2
    have q2 := cell_of_row w4 w2.heap.size 2 _ _ _ hr2
    have q3 := cell_of_row w4 w2.heap.size 3 _ _ _ hr2
    clear b4 hr1 hr2
    go_wp2_with fail
    refine (C5.out _ B4.out).mono ?_
    rintro e w5 ⟨rfl, b5⟩
    have B5 := Lib.hid (bel_next B4.out b5)
    clear b5 p0 p1 p2 p3 q0 q1 q2 q3
    go_wp2_with fail
    refine (C6.out _ B5.out).mono ?_
    rintro e w6 ⟨rfl, b6⟩
    have B6 := Lib.hid (bel_next B5.out b6)
    clear b6
    go_wp2_with fail
    refine (C7.out _ B6.out).mono ?_
    rintro e w7 ⟨rfl, b7⟩
    have B7 := Lib.hid (bel_next B6.out b7)
    clear b7
    go_wp2_with fail
    refine (C8.out _ B7.out).mono ?_
    rintro e w8 ⟨rfl, b8⟩
    have B8 := Lib.hid (bel_next B7.out b8)
    clear b8
    go_wp2_with fail
    refine (C9.out _ B8.out).mono ?_
    rintro e w9 h9
    obtain ⟨A9, M9, K9, rfl, HM9, HO9, HB9⟩ := seg_open h9
    have B9 := Lib.hid (bel_next B8.out HB9.out)
    clear h9
    go_wp2_with fail
    refine (C10.out _ B9.out).mono ?_
    rintro e w10 h10
    obtain ⟨A10, M10, K10, rfl, HM10, HO10, HB10⟩ := seg_open h10
    have B10 := Lib.hid (bel_next B9.out HB10.out)
    clear h10
    have hs := same_any (grid_next (grid_in (grid_of_own HO9.out)) HB10.out) (grid_in (grid_of_own HO10.out))
    rw [decide_eq_true rfl] at hs
    have HS := Lib.hid hs
    clear hs
    go_wp2_with fail
    refine HS.out.mono ?_
    rintro e w11 ⟨rfl, b11⟩
    have B11 := Lib.hid (bel_next B10.out b11)
    clear b11
    go_wp2_with fail
    refine (HL.out _).mono ?_
    rintro e w12 ⟨rfl, b12⟩
    have B12 := Lib.hid (bel_next B11.out b12)
    clear b12
    go_wp2_with fail
    go_ret
    exact ⟨rfl, B12.out⟩

set_option maxRecDepth 100000 in
theorem lifted (os : Os) (started : os.Started) (H : Type) (enc : TypeId × Value → H) :
    ReturnsInHanded {} Try.checked os 3 .any (Rows.profileReadsSpec.pre6 enc Try.prog Try.f3 Rows.profileReadsRow.domain false) (Rows.profileReadsSpec.post enc Try.prog Try.f3 false true false false) := by
  refine returnsInHanded_of_change (C := Try.checked) own started (by kernel_rfl) Try.func3
    (ChangeSpec.witness6 (enc := enc) (C := Try.checked) false ⟨#[], #[.slice none 0 0, .int .i64 0, .int .i64 0], []⟩ 8 (by kernel_rfl) (by kernel_rfl) (by kernel_rfl) (by kernel_rfl)) ?_
  intro W base args ds gs before hval0 hW hcnd _
  have hval : ∀ (j : Nat) t v, Try.f3.params[j]? = some t → args[j]? = some v → Value.okWide Try.prog W .any base t v := hval0
  have hW' := hW
  obtain ⟨p, q, hA0, hV, rfl, hfz, hnd⟩ := hW
  have hA : DataW.TrodAll enc Try.prog W 0 (fun _ => true) true Try.f3.params.toList args.toList ds p := hA0
  rw [Try.params3] at hA hval
  obtain ⟨v0, vs0, d0, ds0, p0, q0, hargs, rfl, rfl, h0, r0⟩ := trodAll_cons hA
  obtain ⟨v1, vs1, d1, ds1, p1, q1, rfl, rfl, rfl, h1, r1⟩ := trodAll_cons r0
  obtain ⟨v2, vs2, d2, ds2, p2, q2, rfl, rfl, rfl, h2, r2⟩ := trodAll_cons r1
  obtain ⟨rfl, rfl, rfl⟩ := trodAll_nil r2
  obtain rfl : args = #[v0, v1, v2] := by cases args; simp_all
  obtain ⟨rfl, rfl⟩ := trodVars_none hV
  have k0 := h0
  have lt0 : ∀ x ∈ p0, x.block < W.heap.size := by obtain ⟨m, hm⟩ := k0; exact DataW.trod_lt m _ _ _ hm
  obtain ⟨l0, w0⟩ := Go.Proofs.Ytkoldgammeojkaa.Sopn.open_segs (hval 0 22 v0 rfl rfl) h0
  obtain ⟨a1, rfl, rfl, rfl, w1⟩ := open_int Try.underlying3 (hval 1 3 v1 rfl rfl) h1
  obtain ⟨a2, rfl, rfl, rfl, w2⟩ := open_int Try.underlying3 (hval 2 3 v2 rfl rfl) h2
  clear hA0 hval0
  refine (walk _ l0 a1 a2 W w0 w1 w2).mono fun e W' ⟨he, bel⟩ => ?_
  subst he
  exact ⟨_, rfl, _, _, _, [], _, [], hW', trodAll_mk1 (shut_bool Try.underlying4 _), (trodAll_cons_mk (Below.trod laidOut (by kernel_rfl) (of_decide_eq_true (by kernel_rfl)) k0 bel lt0) (trodAll_cons_mk (shut_int Try.underlying3 w1) (trodAll_cons_mk (shut_int Try.underlying3 w2) trodAll_mk0))), rfl, bel.frame _, fun h => by cases h⟩

theorem over : Rows.profileReadsRow.holds Try.pinned (OpenSpec.ofChange Rows.profileReadsSpec) :=
  OpenClaim.holds_of_wide 3 Try.f3 rfl rfl rfl rfl rfl rfl rfl ⟨rfl, rfl, rfl, rfl, rfl⟩ rfl rfl rfl rfl rfl (by kernel_rfl) Try.func3 (by kernel_rfl)
    (of_decide_eq_true (by kernel_rfl)) (by unfold Func.isWrapper; first | (rw [if_pos (by decide +kernel)]; kernel_rfl) | (rw [if_neg (by decide +kernel)]; exact ⟨rfl, rfl⟩))
    (fun os started H enc _ => lifted os started H enc)

/-- The statement. -/
theorem proved : Rows.ProfileReadsSaid := over
#print axioms proved
end Go.Proofs.Ytkoldgammeojkaa.profileReads
