/- WireLengths: for all numbers, an encoded number has from 1 to 10 bytes, and a greater one never fewer than a smaller one. No condition. -/
import Derived.Test.YtpbmkapeieoiaaaRows
import Derived.WalkKit
import Derived.ProofKit
import Derived.OpenShut
import Derived.ShutString
import Derived.Test.YtpbmkapeieoiaaaAlive
import Derived.Below
namespace Go.Proofs.Ytpbmkapeieoiaaa.wireLengths
open Go.ChangeShapes Go.WideShapes Go.ChangeAt Go.RowKit
open Go.ChangeMaps (open_string shut_string)
open Go.RowKit Go.Lib Go.Proofs.Ytpbmkapeieoiaaa.Uints Go.Proofs.Ytpbmkapeieoiaaa.Takes Go.Proofs.Ytpbmkapeieoiaaa.Ints Go.Proofs.Ytpbmkapeieoiaaa.Var
set_option linter.unusedVariables false      -- a walk need not use every 'w<i>' (that an integer argument fits its kind)

theorem own : ownKnob Try.prog.godebug = none := by kernel_rfl

theorem enc_len (n : Nat) : (enc n).size = (uvarint n).length := by
  show (uvarint n).toArray.size = _
  simp
theorem u64_range {x : Int} (h : (Lit.int .u64 x).wf = true) : 0 ≤ x ∧ x ≤ 18446744073709551615 := by
  have hmin : IntKind.u64.min = 0 := rfl
  have hmax : IntKind.u64.max = 18446744073709551615 := rfl
  simp only [Lit.wf, Bool.and_eq_true, decide_eq_true_eq] at h
  omega
set_option maxRecDepth 100000 in
theorem walk_le (x y : Nat) (w : World) (hy : y < 18446744073709551616) (hle : x < y) :
    Calls Try.prog 9 #[.int .u64 (x : Int), .int .u64 (y : Int)] w fun e w' => e = .returned (.bool true) ∧ Below w.heap.size w w' := by
  have H1 := Lib.hid (fun w => uint_any x w (by omega))
  have H2 := Lib.hid (fun w => uint_any y w hy)
  have l1 := uvarint_pos x
  have l2 := uvarint_mono x y (by omega)
  have l3 := uvarint_length64 hy
  rw [← enc_len] at l1 l2
  rw [← enc_len] at l2 l3
  obtain ⟨m, hm⟩ : ∃ m, (enc x).size = m := ⟨_, rfl⟩
  obtain ⟨k, hk⟩ : ∃ k, (enc y).size = k := ⟨_, rfl⟩
  rw [hm] at l1 l2
  rw [hk] at l2 l3
  have g1 : decide (1 ≤ (m : Int)) = true := by simp; omega
  have g2 : decide (m ≤ k) = true := by simp; omega
  have g3 : decide ((k : Int) ≤ 10) = true := by simp; omega
  have g4 : decide ((m : Int) ≤ (k : Int)) = true := by simp; omega
  clear hy
  go_enter Try.func9, Try.ntmps9
  go_wp2_with fail
  refine (H1.out _).mono ?_
  rintro e w1 ⟨rfl, b⟩
  have B1 := Lib.hid b
  clear b
  go_wp2_with fail
  refine (H2.out _).mono ?_
  rintro e w2 ⟨rfl, b⟩
  have B2 := Lib.hid (bel_next B1.out b)
  clear b B1
  go_wp2_with fail
  refine (alive_any _).mono ?_
  rintro e w3 ⟨rfl, b⟩
  have B3 := Lib.hid (bel_next B2.out b)
  clear b B2
  go_wp2_with fail
  go_ret
  exact ⟨rfl, B3.out⟩

set_option maxRecDepth 100000 in
theorem walk_lt (x y : Nat) (w : World) (hy : y < 18446744073709551616) (hle : x < y) :
    Calls Try.prog 9 #[.int .u64 (y : Int), .int .u64 (x : Int)] w fun e w' => e = .returned (.bool true) ∧ Below w.heap.size w w' := by
  have H1 := Lib.hid (fun w => uint_any x w (by omega))
  have H2 := Lib.hid (fun w => uint_any y w hy)
  have l1 := uvarint_pos x
  have l2 := uvarint_mono x y (by omega)
  have l3 := uvarint_length64 hy
  rw [← enc_len] at l1 l2
  rw [← enc_len] at l2 l3
  obtain ⟨m, hm⟩ : ∃ m, (enc x).size = m := ⟨_, rfl⟩
  obtain ⟨k, hk⟩ : ∃ k, (enc y).size = k := ⟨_, rfl⟩
  rw [hm] at l1 l2
  rw [hk] at l2 l3
  have g1 : decide (1 ≤ (m : Int)) = true := by simp; omega
  have g2 : decide (m ≤ k) = true := by simp; omega
  have g3 : decide ((k : Int) ≤ 10) = true := by simp; omega
  have g4 : decide ((m : Int) ≤ (k : Int)) = true := by simp; omega
  clear hy
  go_enter Try.func9, Try.ntmps9
  go_wp2_with fail
  refine (H1.out _).mono ?_
  rintro e w1 ⟨rfl, b⟩
  have B1 := Lib.hid b
  clear b
  go_wp2_with fail
  refine (H2.out _).mono ?_
  rintro e w2 ⟨rfl, b⟩
  have B2 := Lib.hid (bel_next B1.out b)
  clear b B1
  go_wp2_with fail
  refine (alive_any _).mono ?_
  rintro e w3 ⟨rfl, b⟩
  have B3 := Lib.hid (bel_next B2.out b)
  clear b B2
  go_wp2_with fail
  go_ret
  exact ⟨rfl, B3.out⟩

set_option maxRecDepth 100000 in
theorem walk_eq (x y : Nat) (w : World) (hy : y < 18446744073709551616) (hle : x = y) :
    Calls Try.prog 9 #[.int .u64 (x : Int), .int .u64 (y : Int)] w fun e w' => e = .returned (.bool true) ∧ Below w.heap.size w w' := by
  subst hle
  have H1 := Lib.hid (fun w => uint_any x w hy)
  have H2 := Lib.hid (fun w => uint_any x w hy)
  have l1 := uvarint_pos x
  have l2 := uvarint_mono x x (Nat.le_refl _)
  have l3 := uvarint_length64 hy
  rw [← enc_len] at l1 l2
  rw [← enc_len] at l3
  obtain ⟨m, hm⟩ : ∃ m, (enc x).size = m := ⟨_, rfl⟩
  obtain ⟨k, hk⟩ : ∃ k, m = k := ⟨_, rfl⟩
  rw [hm] at l1 l2 l3
  subst hk
  have g1 : decide (1 ≤ (m : Int)) = true := by simp; omega
  have g2 : decide (m ≤ m) = true := by simp
  have g3 : decide ((m : Int) ≤ 10) = true := by simp; omega
  have g4 : decide ((m : Int) ≤ (m : Int)) = true := by simp
  clear hy
  go_enter Try.func9, Try.ntmps9
  go_wp2_with fail
  refine (H1.out _).mono ?_
  rintro e w1 ⟨rfl, b⟩
  have B1 := Lib.hid b
  clear b
  go_wp2_with fail
  refine (H2.out _).mono ?_
  rintro e w2 ⟨rfl, b⟩
  have B2 := Lib.hid (bel_next B1.out b)
  clear b B1
  go_wp2_with fail
  refine (alive_any _).mono ?_
  rintro e w3 ⟨rfl, b⟩
  have B3 := Lib.hid (bel_next B2.out b)
  clear b B2
  go_wp2_with fail
  go_ret
  exact ⟨rfl, B3.out⟩



theorem walk (a0 : Int) (a1 : Int) (w0 : (Lit.int .u64 a0).wf = true) (w1 : (Lit.int .u64 a1).wf = true) (w : World) :
    Calls Try.prog 9 #[.int .u64 a0, .int .u64 a1] w fun e w' => e = .returned (.bool true) ∧ Below w.heap.size w w' := by
  obtain ⟨p0, p1⟩ := u64_range w0
  obtain ⟨q0, q1⟩ := u64_range w1
  obtain ⟨x, rfl⟩ := Int.eq_ofNat_of_zero_le p0
  obtain ⟨y, rfl⟩ := Int.eq_ofNat_of_zero_le q0
  by_cases h : x < y
  · exact walk_le x y w (by omega) h
  by_cases h2 : x = y
  · exact walk_eq x y w (by omega) h2
  · exact walk_lt y x w (by omega) (by omega)

set_option maxRecDepth 100000 in
theorem lifted (os : Os) (started : os.Started) (H : Type) (enc : TypeId × Value → H) :
    ReturnsInHanded {} Try.checked os 9 .any (Rows.wireLengthsSpec.pre6 enc Try.prog Try.f9 Rows.wireLengthsRow.domain false) (Rows.wireLengthsSpec.post enc Try.prog Try.f9 false true false false) := by
  refine returnsInHanded_of_change (C := Try.checked) own started (by kernel_rfl) Try.func9
    (ChangeSpec.witness6 (enc := enc) (C := Try.checked) false ⟨#[], #[.int .u64 0, .int .u64 0], []⟩ 8 (by kernel_rfl) (by kernel_rfl) (by kernel_rfl) (by kernel_rfl)) ?_
  intro W base args ds gs before hval0 hW hcnd _
  have hval : ∀ (j : Nat) t v, Try.f9.params[j]? = some t → args[j]? = some v → Value.okWide Try.prog W .any base t v := hval0
  have hW' := hW
  obtain ⟨p, q, hA0, hV, rfl, hfz, hnd⟩ := hW
  have hA : DataW.TrodAll enc Try.prog W 0 (fun _ => true) true Try.f9.params.toList args.toList ds p := hA0
  rw [Try.params9] at hA hval
  obtain ⟨v0, vs0, d0, ds0, p0, q0, hargs, rfl, rfl, h0, r0⟩ := trodAll_cons hA
  obtain ⟨v1, vs1, d1, ds1, p1, q1, rfl, rfl, rfl, h1, r1⟩ := trodAll_cons r0
  obtain ⟨rfl, rfl, rfl⟩ := trodAll_nil r1
  obtain rfl : args = #[v0, v1] := by cases args; simp_all
  obtain ⟨rfl, rfl⟩ := trodVars_none hV
  obtain ⟨a0, rfl, rfl, rfl, w0⟩ := open_int Try.underlying22 (hval 0 22 v0 rfl rfl) h0
  obtain ⟨a1, rfl, rfl, rfl, w1⟩ := open_int Try.underlying22 (hval 1 22 v1 rfl rfl) h1
  clear hA0 hval0
  simp only [List.append_nil] at hW'
  refine (walk a0 a1 w0 w1 W).mono fun e W' ⟨he, bel⟩ => ?_
  subst he
  exact ⟨_, rfl, _, _, _, [], _, [], hW', trodAll_mk1 (shut_bool Try.underlying4 _), (trodAll_cons_mk (shut_int Try.underlying22 w0) (trodAll_cons_mk (shut_int Try.underlying22 w1) trodAll_mk0)), rfl, bel.frame _, fun h => by cases h⟩

theorem over : Rows.wireLengthsRow.holds Try.pinned (OpenSpec.ofChange Rows.wireLengthsSpec) :=
  OpenClaim.holds_of_wide 9 Try.f9 rfl rfl rfl rfl rfl rfl rfl ⟨rfl, rfl, rfl, rfl, rfl⟩ rfl rfl rfl rfl rfl (by kernel_rfl) Try.func9 (by kernel_rfl)
    (of_decide_eq_true (by kernel_rfl)) (by unfold Func.isWrapper; first | (rw [if_pos (by decide +kernel)]; kernel_rfl) | (rw [if_neg (by decide +kernel)]; exact ⟨rfl, rfl⟩))
    (fun os started H enc _ => lifted os started H enc)

/-- The statement. -/
theorem proved : Rows.WireLengthsSaid :=
  over
#print axioms proved
end Go.Proofs.Ytpbmkapeieoiaaa.wireLengths
