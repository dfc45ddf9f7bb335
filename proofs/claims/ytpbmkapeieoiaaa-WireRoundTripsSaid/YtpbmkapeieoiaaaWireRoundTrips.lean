/- WireRoundTrips: for every value with a text and a list of at most 400 elements, between texts of at most 400 bytes, its encodings are decoded to it, and the offset behind is returned; of other values and texts only the examples are said. No condition. -/
import Derived.Test.YtpbmkapeieoiaaaRows
import Derived.WalkKit
import Derived.ProofKit
import Derived.OpenShut
import Derived.ShutString
import Derived.Below
import Derived.ChangeOld
import Derived.Test.YtpbmkapeieoiaaaOpen
import Derived.Test.YtpbmkapeieoiaaaWtrip
namespace Go.Proofs.Ytpbmkapeieoiaaa.wireRoundTrips
open Go.ChangeShapes Go.WideShapes Go.ChangeAt
open Go.RowKit hiding intOf
open Go.ChangeMaps (open_string shut_string)
open Go.Lib Go.Proofs.Ytpbmkapeieoiaaa.Reads Go.Proofs.Ytpbmkapeieoiaaa.Values Go.Proofs.Ytpbmkapeieoiaaa.Ints Go.Proofs.Ytpbmkapeieoiaaa.Takes
set_option linter.unusedVariables false

theorem own : ownKnob Try.prog.godebug = none := by kernel_rfl
theorem laidOut : laidOutB Try.prog = true := by kernel_rfl

theorem u64_range {x : Int} (h : (Lit.int .u64 x).wf = true) : 0 ≤ x ∧ x ≤ 18446744073709551615 := by
  have hmin : IntKind.u64.min = 0 := rfl
  have hmax : IntKind.u64.max = 18446744073709551615 := rfl
  simp only [Lit.wf, Bool.and_eq_true, decide_eq_true_eq] at h
  omega
set_option maxRecDepth 100000 in
set_option maxHeartbeats 800000 in
theorem trips_out {u n : Int} {b : Bool} {s p q : ByteArray} {v : Value} {l : List Int} {w : World} (h : Reads w.heap.size w v l) (hs : s.size ≤ maxLen) (hp : p.size ≤ maxLen) (hq : q.size ≤ maxLen) (ho : shortB s l = false ∨ 400 < p.size ∨ 400 < q.size) :
    Calls Try.prog 6 #[.agg #[.int .u64 u, .int .i64 n, .bool b, .string s, v], .string p, .string q] w fun e w' => e = .returned (.bool true) ∧ Below w.heap.size w w' := by
  have HR := Lib.hid (next_alloc h (.cells #[.int .u64 u, .int .i64 n, .bool b, .string s, v] 25))
  obtain ⟨a, cap, rfl, hm⟩ := rshape h
  have HSH := Lib.hid (short_any (u := u) (n := n) (b := b) (s := s) HR.out hs)
  have HB := Lib.hid (bel_alloc (Below.refl w.heap.size w) (.cells #[.int .u64 u, .int .i64 n, .bool b, .string s, .slice a l.length cap] 25))
  obtain ⟨x, hx⟩ : ∃ x, shortB s l = x := ⟨_, rfl⟩
  rw [hx] at HSH ho
  have HA := Lib.hid alive_any
  unfold maxLen at hp hq
  clear h hs hx
  by_cases hx : x = true
  · subst hx
    by_cases hp4 : 400 < p.size
    · have g1 : decide (400 < (p.size : Int)) = true := by simp; omega
      clear ho
      go_enter Try.func6, Try.ntmps6
      go_wp2_with fail
      refine HSH.out.mono ?_
      rintro e W ⟨rfl, bb⟩
      have HB1 := Lib.hid (bel_next HB.out bb)
      clear bb HB
      go_wp2_with fail
      refine (HA.out _).mono ?_
      rintro e W2 ⟨rfl, bb⟩
      have HB2 := Lib.hid (bel_next HB1.out bb)
      clear bb HB1
      go_wp2_with fail
      go_ret
      exact ⟨rfl, HB2.out⟩
    · have hq4 : 400 < q.size := by simpa [hp4] using ho
      have g1 : decide (400 < (p.size : Int)) = false := by simp; omega
      have g2 : decide (400 < (q.size : Int)) = true := by simp; omega
      clear ho
      go_enter Try.func6, Try.ntmps6
      go_wp2_with fail
      refine HSH.out.mono ?_
      rintro e W ⟨rfl, bb⟩
      have HB1 := Lib.hid (bel_next HB.out bb)
      clear bb HB
      go_wp2_with fail
      refine (HA.out _).mono ?_
      rintro e W2 ⟨rfl, bb⟩
      have HB2 := Lib.hid (bel_next HB1.out bb)
      clear bb HB1
      go_wp2_with fail
      go_ret
      exact ⟨rfl, HB2.out⟩
  · obtain rfl : x = false := by simpa using hx
    clear hx ho
    go_enter Try.func6, Try.ntmps6
    go_wp2_with fail
    refine HSH.out.mono ?_
    rintro e W ⟨rfl, bb⟩
    have HB1 := Lib.hid (bel_next HB.out bb)
    clear bb HB
    go_wp2_with fail
    refine (HA.out _).mono ?_
    rintro e W2 ⟨rfl, bb⟩
    have HB2 := Lib.hid (bel_next HB1.out bb)
    clear bb HB1
    go_wp2_with fail
    go_ret
    exact ⟨rfl, HB2.out⟩

theorem walk (a0_0 : Int) (a0_1 : Int) (a0_2 : Bool) (a0_3 : ByteArray) (a0_4 : Value) (l0_4 : List Int) (a1 : ByteArray) (a2 : ByteArray) (w : World) (w0_0 : (Lit.int .u64 a0_0).wf = true) (w0_1 : (Lit.int .i64 a0_1).wf = true) (w0_3 : a0_3.size ≤ maxLen) (w0_4 : Go.Proofs.Ytpbmkapeieoiaaa.Reads.Reads w.heap.size w a0_4 l0_4) (w1 : a1.size ≤ maxLen) (w2 : a2.size ≤ maxLen) :
    Calls Try.prog 6 #[.agg #[.int .u64 a0_0, .int .i64 a0_1, .bool a0_2, .string a0_3, a0_4], .string a1, .string a2] w fun e w' => e = .returned (.bool true) ∧ Below w.heap.size w w' := by
  obtain ⟨p0, p1⟩ := u64_range w0_0
  obtain ⟨u, rfl⟩ := Int.eq_ofNat_of_zero_le p0
  by_cases h : shortB a0_3 l0_4 = true ∧ a1.size ≤ 400 ∧ a2.size ≤ 400
  · obtain ⟨h1, h2, h4⟩ := h
    have h3 : a0_3.size ≤ 400 ∧ l0_4.length ≤ 400 := by simpa [shortB] using h1
    exact trips_in w0_4 (by omega) w0_1 h3.1 h3.2 h2 h4
  · refine trips_out w0_4 w0_3 w1 w2 ?_
    by_cases h1 : shortB a0_3 l0_4 = true
    · exact .inr (by have : ¬ (a1.size ≤ 400 ∧ a2.size ≤ 400) := fun hh => h ⟨h1, hh⟩; omega)
    · exact .inl (by simpa using h1)

set_option maxRecDepth 100000 in
theorem lifted (os : Os) (started : os.Started) (H : Type) (enc : TypeId × Value → H) :
    ReturnsInHanded {} Try.checked os 6 .any (Rows.wireRoundTripsSpec.pre6 enc Try.prog Try.f6 Rows.wireRoundTripsRow.domain false) (Rows.wireRoundTripsSpec.post enc Try.prog Try.f6 false true false false) := by
  refine returnsInHanded_of_change (C := Try.checked) own started (by kernel_rfl) Try.func6
    (ChangeSpec.witness6 (enc := enc) (C := Try.checked) false ⟨#[], #[.agg #[.int .u64 0, .int .i64 0, .bool false, .string ByteArray.empty, .slice none 0 0], .string ByteArray.empty, .string ByteArray.empty], []⟩ 8 (by kernel_rfl) (by kernel_rfl) (by kernel_rfl) (by kernel_rfl)) ?_
  intro W base args ds gs before hval0 hW hcnd _
  have hval : ∀ (j : Nat) t v, Try.f6.params[j]? = some t → args[j]? = some v → Value.okWide Try.prog W .any base t v := hval0
  have hW' := hW
  obtain ⟨p, q, hA0, hV, rfl, hfz, hnd⟩ := hW
  have hA : DataW.TrodAll enc Try.prog W 0 (fun _ => true) true Try.f6.params.toList args.toList ds p := hA0
  rw [Try.params6] at hA hval
  obtain ⟨v0, vs0, d0, ds0, p0, q0, hargs, rfl, rfl, h0, r0⟩ := trodAll_cons hA
  obtain ⟨v1, vs1, d1, ds1, p1, q1, rfl, rfl, rfl, h1, r1⟩ := trodAll_cons r0
  obtain ⟨v2, vs2, d2, ds2, p2, q2, rfl, rfl, rfl, h2, r2⟩ := trodAll_cons r1
  obtain ⟨rfl, rfl, rfl⟩ := trodAll_nil r2
  obtain rfl : args = #[v0, v1, v2] := by cases args; simp_all
  obtain ⟨rfl, rfl⟩ := trodVars_none hV
  have k0 := h0
  have lt0 : ∀ x ∈ p0, x.block < W.heap.size := by obtain ⟨m, hm⟩ := k0; exact DataW.trod_lt m _ _ _ hm
  obtain ⟨cs0, n0, rfl, hcs0, hf0⟩ := Go.Proofs.Ytpbmkapeieoiaaa.Open.open_struct Try.underlying25 (by kernel_rfl) (by kernel_rfl) (hval 0 25 v0 rfl rfl) h0
  obtain ⟨c0_0, c0_1, c0_2, c0_3, c0_4, rfl⟩ := Go.Proofs.Ytpbmkapeieoiaaa.Open.five hcs0 rfl
  obtain ⟨y0_0, t0_0⟩ := hf0 0 _ _ rfl rfl
  obtain ⟨a0_0, e0_0, _, w0_0⟩ := DataW.trod_int Try.underlying22 t0_0
  obtain rfl : c0_0 = .int .u64 a0_0 := by simpa using e0_0
  obtain ⟨y0_1, t0_1⟩ := hf0 1 _ _ rfl rfl
  obtain ⟨a0_1, e0_1, _, w0_1⟩ := DataW.trod_int Try.underlying3 t0_1
  obtain rfl : c0_1 = .int .i64 a0_1 := by simpa using e0_1
  obtain ⟨y0_2, t0_2⟩ := hf0 2 _ _ rfl rfl
  obtain ⟨a0_2, e0_2, _⟩ := DataW.trod_bool Try.underlying4 t0_2
  obtain rfl : c0_2 = .bool a0_2 := by simpa using e0_2
  obtain ⟨y0_3, t0_3⟩ := hf0 3 _ _ rfl rfl
  obtain ⟨a0_3, e0_3, _, w0_3⟩ := DataW.trod_string Try.underlying9 t0_3
  obtain rfl : c0_3 = .string a0_3 := by simpa using e0_3
  obtain ⟨y0_4, t0_4⟩ := hf0 4 _ _ rfl rfl
  obtain ⟨l0_4, w0_4⟩ := Go.Proofs.Ytpbmkapeieoiaaa.Open.open_reads Try.underlying23 Try.underlying3 (by kernel_rfl) t0_4
  obtain ⟨a1, rfl, rfl, rfl, w1⟩ := open_string Try.underlying9 (hval 1 9 v1 rfl rfl) h1
  obtain ⟨a2, rfl, rfl, rfl, w2⟩ := open_string Try.underlying9 (hval 2 9 v2 rfl rfl) h2
  clear hA0 hval0
  refine (walk a0_0 a0_1 a0_2 a0_3 c0_4 l0_4 a1 a2 W w0_0 w0_1 w0_3 w0_4 w1 w2).mono fun e W' ⟨he, bel⟩ => ?_
  subst he
  exact ⟨_, rfl, _, _, _, [], _, [], hW', trodAll_mk1 (shut_bool Try.underlying4 _), (trodAll_cons_mk (Below.trod laidOut (by kernel_rfl) (of_decide_eq_true (by kernel_rfl)) k0 bel lt0) (trodAll_cons_mk (shut_string Try.underlying9 w1) (trodAll_cons_mk (shut_string Try.underlying9 w2) trodAll_mk0))), rfl, bel.frame _, fun h => by cases h⟩

theorem over : Rows.wireRoundTripsRow.holds Try.pinned (OpenSpec.ofChange Rows.wireRoundTripsSpec) :=
  OpenClaim.holds_of_wide 6 Try.f6 rfl rfl rfl rfl rfl rfl rfl ⟨rfl, rfl, rfl, rfl, rfl⟩ rfl rfl rfl rfl rfl (by kernel_rfl) Try.func6 (by kernel_rfl)
    (of_decide_eq_true (by kernel_rfl)) (by unfold Func.isWrapper; first | (rw [if_pos (by decide +kernel)]; kernel_rfl) | (rw [if_neg (by decide +kernel)]; exact ⟨rfl, rfl⟩))
    (fun os started H enc _ => lifted os started H enc)

/-- The statement. -/
theorem proved : Rows.WireRoundTripsSaid := over
#print axioms proved
end Go.Proofs.Ytpbmkapeieoiaaa.wireRoundTrips
