/- The calls of idset's functions. -/
import Derived.Test.YtjlnlcnddhilhaaMerge
namespace Go.Proofs.Ytjlnlcnddhilhaa.Idset
open Go.RowKit Go.Sort Go.Proofs.Ytjlnlcnddhilhaa.Sets Go.Proofs.Ytjlnlcnddhilhaa.Reads

theorem make_any {v : Value} {xs : List Int} {w : World} (h : Reads w.heap.size w v xs) (hl : xs.length ≤ 1099511627776) :
    Calls Try.prog 10 #[v] w (SetOut (sset xs) w) := by
  have S := Lib.hid (sorted_any h hl)
  clear h
  go_enter Try.func10, Try.ntmps10
  go_wp2_with fail
  refine S.out.mono ?_
  rintro e w1 ⟨v1, rfl, R⟩
  have HR := Lib.hid R
  clear R
  go_wp2_with fail
  go_ret
  exact ⟨_, rfl, HR.out⟩

def hasB (n : Int) (xs : List Int) : Bool := decide (n ∈ xs)

theorem has_any {v : Value} {xs : List Int} {n : Int} {w : World} (h : Reads w.heap.size w v xs) :
    Calls Try.prog 13 #[v, .int .i64 n] w fun e w' => e = .returned (.bool (hasB n xs)) ∧ w = w' := by
  have S : Hid (Calls Try.prog 26 #[v, .int .i64 n] w fun e w' => e = .returned (.bool (hasB n xs)) ∧ w' = w) := by
    by_cases h0 : xs = []
    · subst h0
      obtain ⟨a, cap, rfl, _⟩ := h.empty
      exact Try.slices_Contains_int_empty a cap n w
    · have hm := h.len
      obtain ⟨b, off, cap, rfl, _, _, hb, hc⟩ := h.at h0
      have := Try.slices_Contains_int b off xs.length cap xs n w (Nat.le_refl _) (by unfold maxLen at hm; omega) hc
      rw [List.take_of_length_le (Nat.le_refl _)] at this
      rw [show hasB n xs = xs.contains n by rw [hasB]; simp [List.contains_eq_mem]]
      exact this
  clear h
  go_enter Try.func13, Try.ntmps13
  go_wp2_with fail
  refine S.out.mono ?_
  rintro e w1 ⟨rfl, hw⟩
  obtain rfl := hw.symm
  go_wp2_with fail
  go_ret
  exact ⟨rfl, rfl⟩

theorem union_any {va vb : Value} {A B : List Int} {w : World} (hA : Reads w.heap.size w va A) (hB : Reads w.heap.size w vb B) (lA : A.length ≤ 1099511627776) (lB : B.length ≤ 1099511627776) :
    Calls Try.prog 17 #[va, vb] w (SetOut (unionV A B) w) := by
  have HA := Lib.hid hA
  have HB := Lib.hid hB
  clear hA hB
  go_enter Try.func17, Try.ntmps17
  go_wp2_with fail
  refine (sorted_any HA.out lA).mono ?_
  rintro e w1 ⟨v1, rfl, R1⟩
  have H1 := Lib.hid R1
  clear R1
  have HB1 := Lib.hid ((HB.out.below (Nat.le_refl _) H1.out.2).mono H1.out.2.size)
  go_wp2_with fail
  refine (sorted_any HB1.out lB).mono ?_
  rintro e w2 ⟨v2, rfl, R2⟩
  have H2 := Lib.hid R2
  clear R2
  have HA2 := Lib.hid ((H1.out.1.below (Nat.le_refl _) H2.out.2).mono H2.out.2.size)
  go_wp2_with fail
  refine (merge_any _ _ run_or k_or HA2.out H2.out.1 (by have := sset_len A; omega) (by have := sset_len B; omega)).mono ?_
  rintro e w3 ⟨v3, rfl, R3⟩
  rw [mrg_or _ _ (asc_sset _) (asc_sset _), unionV_sset] at R3
  have H3 := Lib.hid R3
  clear R3
  go_wp2_with fail
  go_ret
  exact ⟨_, rfl, H3.out.1, (H1.out.2.trans (H2.out.2.mono H1.out.2.size)).trans (H3.out.2.mono (Nat.le_trans H1.out.2.size H2.out.2.size))⟩

theorem common_any {va vb : Value} {A B : List Int} {w : World} (hA : Reads w.heap.size w va A) (hB : Reads w.heap.size w vb B) (lA : A.length ≤ 1099511627776) (lB : B.length ≤ 1099511627776) :
    Calls Try.prog 19 #[va, vb] w (SetOut (commonV A B) w) := by
  have HA := Lib.hid hA
  have HB := Lib.hid hB
  clear hA hB
  go_enter Try.func19, Try.ntmps19
  go_wp2_with fail
  refine (sorted_any HA.out lA).mono ?_
  rintro e w1 ⟨v1, rfl, R1⟩
  have H1 := Lib.hid R1
  clear R1
  have HB1 := Lib.hid ((HB.out.below (Nat.le_refl _) H1.out.2).mono H1.out.2.size)
  go_wp2_with fail
  refine (sorted_any HB1.out lB).mono ?_
  rintro e w2 ⟨v2, rfl, R2⟩
  have H2 := Lib.hid R2
  clear R2
  have HA2 := Lib.hid ((H1.out.1.below (Nat.le_refl _) H2.out.2).mono H2.out.2.size)
  go_wp2_with fail
  refine (merge_any _ _ run_and k_and HA2.out H2.out.1 (by have := sset_len A; omega) (by have := sset_len B; omega)).mono ?_
  rintro e w3 ⟨v3, rfl, R3⟩
  rw [mrg_and _ _ (asc_sset _) (asc_sset _), commonV_sset] at R3
  have H3 := Lib.hid R3
  clear R3
  go_wp2_with fail
  go_ret
  exact ⟨_, rfl, H3.out.1, (H1.out.2.trans (H2.out.2.mono H1.out.2.size)).trans (H3.out.2.mono (Nat.le_trans H1.out.2.size H2.out.2.size))⟩

theorem minus_any {va vb : Value} {A B : List Int} {w : World} (hA : Reads w.heap.size w va A) (hB : Reads w.heap.size w vb B) (lA : A.length ≤ 1099511627776) (lB : B.length ≤ 1099511627776) :
    Calls Try.prog 21 #[va, vb] w (SetOut (minusV A B) w) := by
  have HA := Lib.hid hA
  have HB := Lib.hid hB
  clear hA hB
  go_enter Try.func21, Try.ntmps21
  go_wp2_with fail
  refine (sorted_any HA.out lA).mono ?_
  rintro e w1 ⟨v1, rfl, R1⟩
  have H1 := Lib.hid R1
  clear R1
  have HB1 := Lib.hid ((HB.out.below (Nat.le_refl _) H1.out.2).mono H1.out.2.size)
  go_wp2_with fail
  refine (sorted_any HB1.out lB).mono ?_
  rintro e w2 ⟨v2, rfl, R2⟩
  have H2 := Lib.hid R2
  clear R2
  have HA2 := Lib.hid ((H1.out.1.below (Nat.le_refl _) H2.out.2).mono H2.out.2.size)
  go_wp2_with fail
  refine (merge_any _ _ run_less k_less HA2.out H2.out.1 (by have := sset_len A; omega) (by have := sset_len B; omega)).mono ?_
  rintro e w3 ⟨v3, rfl, R3⟩
  rw [mrg_less _ _ (asc_sset _) (asc_sset _), minusV_sset] at R3
  have H3 := Lib.hid R3
  clear R3
  go_wp2_with fail
  go_ret
  exact ⟨_, rfl, H3.out.1, (H1.out.2.trans (H2.out.2.mono H1.out.2.size)).trans (H3.out.2.mono (Nat.le_trans H1.out.2.size H2.out.2.size))⟩

/-- Whether every element of A is one of B. -/
def withinB (A B : List Int) : Bool := decide ((minusV A B).length = 0)
theorem withinB_iff {A B : List Int} : withinB A B = true ↔ ∀ n ∈ A, n ∈ B := by unfold withinB; rw [decide_eq_true_iff]; exact minusV_nil

theorem within_any {va vb : Value} {A B : List Int} {w : World} (hA : Reads w.heap.size w va A) (hB : Reads w.heap.size w vb B) (lA : A.length ≤ 1099511627776) (lB : B.length ≤ 1099511627776) :
    Calls Try.prog 15 #[va, vb] w fun e w' => e = .returned (.bool (withinB A B)) ∧ Below w.heap.size w w' := by
  have S := Lib.hid (minus_any hA hB lA lB)
  clear hA hB
  obtain ⟨q, hq⟩ : ∃ q, withinB A B = q := ⟨_, rfl⟩
  rw [hq]
  unfold withinB at hq
  have HQ := Lib.hid hq
  clear hq
  go_enter Try.func15, Try.ntmps15
  go_wp2_with fail
  refine S.out.mono ?_
  rintro e w1 ⟨v1, rfl, R⟩
  obtain ⟨a, cap, rfl, _⟩ := R.1
  have HB := Lib.hid R.2
  clear R
  cases q with
  | true =>
    have h0 : (minusV A B).length = 0 := by simpa using HQ.out
    rw [h0]
    clear h0
    go_wp2_with fail
    go_ret
    exact ⟨rfl, HB.out⟩
  | false =>
    have h0 : (((minusV A B).length : Int) == 0) = false := by
      have := HQ.out
      simp at this
      simp [this]
    go_wp2_with fail
    go_ret
    exact ⟨rfl, HB.out⟩

end Go.Proofs.Ytjlnlcnddhilhaa.Idset
