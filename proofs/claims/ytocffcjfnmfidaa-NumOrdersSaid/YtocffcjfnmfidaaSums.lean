/- The calls of Sum: a list of ints, wherever it lies; nothing in memory changes. -/
import Derived.Test.YtocffcjfnmfidaaNums
import Derived.LoopTactic
namespace Go.Proofs.Ytocffcjfnmfidaa.Sums
open Go.RowKit Go.Proofs.Ytocffcjfnmfidaa.Plain Go.Proofs.Ytocffcjfnmfidaa.Nums

/-- A slice of ints that came in: nil, or a row of 'cap' cells. -/
def IsRow (k : IntKind) (w : World) (a : Option Addr) (len cap : Nat) (zs : List Int) : Prop :=
  (a = none ∧ len = 0 ∧ cap = 0 ∧ zs = []) ∨
  ∃ x, a = some x ∧ len ≤ cap ∧ cap ≤ maxLen ∧ zs.length = cap ∧ (∀ i, i < zs.length → w.cell? (x.add i) = some (.int k (zs.getD i 0))) ∧ ∀ n ∈ zs, (Lit.int k n).wf = true

theorem row_at {k : IntKind} {w : World} {x : Addr} {zs : List Int} (hcell : ∀ i, i < zs.length → w.cell? (x.add i) = some (.int k (zs.getD i 0))) (h : 0 < zs.length) :
    ∃ b off, x = ⟨b, off, none⟩ ∧ ∀ i, i < zs.length → w.cell? ⟨b, off + i, none⟩ = some (.int k (zs.getD i 0)) := by
  obtain ⟨b, off, spot⟩ := x
  have hc := hcell 0 h
  have hspot : spot = none := by simpa [Addr.add] using World.cell?_spot hc
  subst hspot
  exact ⟨b, off, rfl, fun i hi => by have := hcell i hi; simp only [Addr.add] at this; by_cases h0 : i = 0; (subst h0; simpa using this); simpa [h0] using this⟩
theorem wf_at {zs : List Int} (hwz : ∀ n ∈ zs, (Lit.int .i64 n).wf = true) (k : Nat) (hk : k < zs.length) : -9223372036854775808 ≤ zs.getD k 0 ∧ zs.getD k 0 ≤ 9223372036854775807 := by
  have : zs.getD k 0 = zs[k] := by simp [List.getD_eq_getElem?_getD, hk]
  rw [this]
  exact bounds_i64 (hwz _ (List.getElem_mem hk))

/-- Sum over the empty slice. -/
theorem sum_nil (a : Option Addr) (cap : Nat) (w : World) :
    Calls Try.prog 17 #[.slice a 0 cap] w fun e w' => e = .returned (.int .i64 0) ∧ w = w' := by
  go_enter Try.func17, Try.ntmps17
  go_wp2
  go_loop [3, 4, 10] (fun s c i => s = .int .i64 0 ∧ c = .int .i64 0 ∧ i = .int .i64 0) (fun _ _ _ => 0)
  case atStart => exact ⟨rfl, rfl, rfl⟩
  case round =>
    obtain ⟨rfl, rfl, rfl⟩ := hrel
    go_wp2
    go_ret
    exact ⟨rfl, rfl⟩

theorem sum_row (b off len cap : Nat) (zs : List Int) (w : World) (hl : len ≤ zs.length) (hm : len ≤ 9223372036854775807)
    (hcell : ∀ i, i < zs.length → w.cell? ⟨b, off + i, none⟩ = some (.int .i64 (zs.getD i 0))) (hwz : ∀ n ∈ zs, (Lit.int .i64 n).wf = true) :
    Calls Try.prog 17 #[.slice (some ⟨b, off, none⟩) len cap] w fun e w' => e = .returned (.int .i64 (cut64 (zs.take len).sum)) ∧ w = w' := by
  have HC := Lib.hid hcell
  have WZ := Lib.hid hwz
  clear hcell hwz
  go_enter Try.func17, Try.ntmps17
  go_wp2
  go_loop [3, 4, 10] (fun s c i => ∃ (k : Nat) (s0 c0 : Int), k ≤ len ∧ i = .int .i64 k ∧ s = .int .i64 s0 ∧ c = .int .i64 c0 ∧ SumInv zs k s0 c0) (fun _ _ i => len - (intOf i).toNat)
  case atStart => exact ⟨0, 0, 0, Nat.zero_le _, rfl, rfl, rfl, sumInv_start zs⟩
  case round =>
    obtain ⟨k, s, c, hk, rfl, rfl, rfl, hi⟩ := hrel
    have I := Lib.hid hi
    have hc1 : -(k : Int) ≤ c := hi.2.2.2.1
    have hc2 : c ≤ (k : Int) := hi.2.2.2.2
    clear hi
    by_cases hlt : k < len
    · obtain ⟨z, hz⟩ : ∃ z, zs.getD k 0 = z := ⟨_, rfl⟩
      have hcell := HC.out k (by omega)
      have bz := Lib.hid (wf_at WZ.out k (by omega))
      rw [hz] at hcell bz
      have HZ := Lib.hid hz
      clear hz
      by_cases hp : 0 < z
      · have hn : ¬ z < 0 := by omega
        by_cases h2 : wrap64 (s + z) < s
        · have J := Lib.hid (sumInv_up zs k s c z (by omega) HZ.out bz.out I.out hp h2)
          go_wp2
          go_round
          case rel => exact ⟨k + 1, _, _, by omega, by go_num, rfl, rfl, J.out⟩
          case measure => simp [intOf]; omega
        · have J := Lib.hid (sumInv_same zs k s c z (by omega) HZ.out bz.out I.out (by omega) (by omega))
          go_wp2
          go_round
          case rel => exact ⟨k + 1, _, _, by omega, by go_num, rfl, rfl, J.out⟩
          case measure => simp [intOf]; omega
      · by_cases hn : z < 0
        · by_cases h2 : s < wrap64 (s + z)
          · have J := Lib.hid (sumInv_down zs k s c z (by omega) HZ.out bz.out I.out hn h2)
            go_wp2
            go_round
            case rel => exact ⟨k + 1, _, _, by omega, by go_num, rfl, rfl, J.out⟩
            case measure => simp [intOf]; omega
          · have J := Lib.hid (sumInv_same zs k s c z (by omega) HZ.out bz.out I.out (by omega) (by omega))
            go_wp2
            go_round
            case rel => exact ⟨k + 1, _, _, by omega, by go_num, rfl, rfl, J.out⟩
            case measure => simp [intOf]; omega
        · have J := Lib.hid (sumInv_same zs k s c z (by omega) HZ.out bz.out I.out (by omega) (by omega))
          go_wp2
          go_round
          case rel => exact ⟨k + 1, _, _, by omega, by go_num, rfl, rfl, J.out⟩
          case measure => simp [intOf]; omega
    · obtain rfl : k = len := by omega
      rcases Int.lt_trichotomy c 0 with h0 | h0 | h0
      · have J := Lib.hid (sumInv_min zs k s c I.out h0)
        have h1 : ¬ 0 < c := by omega
        go_wp2
        go_ret
        exact ⟨ret1 J.out.symm, rfl⟩
      · subst h0
        have J := Lib.hid (sumInv_zero zs k s I.out)
        go_wp2
        go_ret
        exact ⟨ret1 J.out.symm, rfl⟩
      · have J := Lib.hid (sumInv_max zs k s c I.out h0)
        go_wp2
        go_ret
        exact ⟨ret1 J.out.symm, rfl⟩

/-- Sum, of a slice that came in. -/
theorem sum_any (a : Option Addr) (len cap : Nat) (zs : List Int) (w : World) (h : IsRow .i64 w a len cap zs) :
    Calls Try.prog 17 #[.slice a len cap] w fun e w' => e = .returned (.int .i64 (cut64 (zs.take len).sum)) ∧ w = w' := by
  rcases h with ⟨rfl, rfl, rfl, rfl⟩ | ⟨x, rfl, hl, hm, hz, hcell, hwz⟩
  · exact sum_nil _ _ w
  · by_cases h0 : len = 0
    · subst h0
      exact sum_nil _ _ w
    · obtain ⟨b, off, rfl, hc⟩ := row_at hcell (by omega)
      exact sum_row b off len cap zs w (by omega) (by unfold maxLen at hm; omega) hc hwz

/-- The statements' examples: they allocate the list of one sum. -/
theorem alive_any (w : World) :
    Calls Try.prog 13 #[] w fun e w' => e = .returned (.bool true) ∧ Below w.heap.size w w' := by
  have F := floor_any (-7) 2 w (by decide)
  rw [show flV (-7) 2 = -4 by decide, show flE (-7) 2 = 0 by decide] at F
  have C := ceil_any (-7) 2 w (by decide)
  rw [show clV (-7) 2 = -3 by decide, show flE (-7) 2 = 0 by decide] at C
  have R := root_any 99 w (by decide)
  rw [rootV_of 99 9 (by omega) ⟨by omega, by omega, by omega⟩] at R
  have L := clamp_any 5 1 3 w
  rw [show max 1 (min 5 3) = (3 : Int) by decide] at L
  have HF := Lib.hid F
  have HC := Lib.hid C
  have HR := Lib.hid R
  have HL := Lib.hid L
  clear F C R L
  go_enter Try.func13, Try.ntmps13
  go_wp2_with fail
  refine HF.out.mono ?_
  rintro e w' ⟨rfl, rfl⟩
  go_wp2_with fail
  refine HC.out.mono ?_
  rintro e w' ⟨rfl, rfl⟩
  go_wp2_with fail
  refine HR.out.mono ?_
  rintro e w' ⟨rfl, rfl⟩
  go_wp2_with fail
  refine HL.out.mono ?_
  rintro e w' ⟨rfl, rfl⟩
  go_wp2_with fail
  refine (sum_row w.heap.size 0 3 3 [9223372036854775807, 1, -2] _ (by simp) (by omega) (by
    intro i hi
    have h3 : i = 0 ∨ i = 1 ∨ i = 2 := by simp at hi; omega
    rw [World.cell?_alloc_at _ _ _ _ rfl]
    rcases h3 with rfl | rfl | rfl <;> rfl) (by decide)).mono ?_
  rintro e w' ⟨rfl, rfl⟩
  rw [show cut64 (List.take 3 [9223372036854775807, 1, -2]).sum = 9223372036854775806 by decide]
  go_wp2_with fail
  go_ret
  exact ⟨rfl, (Below.refl _ _).alloc (Nat.le_refl _) _⟩

end Go.Proofs.Ytocffcjfnmfidaa.Sums
