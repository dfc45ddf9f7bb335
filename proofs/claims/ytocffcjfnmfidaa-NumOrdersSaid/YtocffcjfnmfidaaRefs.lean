/- The calls of the reference of layer 1: its quotients, its Clamp and its Sum return what num's do. -/
import Derived.Test.YtocffcjfnmfidaaSums
namespace Go.Proofs.Ytocffcjfnmfidaa.Refs
open Go.RowKit Go.Proofs.Ytocffcjfnmfidaa.Plain Go.Proofs.Ytocffcjfnmfidaa.Nums Go.Proofs.Ytocffcjfnmfidaa.Sums

/-- The reference's Floor, whatever the numbers. -/
theorem rfloor_any (a b : Int) (w : World) (wa : (Lit.int .i64 a).wf = true) :
    Calls Try.prog 10 #[.int .i64 a, .int .i64 b] w fun e w' => e = .returned (.tuple #[.int .i64 (flV a b), .int .i64 (flE a b)]) ∧ w = w' := by
  have ba := bounds_i64 wa
  clear wa
  by_cases hb : b = 0
  · subst hb
    go_enter Try.func10, Try.ntmps10
    go_wp2
    go_ret2
    exact ⟨ret2 (by simp [flV]) (by simp [flE]), rfl⟩
  · have hb0 : (b == 0) = false := by simpa using hb
    by_cases ho : a = -9223372036854775808 ∧ b = -1
    · obtain ⟨rfl, rfl⟩ := ho
      go_enter Try.func10, Try.ntmps10
      go_wp2
      go_ret2
      exact ⟨ret2 (by simp [flV]) (by simp [flE]), rfl⟩
    · have H : Hid (wrap64 (a.tdiv b) = a.tdiv b) := Lib.hid (IntWalk.wrap64_in _ (tdiv_bd a b ba (by omega)))
      have F := Lib.hid (flQ_bd a b ba hb ho)
      have V : Hid (flV a b = flQ a b) := Lib.hid (by unfold flV; rw [if_neg hb, if_neg ho])
      have E : Hid (flE a b = 0) := Lib.hid (by unfold flE; rw [if_neg hb, if_neg ho])
      have HO := Lib.hid ho
      clear ho
      have hm : (a == -9223372036854775808) = false ∨ ((a == -9223372036854775808) = true ∧ (b == -1) = false) := by
        by_cases h : a = -9223372036854775808
        · exact .inr ⟨by simpa using h, by simpa using fun h' => HO.out ⟨h, h'⟩⟩
        · exact .inl (by simpa using h)
      have BA := Lib.hid ba
      clear ba
      rcases hm with hm | ⟨hm, hm1⟩
      all_goals
        go_enter Try.func10, Try.ntmps10
        go_wp2
        all_goals
          have hT := H.out
          have hF := F.out
          have hE := E.out
          have hV := V.out
          go_ret2
          rw [hV, hE]
          refine ⟨ret2 ?_ rfl, rfl⟩
          simp only [hT]
          clear hT hE hV
          unfold flQ at hF ⊢
          first
            | (rw [if_neg (fun h => h.1 ‹a.tmod b = 0›)])
            | (rename_i h1 h2
               simp at h1 h2
               first
                 | (rw [if_pos h2] at hF ⊢
                    exact IntWalk.wrap64_in _ hF)
                 | (rw [if_neg (by intro h; rcases h2 with h2 | h2; exact h1 h2; exact h.2 h2)]))

/-- The reference's Ceil, whatever the numbers. -/
theorem rceil_any (a b : Int) (w : World) (wa : (Lit.int .i64 a).wf = true) :
    Calls Try.prog 12 #[.int .i64 a, .int .i64 b] w fun e w' => e = .returned (.tuple #[.int .i64 (clV a b), .int .i64 (flE a b)]) ∧ w = w' := by
  have FL := rfloor_any a b w wa
  have BA := Lib.hid (bounds_i64 wa)
  have HF := Lib.hid FL
  clear FL wa
  by_cases hb : b = 0
  · subst hb
    have he : flE a 0 = 1 := by unfold flE; rw [if_pos rfl]
    have hc : clV a 0 = flV a 0 := by unfold clV; rw [if_neg (by rw [he]; omega)]
    rw [he] at HF
    rw [he, hc]
    clear he hc
    go_enter Try.func12, Try.ntmps12
    go_wp2_with fail
    refine HF.out.mono ?_
    rintro e w' ⟨rfl, rfl⟩
    go_wp2
    go_ret2
    exact ⟨rfl, rfl⟩
  · go_enter Try.func12, Try.ntmps12
    go_wp2_with fail
    refine HF.out.mono ?_
    rintro e w' ⟨rfl, rfl⟩
    go_wp2
    all_goals go_ret2
    · rename_i h1 h2
      have h2' : a.tmod b ≠ 0 := by simpa using h2
      have ho : ¬ (a = -9223372036854775808 ∧ b = -1) := by
        intro h; unfold flE at h1; rw [if_neg hb, if_pos h] at h1; omega
      have hv : flV a b = flQ a b := by unfold flV; rw [if_neg hb, if_neg ho]
      have ht := flQ_top a b BA.out hb h2'
      have hl := (flQ_bd a b BA.out hb ho).1
      exact ⟨ret2 (by unfold clV; rw [if_pos ⟨h1, h2'⟩]; exact IntWalk.wrap64_in _ (by rw [hv]; omega)) (by rw [h1]), rfl⟩
    · rename_i h1 h2
      have h2' : a.tmod b = 0 := by simpa using h2
      exact ⟨ret2 (by unfold clV; rw [if_neg (fun h => h.2 h2')]) (by rw [h1]), rfl⟩
    · rename_i h1
      exact ⟨ret2 (by unfold clV; rw [if_neg (fun h => h1 h.1)]) rfl, rfl⟩

/-- The reference's Clamp, whatever the numbers. -/
theorem rclamp_any (n lo hi : Int) (w : World) :
    Calls Try.prog 16 #[.int .i64 n, .int .i64 lo, .int .i64 hi] w fun e w' => e = .returned (.int .i64 (max lo (min n hi))) ∧ w = w' := by
  go_enter Try.func16, Try.ntmps16
  go_wp2
  all_goals
    go_ret
    exact ⟨ret1 (by omega), rfl⟩

theorem rsum_nil (a : Option Addr) (cap : Nat) (w : World) :
    Calls Try.prog 18 #[.slice a 0 cap] w fun e w' => e = .returned (.int .i64 0) ∧ w = w' := by
  have hb0 := mask32 0
  go_enter Try.func18, Try.ntmps18
  go_wp2
  go_loop [3, 4, 9] (fun s c i => s = .int .i64 0 ∧ c = .int .i64 0 ∧ i = .int .i64 0) (fun _ _ _ => 0)
  case atStart => exact ⟨rfl, rfl, rfl⟩
  case round =>
    obtain ⟨rfl, rfl, rfl⟩ := hrel
    go_wp2
    go_ret
    exact ⟨rfl, rfl⟩

theorem rsum_row (b off len cap : Nat) (zs : List Int) (w : World) (hl : len ≤ zs.length) (hm : len ≤ 300)
    (hcell : ∀ i, i < zs.length → w.cell? ⟨b, off + i, none⟩ = some (.int .i64 (zs.getD i 0))) (hwz : ∀ n ∈ zs, (Lit.int .i64 n).wf = true) :
    Calls Try.prog 18 #[.slice (some ⟨b, off, none⟩) len cap] w fun e w' => e = .returned (.int .i64 (cut64 (zs.take len).sum)) ∧ w = w' := by
  have HC := Lib.hid hcell
  have WZ := Lib.hid hwz
  clear hcell hwz
  go_enter Try.func18, Try.ntmps18
  go_wp2
  go_loop [3, 4, 9] (fun s c i => ∃ (k : Nat) (h0 l0 : Int), k ≤ len ∧ i = .int .i64 k ∧ s = .int .i64 h0 ∧ c = .int .i64 l0 ∧ HalfInv zs k h0 l0) (fun _ _ i => len - (intOf i).toNat)
  case atStart => exact ⟨0, 0, 0, Nat.zero_le _, rfl, rfl, rfl, halfInv_start zs⟩
  case round =>
    obtain ⟨k, s, c, hk, rfl, rfl, rfl, hi⟩ := hrel
    have I := Lib.hid hi
    have h1 := hi.2.1
    have h2 := hi.2.2.1
    have h3 := hi.2.2.2.1
    have h4 := hi.2.2.2.2
    clear hi
    by_cases hlt : k < len
    · obtain ⟨z, hz⟩ : ∃ z, zs.getD k 0 = z := ⟨_, rfl⟩
      have hcell := HC.out k (by omega)
      have bz := wf_at WZ.out k (by omega)
      rw [hz] at hcell bz
      have J := Lib.hid (halfInv_step zs k s c z (by omega) hz bz I.out)
      clear hz
      have hb := mask32 z
      go_wp2
      go_round
      case rel => exact ⟨k + 1, _, _, by omega, by go_num, rfl, rfl, J.out⟩
      case measure => simp [intOf]; omega
    · obtain rfl : k = len := by omega
      have E := Lib.hid (halfEnd_is zs k s c I.out)
      have hb := mask32 c
      by_cases c1 : 2147483647 < s + c / 4294967296
      · go_wp2
        go_ret
        exact ⟨ret1 (by rw [← E.out]; unfold halfEnd; rw [if_pos c1]), rfl⟩
      · by_cases c2 : s + c / 4294967296 < -2147483648
        · go_wp2
          go_ret
          exact ⟨ret1 (by rw [← E.out]; unfold halfEnd; rw [if_neg (by omega), if_pos c2]), rfl⟩
        · go_wp2
          go_ret
          exact ⟨ret1 (by rw [← E.out]; unfold halfEnd; rw [if_neg (by omega), if_neg (by omega)]), rfl⟩

/-- The reference's Sum, of a slice of at most 300 numbers that came in. -/
theorem rsum_any (a : Option Addr) (len cap : Nat) (zs : List Int) (w : World) (h : IsRow .i64 w a len cap zs) (h3 : len ≤ 300) :
    Calls Try.prog 18 #[.slice a len cap] w fun e w' => e = .returned (.int .i64 (cut64 (zs.take len).sum)) ∧ w = w' := by
  rcases h with ⟨rfl, rfl, rfl, rfl⟩ | ⟨x, rfl, hl, hm, hz, hcell, hwz⟩
  · exact rsum_nil _ _ w
  · by_cases h0 : len = 0
    · subst h0
      exact rsum_nil _ _ w
    · obtain ⟨b, off, rfl, hc⟩ := row_at hcell (by omega)
      exact rsum_row b off len cap zs w (by omega) h3 hc hwz

end Go.Proofs.Ytocffcjfnmfidaa.Refs
