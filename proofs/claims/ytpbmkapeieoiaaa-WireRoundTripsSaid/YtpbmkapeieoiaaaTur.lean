/- The walk of the reference's TakeUint. -/
import Derived.Test.YtpbmkapeieoiaaaTuw
namespace Go.Proofs.Ytpbmkapeieoiaaa.Takes
open Go.RowKit Go.Lib Go.Proofs.Ytpbmkapeieoiaaa.Var Go.Proofs.Ytpbmkapeieoiaaa.Uints

theorem mul_eq (c i pw : Nat) (hp : 128 ^ i = pw) (hi : i ≤ 9) (hc : i = 9 → c % 128 ≤ 1) : IntKind.u64.wrap ((c : Int) % 128 * (pw : Int)) = ((c % 128 * 128 ^ i : Nat) : Int) := by
  have h := shl_eq c i hi hc
  rw [hp]
  rw [show (2 : Int) ^ (7 * i) = ((128 ^ i : Nat) : Int) by rw [Int.natCast_pow, show ((128 : Nat) : Int) = 2 ^ 7 by rfl, ← Int.pow_mul], hp] at h
  exact h
theorem sum_le {c i n q : Nat} (hn : n < 128 ^ i) (hi : i ≤ 9) (hc : i = 9 → c % 128 ≤ 1) (hq : c % 128 * 128 ^ i = q) : n + q ≤ 18446744073709551615 := by
  rw [← hq]
  by_cases h9 : i = 9
  · subst h9
    have : (128 : Nat) ^ 9 = 9223372036854775808 := by decide
    have h2 : c % 128 * 128 ^ 9 ≤ 1 * 128 ^ 9 := Nat.mul_le_mul_right _ (hc rfl)
    rw [this] at h2 ⊢
    rw [this] at hn
    omega
  · have := pow_le_56 (show i ≤ 8 by omega)
    have h2 : c % 128 * 128 ^ i ≤ 127 * 128 ^ i := Nat.mul_le_mul_right _ (by omega)
    omega

set_option maxRecDepth 100000 in
set_option maxHeartbeats 1000000 in
theorem rtakeUint_in (s : ByteArray) (a : Nat) (w : World) (h : s.size ≤ 140737488351232) (ha : a ≤ s.size) :
    Calls Try.prog 23 #[.string s, .int .i64 (a : Int)] w fun e w' => e = .returned (tuV s a) ∧ w = w' := by
  obtain ⟨L, hL⟩ : ∃ L, s.data.toList.drop a = L := ⟨_, rfl⟩
  have hLl : L.length = s.size - a := by rw [← hL, List.length_drop, size_list]
  have HE := Lib.hid (fun e => tuV_err (s := s) (t := a) (e := e) ha)
  have HK := Lib.hid (fun n k => tuV_ok (s := s) (t := a) (n := n) (k := k) ha)
  rw [hL] at HE HK
  have HG : Hid (∀ i (hi : i < L.length) (h2 : a + i < s.size), s[a + i] = L[i]) := by
    intro i hi h2
    subst hL
    simp only [List.getElem_drop]
    rfl
  have HLL := Lib.hid hLl
  have hob : decide ((s.size : Int) < (a : Int)) = false := by simp; omega
  clear hL hLl
  go_enter Try.func23, Try.ntmps23
  go_wp2_with fail
  go_loop [7, 8, 9] (fun vn vp vi => ∃ i n pw : Nat, vi = .int .i64 i ∧ vn = .int .u64 n ∧ vp = .int .u64 pw ∧ 128 ^ i = pw ∧ TRel L i n) (fun _ _ vi => 10 - (intOf vi).toNat)
  case atStart => exact ⟨0, 0, 1, rfl, rfl, rfl, by decide, trel_start L⟩
  case round =>
    obtain ⟨i, n, pw, rfl, rfl, rfl, hp, ht⟩ := hrel
    have HT := Lib.hid ht
    have HP := Lib.hid hp
    have hi9 := ht.1
    clear ht hp
    by_cases hlt : i < L.length
    · have hsz : a + i < s.size := by have := HLL.out; omega
      obtain ⟨c, hc⟩ : ∃ c, L[i].toNat = c := ⟨_, rfl⟩
      have hc256 : c < 256 := by rw [← hc]; exact L[i].toNat_lt
      have hcl : s[a + i].toNat = c := by rw [HG.out i hlt hsz, hc]
      have HCC := Lib.hid hc
      clear hc
      by_cases hbad : Bad i c
      · have HF := Lib.hid (HE.out 4 (by decide) (trel_bad HT.out hlt HCC.out hbad))
        by_cases h0 : 0 < i ∧ c = 0
        · obtain ⟨h0, rfl⟩ := h0
          clear hbad
          go_wp2_with fail
          go_ret3
          exact ⟨by rw [HF.out]; rfl, rfl⟩
        · have h9 : i = 9 := by unfold Bad at hbad; omega
          have h1 : ((i : Int) == 9) = true := by simp; omega
          have h2 : ((c : Int) != 1) = true := by unfold Bad at hbad; simp; omega
          have h3 : ((c : Int) == 0) = false := by simp; omega
          have h4 : 0 < i := by omega
          clear hbad h9 h0
          go_wp2_with fail
          go_ret3
          exact ⟨by rw [HF.out]; rfl, rfl⟩
      · have HNB := Lib.hid hbad
        have hc1 : i = 9 → c % 128 ≤ 1 := by unfold Bad at hbad; omega
        have hmul := mul_eq c i pw HP.out hi9 hc1
        obtain ⟨q, hq⟩ : ∃ q, c % 128 * 128 ^ i = q := ⟨_, rfl⟩
        have hsum := sum_le HT.out.2.1 hi9 hc1 hq
        rw [hq] at hmul
        have HQ := Lib.hid hq
        clear hq hc1
        by_cases hl : c < 128
        · have HF := Lib.hid (HK.out _ _ (trel_last HT.out hlt HCC.out hbad hl))
          rw [HQ.out, show ((a + (i + 1) : Nat) : Int) = (a : Int) + (i : Int) + 1 by omega, show ((n + q : Nat) : Int) = (n : Int) + (q : Int) by omega] at HF
          by_cases h0 : i = 0
          · have h1 : ((i : Int) == 9) = false := by simp; omega
            have h4 : ¬ 0 < i := by omega
            clear hbad h0
            go_wp2_with fail
            go_ret3
            exact ⟨by rw [HF.out]; rfl, rfl⟩
          · have h3 : ((c : Int) == 0) = false := by unfold Bad at hbad; simp; omega
            have h4 : 0 < i := by omega
            by_cases h9 : i = 9
            · have h1 : ((i : Int) == 9) = true := by simp; omega
              have h2 : ((c : Int) != 1) = false := by unfold Bad at hbad; simp; omega
              clear hbad h0 h9
              go_wp2_with fail
              go_ret3
              exact ⟨by rw [HF.out]; rfl, rfl⟩
            · have h1 : ((i : Int) == 9) = false := by simp; omega
              clear hbad h0 h9
              go_wp2_with fail
              go_ret3
              exact ⟨by rw [HF.out]; rfl, rfl⟩
        · have HF := Lib.hid (trel_more HT.out hlt HCC.out hbad (by omega))
          rw [HQ.out] at HF
          have h1 : ((i : Int) == 9) = false := by unfold Bad at hbad; simp; omega
          have hpw : pw ≤ 72057594037927936 := by rw [← HP.out]; exact pow_le_56 (by unfold Bad at hbad; omega)
          have HPS := Lib.hid (show 128 ^ (i + 1) = pw * 128 by rw [Nat.pow_succ, HP.out])
          by_cases h0 : i = 0
          · have h4 : ¬ 0 < i := by omega
            clear hbad h0
            go_wp2_with fail
            go_round
            case rel => exact ⟨i + 1, n + q, pw * 128, by go_num, by go_num, by go_num, HPS.out, HF.out⟩
            case measure => simp [intOf]; omega
          · have h3 : ((c : Int) == 0) = false := by unfold Bad at hbad; simp; omega
            have h4 : 0 < i := by omega
            clear hbad h0
            go_wp2_with fail
            go_round
            case rel => exact ⟨i + 1, n + q, pw * 128, by go_num, by go_num, by go_num, HPS.out, HF.out⟩
            case measure => simp [intOf]; omega
    · have hge : s.size ≤ a + i := by have := HLL.out; omega
      have HF := Lib.hid (HE.out 5 (by decide) (by rw [HT.out.2.2, List.drop_of_length_le (by omega), scan_nil]))
      go_wp2_with fail
      go_ret3
      exact ⟨by rw [HF.out]; rfl, rfl⟩

set_option maxRecDepth 100000 in
theorem rtakeUint_any (s : ByteArray) (t : Int) (w : World) (h : s.size ≤ 140737488351232) :
    Calls Try.prog 23 #[.string s, .int .i64 t] w fun e w' => e = .returned (tuV s t) ∧ w = w' := by
  by_cases ht : t < 0 ∨ (s.size : Int) < t
  · have HT := Lib.hid (tuV_out ht)
    by_cases h0 : t < 0
    · clear ht
      go_enter Try.func23, Try.ntmps23
      go_wp2_with fail
      go_ret3
      exact ⟨by rw [HT.out]; rfl, rfl⟩
    · have h1 : (s.size : Int) < t := by omega
      clear ht
      go_enter Try.func23, Try.ntmps23
      go_wp2_with fail
      go_ret3
      exact ⟨by rw [HT.out]; rfl, rfl⟩
  · obtain ⟨a, rfl⟩ := Int.eq_ofNat_of_zero_le (show 0 ≤ t by omega)
    exact rtakeUint_in s a w h (by omega)

end Go.Proofs.Ytpbmkapeieoiaaa.Takes
