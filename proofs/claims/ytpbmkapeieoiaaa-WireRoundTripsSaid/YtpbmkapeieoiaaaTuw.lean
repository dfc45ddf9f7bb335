/- The walks of TakeUint, of wire and of the reference. -/
import Derived.Test.YtpbmkapeieoiaaaTuint
namespace Go.Proofs.Ytpbmkapeieoiaaa.Takes
open Go.RowKit Go.Lib Go.Proofs.Ytpbmkapeieoiaaa.Var Go.Proofs.Ytpbmkapeieoiaaa.Uints

/-- A round's three ways. -/
def Bad (i c : Nat) : Prop := (0 < i ∧ c = 0) ∨ (i = 9 ∧ ¬ c = 1)

set_option maxRecDepth 100000 in
set_option maxHeartbeats 400000 in
theorem takeUint_in (s : ByteArray) (a : Nat) (w : World) (h : s.size ≤ 140737488351232) (ha : a ≤ s.size) :
    Calls Try.prog 22 #[.string s, .int .i64 (a : Int)] w fun e w' => e = .returned (tuV s a) ∧ Below w.heap.size w w' := by
  obtain ⟨L, hL⟩ : ∃ L, s.data.toList.drop a = L := ⟨_, rfl⟩
  have hLl : L.length = s.size - a := by rw [← hL, List.length_drop, size_list]
  obtain ⟨p, hpm⟩ : ∃ p, p = min 10 L.length := ⟨_, rfl⟩
  have HC : Hid (∀ w, Calls Try.prog 40 #[.string s, .int .i64 (a : Int), .int .i64 (if (a : Int) + 10 < (s.size : Int) then (a : Int) + 10 else (s.size : Int))] w (CutOut (L.take p) w)) := by
    intro w
    have := cut_any s a (a + p) w (by omega) (by omega)
    rw [part, hL, show a + p - a = p by omega] at this
    split
    · rwa [show ((a + p : Nat) : Int) = (a : Int) + 10 by omega] at this
    · rwa [show ((a + p : Nat) : Int) = (s.size : Int) by omega] at this
  have HO := Lib.hid (outside_any s a w)
  have hob : outB s a = false := by simp [outB]; omega
  rw [hob] at HO
  have HPL := Lib.hid (show (L.take p).length = p by simp; omega)
  have HP := Lib.hid hpm
  have HE := Lib.hid (fun e => tuV_err (s := s) (t := a) (e := e) ha)
  have HK := Lib.hid (fun n k => tuV_ok (s := s) (t := a) (n := n) (k := k) ha)
  rw [hL] at HE HK
  have hp10 : p ≤ 10 := by omega
  have HLp := Lib.hid (show p ≤ L.length by omega)
  clear hpm hL hLl hob
  rcases Int.lt_or_le ((a : Int) + 10) (s.size : Int) with hc | hc
  all_goals
    first | rw [if_pos hc] at HC | rw [if_neg (by omega)] at HC
    go_enter Try.func22, Try.ntmps22
    go_wp2_with fail
    refine HO.out.mono ?_
    rintro e w' ⟨rfl, rfl⟩
    go_wp2_with fail
    refine (HC.out _).mono ?_
    rintro e w1 ⟨g, rfl, hb, hcell⟩
    have HCELL := Lib.hid hcell
    have HB := Lib.hid hb
    clear hcell hb
    rw [HPL.out]
    go_wp2_with fail
    go_loop [7, 22] (fun vn vi => ∃ i n : Nat, i ≤ p ∧ vi = .int .i64 i ∧ vn = .int .u64 n ∧ TRel L i n) (fun _ vi => p - (intOf vi).toNat)
    case atStart => exact ⟨0, 0, by omega, rfl, rfl, trel_start L⟩
    case round =>
      obtain ⟨i, n, hi, rfl, rfl, ht⟩ := hrel
      have HT := Lib.hid ht
      have hi9 := ht.1
      clear ht
      by_cases hlt : i < p
      · have hiL : i < L.length := by have := HLp.out; omega
        obtain ⟨c, hc⟩ : ∃ c, L[i].toNat = c := ⟨_, rfl⟩
        have hc256 : c < 256 := by rw [← hc]; exact L[i].toNat_lt
        have hcl := HCELL.out i (by rw [HPL.out]; exact hlt)
        rw [List.getElem_take, hc] at hcl
        have HCC := Lib.hid hc
        clear hc
        by_cases hbad : Bad i c
        · have HF := Lib.hid (HE.out 4 (by decide) (trel_bad HT.out hiL HCC.out hbad))
          by_cases h0 : 0 < i ∧ c = 0
          · obtain ⟨h0, rfl⟩ := h0
            clear hbad
            go_wp2_with fail
            go_ret3
            exact ⟨by rw [HF.out]; rfl, HB.out⟩
          · have h9 : i = 9 := by unfold Bad at hbad; omega
            have h1 : ((i : Int) == 9) = true := by simp; omega
            have h2 : ((c : Int) != 1) = true := by unfold Bad at hbad; simp; omega
            have h3 : ((c : Int) == 0) = false := by simp; omega
            have h4 : 0 < i := by omega
            clear hbad h9 h0
            go_wp2_with fail
            go_ret3
            exact ⟨by rw [HF.out]; rfl, HB.out⟩
        · have HNB := Lib.hid hbad
          have hc1 : i = 9 → c % 128 ≤ 1 := by unfold Bad at hbad; omega
          have hshl := shl_eq c i hi9 hc1
          have hor := or_eq n (c % 128) i hi9 HT.out.2.1 (shl_lt hi9 hc1)
          obtain ⟨q, hq⟩ : ∃ q, c % 128 * 128 ^ i = q := ⟨_, rfl⟩
          rw [hq] at hshl hor
          have HQ := Lib.hid hq
          clear hq hc1
          by_cases hl : c < 128
          · have HF := Lib.hid (HK.out _ _ (trel_last HT.out hiL HCC.out hbad hl))
            rw [HQ.out, show ((a + (i + 1) : Nat) : Int) = (a : Int) + (i : Int) + 1 by omega] at HF
            by_cases h0 : i = 0
            · have h1 : ((i : Int) == 9) = false := by simp; omega
              have h4 : ¬ 0 < i := by omega
              clear hbad h0
              go_wp2_with fail
              go_ret3
              exact ⟨by rw [HF.out]; rfl, HB.out⟩
            · have h3 : ((c : Int) == 0) = false := by unfold Bad at hbad; simp; omega
              have h4 : 0 < i := by omega
              by_cases h9 : i = 9
              · have h1 : ((i : Int) == 9) = true := by simp; omega
                have h2 : ((c : Int) != 1) = false := by unfold Bad at hbad; simp; omega
                clear hbad h0 h9
                go_wp2_with fail
                go_ret3
                exact ⟨by rw [HF.out]; rfl, HB.out⟩
              · have h1 : ((i : Int) == 9) = false := by simp; omega
                clear hbad h0 h9
                go_wp2_with fail
                go_ret3
                exact ⟨by rw [HF.out]; rfl, HB.out⟩
          · have HF := Lib.hid (trel_more HT.out hiL HCC.out hbad (by omega))
            rw [HQ.out] at HF
            have h1 : ((i : Int) == 9) = false := by unfold Bad at hbad; simp; omega
            by_cases h0 : i = 0
            · have h4 : ¬ 0 < i := by omega
              clear hbad h0
              go_wp2_with fail
              go_round
              case rel => exact ⟨i + 1, _, by omega, by go_num, rfl, HF.out⟩
              case measure => simp [intOf]; omega
            · have h3 : ((c : Int) == 0) = false := by unfold Bad at hbad; simp; omega
              have h4 : 0 < i := by omega
              clear hbad h0
              go_wp2_with fail
              go_round
              case rel => exact ⟨i + 1, _, by omega, by go_num, rfl, HF.out⟩
              case measure => simp [intOf]; omega
      · obtain rfl : i = p := by omega
        have HF := Lib.hid (HE.out 5 (by decide) (trel_end HT.out HP.out rfl))
        go_wp2_with fail
        go_ret3
        exact ⟨by rw [HF.out]; rfl, HB.out⟩

set_option maxRecDepth 100000 in
theorem takeUint_any (s : ByteArray) (t : Int) (w : World) (h : s.size ≤ 140737488351232) :
    Calls Try.prog 22 #[.string s, .int .i64 t] w fun e w' => e = .returned (tuV s t) ∧ Below w.heap.size w w' := by
  by_cases ht : t < 0 ∨ (s.size : Int) < t
  · have HO := Lib.hid (outside_any s t w)
    rw [show outB s t = true by simpa [outB] using ht] at HO
    have HT := Lib.hid (tuV_out ht)
    clear ht
    go_enter Try.func22, Try.ntmps22
    go_wp2_with fail
    refine HO.out.mono ?_
    rintro e w' ⟨rfl, rfl⟩
    go_wp2_with fail
    go_ret3
    exact ⟨by rw [HT.out]; rfl, Below.refl _ _⟩
  · obtain ⟨a, rfl⟩ := Int.eq_ofNat_of_zero_le (show 0 ≤ t by omega)
    exact takeUint_in s a w h (by omega)

end Go.Proofs.Ytpbmkapeieoiaaa.Takes
