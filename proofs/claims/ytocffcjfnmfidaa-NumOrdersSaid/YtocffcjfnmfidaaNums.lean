/- The calls of num: what each of its functions on numbers returns, at every int; nothing in memory changes. -/
import Derived.Test.YtocffcjfnmfidaaChecked
import Derived.Test.YtocffcjfnmfidaaPlain
import Derived.WalkKit
import Derived.ProofKit
import Derived.OpenShut
import Derived.Outline
import Derived.Below
import Derived.Lib.Hide
import Derived.Deep.LoopGhost
import Derived.WalkLawsBesides
namespace Go.Proofs.Ytocffcjfnmfidaa.Nums
open Go.RowKit Go.Proofs.Ytocffcjfnmfidaa.Plain

theorem ret2 {a b c d : Int} (h : a = c) (h' : b = d) : Ending.returned (.tuple #[.int .i64 a, .int .i64 b]) = .returned (.tuple #[.int .i64 c, .int .i64 d]) := by rw [h, h']
theorem ret1 {a b : Int} (h : a = b) : Ending.returned (.int .i64 a) = .returned (.int .i64 b) := by rw [h]

theorem retB {a b : Bool} (h : a = b) : Ending.returned (.bool a) = .returned (.bool b) := by rw [h]

/-- Floor, whatever the numbers. -/
theorem floor_any (a b : Int) (w : World) (wa : (Lit.int .i64 a).wf = true) :
    Calls Try.prog 9 #[.int .i64 a, .int .i64 b] w fun e w' => e = .returned (.tuple #[.int .i64 (flV a b), .int .i64 (flE a b)]) ∧ w = w' := by
  have ba := bounds_i64 wa
  clear wa
  by_cases hb : b = 0
  · subst hb
    go_enter Try.func9, Try.ntmps9
    go_wp2
    go_ret2
    exact ⟨ret2 (by simp [flV]) (by simp [flE]), rfl⟩
  · have hb0 : (b == 0) = false := by simpa using hb
    by_cases ho : a = -9223372036854775808 ∧ b = -1
    · obtain ⟨rfl, rfl⟩ := ho
      go_enter Try.func9, Try.ntmps9
      go_wp2
      go_ret2
      exact ⟨ret2 (by simp [flV]) (by simp [flE]), rfl⟩
    · have H : Hid (wrap64 (a.tdiv b) = a.tdiv b) := Lib.hid (IntWalk.wrap64_in _ (tdiv_bd a b ba (by omega)))
      have F := Lib.hid (flQ_bd a b ba hb ho)
      have V : Hid (flV a b = flQ a b) := Lib.hid (by unfold flV; rw [if_neg hb, if_neg ho])
      have E : Hid (flE a b = 0) := Lib.hid (by unfold flE; rw [if_neg hb, if_neg ho])
      have HO := Lib.hid ho
      clear ho
      have hm : (a == -9223372036854775808) = false ∨ ((a == -9223372036854775808) = true ∧ (b == -1) = false) := by
        by_cases h : a = -9223372036854775808
        · exact .inr ⟨by simpa using h, by simpa using fun h' => HO.out ⟨h, h'⟩⟩
        · exact .inl (by simpa using h)
      have BA := Lib.hid ba
      clear ba
      rcases hm with hm | ⟨hm, hm1⟩
      all_goals
        go_enter Try.func9, Try.ntmps9
        go_wp2
        all_goals
          have hT := H.out
          have hF := F.out
          have hE := E.out
          have hV := V.out
          go_ret2
          rw [hV, hE]
          refine ⟨ret2 ?_ rfl, rfl⟩
          simp only [hT]
          clear hT hE hV
          unfold flQ at hF ⊢
          first
            | (rw [if_neg (fun h => h.1 ‹a.tmod b = 0›)])
            | (rename_i h1 h2
               simp at h1 h2
               first
                 | (rw [if_pos h2] at hF ⊢
                    exact IntWalk.wrap64_in _ hF)
                 | (rw [if_neg (by intro h; rcases h2 with h2 | h2; exact h1 h2; exact h.2 h2)]))

/-- Ceil, whatever the numbers. -/
theorem ceil_any (a b : Int) (w : World) (wa : (Lit.int .i64 a).wf = true) :
    Calls Try.prog 11 #[.int .i64 a, .int .i64 b] w fun e w' => e = .returned (.tuple #[.int .i64 (clV a b), .int .i64 (flE a b)]) ∧ w = w' := by
  have FL := floor_any a b w wa
  have BA := Lib.hid (bounds_i64 wa)
  have HF := Lib.hid FL
  clear FL wa
  by_cases hb : b = 0
  · subst hb
    have he : flE a 0 = 1 := by unfold flE; rw [if_pos rfl]
    have hc : clV a 0 = flV a 0 := by unfold clV; rw [if_neg (by rw [he]; omega)]
    rw [he] at HF
    rw [he, hc]
    clear he hc
    go_enter Try.func11, Try.ntmps11
    go_wp2_with fail
    refine HF.out.mono ?_
    rintro e w' ⟨rfl, rfl⟩
    go_wp2
    go_ret2
    exact ⟨rfl, rfl⟩
  · go_enter Try.func11, Try.ntmps11
    go_wp2_with fail
    refine HF.out.mono ?_
    rintro e w' ⟨rfl, rfl⟩
    go_wp2
    all_goals go_ret2
    · rename_i h1 h2
      have h2' : a.tmod b ≠ 0 := by simpa using h2
      have ho : ¬ (a = -9223372036854775808 ∧ b = -1) := by
        intro h; unfold flE at h1; rw [if_neg hb, if_pos h] at h1; omega
      have hv : flV a b = flQ a b := by unfold flV; rw [if_neg hb, if_neg ho]
      have ht := flQ_top a b BA.out hb h2'
      have hl := (flQ_bd a b BA.out hb ho).1
      exact ⟨ret2 (by unfold clV; rw [if_pos ⟨h1, h2'⟩]; exact IntWalk.wrap64_in _ (by rw [hv]; omega)) (by rw [h1]), rfl⟩
    · rename_i h1 h2
      have h2' : a.tmod b = 0 := by simpa using h2
      exact ⟨ret2 (by unfold clV; rw [if_neg (fun h => h.2 h2')]) (by rw [h1]), rfl⟩
    · rename_i h1
      exact ⟨ret2 (by unfold clV; rw [if_neg (fun h => h1 h.1)]) rfl, rfl⟩

/-- squareWithin, at a number that is not 0. -/
theorem within_any (r n : Int) (w : World) (hr : 1 ≤ r) (wn : (Lit.int .i64 n).wf = true) :
    Calls Try.prog 19 #[.int .i64 r, .int .i64 n] w fun e w' => e = .returned (.bool (decide (r * r ≤ n))) ∧ w = w' := by
  have h0 : (r == 0) = false := by simp; omega
  have H : Hid (decide (r ≤ wrap64 (n.tdiv r)) = decide (r * r ≤ n)) := Lib.hid (by
    rw [IntWalk.wrap64_in _ (tdiv_bd n r (bounds_i64 wn) (by omega))]
    exact decide_eq_decide.2 (root_div r n hr))
  go_enter Try.func19, Try.ntmps19
  go_wp2
  go_ret
  exact ⟨retB H.out, rfl⟩

/-- Root, whatever the number. -/
theorem root_any (n : Int) (w : World) (wn : (Lit.int .i64 n).wf = true) :
    Calls Try.prog 14 #[.int .i64 n] w fun e w' => e = .returned (.int .i64 (rootV n)) ∧ w = w' := by
  have hn := (bounds_i64 wn).2
  have HS := Lib.hid (rootInv_start n hn)
  have WN := Lib.hid wn
  clear wn
  go_enter Try.func14, Try.ntmps14
  go_wp2_with fail
  go_step3
  go_wp2_with fail
  go_step3
  go_wp2_with fail
  go_loopg [3, 4] n.toNat (fun g s3 s4 wx => ∃ root place : Int, s3 = .int .i64 root ∧ s4 = .int .i64 place ∧ g = (n - root).toNat ∧ 0 ≤ root ∧ Pow place ∧ RootInv n root place ∧ w = wx)
  case atStart => exact ⟨0, 2147483648, rfl, rfl, by omega, by omega, pow_start, HS.out, rfl⟩
  case round =>
    obtain ⟨g, rfl⟩ : ∃ g, g = gk := ⟨_, rfl⟩
    obtain ⟨root, place, rfl, rfl, hg, hr, hp, hi, rfl⟩ := hrel
    have G := Lib.hid hg
    have P := Lib.hid hp
    have I := Lib.hid hi
    have hr2 := rootInv_small n root place hr hn hi
    have bp := pow_bd place hp
    clear hg hp hi
    go_wp2_with fail
    go_loopg [4] place.toNat (fun g2 s4 wx => ∃ p : Int, s4 = .int .i64 p ∧ g2 = p.toNat ∧ Pow p ∧ RootInv n root p ∧ w = wx)
    case atStart => exact ⟨place, rfl, rfl, P.out, I.out, rfl⟩
    case round =>
      obtain ⟨g2, rfl⟩ : ∃ g2, g2 = gk := ⟨_, rfl⟩
      obtain ⟨p, rfl, hg2, hp2, hi2, rfl⟩ := hrel
      have G2 := Lib.hid hg2
      have P2 := Lib.hid hp2
      have I2 := Lib.hid hi2
      have bp2 := pow_bd p hp2
      clear hg2 hp2 hi2
      have HC := Lib.hid (within_any (root + p) n w (by omega) WN.out)
      by_cases hy : (root + p) * (root + p) ≤ n
      · have hd : decide ((root + p) * (root + p) ≤ n) = true := by simpa using hy
        rw [hd] at HC
        clear hd
        have Y := Lib.hid hy
        clear hy
        go_wp2_with fail
        refine HC.out.mono ?_
        rintro e w' ⟨rfl, rfl⟩
        go_wp2_with fail
        have hlt := rootInv_lt n root p hr (by omega) Y.out
        go_roundg (n - (root + p)).toNat
        case measure => rw [G.out]; omega
        case rel => exact ⟨root + p, p, rfl, rfl, rfl, by omega, P2.out, rootInv_up n root p hr (by omega) I2.out Y.out, rfl⟩
      · have hd : decide ((root + p) * (root + p) ≤ n) = false := by simpa using hy
        rw [hd] at HC
        clear hd
        have Y := Lib.hid hy
        clear hy
        by_cases h1 : p = 1
        · subst h1
          go_wp2_with fail
          refine HC.out.mono ?_
          rintro e w' ⟨rfl, rfl⟩
          go_wp2_with fail
          try rw [Exit.noGoto_ret]
          go_ret
          exact ⟨ret1 (rootInv_end n root hr I2.out (by have := Y.out; omega)), rfl⟩
        · have PH := Lib.hid (pow_half p P2.out h1)
          go_wp2_with fail
          refine HC.out.mono ?_
          rintro e w' ⟨rfl, rfl⟩
          go_wp2_with fail
          go_roundg (p / 2).toNat
          case measure => rw [G2.out]; omega
          case rel => exact ⟨p / 2, by go_num, rfl, PH.out.1, rootInv_half n root p _ I2.out PH.out.2 (by have := Y.out; omega), rfl⟩

/-- Clamp, whatever the numbers. -/
theorem clamp_any (n lo hi : Int) (w : World) :
    Calls Try.prog 15 #[.int .i64 n, .int .i64 lo, .int .i64 hi] w fun e w' => e = .returned (.int .i64 (max lo (min n hi))) ∧ w = w' := by
  go_enter Try.func15, Try.ntmps15
  go_wp2
  all_goals
    go_ret
    exact ⟨ret1 (by omega), rfl⟩
end Go.Proofs.Ytocffcjfnmfidaa.Nums
