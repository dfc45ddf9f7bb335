/- The calls of the reference of layer 2, and of the statements' own helpers. -/
import Derived.Test.YtjlnlcnddhilhaaRsets
namespace Go.Proofs.Ytjlnlcnddhilhaa.Rsets
open Go.RowKit Go.Sort Go.Proofs.Ytjlnlcnddhilhaa.Sets Go.Proofs.Ytjlnlcnddhilhaa.Reads Go.Proofs.Ytjlnlcnddhilhaa.Idset

/-- What holds at the head of a loop that inserts: of the first k elements what is chosen lies in the set. -/
def CRel (p : Int → Bool) (L xs : List Int) (w : World) (vo vi : Value) (wr : World) : Prop :=
  ∃ k : Nat, k ≤ xs.length ∧ vi = .int .i64 k ∧ Reads wr.heap.size wr vo (sset (L ++ (xs.take k).filter p)) ∧ Below w.heap.size w wr

theorem crel_in {p : Int → Bool} {L xs : List Int} {w wr w1 : World} {v1 : Value} {k : Nat} {x : Int} (hx : xs.getD k 0 = x) (hlt : k < xs.length) (hp : p x = true) (hB : Below w.heap.size w wr)
    (h : Reads w1.heap.size w1 v1 (ins x (sset (L ++ (xs.take k).filter p))) ∧ Below wr.heap.size wr w1) : CRel p L xs w v1 (.int .i64 (k + 1 : Nat)) w1 :=
  ⟨k + 1, by omega, rfl, by rw [take_snoc hlt, List.filter_append, hx, ← List.append_assoc]; simp only [List.filter_cons, hp, List.filter_nil, if_true]; rw [sset_snoc]; exact h.1, hB.trans (h.2.mono hB.size)⟩
theorem crel_out {p : Int → Bool} {L xs : List Int} {w wr : World} {vo : Value} {k : Nat} {x : Int} (hx : xs.getD k 0 = x) (hlt : k < xs.length) (hp : p x = false) (hB : Below w.heap.size w wr)
    (h : Reads wr.heap.size wr vo (sset (L ++ (xs.take k).filter p))) : CRel p L xs w vo (.int .i64 (k + 1 : Nat)) wr :=
  ⟨k + 1, by omega, rfl, by rw [take_snoc hlt, List.filter_append, hx]; simp only [List.filter_cons, hp, List.filter_nil]; simpa using h, hB⟩
theorem crel_len (p : Int → Bool) (L xs : List Int) (k : Nat) : (sset (L ++ (xs.take k).filter p)).length ≤ L.length + xs.length := by
  have h1 := sset_len (L ++ (xs.take k).filter p)
  have h2 := List.length_filter_le p (xs.take k)
  have h3 : (xs.take k).length ≤ xs.length := by rw [List.length_take]; omega
  rw [List.length_append] at h1
  omega
def allB : Int → Bool := fun _ => true
theorem filter_all (xs : List Int) : xs.filter allB = xs := by simp [allB]

theorem rmake_any {v : Value} {xs : List Int} {w : World} (h : Reads w.heap.size w v xs) (hl : xs.length ≤ 1000000000000) :
    Calls Try.prog 12 #[v] w (SetOut (sset xs) w) := by
  have HW := Lib.hid h.wf
  obtain ⟨a, cap, rfl, hm⟩ := rshape h
  have HC := Lib.hid (rcell h).2
  clear h
  go_enter Try.func12, Try.ntmps12
  go_wp2
  go_loopw [3, 4] (fun vo vi wr => CRel allB [] xs w vo vi wr) (fun _ vi _ => xs.length - (intOf vi).toNat)
  case atStart => exact ⟨0, Nat.zero_le _, rfl, reads_nil _ _, Below.refl _ _⟩
  case round =>
    obtain ⟨k, hk, rfl, hr, hbel⟩ := hrel
    have HR := Lib.hid hr
    have HB := Lib.hid hbel
    clear hr hbel
    by_cases hlt : k < xs.length
    · obtain ⟨b, off, rfl, hb, hc0⟩ := HC.out k hlt
      obtain ⟨x, hx⟩ : ∃ x, xs.getD k 0 = x := ⟨_, rfl⟩
      have hc : wr.cell? ⟨b, off + k, none⟩ = some (.int .i64 x) := by rw [← hx]; exact (HB.out.cell hb).trans hc0
      have HX := Lib.hid hx
      have I := Lib.hid (rinsert_any (n := x) HR.out (asc_sset _) (by rw [← hx]; exact HW.out _ (getD_mem hlt)) (by have := crel_len allB [] xs k; simp only [List.length_nil] at this; omega))
      clear hx hc0 hb
      go_wp2_with fail
      refine I.out.mono ?_
      rintro e w1 ⟨v1, rfl, R⟩
      have HN := Lib.hid R
      clear R
      go_wp2_with fail
      go_roundw
      case rel => exact crel_in HX.out hlt rfl HB.out HN.out
      case measure => simp [intOf]; omega
    · obtain rfl : k = xs.length := by omega
      rw [take_all, filter_all, List.nil_append] at HR
      go_wp2
      go_ret
      exact ⟨_, rfl, HR.out, HB.out⟩

theorem runion_any {va vb : Value} {A xs : List Int} {w : World} (hA : Reads w.heap.size w va A) (h : Reads w.heap.size w vb xs) (lA : A.length ≤ 1000000000) (hl : xs.length ≤ 1000000000) :
    Calls Try.prog 18 #[va, vb] w (SetOut (unionV A xs) w) := by
  have HW := Lib.hid h.wf
  obtain ⟨a, cap, rfl, hm⟩ := rshape h
  have HC := Lib.hid (rcell h).2
  have M := Lib.hid (rmake_any hA (by omega))
  clear h hA
  go_enter Try.func18, Try.ntmps18
  go_wp2_with fail
  refine M.out.mono ?_
  rintro e w1 ⟨v1, rfl, R1⟩
  have H1 := Lib.hid R1
  clear R1
  go_wp2_with fail
  go_loopw [5, 6] (fun vo vi wr => CRel allB A xs w vo vi wr) (fun _ vi _ => xs.length - (intOf vi).toNat)
  case atStart => exact ⟨0, Nat.zero_le _, rfl, by simpa using H1.out.1, H1.out.2⟩
  case round =>
    obtain ⟨k, hk, rfl, hr, hbel⟩ := hrel
    have HR := Lib.hid hr
    have HB := Lib.hid hbel
    clear hr hbel
    by_cases hlt : k < xs.length
    · obtain ⟨b, off, rfl, hb, hc0⟩ := HC.out k hlt
      obtain ⟨x, hx⟩ : ∃ x, xs.getD k 0 = x := ⟨_, rfl⟩
      have hc : wr.cell? ⟨b, off + k, none⟩ = some (.int .i64 x) := by rw [← hx]; exact (HB.out.cell hb).trans hc0
      have HX := Lib.hid hx
      have I := Lib.hid (rinsert_any (n := x) HR.out (asc_sset _) (by rw [← hx]; exact HW.out _ (getD_mem hlt)) (by have := crel_len allB A xs k; omega))
      clear hx hc0 hb
      go_wp2_with fail
      refine I.out.mono ?_
      rintro e w2 ⟨v2, rfl, R⟩
      have HN := Lib.hid R
      clear R
      go_wp2_with fail
      go_roundw
      case rel => exact crel_in HX.out hlt rfl HB.out HN.out
      case measure => simp [intOf]; omega
    · obtain rfl : k = xs.length := by omega
      rw [take_all, filter_all] at HR
      go_wp2
      go_ret
      exact ⟨_, rfl, HR.out, HB.out⟩

def selB (ys : List Int) (want : Bool) : Int → Bool := fun n => hasB n ys == want

theorem rchosen_any {va vb : Value} {xs ys : List Int} {want : Bool} {w : World} (h : Reads w.heap.size w va xs) (hy : Reads w.heap.size w vb ys) (hl : xs.length ≤ 1000000000) :
    Calls Try.prog 30 #[va, vb, .bool want] w (SetOut (sset (xs.filter (selB ys want))) w) := by
  have HW := Lib.hid h.wf
  obtain ⟨a, cap, rfl, hm⟩ := rshape h
  have HC := Lib.hid (rcell h).2
  have HY := Lib.hid hy
  clear h hy
  go_enter Try.func30, Try.ntmps30
  go_wp2
  go_loopw [7, 8] (fun vo vi wr => CRel (selB ys want) [] xs w vo vi wr) (fun _ vi _ => xs.length - (intOf vi).toNat)
  case atStart => exact ⟨0, Nat.zero_le _, rfl, reads_nil _ _, Below.refl _ _⟩
  case round =>
    obtain ⟨k, hk, rfl, hr, hbel⟩ := hrel
    have HR := Lib.hid hr
    have HB := Lib.hid hbel
    clear hr hbel
    by_cases hlt : k < xs.length
    · obtain ⟨b, off, rfl, hb, hc0⟩ := HC.out k hlt
      obtain ⟨x, hx⟩ : ∃ x, xs.getD k 0 = x := ⟨_, rfl⟩
      have hc : wr.cell? ⟨b, off + k, none⟩ = some (.int .i64 x) := by rw [← hx]; exact (HB.out.cell hb).trans hc0
      have HX := Lib.hid hx
      have I := Lib.hid (rinsert_any (n := x) HR.out (asc_sset _) (by rw [← hx]; exact HW.out _ (getD_mem hlt)) (by have := crel_len (selB ys want) [] xs k; simp only [List.length_nil] at this; omega))
      have H := Lib.hid (rhas_any (n := x) ((HY.out.below (Nat.le_refl _) HB.out).mono HB.out.size))
      clear hx hc0 hb
      obtain ⟨q, hq⟩ : ∃ q, hasB x ys = q := ⟨_, rfl⟩
      rw [hq] at H
      by_cases hs : q = want
      · have HP := Lib.hid (show selB ys want x = true by unfold selB; rw [hq]; simpa using hs)
        subst hs
        clear hq
        have hqq : (q == q) = true := by simp
        go_wp2_with fail
        refine H.out.mono ?_
        rintro e w1 ⟨rfl, rfl⟩
        go_wp2_with fail
        refine I.out.mono ?_
        rintro e w1 ⟨v1, rfl, R⟩
        have HN := Lib.hid R
        clear R
        go_wp2_with fail
        go_roundw
        case rel => exact crel_in HX.out hlt HP.out HB.out HN.out
        case measure => simp [intOf]; omega
      · have HP := Lib.hid (show selB ys want x = false by unfold selB; rw [hq]; simpa using hs)
        have hqq : (q == want) = false := by simpa using hs
        clear hq hs
        go_wp2_with fail
        refine H.out.mono ?_
        rintro e w1 ⟨rfl, rfl⟩
        go_wp2_with fail
        go_roundw
        case rel => exact crel_out HX.out hlt HP.out HB.out HR.out
        case measure => simp [intOf]; omega
    · obtain rfl : k = xs.length := by omega
      rw [take_all, List.nil_append] at HR
      go_wp2
      go_ret
      exact ⟨_, rfl, HR.out, HB.out⟩

theorem rcommon_any {va vb : Value} {xs ys : List Int} {w : World} (h : Reads w.heap.size w va xs) (hy : Reads w.heap.size w vb ys) (hl : xs.length ≤ 1000000000) :
    Calls Try.prog 20 #[va, vb] w (SetOut (commonV xs ys) w) := by
  have C := rchosen_any (want := true) h hy hl
  rw [show xs.filter (selB ys true) = xs.filter (fun n => decide (n ∈ ys)) from List.filter_congr (fun n _ => by simp [selB, hasB])] at C
  have HC := Lib.hid C
  clear C h hy
  go_enter Try.func20, Try.ntmps20
  go_wp2_with fail
  refine HC.out.mono ?_
  rintro e w1 ⟨v1, rfl, R⟩
  have HR := Lib.hid R
  clear R
  go_wp2_with fail
  go_ret
  exact ⟨_, rfl, HR.out⟩
theorem rminus_any {va vb : Value} {xs ys : List Int} {w : World} (h : Reads w.heap.size w va xs) (hy : Reads w.heap.size w vb ys) (hl : xs.length ≤ 1000000000) :
    Calls Try.prog 22 #[va, vb] w (SetOut (minusV xs ys) w) := by
  have C := rchosen_any (want := false) h hy hl
  rw [show xs.filter (selB ys false) = xs.filter (fun n => !decide (n ∈ ys)) from List.filter_congr (fun n _ => by simp [selB, hasB])] at C
  have HC := Lib.hid C
  clear C h hy
  go_enter Try.func22, Try.ntmps22
  go_wp2_with fail
  refine HC.out.mono ?_
  rintro e w1 ⟨v1, rfl, R⟩
  have HR := Lib.hid R
  clear R
  go_wp2_with fail
  go_ret
  exact ⟨_, rfl, HR.out⟩

theorem rwithin_any {va vb : Value} {A B : List Int} {w : World} (hA : Reads w.heap.size w va A) (hB : Reads w.heap.size w vb B) (lA : A.length ≤ 1000000000) :
    Calls Try.prog 16 #[va, vb] w fun e w' => e = .returned (.bool (withinB A B)) ∧ Below w.heap.size w w' := by
  have S := Lib.hid (rminus_any hA hB lA)
  clear hA hB
  obtain ⟨q, hq⟩ : ∃ q, withinB A B = q := ⟨_, rfl⟩
  rw [hq]
  unfold withinB at hq
  have HQ := Lib.hid hq
  clear hq
  go_enter Try.func16, Try.ntmps16
  go_wp2_with fail
  refine S.out.mono ?_
  rintro e w1 ⟨v1, rfl, R⟩
  obtain ⟨a, cap, rfl, _⟩ := R.1
  have HB := Lib.hid R.2
  clear R
  cases q with
  | true =>
    have h0 : (minusV A B).length = 0 := by simpa using HQ.out
    rw [h0]
    clear h0
    go_wp2_with fail
    go_ret
    exact ⟨rfl, HB.out⟩
  | false =>
    have h0 : (((minusV A B).length : Int) == 0) = false := by
      have := HQ.out
      simp at this
      simp [this]
    go_wp2_with fail
    go_ret
    exact ⟨rfl, HB.out⟩

/-- The reference's Same. -/
def sameB (xs ys : List Int) : Bool := decide (xs = ys)
theorem same_step {xs ys : List Int} {k : Nat} (hx : k < xs.length) (hy : k < ys.length) (h : xs.take k = ys.take k) (he : xs.getD k 0 = ys.getD k 0) : xs.take (k + 1) = ys.take (k + 1) := by
  rw [take_snoc hx, take_snoc hy, h, he]
theorem same_no {xs ys : List Int} {k : Nat} (he : xs.getD k 0 ≠ ys.getD k 0) : sameB xs ys = false := by
  unfold sameB
  exact decide_eq_false (fun e => he (by rw [e]))

theorem rsame_any {va vb : Value} {xs ys : List Int} {w : World} (h : Reads w.heap.size w va xs) (hy : Reads w.heap.size w vb ys) :
    Calls Try.prog 11 #[va, vb] w fun e w' => e = .returned (.bool (sameB xs ys)) ∧ Below w.heap.size w w' := by
  obtain ⟨a, cap, rfl, hm⟩ := rshape h
  obtain ⟨a2, cap2, rfl, hm2⟩ := rshape hy
  have HC := Lib.hid (rcell h).2
  have HC2 := Lib.hid (rcell hy).2
  clear h hy
  by_cases hlen : xs.length = ys.length
  · have HLEN := Lib.hid hlen
    rw [hlen] at hm ⊢
    clear hlen
    have hq : ((ys.length : Int) != (ys.length : Int)) = false := by simp
    go_enter Try.func11, Try.ntmps11
    go_wp2
    go_loopw [5] (fun vi wr => ∃ k : Nat, k ≤ ys.length ∧ vi = .int .i64 k ∧ xs.take k = ys.take k ∧ Below w.heap.size w wr) (fun vi _ => ys.length - (intOf vi).toNat)
    case atStart => exact ⟨0, Nat.zero_le _, rfl, rfl, Below.refl _ _⟩
    case round =>
      obtain ⟨k, hk, rfl, ht, hbel⟩ := hrel
      have HT := Lib.hid ht
      have HB := Lib.hid hbel
      clear ht hbel
      by_cases hlt : k < ys.length
      · obtain ⟨b, off, rfl, hb, hc0⟩ := HC.out k (by rw [HLEN.out]; exact hlt)
        obtain ⟨b2, off2, rfl, hb2, hc2⟩ := HC2.out k hlt
        obtain ⟨x, hx⟩ : ∃ x, xs.getD k 0 = x := ⟨_, rfl⟩
        obtain ⟨y, hy⟩ : ∃ y, ys.getD k 0 = y := ⟨_, rfl⟩
        have g1 : wr.cell? ⟨b, off + k, none⟩ = some (.int .i64 x) := by rw [← hx]; exact (HB.out.cell hb).trans hc0
        have g2 : wr.cell? ⟨b2, off2 + k, none⟩ = some (.int .i64 y) := by rw [← hy]; exact (HB.out.cell hb2).trans hc2
        have HX := Lib.hid hx
        have HY := Lib.hid hy
        clear hx hy hc0 hc2 hb hb2
        by_cases hxy : x = y
        · subst hxy
          have HS := Lib.hid (same_step (by rw [HLEN.out]; exact hlt) hlt HT.out (HX.out.trans HY.out.symm))
          have hqq : (x != x) = false := by simp
          go_wp2
          go_quiet (fail)
          go_wp2
          go_roundw
          case rel => exact ⟨k + 1, by omega, by go_num, HS.out, below_drewN HB.out _⟩
          case measure => simp [intOf]; omega
        · have HS := Lib.hid (same_no (k := k) (xs := xs) (ys := ys) (by rw [HX.out, HY.out]; exact hxy))
          have hqq : (x != y) = true := by simpa using hxy
          clear hxy
          go_wp2
          go_quiet (fail)
          go_wp2
          go_ret
          exact ⟨by rw [HS.out]; rfl, below_drewN HB.out _⟩
      · obtain rfl : k = ys.length := by omega
        have HS := Lib.hid (show sameB xs ys = true by
          have := HT.out
          rw [take_all, ← HLEN.out, take_all] at this
          simpa [sameB] using this)
        go_wp2
        go_ret
        exact ⟨by rw [HS.out]; rfl, HB.out⟩
  · have HS := Lib.hid (show sameB xs ys = false by unfold sameB; exact decide_eq_false (fun e => hlen (by rw [e])))
    have hq : ((xs.length : Int) != (ys.length : Int)) = true := by simp; omega
    clear hlen
    go_enter Try.func11, Try.ntmps11
    go_wp2
    go_ret
    exact ⟨by rw [HS.out]; rfl, Below.refl _ _⟩

/-- The statements' 'ascending', of a set. -/
theorem ascending_any {v : Value} {xs : List Int} {w : World} (h : Reads w.heap.size w v xs) (ha : Asc xs) :
    Calls Try.prog 23 #[v] w fun e w' => e = .returned (.bool true) ∧ Below w.heap.size w w' := by
  obtain ⟨a, cap, rfl, hm⟩ := rshape h
  have HC := Lib.hid (rcell h).2
  have HA := Lib.hid ha
  clear h ha
  go_enter Try.func23, Try.ntmps23
  go_wp2
  go_loopw [3] (fun vi wr => ∃ k : Nat, vi = .int .i64 ((k + 1 : Nat) : Int) ∧ (k = 0 ∨ k < xs.length) ∧ Below w.heap.size w wr) (fun vi _ => xs.length - (intOf vi).toNat)
  case atStart => exact ⟨0, rfl, .inl rfl, Below.refl _ _⟩
  case round =>
    obtain ⟨k, rfl, hk, hbel⟩ := hrel
    have HB := Lib.hid hbel
    clear hbel
    by_cases hlt : k + 1 < xs.length
    · obtain ⟨b, off, rfl, hb, hc0⟩ := HC.out k (by omega)
      obtain ⟨b', off', he, _, hc2⟩ := HC.out (k + 1) hlt
      cases he
      obtain ⟨x, hx⟩ : ∃ x, xs.getD k 0 = x := ⟨_, rfl⟩
      obtain ⟨y, hy⟩ : ∃ y, xs.getD (k + 1) 0 = y := ⟨_, rfl⟩
      have g1 : wr.cell? ⟨b, off + k, none⟩ = some (.int .i64 x) := by rw [← hx]; exact (HB.out.cell hb).trans hc0
      have g2 : wr.cell? ⟨b, off + (k + 1), none⟩ = some (.int .i64 y) := by rw [← hy]; exact (HB.out.cell hb).trans hc2
      have hxy : x < y := by
        have h1 : k < xs.length := by omega
        have e1 : xs.getD k 0 = xs[k] := by simp [List.getD_eq_getElem?_getD, h1]
        have e2 : xs.getD (k + 1) 0 = xs[k + 1] := by simp [List.getD_eq_getElem?_getD, hlt]
        rw [← hx, ← hy, e1, e2]
        exact List.pairwise_iff_getElem.1 HA.out k (k + 1) h1 hlt (by omega)
      clear hx hy hc0 hc2 hb hk
      go_wp2
      go_quiet (fail)
      go_wp2
      go_roundw
      case rel => exact ⟨k + 1, by go_num, .inr hlt, below_drewN HB.out _⟩
      case measure => simp [intOf]; omega
    · go_wp2
      go_ret
      exact ⟨rfl, HB.out⟩

end Go.Proofs.Ytjlnlcnddhilhaa.Rsets
