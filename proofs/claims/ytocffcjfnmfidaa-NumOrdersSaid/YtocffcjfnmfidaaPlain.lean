/- Plain integers for the statements on num: quotients rounded down and up, integer roots, sums that are cut to the range of an int. No walk. -/
import Derived.IntWalk
import Derived.WalkArith
import Derived.OpenShut
import Derived.Laws.BitsLemmas
namespace Go.Proofs.Ytocffcjfnmfidaa.Plain
open Go.RowKit

theorem tdiv_bd (a b : Int) (ha : -9223372036854775808 ≤ a ∧ a ≤ 9223372036854775807) (h : a ≠ -9223372036854775808 ∨ b ≠ -1) :
    -9223372036854775808 ≤ a.tdiv b ∧ a.tdiv b ≤ 9223372036854775807 := by
  by_cases hb : b = 0
  · subst hb; simp
  · have h1 : (a.tdiv b).natAbs = a.natAbs / b.natAbs := Int.natAbs_tdiv a b
    by_cases hb1 : b.natAbs = 1
    · have : b = 1 ∨ b = -1 := by omega
      rcases this with rfl | rfl
      · simpa using ha
      · rw [Int.tdiv_neg, Int.tdiv_one]; omega
    · have h2 : a.natAbs / b.natAbs ≤ a.natAbs / 2 := Nat.div_le_div_left (by omega) (by omega)
      omega

/-- The rest of a division that rounds towards 0. -/
theorem tmod_eq (a b : Int) : a.tmod b = a - b * a.tdiv b := by have := Int.mul_tdiv_add_tmod a b; omega

/-- The quotient, rounded down, out of the one that is rounded towards 0. -/
def flQ (a b : Int) : Int := if a.tmod b ≠ 0 ∧ ¬ (a < 0 ↔ b < 0) then a.tdiv b - 1 else a.tdiv b
/-- Floor's number and Floor's error. -/
def flV (a b : Int) : Int := if b = 0 then 0 else if a = -9223372036854775808 ∧ b = -1 then 0 else flQ a b
def flE (a b : Int) : Int := if b = 0 then 1 else if a = -9223372036854775808 ∧ b = -1 then 17 else 0
/-- Ceil's number; its error is Floor's. -/
def clV (a b : Int) : Int := if flE a b = 0 ∧ a.tmod b ≠ 0 then flV a b + 1 else flV a b

theorem mul_tdiv_sign (a b : Int) (hb : b ≠ 0) : 0 ≤ a * b → 0 ≤ a.tdiv b := by
  intro h
  rcases Int.lt_trichotomy a 0 with ha | ha | ha
  · have : b < 0 := by
      rcases Int.lt_or_lt_of_ne hb with h' | h'
      · exact h'
      · have := Int.mul_neg_of_neg_of_pos ha h'; omega
    rw [show a = -(-a) by omega, show b = -(-b) by omega, Int.neg_tdiv_neg]
    exact Int.tdiv_nonneg (by omega) (by omega)
  · subst ha; simp
  · have : 0 < b := by
      rcases Int.lt_or_lt_of_ne hb with h' | h'
      · have := Int.mul_neg_of_pos_of_neg ha h'; omega
      · exact h'
    exact Int.tdiv_nonneg (by omega) (by omega)

/-- The rest behind flQ lies between 0 and the divisor. -/
theorem flQ_rest (a b : Int) (hb : b ≠ 0) : (0 < b → 0 ≤ a - b * flQ a b ∧ a - b * flQ a b < b) ∧ (b < 0 → a - b * flQ a b ≤ 0 ∧ b < a - b * flQ a b) := by
  have hm := Int.mul_tdiv_add_tmod a b
  have hn : (a.tmod b).natAbs < b.natAbs := by rw [Int.natAbs_tmod]; exact Nat.mod_lt _ (by omega)
  have hs : 0 ≤ a → 0 ≤ a.tmod b := fun h => Int.tmod_nonneg b h
  have hs' : a ≤ 0 → a.tmod b ≤ 0 := fun h => by
    have h2 := Int.tmod_nonneg (a := -a) b (by omega)
    rw [Int.neg_tmod] at h2; omega
  unfold flQ
  by_cases hc : a.tmod b ≠ 0 ∧ ¬ (a < 0 ↔ b < 0)
  · rw [if_pos hc, Int.mul_sub]
    constructor <;> intro h <;> constructor <;> omega
  · rw [if_neg hc]
    by_cases hz : a.tmod b = 0
    · constructor <;> intro h <;> constructor <;> omega
    · have hi : a < 0 ↔ b < 0 := by
        by_cases hi : a < 0 ↔ b < 0
        · exact hi
        · exact absurd ⟨hz, hi⟩ hc
      constructor <;> intro h <;> constructor <;> omega

theorem flQ_bd (a b : Int) (ha : -9223372036854775808 ≤ a ∧ a ≤ 9223372036854775807) (hb : b ≠ 0) (h : ¬ (a = -9223372036854775808 ∧ b = -1)) :
    -9223372036854775808 ≤ flQ a b ∧ flQ a b ≤ 9223372036854775807 := by
  have h0 := tdiv_bd a b ha (by omega)
  have hm := Int.mul_tdiv_add_tmod a b
  unfold flQ
  split
  · rename_i hc
    have : a.tdiv b ≠ -9223372036854775808 := by
      intro he
      have h1 : (a.tdiv b).natAbs = a.natAbs / b.natAbs := Int.natAbs_tdiv a b
      by_cases hb1 : b.natAbs = 1
      · have : b = 1 ∨ b = -1 := by omega
        rcases this with rfl | rfl
        · simp at hc
        · simp at hc
      · have h2 : a.natAbs / b.natAbs ≤ a.natAbs / 2 := Nat.div_le_div_left (by omega) (by omega)
        omega
    omega
  · exact h0
theorem flV_bd (a b : Int) (ha : -9223372036854775808 ≤ a ∧ a ≤ 9223372036854775807) :
    -9223372036854775808 ≤ flV a b ∧ flV a b ≤ 9223372036854775807 := by
  unfold flV
  split
  · omega
  · split
    · omega
    · exact flQ_bd a b ha (by assumption) (by assumption)
/-- Where there is a rest, Floor's number is not the greatest int. -/
theorem flQ_top (a b : Int) (ha : -9223372036854775808 ≤ a ∧ a ≤ 9223372036854775807) (hb : b ≠ 0) (hr : a.tmod b ≠ 0) : flQ a b < 9223372036854775807 := by
  have hm := Int.mul_tdiv_add_tmod a b
  have h1 : (a.tdiv b).natAbs = a.natAbs / b.natAbs := Int.natAbs_tdiv a b
  have hb1 : b.natAbs ≠ 1 := by
    intro hb1
    have : b = 1 ∨ b = -1 := by omega
    rcases this with rfl | rfl <;> simp at hr
  have h2 : a.natAbs / b.natAbs ≤ a.natAbs / 2 := Nat.div_le_div_left (by omega) (by omega)
  unfold flQ
  split <;> omega

/-- There is no rest behind flQ exactly if there is none behind the quotient that is rounded towards 0. -/
theorem rest_zero (a b : Int) : a - b * flQ a b = 0 ↔ a.tmod b = 0 := by
  have hm := Int.mul_tdiv_add_tmod a b
  by_cases hb : b = 0
  · subst hb; simp [flQ]
  have hn : (a.tmod b).natAbs < b.natAbs := by rw [Int.natAbs_tmod]; exact Nat.mod_lt _ (by omega)
  unfold flQ
  split
  · rename_i hc
    rw [Int.mul_sub]
    have := hc.1
    omega
  · omega

theorem root_div (r n : Int) (hr : 1 ≤ r) : (r ≤ n.tdiv r) ↔ r * r ≤ n := by
  by_cases hn : 0 ≤ n
  · rw [Int.tdiv_eq_ediv_of_nonneg hn]; exact Int.le_ediv_iff_mul_le (by omega)
  · have h1 : n.tdiv r ≤ 0 := by
      rw [show n = -(-n) by omega, Int.neg_tdiv]
      have := Int.tdiv_nonneg (a := -n) (b := r) (by omega) (by omega); omega
    have h2 : 0 < r * r := Int.mul_pos (by omega) (by omega)
    omega

/-- The greatest number whose square is not greater. -/
def IsRoot (n r : Int) : Prop := 0 ≤ r ∧ r * r ≤ n ∧ n < (r + 1) * (r + 1)
theorem sq_lt_of (x y : Int) (hx : 0 ≤ x) (hy : 0 ≤ y) (h : x * x < y * y) : x < y := by
  by_cases hc : x < y
  · exact hc
  · have := Int.mul_le_mul (show y ≤ x by omega) (show y ≤ x by omega) hy hx
    omega
theorem sq_le_of (x y : Int) (hx : 0 ≤ x) (h : x ≤ y) : x * x ≤ y * y := Int.mul_le_mul h h hx (by omega)
theorem isRoot_one (n r s : Int) (hr : IsRoot n r) (hs : IsRoot n s) : r = s := by
  obtain ⟨a1, a2, a3⟩ := hr
  obtain ⟨b1, b2, b3⟩ := hs
  have := sq_lt_of r (s + 1) a1 (by omega) (by omega)
  have := sq_lt_of s (r + 1) b1 (by omega) (by omega)
  omega
/-- The integer root, counted up. -/
def rootUp : Nat → Nat
  | 0 => 0
  | n + 1 => if (rootUp n + 1) * (rootUp n + 1) ≤ n + 1 then rootUp n + 1 else rootUp n
/-- Root's number. -/
def rootV (n : Int) : Int := rootUp n.toNat
theorem rootUp_is (n : Nat) : rootUp n * rootUp n ≤ n ∧ n < (rootUp n + 1) * (rootUp n + 1) := by
  induction n with
  | zero => simp [rootUp]
  | succ n ih =>
    unfold rootUp
    split
    · rename_i h
      refine ⟨h, ?_⟩
      have : (rootUp n + 1 + 1) * (rootUp n + 1 + 1) = (rootUp n + 1) * (rootUp n + 1) + 2 * (rootUp n + 1) + 1 := by
        rw [Nat.add_mul, Nat.mul_add]; omega
      omega
    · omega
theorem rootV_is (n : Int) (hn : 0 ≤ n) : IsRoot n (rootV n) := by
  obtain ⟨h1, h2⟩ := rootUp_is n.toNat
  refine ⟨by unfold rootV; omega, ?_, ?_⟩
  · unfold rootV
    have : ((rootUp n.toNat * rootUp n.toNat : Nat) : Int) ≤ (n.toNat : Int) := by exact_mod_cast h1
    rw [Int.natCast_mul] at this; omega
  · unfold rootV
    have : (n.toNat : Int) < (((rootUp n.toNat + 1) * (rootUp n.toNat + 1) : Nat) : Int) := by exact_mod_cast h2
    rw [Int.natCast_mul] at this
    simp only [Int.natCast_add, Int.natCast_one] at this
    omega
theorem rootV_neg (n : Int) (hn : n < 0) : rootV n = 0 := by
  unfold rootV; rw [show n.toNat = 0 by omega]; rfl
theorem rootV_of (n r : Int) (hn : 0 ≤ n) (h : IsRoot n r) : rootV n = r := isRoot_one n _ _ (rootV_is n hn) h
theorem isRoot_le (n r : Int) (h : IsRoot n r) (hn : n ≤ 9223372036854775807) : r ≤ 3037000499 := by
  obtain ⟨a1, a2, a3⟩ := h
  have := sq_lt_of r 3037000500 a1 (by omega) (by omega)
  omega
theorem rootV_bd (n : Int) (hn : n ≤ 9223372036854775807) : 0 ≤ rootV n ∧ rootV n ≤ 3037000499 := by
  by_cases h : 0 ≤ n
  · exact ⟨(rootV_is n h).1, isRoot_le n _ (rootV_is n h) hn⟩
  · rw [rootV_neg n (by omega)]; omega

/-- What Root's loop keeps: 'place' is a power of two, the digits from it on are right. -/
def RootInv (n root place : Int) : Prop :=
  (0 ≤ n → root * root ≤ n) ∧ (n < 0 → root = 0) ∧ n < (root + 2 * place) * (root + 2 * place)
theorem rootInv_start (n : Int) (hn : n ≤ 9223372036854775807) : RootInv n 0 2147483648 :=
  ⟨fun h => by simpa using h, fun _ => rfl, by omega⟩
theorem rootInv_half (n root place p' : Int) (h : RootInv n root place) (hp : place = 2 * p') (hno : ¬ (root + place) * (root + place) ≤ n) : RootInv n root p' := by
  obtain ⟨h1, h2, h3⟩ := h
  exact ⟨h1, h2, by rw [← hp]; omega⟩
theorem rootInv_up (n root place : Int) (hr : 0 ≤ root) (hp : 1 ≤ place) (h : RootInv n root place) (hyes : (root + place) * (root + place) ≤ n) : RootInv n (root + place) place := by
  obtain ⟨h1, h2, h3⟩ := h
  refine ⟨fun _ => hyes, fun hn => ?_, ?_⟩
  · have : 0 ≤ (root + place) * (root + place) := Int.mul_nonneg (by omega) (by omega)
    omega
  · exact Int.lt_of_lt_of_le h3 (sq_le_of _ _ (by omega) (by omega))
theorem rootInv_end (n root : Int) (hr : 0 ≤ root) (h : RootInv n root 1) (hno : ¬ (root + 1) * (root + 1) ≤ n) : root = rootV n := by
  obtain ⟨h1, h2, h3⟩ := h
  by_cases hn : 0 ≤ n
  · exact (rootV_of n root hn ⟨hr, h1 hn, by omega⟩).symm
  · rw [rootV_neg n (by omega)]; exact h2 (by omega)
theorem rootInv_lt (n root place : Int) (hr : 0 ≤ root) (hp : 1 ≤ place) (hyes : (root + place) * (root + place) ≤ n) : root + place ≤ n := by
  have : root + place ≤ (root + place) * (root + place) := by
    have := Int.mul_le_mul (Int.le_refl (root + place)) (show (1 : Int) ≤ root + place by omega) (by omega) (by omega)
    omega
  omega
theorem rootInv_small (n root place : Int) (hr : 0 ≤ root) (hn : n ≤ 9223372036854775807) (h : RootInv n root place) : root ≤ 3037000499 := by
  obtain ⟨h1, h2, h3⟩ := h
  by_cases h0 : 0 ≤ n
  · have := sq_lt_of root 3037000500 hr (by omega) (by have := h1 h0; omega)
    omega
  · rw [h2 (by omega)]; omega

/-- The powers of two up to 2^31. -/
def Pow (p : Int) : Prop := ∃ k : Nat, k ≤ 31 ∧ p = ((2 ^ k : Nat) : Int)
theorem pow_start : Pow 2147483648 := ⟨31, Nat.le_refl _, by decide⟩
theorem pow_bd (p : Int) (h : Pow p) : 1 ≤ p ∧ p ≤ 2147483648 := by
  obtain ⟨k, hk, rfl⟩ := h
  have h1 : 2 ^ k ≤ 2 ^ 31 := Nat.pow_le_pow_right (by omega) hk
  have h2 : 0 < 2 ^ k := Nat.pow_pos (by omega)
  omega
theorem pow_half (p : Int) (h : Pow p) (h1 : p ≠ 1) : Pow (p / 2) ∧ p = 2 * (p / 2) := by
  obtain ⟨k, hk, rfl⟩ := h
  cases k with
  | zero => exact absurd rfl h1
  | succ k =>
    have e : 2 ^ (k + 1) = 2 * 2 ^ k := by rw [Nat.pow_succ]; omega
    rw [e]
    refine ⟨⟨k, by omega, ?_⟩, ?_⟩ <;> omega

/-- A number, cut to the range of an int. -/
def cut64 (s : Int) : Int := if s > 9223372036854775807 then 9223372036854775807 else if s < -9223372036854775808 then -9223372036854775808 else s
theorem cut64_bd (s : Int) : -9223372036854775808 ≤ cut64 s ∧ cut64 s ≤ 9223372036854775807 := by unfold cut64; split <;> (try split) <;> omega

/-- What Sum's loop keeps behind k numbers: the sum so far is s and c times 2^64. -/
def SumInv (zs : List Int) (k : Nat) (s c : Int) : Prop :=
  s + c * 18446744073709551616 = (zs.take k).sum ∧ -9223372036854775808 ≤ s ∧ s ≤ 9223372036854775807 ∧ -(k : Int) ≤ c ∧ c ≤ k
theorem sum_take_succ (zs : List Int) (k : Nat) (h : k < zs.length) : (zs.take (k + 1)).sum = (zs.take k).sum + zs.getD k 0 := by
  rw [List.take_succ_eq_append_getElem h, List.sum_append]
  simp [List.getD_eq_getElem?_getD, h]
theorem sumInv_start (zs : List Int) : SumInv zs 0 0 0 := ⟨by simp, by omega, by omega, by omega, by omega⟩
theorem sumInv_up (zs : List Int) (k : Nat) (s c z : Int) (h : k < zs.length) (hz : zs.getD k 0 = z) (bz : -9223372036854775808 ≤ z ∧ z ≤ 9223372036854775807)
    (hi : SumInv zs k s c) (h1 : 0 < z) (h2 : wrap64 (s + z) < s) : SumInv zs (k + 1) (wrap64 (s + z)) (c + 1) := by
  obtain ⟨a1, a2, a3, a4, a5⟩ := hi
  unfold wrap64 at h2
  refine ⟨?_, ?_, ?_, by omega, by omega⟩
  · rw [sum_take_succ zs k h, hz, ← a1]; unfold wrap64; omega
  · unfold wrap64; omega
  · unfold wrap64; omega
theorem sumInv_down (zs : List Int) (k : Nat) (s c z : Int) (h : k < zs.length) (hz : zs.getD k 0 = z) (bz : -9223372036854775808 ≤ z ∧ z ≤ 9223372036854775807)
    (hi : SumInv zs k s c) (h1 : z < 0) (h2 : s < wrap64 (s + z)) : SumInv zs (k + 1) (wrap64 (s + z)) (c - 1) := by
  obtain ⟨a1, a2, a3, a4, a5⟩ := hi
  unfold wrap64 at h2
  refine ⟨?_, ?_, ?_, by omega, by omega⟩
  · rw [sum_take_succ zs k h, hz, ← a1]; unfold wrap64; omega
  · unfold wrap64; omega
  · unfold wrap64; omega
theorem sumInv_same (zs : List Int) (k : Nat) (s c z : Int) (h : k < zs.length) (hz : zs.getD k 0 = z) (bz : -9223372036854775808 ≤ z ∧ z ≤ 9223372036854775807)
    (hi : SumInv zs k s c) (h1 : ¬ (0 < z ∧ wrap64 (s + z) < s)) (h2 : ¬ (z < 0 ∧ s < wrap64 (s + z))) : SumInv zs (k + 1) (wrap64 (s + z)) c := by
  obtain ⟨a1, a2, a3, a4, a5⟩ := hi
  unfold wrap64 at h1 h2
  refine ⟨?_, ?_, ?_, by omega, by omega⟩
  · rw [sum_take_succ zs k h, hz, ← a1]; unfold wrap64; omega
  · unfold wrap64; omega
  · unfold wrap64; omega
theorem sumInv_max (zs : List Int) (k : Nat) (s c : Int) (hi : SumInv zs k s c) (h : 0 < c) : cut64 (zs.take k).sum = 9223372036854775807 := by
  obtain ⟨a1, a2, a3, a4, a5⟩ := hi
  unfold cut64; rw [if_pos (by omega)]
theorem sumInv_min (zs : List Int) (k : Nat) (s c : Int) (hi : SumInv zs k s c) (h : c < 0) : cut64 (zs.take k).sum = -9223372036854775808 := by
  obtain ⟨a1, a2, a3, a4, a5⟩ := hi
  unfold cut64; rw [if_neg (by omega), if_pos (by omega)]
theorem sumInv_zero (zs : List Int) (k : Nat) (s : Int) (hi : SumInv zs k s 0) : cut64 (zs.take k).sum = s := by
  obtain ⟨a1, a2, a3, a4, a5⟩ := hi
  unfold cut64; rw [if_neg (by omega), if_neg (by omega)]; omega

/-- What the reference's Sum keeps behind k numbers, at most 300: the upper and the lower halves. -/
def HalfInv (zs : List Int) (k : Nat) (h l : Int) : Prop :=
  h * 4294967296 + l = (zs.take k).sum ∧ -(k * 2147483648 : Int) ≤ h ∧ h ≤ k * 2147483648 ∧ 0 ≤ l ∧ l ≤ k * 4294967295
theorem halfInv_start (zs : List Int) : HalfInv zs 0 0 0 := ⟨by simp, by omega, by omega, by omega, by omega⟩
theorem halfInv_step (zs : List Int) (k : Nat) (h l z : Int) (hk : k < zs.length) (hz : zs.getD k 0 = z) (bz : -9223372036854775808 ≤ z ∧ z ≤ 9223372036854775807)
    (hi : HalfInv zs k h l) : HalfInv zs (k + 1) (h + z / 4294967296) (l + z % 4294967296) := by
  obtain ⟨a1, a2, a3, a4, a5⟩ := hi
  refine ⟨?_, by omega, by omega, by omega, by omega⟩
  rw [sum_take_succ zs k hk, hz, ← a1]; omega
/-- What the reference's Sum answers behind its loop. -/
def halfEnd (h l : Int) : Int := if h + l / 4294967296 > 2147483647 then 9223372036854775807 else if h + l / 4294967296 < -2147483648 then -9223372036854775808 else (h + l / 4294967296) * 4294967296 + l % 4294967296
theorem halfEnd_is (zs : List Int) (k : Nat) (h l : Int) (hi : HalfInv zs k h l) : halfEnd h l = cut64 (zs.take k).sum := by
  obtain ⟨a1, a2, a3, a4, a5⟩ := hi
  rw [← a1]
  unfold halfEnd cut64
  split
  · rw [if_pos (by omega)]
  · split
    · rw [if_neg (by omega), if_pos (by omega)]
    · rw [if_neg (by omega), if_neg (by omega)]; omega

theorem mask (n : Int) (m p : Nat) (h : (BitVec.ofInt 64 m).toNat = 2 ^ p - 1) (hp : p ≤ 62) : bits .and .i64 n (m : Int) = n % ((2 ^ p : Nat) : Int) := by
  have key : (BitVec.ofInt 64 n &&& BitVec.ofInt 64 m).toNat = (n % ((2 ^ 64 : Nat) : Int)).toNat % 2 ^ p := by
    rw [BitVec.toNat_and, BitVec.toNat_ofInt, h, Nat.and_two_pow_sub_one_eq_mod]
  show IntKind.i64.wrap ((BitVec.ofInt 64 n &&& BitVec.ofInt 64 m).toNat : Nat) = _
  rw [key, IntKind.wrap_i64]
  have h1 : 2 ^ p ≤ 2 ^ 62 := Nat.pow_le_pow_right (by omega) hp
  have h0 : 0 < 2 ^ p := Nat.pow_pos (by omega)
  have hd : 2 ^ 64 = 2 ^ p * 2 ^ (64 - p) := by rw [← Nat.pow_add]; congr 1; omega
  have hm := Nat.mod_lt (n % ((2 ^ 64 : Nat) : Int)).toNat h0
  have e : (((n % ((2 ^ 64 : Nat) : Int)).toNat % 2 ^ p : Nat) : Int) = n % ((2 ^ p : Nat) : Int) := by
    rw [Int.natCast_emod, Int.toNat_of_nonneg (Int.emod_nonneg _ (by omega)), hd, Int.natCast_mul, Int.emod_emod_of_dvd _ ⟨_, rfl⟩]
  rw [← e]
  omega
theorem mask32 (n : Int) : bits .and .i64 n 4294967295 = n % 4294967296 := mask n 4294967295 32 (by decide) (by omega)
theorem mask10 (n : Int) : bits .and .i64 n 1023 = n % 1024 := mask n 1023 10 (by decide) (by omega)
end Go.Proofs.Ytocffcjfnmfidaa.Plain
