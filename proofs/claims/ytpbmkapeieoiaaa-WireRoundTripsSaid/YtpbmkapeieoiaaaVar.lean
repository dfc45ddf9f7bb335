/- Numbers in groups of 7 bits: what decoding one gives, and that it undoes encoding. Plain mathematics, no program. -/
import Derived.Lib.Varint
import Derived.Lib.Zigzag
namespace Go.Proofs.Ytpbmkapeieoiaaa.Var
open Go.Lib

/-- Decoding from group i on, with the value n so far: the value, the number of groups read, the error (0: none, 4: a byte that cannot stand there, 5: too short). -/
def scan (i n : Nat) : List UInt8 → Nat × Nat × Nat
  | [] => (0, 0, 5)
  | c :: r => if (0 < i ∧ c.toNat = 0) ∨ (i = 9 ∧ ¬ c.toNat = 1) then (0, 0, 4) else if c.toNat < 128 then (n + c.toNat % 128 * 128 ^ i, i + 1, 0) else scan (i + 1) (n + c.toNat % 128 * 128 ^ i) r

theorem scan_nil (i n : Nat) : scan i n [] = (0, 0, 5) := rfl
theorem scan_bad {i n : Nat} {c : UInt8} {r : List UInt8} (h : (0 < i ∧ c.toNat = 0) ∨ (i = 9 ∧ ¬ c.toNat = 1)) : scan i n (c :: r) = (0, 0, 4) := by rw [scan, if_pos h]
theorem scan_last {i n : Nat} {c : UInt8} {r : List UInt8} (h : ¬ ((0 < i ∧ c.toNat = 0) ∨ (i = 9 ∧ ¬ c.toNat = 1))) (hc : c.toNat < 128) : scan i n (c :: r) = (n + c.toNat % 128 * 128 ^ i, i + 1, 0) := by rw [scan, if_neg h, if_pos hc]
theorem scan_more {i n : Nat} {c : UInt8} {r : List UInt8} (h : ¬ ((0 < i ∧ c.toNat = 0) ∨ (i = 9 ∧ ¬ c.toNat = 1))) (hc : ¬ c.toNat < 128) : scan i n (c :: r) = scan (i + 1) (n + c.toNat % 128 * 128 ^ i) r := by rw [scan, if_neg h, if_neg hc]

theorem pow_le_63 {i : Nat} (h : i ≤ 9) : 128 ^ i ≤ 9223372036854775808 := Nat.le_trans (Nat.pow_le_pow_right (by decide) h) (by decide)
theorem pow_le_56 {i : Nat} (h : i ≤ 8) : 128 ^ i ≤ 72057594037927936 := Nat.le_trans (Nat.pow_le_pow_right (by decide) h) (by decide)
theorem nine (m : Nat) (h : m * 128 ^ 9 < 18446744073709551616) : m ≤ 1 := by
  have : (128 : Nat) ^ 9 = 9223372036854775808 := by decide
  omega
theorem val_succ (m i : Nat) : m % 128 * 128 ^ i + m / 128 * 128 ^ (i + 1) = m * 128 ^ i := by
  have h : m / 128 * 128 ^ (i + 1) = m / 128 * 128 * 128 ^ i := by rw [Nat.pow_succ]; rw [Nat.mul_comm (128 ^ i), Nat.mul_assoc]
  rw [h, ← Nat.add_mul]
  congr 1
  omega
theorem u8_toNat {m : Nat} (h : m < 256) : (m.toUInt8).toNat = m := by
  show m % 256 = m
  omega
theorem u8_back (c : UInt8) : c.toNat.toUInt8 = c := by
  apply UInt8.toNat_inj.1
  exact u8_toNat c.toNat_lt

theorem scan_enc : ∀ (m i n : Nat) (r : List UInt8), (i = 0 ∨ ¬ m = 0) → m * 128 ^ i < 18446744073709551616 → i ≤ 9 →
    scan i n (uvarint m ++ r) = (n + m * 128 ^ i, i + (uvarint m).length, 0) := by
  intro m
  induction m using Nat.strongRecOn with
  | ind m ih =>
    intro i n r h0 hb hi
    by_cases hm : m < 128
    · rw [uvarint_small hm]
      have e := u8_toNat (show m < 256 by omega)
      have hn : ¬ ((0 < i ∧ (m.toUInt8).toNat = 0) ∨ (i = 9 ∧ ¬ (m.toUInt8).toNat = 1)) := by
        rw [e]
        rintro (⟨a, b⟩ | ⟨a, b⟩)
        · omega
        · subst a
          have := nine m hb
          omega
      simp only [List.cons_append, List.nil_append]
      rw [scan_last hn (by omega), e, Nat.mod_eq_of_lt hm]
      simp
    · rw [uvarint_big (by omega)]
      have e := u8_toNat (show m % 128 + 128 < 256 by omega)
      have hi9 : ¬ i = 9 := by
        intro h; subst h
        have := nine m hb
        omega
      have hn : ¬ ((0 < i ∧ ((m % 128 + 128).toUInt8).toNat = 0) ∨ (i = 9 ∧ ¬ ((m % 128 + 128).toUInt8).toNat = 1)) := by
        rw [e]
        omega
      have hv := val_succ m i
      have hs : m / 128 * 128 ^ (i + 1) < 18446744073709551616 := by omega
      rw [List.cons_append, scan_more hn (by omega), ih (m / 128) (by omega) (i + 1) _ r (.inr (by omega)) hs (by omega), e]
      rw [show (m % 128 + 128) % 128 = m % 128 by omega, List.length_cons]
      rw [Nat.add_assoc, hv, show i + 1 + (uvarint (m / 128)).length = i + ((uvarint (m / 128)).length + 1) by omega]

theorem scan_cut : ∀ (m i n j : Nat), (i = 0 ∨ ¬ m = 0) → m * 128 ^ i < 18446744073709551616 → i ≤ 9 → j < (uvarint m).length →
    scan i n ((uvarint m).take j) = (0, 0, 5) := by
  intro m
  induction m using Nat.strongRecOn with
  | ind m ih =>
    intro i n j h0 hb hi hj
    by_cases hm : m < 128
    · rw [uvarint_small hm] at hj ⊢
      have : j = 0 := by simpa using hj
      subst this
      simp [scan_nil]
    · rw [uvarint_big (by omega)] at hj ⊢
      rcases j with _ | j
      · simp [scan_nil]
      · have e := u8_toNat (show m % 128 + 128 < 256 by omega)
        have hi9 : ¬ i = 9 := by
          intro h; subst h
          have := nine m hb
          omega
        have hn : ¬ ((0 < i ∧ ((m % 128 + 128).toUInt8).toNat = 0) ∨ (i = 9 ∧ ¬ ((m % 128 + 128).toUInt8).toNat = 1)) := by
          rw [e]
          omega
        have hv := val_succ m i
        rw [List.take_succ_cons, scan_more hn (by omega)]
        exact ih (m / 128) (by omega) (i + 1) _ j (.inr (by omega)) (by omega) (by omega) (by simpa using hj)

theorem scan_err : ∀ (l : List UInt8) (i n : Nat), (scan i n l).2.2 = 0 ∨ scan i n l = (0, 0, 4) ∨ scan i n l = (0, 0, 5)
  | [], i, n => .inr (.inr rfl)
  | c :: r, i, n => by
    by_cases h : (0 < i ∧ c.toNat = 0) ∨ (i = 9 ∧ ¬ c.toNat = 1)
    · exact .inr (.inl (scan_bad h))
    · by_cases hc : c.toNat < 128
      · left; rw [scan_last h hc]
      · rw [scan_more h hc]; exact scan_err r _ _

/-- What is accepted is an encoding. -/
theorem scan_exact : ∀ (l : List UInt8) (i n : Nat), i ≤ 9 → (scan i n l).2.2 = 0 →
    ∃ m, (scan i n l).1 = n + m * 128 ^ i ∧ l.take ((scan i n l).2.1 - i) = uvarint m ∧ (scan i n l).2.1 = i + (uvarint m).length ∧ (uvarint m).length ≤ l.length ∧ (i = 0 ∨ ¬ m = 0) ∧ m * 128 ^ i < 18446744073709551616
  | [], i, n, _, h => by simp [scan_nil] at h
  | c :: r, i, n, hi, h => by
    by_cases hb : (0 < i ∧ c.toNat = 0) ∨ (i = 9 ∧ ¬ c.toNat = 1)
    · rw [scan_bad hb] at h; simp at h
    · by_cases hc : c.toNat < 128
      · rw [scan_last hb hc]
        refine ⟨c.toNat, by simp [Nat.mod_eq_of_lt hc], ?_, ?_, ?_, by omega, ?_⟩
        · rw [uvarint_small hc, u8_back]
          simp
        · rw [uvarint_small hc]; simp
        · rw [uvarint_small hc]; simp
        · by_cases h9 : i = 9
          · have : c.toNat = 1 := by omega
            rw [this, h9]; decide
          · have := pow_le_56 (show i ≤ 8 by omega)
            have h2 : c.toNat * 128 ^ i ≤ 127 * 128 ^ i := Nat.mul_le_mul_right _ (by omega)
            omega
      · have h9 : ¬ i = 9 := by omega
        rw [scan_more hb hc] at h ⊢
        obtain ⟨m, e1, e2, e3, e4, e5, e6⟩ := scan_exact r (i + 1) (n + c.toNat % 128 * 128 ^ i) (by omega) h
        have hm : ¬ m = 0 := by omega
        have hlt := c.toNat_lt
        have hq : (c.toNat % 128 + 128 * m) % 128 = c.toNat % 128 := by omega
        have hd : (c.toNat % 128 + 128 * m) / 128 = m := by omega
        have hv := val_succ (c.toNat % 128 + 128 * m) i
        rw [hq, hd] at hv
        have hu : uvarint (c.toNat % 128 + 128 * m) = c :: uvarint m := by
          rw [uvarint_big (by omega), hq, hd, show c.toNat % 128 + 128 = c.toNat by omega, u8_back]
        refine ⟨c.toNat % 128 + 128 * m, by rw [e1]; omega, ?_, ?_, ?_, .inr (by omega), ?_⟩
        · rw [hu, ← e2, e3, show i + 1 + (uvarint m).length - i = (uvarint m).length + 1 by omega, List.take_succ_cons, show i + 1 + (uvarint m).length - (i + 1) = (uvarint m).length by omega]
        · rw [e3, hu, List.length_cons]; omega
        · rw [hu, List.length_cons, List.length_cons]; omega
        · have h56 := pow_le_56 (show i ≤ 8 by omega)
          have h2 : c.toNat % 128 * 128 ^ i ≤ 127 * 128 ^ i := Nat.mul_le_mul_right _ (by omega)
          by_cases h8 : i = 8
          · subst h8
            have := nine m (by simpa using e6)
            have h9' : (128 : Nat) ^ (8 + 1) = 9223372036854775808 := by decide
            have h8' : (128 : Nat) ^ 8 = 72057594037927936 := by decide
            rw [h9', h8'] at hv
            rw [h8'] at h2 ⊢
            clear e6 h56 h8' h9' hq hd hu e1 e2 e3 e4 h
            omega
          · rw [← hv]
            have p7 : 128 ^ (i + 1) ≤ 72057594037927936 := pow_le_56 (by omega)
            have hdv : (128 : Nat) ^ (i + 1) ∣ 18446744073709551616 := by
              have e64 : (18446744073709551616 : Nat) = 2 ^ 64 := by decide
              have e128 : (128 : Nat) = 2 ^ 7 := by decide
              rw [e64, e128, ← Nat.pow_mul]
              exact Nat.pow_dvd_pow 2 (by omega)
            obtain ⟨q, hq⟩ := hdv
            rw [hq] at e6 ⊢
            have hmq : m < q := by
              rw [Nat.mul_comm] at e6
              exact Nat.lt_of_mul_lt_mul_left e6
            have h3 : (m + 1) * 128 ^ (i + 1) ≤ q * 128 ^ (i + 1) := Nat.mul_le_mul_right _ hmq
            rw [Nat.add_mul, Nat.one_mul] at h3
            have h4 : 128 ^ (i + 1) = 128 * 128 ^ i := by rw [Nat.pow_succ, Nat.mul_comm]
            have hpos : 0 < 128 ^ i := Nat.pow_pos (by decide)
            rw [Nat.mul_comm q] at h3
            omega

/-- A greater number never has fewer bytes. -/
theorem uvarint_mono : ∀ (a b : Nat), a ≤ b → (uvarint a).length ≤ (uvarint b).length := by
  intro a
  induction a using Nat.strongRecOn with
  | ind a ih =>
    intro b h
    by_cases ha : a < 128
    · rw [uvarint_small ha]; exact uvarint_pos b
    · rw [uvarint_big (by omega), uvarint_big (x := b) (by omega), List.length_cons, List.length_cons]
      have := ih (a / 128) (by omega) (b / 128) (by omega)
      omega

/-- Back from the number that is not negative. -/
def unzig (n : Nat) : Int := if n % 2 = 1 then -((n / 2 : Nat) : Int) - 1 else ((n / 2 : Nat) : Int)
theorem unzig_zigzag (x : Int) : unzig (zigzag x) = x := by
  unfold unzig zigzag
  by_cases h : 0 ≤ x
  · rw [if_pos h]; split <;> omega
  · rw [if_neg h]; split <;> omega
theorem zigzag_unzig (n : Nat) : zigzag (unzig n) = n := by
  unfold unzig zigzag
  split <;> split <;> omega
theorem unzig_range {n : Nat} (h : n < 18446744073709551616) : -9223372036854775808 ≤ unzig n ∧ unzig n ≤ 9223372036854775807 := by
  unfold unzig
  split <;> omega

end Go.Proofs.Ytpbmkapeieoiaaa.Var
