/- The calls of TakeUint, of wire and of the reference. -/
import Derived.Test.YtpbmkapeieoiaaaCut
import Derived.Lib.VarintBits
namespace Go.Proofs.Ytpbmkapeieoiaaa.Takes
open Go.RowKit Go.Lib Go.Proofs.Ytpbmkapeieoiaaa.Var Go.Proofs.Ytpbmkapeieoiaaa.Uints

/-- What TakeUint gives: the value, the offset behind it, the error. -/
def tu (s : ByteArray) (t : Int) : Nat × Nat × Nat :=
  if t < 0 ∨ (s.size : Int) < t then (0, 0, 1) else
    let r := scan 0 0 (s.data.toList.drop t.toNat)
    (r.1, if r.2.2 = 0 then t.toNat + r.2.1 else 0, r.2.2)
def tuN (s : ByteArray) (t : Int) : Int := ((tu s t).1 : Int)
def tuT (s : ByteArray) (t : Int) : Int := ((tu s t).2.1 : Int)
def tuE (s : ByteArray) (t : Int) : Int := ((tu s t).2.2 : Int)
def tuV (s : ByteArray) (t : Int) : Value := .tuple #[.int .u64 (tuN s t), .int .i64 (tuT s t), .int .i64 (tuE s t)]

theorem tuV_of {s : ByteArray} {t : Int} {a b c : Nat} (h : tu s t = (a, b, c)) : tuV s t = .tuple #[.int .u64 (a : Int), .int .i64 (b : Int), .int .i64 (c : Int)] := by simp only [tuV, tuN, tuT, tuE, h]
theorem tuV_out {s : ByteArray} {t : Int} (h : t < 0 ∨ (s.size : Int) < t) : tuV s t = .tuple #[.int .u64 0, .int .i64 0, .int .i64 1] := tuV_of (by rw [tu, if_pos h])
theorem tu_err {s : ByteArray} {t e : Nat} (h : t ≤ s.size) (h0 : e ≠ 0) (hs : scan 0 0 (s.data.toList.drop t) = (0, 0, e)) : tu s (t : Int) = (0, 0, e) := by
  rw [tu, if_neg (by omega), Int.toNat_natCast]
  simp [hs, h0]
theorem tu_ok {s : ByteArray} {t n k : Nat} (h : t ≤ s.size) (hs : scan 0 0 (s.data.toList.drop t) = (n, k, 0)) : tu s (t : Int) = (n, t + k, 0) := by
  rw [tu, if_neg (by omega), Int.toNat_natCast]
  simp [hs]
theorem tuV_err {s : ByteArray} {t e : Nat} (h : t ≤ s.size) (h0 : e ≠ 0) (hs : scan 0 0 (s.data.toList.drop t) = (0, 0, e)) : tuV s (t : Int) = .tuple #[.int .u64 0, .int .i64 0, .int .i64 (e : Int)] := tuV_of (tu_err h h0 hs)
theorem tuV_ok {s : ByteArray} {t n k : Nat} (h : t ≤ s.size) (hs : scan 0 0 (s.data.toList.drop t) = (n, k, 0)) : tuV s (t : Int) = .tuple #[.int .u64 (n : Int), .int .i64 ((t + k : Nat) : Int), .int .i64 0] := tuV_of (tu_ok h hs)

/-- What holds behind i groups. -/
def TRel (L : List UInt8) (i n : Nat) : Prop := i ≤ 9 ∧ n < 128 ^ i ∧ scan 0 0 L = scan i n (L.drop i)
theorem trel_start (L : List UInt8) : TRel L 0 0 := ⟨by omega, by decide, rfl⟩
theorem drop_cons {L : List UInt8} {i : Nat} (h : i < L.length) : L.drop i = L[i] :: L.drop (i + 1) := by rw [List.drop_eq_getElem_cons h]
theorem trel_bad {L : List UInt8} {i n c : Nat} (h : TRel L i n) (hi : i < L.length) (hc : L[i].toNat = c) (hb : (0 < i ∧ c = 0) ∨ (i = 9 ∧ ¬ c = 1)) : scan 0 0 L = (0, 0, 4) := by
  rw [h.2.2, drop_cons hi, scan_bad (by rw [hc]; exact hb)]
theorem trel_last {L : List UInt8} {i n c : Nat} (h : TRel L i n) (hi : i < L.length) (hc : L[i].toNat = c) (hb : ¬ ((0 < i ∧ c = 0) ∨ (i = 9 ∧ ¬ c = 1))) (hl : c < 128) : scan 0 0 L = (n + c % 128 * 128 ^ i, i + 1, 0) := by
  rw [h.2.2, drop_cons hi, scan_last (by rw [hc]; exact hb) (by omega), hc]
theorem trel_more {L : List UInt8} {i n c : Nat} (h : TRel L i n) (hi : i < L.length) (hc : L[i].toNat = c) (hb : ¬ ((0 < i ∧ c = 0) ∨ (i = 9 ∧ ¬ c = 1))) (hl : 128 ≤ c) : TRel L (i + 1) (n + c % 128 * 128 ^ i) := by
  have h9 := h.1
  refine ⟨by omega, ?_, ?_⟩
  · have h1 := h.2.1
    have h2 : c % 128 * 128 ^ i ≤ 127 * 128 ^ i := Nat.mul_le_mul_right _ (by omega)
    have h3 : 128 ^ (i + 1) = 128 * 128 ^ i := by rw [Nat.pow_succ, Nat.mul_comm]
    omega
  · rw [h.2.2, drop_cons hi, scan_more (by rw [hc]; exact hb) (by omega), hc]
theorem trel_end {L : List UInt8} {i n p : Nat} (h : TRel L i n) (hp : p = min 10 L.length) (hi : i = p) : scan 0 0 L = (0, 0, 5) := by
  have h9 := h.1
  rw [h.2.2, List.drop_of_length_le (by omega), scan_nil]

/-- The group that is added, as the program computes it. -/
theorem shl_eq (c i : Nat) (hi : i ≤ 9) (hc : i = 9 → c % 128 ≤ 1) : IntKind.u64.wrap ((c : Int) % 128 * 2 ^ (7 * i)) = ((c % 128 * 128 ^ i : Nat) : Int) := by
  have e2 : (2 : Int) ^ (7 * i) = ((128 ^ i : Nat) : Int) := by
    rw [Int.natCast_pow, show ((128 : Nat) : Int) = 2 ^ 7 by rfl, ← Int.pow_mul]
  rw [e2, show (c : Int) % 128 = ((c % 128 : Nat) : Int) by omega, ← Int.natCast_mul, IntKind.wrap_u64]
  have hlt : c % 128 * 128 ^ i < 18446744073709551616 := by
    by_cases h9 : i = 9
    · subst h9
      have : (128 : Nat) ^ 9 = 9223372036854775808 := by decide
      have h1 := hc rfl
      have h2 : c % 128 * 128 ^ 9 ≤ 1 * 128 ^ 9 := Nat.mul_le_mul_right _ h1
      rw [this] at h2 ⊢
      omega
    · have := pow_le_56 (show i ≤ 8 by omega)
      have h2 : c % 128 * 128 ^ i ≤ 127 * 128 ^ i := Nat.mul_le_mul_right _ (by omega)
      omega
  omega
theorem or_eq (n g i : Nat) (hi : i ≤ 9) (hn : n < 128 ^ i) (hq : g * 128 ^ i < 18446744073709551616) : bits .or .u64 (n : Int) ((g * 128 ^ i : Nat) : Int) = ((n + g * 128 ^ i : Nat) : Int) := by
  have e2 : (2 : Int) ^ (7 * i) = ((128 ^ i : Nat) : Int) := by
    rw [Int.natCast_pow, show ((128 : Nat) : Int) = 2 ^ 7 by rfl, ← Int.pow_mul]
  have := bits_join_low .u64 64 (by decide) wraps_u64 (7 * i) (n : Int) ((g * 128 ^ i : Nat) : Int) (by omega) (by rw [e2]; omega) (by have := pow_le_63 hi; omega) (by omega) (by rw [e2, ← Int.natCast_emod, Nat.mul_mod_left]; rfl) (by omega)
  rw [this]; omega
theorem shl_lt {c i : Nat} (hi : i ≤ 9) (hc : i = 9 → c % 128 ≤ 1) : c % 128 * 128 ^ i < 18446744073709551616 := by
  by_cases h9 : i = 9
  · subst h9
    have : (128 : Nat) ^ 9 = 9223372036854775808 := by decide
    have h2 : c % 128 * 128 ^ 9 ≤ 1 * 128 ^ 9 := Nat.mul_le_mul_right _ (hc rfl)
    rw [this] at h2 ⊢
    omega
  · have := pow_le_56 (show i ≤ 8 by omega)
    have h2 : c % 128 * 128 ^ i ≤ 127 * 128 ^ i := Nat.mul_le_mul_right _ (by omega)
    omega

end Go.Proofs.Ytpbmkapeieoiaaa.Takes
