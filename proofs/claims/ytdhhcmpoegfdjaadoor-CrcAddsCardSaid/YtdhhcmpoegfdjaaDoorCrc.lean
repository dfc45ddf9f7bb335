/- CRC-32 bit by bit, sealed texts, FNV-1a and hexadecimal digits, over numbers and lists of bytes. Plain mathematics, no program. -/
import Derived.Lib.Varint
namespace Go.Proofs.YtdhhcmpoegfdjaaDoor.Crc

/-! ### The register -/

/-- One bit: shifted to the right, and combined with the polynomial if the bit that was shifted out was 1. -/
def bstep (n : Nat) : Nat := n / 2 ^^^ n % 2 * 3988292384
def bsteps : Nat → Nat → Nat
  | 0, n => n
  | k + 1, n => bsteps k (bstep n)
def byteStep (n : Nat) (c : UInt8) : Nat := bsteps 8 (n ^^^ c.toNat)
def reg : Nat → List UInt8 → Nat
  | n, [] => n
  | n, c :: l => reg (byteStep n c) l
def crc (l : List UInt8) : Nat := reg 4294967295 l ^^^ 4294967295

theorem bstep_lt {n : Nat} (h : n < 4294967296) : bstep n < 4294967296 := by
  have h1 : n / 2 < 2 ^ 32 := by omega
  have h2 : n % 2 * 3988292384 < 2 ^ 32 := by omega
  exact Nat.xor_lt_two_pow h1 h2
theorem bsteps_lt : ∀ (k : Nat) {n : Nat}, n < 4294967296 → bsteps k n < 4294967296
  | 0, _, h => h
  | k + 1, _, h => bsteps_lt k (bstep_lt h)
theorem byte_lt (c : UInt8) : c.toNat < 256 := c.toNat_lt
theorem xor_lt {a b : Nat} (h : a < 4294967296) (h2 : b < 4294967296) : a ^^^ b < 4294967296 := Nat.xor_lt_two_pow (n := 32) h h2
theorem byteStep_lt {n : Nat} (c : UInt8) (h : n < 4294967296) : byteStep n c < 4294967296 :=
  bsteps_lt 8 (xor_lt h (by have := byte_lt c; omega))
theorem reg_lt : ∀ (l : List UInt8) {n : Nat}, n < 4294967296 → reg n l < 4294967296
  | [], _, h => h
  | c :: l, _, h => reg_lt l (byteStep_lt c h)
theorem crc_lt (l : List UInt8) : crc l < 4294967296 := xor_lt (reg_lt l (by decide)) (by decide)

theorem reg_cons (n : Nat) (c : UInt8) (l : List UInt8) : reg n (c :: l) = reg (byteStep n c) l := rfl
theorem reg_append : ∀ (l m : List UInt8) (n : Nat), reg n (l ++ m) = reg (reg n l) m
  | [], _, _ => rfl
  | c :: l, m, n => by rw [List.cons_append, reg_cons, reg_cons, reg_append l m]

/-! Exclusive or. -/
theorem xor_left_cancel {a b c : Nat} (h : a ^^^ b = a ^^^ c) : b = c := by
  have := congrArg (fun x => a ^^^ x) h
  simpa [← Nat.xor_assoc] using this
theorem xor_right_cancel {a b c : Nat} (h : a ^^^ c = b ^^^ c) : a = b := by
  rw [Nat.xor_comm a, Nat.xor_comm b] at h
  exact xor_left_cancel h
theorem xor_mid (a b c d : Nat) : (a ^^^ b) ^^^ (c ^^^ d) = (a ^^^ c) ^^^ (b ^^^ d) := by
  rw [Nat.xor_assoc, Nat.xor_assoc, ← Nat.xor_assoc b, Nat.xor_comm b c, Nat.xor_assoc c]

theorem bstep_xor (a b : Nat) : bstep (a ^^^ b) = bstep a ^^^ bstep b := by
  unfold bstep
  rw [Nat.xor_div_two, xor_mid]
  congr 1
  have h := @Nat.xor_mod_two_eq_one a b
  rcases Nat.mod_two_eq_zero_or_one a with ha | ha <;> rcases Nat.mod_two_eq_zero_or_one b with hb | hb <;> rw [ha, hb] at h <;> rw [ha, hb]
  · have : (a ^^^ b) % 2 = 0 := by omega
    rw [this]; rfl
  · have : (a ^^^ b) % 2 = 1 := by omega
    rw [this]; simp
  · have : (a ^^^ b) % 2 = 1 := by omega
    rw [this]; simp
  · have : (a ^^^ b) % 2 = 0 := by omega
    rw [this]; simp
theorem bsteps_xor : ∀ (k a b : Nat), bsteps k (a ^^^ b) = bsteps k a ^^^ bsteps k b
  | 0, _, _ => rfl
  | k + 1, a, b => by rw [bsteps, bsteps, bsteps, bstep_xor, bsteps_xor k]

/-- The bit that is shifted out can be read off the highest bit of the result: a step loses nothing. -/
theorem bstep_inj {a b : Nat} (ha : a < 4294967296) (hb : b < 4294967296) (h : bstep a = bstep b) : a = b := by
  have key : ∀ n : Nat, n < 4294967296 → (bstep n).testBit 31 = decide (n % 2 = 1) := by
    intro n hn
    unfold bstep
    rw [Nat.testBit_xor]
    have h1 : (n / 2).testBit 31 = false := Nat.testBit_lt_two_pow (by omega)
    rw [h1]
    rcases Nat.mod_two_eq_zero_or_one n with h | h <;> rw [h] <;> decide
  have k1 := key a ha
  have k2 := key b hb
  rw [h, k2] at k1
  have e : a % 2 = b % 2 := by
    have := decide_eq_decide.1 k1
    omega
  unfold bstep at h
  rw [e] at h
  have := xor_right_cancel h
  omega
theorem bsteps_inj : ∀ (k : Nat) {a b : Nat}, a < 4294967296 → b < 4294967296 → bsteps k a = bsteps k b → a = b
  | 0, _, _, _, _, h => h
  | k + 1, _, _, ha, hb, h => bstep_inj ha hb (bsteps_inj k (bstep_lt ha) (bstep_lt hb) h)
theorem reg_inj : ∀ (l : List UInt8) {a b : Nat}, a < 4294967296 → b < 4294967296 → reg a l = reg b l → a = b
  | [], _, _, _, _, h => h
  | c :: l, a, b, ha, hb, h => by
    have h1 := reg_inj l (byteStep_lt c ha) (byteStep_lt c hb) h
    have h2 := bsteps_inj 8 (xor_lt ha (by have := byte_lt c; omega)) (xor_lt hb (by have := byte_lt c; omega)) h1
    exact xor_right_cancel h2
theorem byteStep_inj {n : Nat} {c d : UInt8} (hn : n < 4294967296) (h : byteStep n c = byteStep n d) : c = d := by
  have h2 := bsteps_inj 8 (xor_lt hn (by have := byte_lt c; omega)) (xor_lt hn (by have := byte_lt d; omega)) h
  exact UInt8.toNat_inj.1 (xor_left_cancel h2)

/-- A text in which one byte is another has another checksum. -/
theorem crc_set {l m : List UInt8} {c d : UInt8} (h : crc (l ++ c :: m) = crc (l ++ d :: m)) : c = d := by
  have h1 := xor_right_cancel h
  rw [reg_append, reg_append, reg_cons, reg_cons] at h1
  have hl := reg_lt l (n := 4294967295) (by decide)
  exact byteStep_inj hl (reg_inj m (byteStep_lt c hl) (byteStep_lt d hl) h1)

/-! The exclusive or of three texts. -/
def xor3 : List UInt8 → List UInt8 → List UInt8 → List UInt8
  | a :: l, b :: m, c :: r => (a ^^^ b ^^^ c) :: xor3 l m r
  | _, _, _ => []
theorem byteStep_xor3 (p q r : Nat) (a b c : UInt8) : byteStep (p ^^^ q ^^^ r) (a ^^^ b ^^^ c) = byteStep p a ^^^ byteStep q b ^^^ byteStep r c := by
  unfold byteStep
  rw [← bsteps_xor, ← bsteps_xor, UInt8.toNat_xor, UInt8.toNat_xor]
  congr 1
  rw [xor_mid, xor_mid p q]
theorem reg_xor3 : ∀ (l m r : List UInt8) (p q s : Nat), l.length = m.length → l.length = r.length →
    reg (p ^^^ q ^^^ s) (xor3 l m r) = reg p l ^^^ reg q m ^^^ reg s r
  | [], [], [], _, _, _, _, _ => rfl
  | a :: l, b :: m, c :: r, p, q, s, h1, h2 => by
    rw [xor3, reg_cons, reg_cons, reg_cons, reg_cons, byteStep_xor3]
    exact reg_xor3 l m r _ _ _ (by simpa using h1) (by simpa using h2)
  | [], _ :: _, _, _, _, _, h, _ => by simp at h
  | [], [], _ :: _, _, _, _, _, h => by simp at h
  | _ :: _, [], _, _, _, _, h, _ => by simp at h
  | _ :: _, _ :: _, [], _, _, _, _, h => by simp at h
theorem crc_xor3 {l m r : List UInt8} (h1 : l.length = m.length) (h2 : l.length = r.length) : crc (xor3 l m r) = crc l ^^^ crc m ^^^ crc r := by
  have h := reg_xor3 l m r 4294967295 4294967295 4294967295 h1 h2
  unfold crc
  rw [xor_mid (reg 4294967295 l), xor_mid (reg 4294967295 l ^^^ reg 4294967295 m), ← h]
  rfl

/-! The bit that the reference tests, with the byte not yet combined. -/
/-- The register with the byte's bits from k on still to come. -/
theorem ref_step (m c k : Nat) : bstep (m ^^^ c / 2 ^ k) = (m / 2 ^^^ (m ^^^ c / 2 ^ k) % 2 * 3988292384) ^^^ c / 2 ^ (k + 1) := by
  unfold bstep
  have e : c / 2 ^ k / 2 = c / 2 ^ (k + 1) := by rw [Nat.div_div_eq_div_mul, Nat.pow_succ]
  rw [Nat.xor_div_two, e, Nat.xor_assoc, Nat.xor_comm (c / 2 ^ (k + 1)), ← Nat.xor_assoc]

/-! ### Sealed texts -/

/-- The four bytes of a number, the most significant one first. -/
def be4 (n : Nat) : List UInt8 := [(n / 16777216).toUInt8, (n / 65536 % 256).toUInt8, (n / 256 % 256).toUInt8, (n % 256).toUInt8]
def sealed (l : List UInt8) : List UInt8 := l ++ be4 (crc l)
theorem be4_length (n : Nat) : (be4 n).length = 4 := rfl
theorem sealed_length (l : List UInt8) : (sealed l).length = l.length + 4 := by simp [sealed, be4_length]
theorem u8_toNat {m : Nat} (h : m < 256) : (m.toUInt8).toNat = m := by
  show m % 256 = m
  omega
theorem u8_back (c : UInt8) : c.toNat.toUInt8 = c := by
  apply UInt8.toNat_inj.1
  exact u8_toNat c.toNat_lt
theorem be4_inj {a b : Nat} (ha : a < 4294967296) (hb : b < 4294967296) (h : be4 a = be4 b) : a = b := by
  simp only [be4, List.cons.injEq, and_true] at h
  obtain ⟨h1, h2, h3, h4⟩ := h
  have e1 := congrArg UInt8.toNat h1
  have e2 := congrArg UInt8.toNat h2
  have e3 := congrArg UInt8.toNat h3
  have e4 := congrArg UInt8.toNat h4
  rw [u8_toNat (by omega), u8_toNat (by omega)] at e1 e2 e3 e4
  omega

/-- What opening gives: the text and the error (0: none, 5: too short, 6: damaged). -/
def opened (s : List UInt8) : List UInt8 × Nat :=
  if s.length < 4 then ([], 5) else if s.drop (s.length - 4) = be4 (crc (s.take (s.length - 4))) then (s.take (s.length - 4), 0) else ([], 6)
theorem opened_sealed (l : List UInt8) : opened (sealed l) = (l, 0) := by
  unfold opened
  have h := sealed_length l
  rw [if_neg (by omega), h, Nat.add_sub_cancel]
  have h1 : (sealed l).take l.length = l := by simp [sealed]
  have h2 : (sealed l).drop l.length = be4 (crc l) := by simp [sealed]
  rw [h1, h2, if_pos rfl]
theorem opened_ok {s l : List UInt8} (h : opened s = (l, 0)) : sealed l = s := by
  unfold opened at h
  split at h
  · simp at h
  · split at h
    · rename_i h1 h2
      have : s.take (s.length - 4) = l := by simpa using h
      rw [this] at h2
      rw [sealed, ← h2, ← this, List.take_append_drop]
    · simp at h
theorem opened_err {s : List UInt8} : (opened s).2 = 0 ∨ opened s = ([], 5) ∨ opened s = ([], 6) := by
  unfold opened
  split
  · exact .inr (.inl rfl)
  · split
    · exact .inl rfl
    · exact .inr (.inr rfl)

/-- A sealed text with one byte changed is damaged. -/
theorem detects (l : List UInt8) (i : Nat) (c : UInt8) (hi : i < l.length + 4) (hc : (sealed l)[i]'(by rw [sealed_length]; exact hi) ≠ c) : opened ((sealed l).set i c) = ([], 6) := by
  have hlen : ((sealed l).set i c).length = l.length + 4 := by rw [List.length_set, sealed_length]
  unfold opened
  rw [if_neg (by omega), hlen, Nat.add_sub_cancel, if_neg]
  by_cases h : i < l.length
  · have h1 : ((sealed l).set i c).take l.length = l.set i c := by
      rw [sealed, List.set_append_left _ _ h, List.take_append_of_le_length (by simp), List.take_of_length_le (by simp)]
    have h2 : ((sealed l).set i c).drop l.length = be4 (crc l) := by
      rw [sealed, List.set_append_left _ _ h, List.drop_append_of_le_length (by simp), List.drop_of_length_le (by simp), List.nil_append]
    rw [h1, h2]
    intro he
    have he := be4_inj (crc_lt _) (crc_lt _) he
    have ea : l = l.take i ++ l[i] :: l.drop (i + 1) := by simp
    have eb : l.set i c = l.take i ++ c :: l.drop (i + 1) := by
      rw [List.set_eq_take_append_cons_drop, if_pos h]
    rw [eb] at he
    conv at he => lhs; rw [ea]
    apply hc
    rw [← crc_set he]
    simp [sealed, List.getElem_append_left h]
  · have h1 : ((sealed l).set i c).take l.length = l := by
      rw [sealed, List.set_append_right _ _ (by omega), List.take_append_of_le_length (by simp), List.take_of_length_le (by simp)]
    have h2 : ((sealed l).set i c).drop l.length = (be4 (crc l)).set (i - l.length) c := by
      rw [sealed, List.set_append_right _ _ (by omega), List.drop_append_of_le_length (by simp), List.drop_of_length_le (by simp), List.nil_append]
    rw [h1, h2]
    intro he
    have hb : i - l.length < 4 := by omega
    have : ((be4 (crc l)).set (i - l.length) c)[i - l.length]'(by rw [List.length_set, be4_length]; exact hb) = (be4 (crc l))[i - l.length]'(by rw [be4_length]; exact hb) := by simp only [he]
    rw [List.getElem_set_self] at this
    apply hc
    rw [this]
    simp only [sealed]
    rw [List.getElem_append_right (by omega)]
theorem detects_same (l : List UInt8) (i : Nat) (c : UInt8) (hi : i < l.length + 4) (hc : (sealed l)[i]'(by rw [sealed_length]; exact hi) = c) : opened ((sealed l).set i c) = (l, 0) := by
  subst hc
  rw [List.set_getElem_self, opened_sealed]

/-! ### FNV-1a -/
def fnv (d : Nat) (c : UInt8) : Nat := (d ^^^ c.toNat) * 1099511628211 % 18446744073709551616
def fnvs : Nat → List UInt8 → Nat
  | d, [] => d
  | d, c :: l => fnvs (fnv d c) l
theorem fnv_lt (d : Nat) (c : UInt8) : fnv d c < 18446744073709551616 := Nat.mod_lt _ (by decide)
theorem fnvs_lt : ∀ (l : List UInt8) {d : Nat}, d < 18446744073709551616 → fnvs d l < 18446744073709551616
  | [], _, h => h
  | c :: l, _, _ => fnvs_lt l (fnv_lt _ c)
theorem fnvs_append : ∀ (l m : List UInt8) (d : Nat), fnvs d (l ++ m) = fnvs (fnvs d l) m
  | [], _, _ => rfl
  | c :: l, m, d => by rw [List.cons_append, fnvs, fnvs, fnvs_append l m]
/-- k bytes of a number, the least significant one first. -/
def leN : Nat → Nat → List UInt8
  | 0, _ => []
  | k + 1, n => (n % 256).toUInt8 :: leN k (n / 256)
theorem leN_length : ∀ k n, (leN k n).length = k
  | 0, _ => rfl
  | k + 1, n => by simp [leN, leN_length k]
def chain (h : Nat) (l : List UInt8) : Nat := fnvs 14695981039346656037 (leN 8 h ++ (leN 8 l.length ++ l))
theorem chain_lt (h : Nat) (l : List UInt8) : chain h l < 18446744073709551616 := fnvs_lt _ (by decide)
def addN (d n : Nat) : Nat := fnvs d (leN 8 n)
theorem chain_eq (h : Nat) (l : List UInt8) : chain h l = fnvs (addN (addN 14695981039346656037 h) l.length) l := by
  rw [chain, fnvs_append, fnvs_append, addN, addN]

/-! ### Hexadecimal digits -/
def hexd (d : Nat) : UInt8 := if d < 10 then (48 + d).toUInt8 else (87 + d).toUInt8
def hexN : Nat → Nat → List UInt8
  | 0, _ => []
  | k + 1, n => hexN k (n / 16) ++ [hexd (n % 16)]
theorem hexN_length : ∀ k n, (hexN k n).length = k
  | 0, _ => rfl
  | k + 1, n => by simp [hexN, hexN_length k]
/-- Without leading zeros, at least one digit. -/
def hexF (n : Nat) : List UInt8 := if n < 16 then [hexd n] else hexF (n / 16) ++ [hexd (n % 16)]
theorem hexF_small {n : Nat} (h : n < 16) : hexF n = [hexd n] := by rw [hexF, if_pos h]
theorem hexF_big {n : Nat} (h : ¬ n < 16) : hexF n = hexF (n / 16) ++ [hexd (n % 16)] := by rw [hexF, if_neg h]
theorem hexF_pos (n : Nat) : 0 < (hexF n).length := by
  rw [hexF]; split <;> simp
theorem hexN_zero : ∀ k, hexN k 0 = List.replicate k 48
  | 0 => rfl
  | k + 1 => by
    rw [hexN, hexN_zero k, List.replicate_succ']
    rfl
theorem hexF_le : ∀ (k n : Nat), n < 16 ^ (k + 1) → (hexF n).length ≤ k + 1 ∧ hexN (k + 1) n = List.replicate (k + 1 - (hexF n).length) 48 ++ hexF n := by
  intro k
  induction k with
  | zero =>
    intro n h
    have h : n < 16 := by simpa using h
    rw [hexF_small h]
    refine ⟨by simp, ?_⟩
    simp [hexN, Nat.mod_eq_of_lt h]
  | succ k ih =>
    intro n h
    by_cases hs : n < 16
    · rw [hexF_small hs]
      refine ⟨by simp, ?_⟩
      rw [hexN, show n / 16 = 0 by omega, hexN_zero, Nat.mod_eq_of_lt hs]
      simp
    · rw [hexF_big hs]
      have := ih (n / 16) (by rw [Nat.pow_succ] at h; omega)
      refine ⟨by simp; exact this.1, ?_⟩
      rw [hexN, this.2]
      simp

end Go.Proofs.YtdhhcmpoegfdjaaDoor.Crc
