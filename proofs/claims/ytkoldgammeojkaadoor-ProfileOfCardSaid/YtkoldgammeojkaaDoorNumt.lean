/- Decimal forms, names and lists of numbers: plain mathematics over bytes. No program. -/
import Derived.Test.YtkoldgammeojkaaDoorText
import Derived.Lib.AtoiAllCases
import Derived.Lib.ItoaMem
import Derived.Lib.ItoaLen
import Derived.Lib.Strings
namespace Go.Proofs.YtkoldgammeojkaaDoor.Numt
open Go.Lib Go.Proofs.YtkoldgammeojkaaDoor.Text

def isDig (b : UInt8) : Bool := decide (48 ≤ b.toNat) && decide (b.toNat ≤ 57)
def strip (l : (List UInt8)) : (List UInt8) := if l.head? = some 45 then l.tail else l
def negL (l : (List UInt8)) : Bool := decide (l.head? = some 45)
/-- Digits, without leading noughts. -/
def digsL (d : (List UInt8)) : Bool := d.all isDig && (decide (0 < d.length) && (decide (d.head? ≠ some 48) || decide (d.length = 1)))
/-- The decimal form of an integer, as the reference asks for it. -/
def decL (l : (List UInt8)) : Bool := digsL (strip l) && !(negL l && decide (strip l = [48]))
/-- The same, as the program asks for it. -/
def decP (l : (List UInt8)) : Bool := decide (l = [48]) || (decide (strip l ≠ []) && decide ((strip l).head? ≠ some 48) && (strip l).all isDig)

theorem strip_neg (r : (List UInt8)) : strip (45 :: r) = r := rfl
theorem strip_pos {l : (List UInt8)} (h : l.head? ≠ some 45) : strip l = l := by rw [strip, if_neg h]
theorem trim_strip (l : (List UInt8)) : Lib.trimPrefix l [45] = strip l := by
  unfold Lib.trimPrefix Lib.hasPrefix
  cases l with
  | nil => rfl
  | cons b l =>
    by_cases hb : b = 45
    · subst hb; simp [List.isPrefixOf, strip]
    · rw [strip_pos (by simpa using hb)]
      simp [List.isPrefixOf, Ne.symm hb]
theorem one_of {d : (List UInt8)} (h1 : d.length = 1) (h2 : d.head? = some 48) : d = [48] := by
  match d, h1 with
  | [a], _ => simp at h2; rw [h2]
theorem dec_eq (l : (List UInt8)) : decP l = decL l := by
  rw [Bool.eq_iff_iff]
  unfold decP decL digsL
  simp only [Bool.or_eq_true, Bool.and_eq_true, decide_eq_true_eq, Bool.not_eq_true', Bool.and_eq_false_iff, decide_eq_false_iff_not]
  constructor
  · rintro (rfl | ⟨⟨h1, h2⟩, h3⟩)
    · decide
    · refine ⟨⟨h3, List.length_pos_iff.2 h1, .inl h2⟩, .inr fun e => ?_⟩
      rw [e] at h2
      simp at h2
  · rintro ⟨⟨h1, h2, h3⟩, h4⟩
    have hne : strip l ≠ [] := List.length_pos_iff.1 h2
    by_cases h48 : (strip l).head? = some 48
    · rcases h3 with h3 | h3
      · exact absurd h48 h3
      · have e := one_of h3 h48
        rcases h4 with h4 | h4
        · left
          unfold negL at h4
          rw [decide_eq_false_iff_not] at h4
          rw [strip_pos h4] at e
          exact e
        · exact absurd e h4
    · exact .inr ⟨⟨hne, h48⟩, h1⟩

/-- The number that digits represent, behind what acc represents. -/
def val (acc : Nat) (l : (List UInt8)) : Nat := l.foldl (fun a (c : UInt8) => a * 10 + (c.toNat - 48)) acc
theorem val_cons (acc : Nat) (c : UInt8) (r : (List UInt8)) : val acc (c :: r) = val (acc * 10 + (c.toNat - 48)) r := by
  unfold val
  rw [List.foldl_cons]
theorem val_nil (acc : Nat) : val acc [] = acc := by
  unfold val
  rw [List.foldl_nil]
theorem head_app {a b : (List UInt8)} (h : a ≠ []) : (a ++ b).head? = a.head? := by
  cases a with
  | nil => exact absurd rfl h
  | cons x r => rfl
theorem val_ge (l : (List UInt8)) : ∀ acc : Nat, acc ≤ val acc l := by
  induction l with
  | nil => intro acc; rw [val_nil]; exact Nat.le_refl _
  | cons c r ih =>
    intro acc
    have := ih (acc * 10 + (c.toNat - 48))
    rw [val_cons]
    omega
theorem val_snoc (l : (List UInt8)) : ∀ (acc : Nat) (c : UInt8), val acc (l ++ [c]) = val acc l * 10 + (c.toNat - 48) := by
  induction l with
  | nil => intro acc c; rw [List.nil_append, val_cons, val_nil, val_nil]
  | cons b l ih => intro acc c; rw [List.cons_append, val_cons, val_cons, ih]

/-- The answer of Int: the number, the error. -/
def intR (l : (List UInt8)) : Int × Nat :=
  if decL l = false then (0, 4)
  else if negL l = true then (if 9223372036854775808 < val 0 (strip l) then (0, 17) else (-(val 0 (strip l) : Int), 0))
  else if 9223372036854775808 ≤ val 0 (strip l) then (0, 17) else ((val 0 (strip l) : Int), 0)

theorem intR_range (l : (List UInt8)) : -9223372036854775808 ≤ (intR l).1 ∧ (intR l).1 ≤ 9223372036854775807 := by
  unfold intR
  split
  · decide
  · split <;> split <;> simp <;> omega

/-! What strconv.Atoi answers. -/
theorem parse_digs : ∀ (l : (List UInt8)) (acc : Nat), l.all isDig = true → acc < 18446744073709551616 → parseUint10 acc l = if val acc l < 18446744073709551616 then .ok (val acc l) else .range
  | [], acc, _, ha => by rw [parseUint10, val_nil, if_pos ha]
  | c :: r, acc, h, ha => by
    simp only [List.all_cons, Bool.and_eq_true, isDig, decide_eq_true_eq] at h
    obtain ⟨⟨h1, h2⟩, h3⟩ := h
    have hg := val_ge r (acc * 10 + (c.toNat - 48))
    rw [parseUint10, if_pos ⟨h1, h2⟩, val_cons]
    split
    · rw [if_neg (by omega)]
    · split
      · rw [if_neg (by omega)]
      · exact parse_digs r _ (by simpa [isDig] using h3) (by omega)
theorem dec_digs {l : (List UInt8)} (h : decL l = true) : (strip l).all isDig = true ∧ strip l ≠ [] := by
  unfold decL digsL at h
  simp only [Bool.and_eq_true, decide_eq_true_eq] at h
  exact ⟨h.1.1, List.length_pos_iff.1 h.1.2.1⟩
/-- On a decimal form Atoi gives the number or says that it is out of range. -/
theorem atoi_dec {l : (List UInt8)} (h : decL l = true) : (∃ v, atoiAll l = .ok v ∧ intR l = (v, 0)) ∨ (atoiAll l = .range ∧ intR l = (0, 17)) := by
  obtain ⟨h1, h2⟩ := dec_digs h
  have hp : parseMag (strip l) = if val 0 (strip l) < 18446744073709551616 then .ok (val 0 (strip l)) else .range := by
    rw [parseMag, if_neg h2, parse_digs _ 0 h1 (by decide)]
  have hi : intR l = if negL l = true then (if 9223372036854775808 < val 0 (strip l) then (0, 17) else (-(val 0 (strip l) : Int), 0))
      else if 9223372036854775808 ≤ val 0 (strip l) then (0, 17) else ((val 0 (strip l) : Int), 0) := by
    rw [intR, h, if_neg (by decide)]
  cases l with
  | nil => exact absurd rfl h2
  | cons b r =>
    by_cases hb : b = 45
    · subst hb
      rw [strip_neg] at hp hi
      have hn : negL (45 :: r) = true := rfl
      rw [hn, if_pos rfl] at hi
      rw [atoiAll_minus, hp, hi]
      by_cases h63 : 9223372036854775808 < val 0 r
      · right
        rw [if_pos h63]
        refine ⟨?_, rfl⟩
        split
        · simp [signed, h63]
        · rfl
      · left
        rw [if_neg h63, if_pos (by omega)]
        exact ⟨_, by simp only [signed]; rw [if_neg h63], rfl⟩
    · have hs : strip (b :: r) = b :: r := strip_pos (by simpa using hb)
      rw [hs] at hp hi h1
      have hn : negL (b :: r) = false := by simp [negL, hb]
      rw [hn, if_neg (by decide)] at hi
      have hd : 48 ≤ b.toNat ∧ b.toNat ≤ 57 := by
        simp only [List.all_cons, Bool.and_eq_true, isDig, decide_eq_true_eq] at h1
        exact h1.1
      rw [atoiAll_plain b r (by omega) (by omega), hp, hi]
      by_cases h63 : 9223372036854775808 ≤ val 0 (b :: r)
      · right
        rw [if_pos h63]
        refine ⟨?_, rfl⟩
        split
        · simp [signless, h63]
        · rfl
      · left
        rw [if_neg h63, if_pos (by omega)]
        exact ⟨_, by simp only [signless]; rw [if_neg h63], rfl⟩

/-! Decimal forms and numbers. -/
theorem toNat_dig {i : Nat} (h : i < 10) : (UInt8.ofNat (48 + i)).toNat = 48 + i := by
  simp [UInt8.toNat_ofNat']
  omega
theorem digs_of (u : Nat) : (decDigits u).all isDig = true ∧ val 0 (decDigits u) = u ∧ decDigits u ≠ [] ∧ ((decDigits u).head? = some 48 → u = 0) := by
  induction u using Nat.strongRecOn with
  | _ u ih =>
    by_cases h : u < 10
    · rw [decDigits, dif_pos h]
      have := toNat_dig h
      refine ⟨by simp only [List.all_cons, List.all_nil, isDig, this, Bool.and_true, Bool.and_eq_true, decide_eq_true_eq]; omega, by rw [val_cons, val_nil, this]; omega, by simp, ?_⟩
      intro e
      simp only [List.head?_cons, Option.some.injEq] at e
      rw [e] at this
      have e48 : (48 : UInt8).toNat = 48 := rfl
      omega
    · obtain ⟨i1, i2, i3, i4⟩ := ih (u / 10) (by omega)
      have hd : u % 10 < 10 := Nat.mod_lt _ (by decide)
      have := toNat_dig hd
      rw [decDigits, dif_neg h]
      refine ⟨?_, ?_, by simp, ?_⟩
      · rw [List.all_append, i1]
        simp only [List.all_cons, List.all_nil, isDig, this, Bool.and_true, Bool.true_and, Bool.and_eq_true, decide_eq_true_eq]
        omega
      · rw [val_snoc, i2, this]
        omega
      · intro e
        rw [head_app i3] at e
        have := i4 e
        omega
theorem decDigits_head45 (u : Nat) : (decDigits u).head? ≠ some 45 := by
  obtain ⟨h1, _, h3, _⟩ := digs_of u
  cases h : decDigits u with
  | nil => exact absurd h h3
  | cons b r =>
    rw [h] at h1
    simp only [List.all_cons, Bool.and_eq_true, isDig, decide_eq_true_eq] at h1
    intro e
    simp only [List.head?_cons, Option.some.injEq] at e
    rw [e] at h1
    exact absurd h1.1.1 (by decide)
theorem digs_digs (u : Nat) : digsL (decDigits u) = true := by
  obtain ⟨h1, h2, h3, h4⟩ := digs_of u
  unfold digsL
  simp only [Bool.and_eq_true, Bool.or_eq_true, decide_eq_true_eq]
  refine ⟨h1, List.length_pos_iff.2 h3, ?_⟩
  by_cases h : (decDigits u).head? = some 48
  · right
    rw [h4 h, decDigits, dif_pos (by decide)]
    rfl
  · exact .inl h
theorem digs_not0 {u : Nat} (h : 1 ≤ u) : decDigits u ≠ [48] := by
  intro e
  have := (digs_of u).2.2.2 (by rw [e]; rfl)
  omega
/-- Int restores a number from its decimal form. -/
theorem int_of_itoa {n : Int} (h0 : -9223372036854775808 ≤ n) (h1 : n ≤ 9223372036854775807) : intR (itoa n) = (n, 0) := by
  by_cases h : n < 0
  · have e : itoa n = 45 :: decDigits n.natAbs := by rw [itoa, if_pos h]
    have hd : decL (itoa n) = true := by
      rw [decL, e, strip_neg, digs_digs]
      have := digs_not0 (u := n.natAbs) (by omega)
      simp [this]
    rw [intR, hd, if_neg (by decide), e, strip_neg, (digs_of _).2.1]
    rw [if_pos (by rfl), if_neg (by omega)]
    have : -(n.natAbs : Int) = n := by omega
    rw [this]
  · have e : itoa n = decDigits n.toNat := by rw [itoa, if_neg h]
    have hs := strip_pos (decDigits_head45 n.toNat)
    have hn : negL (decDigits n.toNat) = false := by simp [negL, decDigits_head45]
    have hd : decL (itoa n) = true := by
      rw [decL, e, hs, digs_digs, hn]
      rfl
    rw [intR, hd, if_neg (by decide), e, hs, hn, (digs_of _).2.1, if_neg (by decide), if_neg (by omega)]
    have : (n.toNat : Int) = n := by omega
    rw [this]
theorem digs_one (c : UInt8) (hc : 48 ≤ c.toNat ∧ c.toNat ≤ 57) : decDigits (val 0 [c]) = [c] := by
  have e : val 0 [c] = c.toNat - 48 := by rw [val_cons, val_nil]; omega
  rw [e, decDigits, dif_pos (by omega)]
  have : UInt8.ofNat (48 + (c.toNat - 48)) = c := by
    apply UInt8.toNat_inj.1
    rw [toNat_dig (by omega)]
    omega
  rw [this]
theorem val_pos {d : (List UInt8)} (hne : d ≠ []) (hd : d.all isDig = true) (h48 : d.head? ≠ some 48) : 1 ≤ val 0 d := by
  cases d with
  | nil => exact absurd rfl hne
  | cons b r =>
    simp only [List.all_cons, Bool.and_eq_true, isDig, decide_eq_true_eq] at hd
    have hb : b.toNat ≠ 48 := fun e => h48 (by rw [List.head?_cons]; congr 1; exact UInt8.toNat_inj.1 e)
    have := val_ge r (0 * 10 + (b.toNat - 48))
    rw [val_cons]
    omega
theorem digs_more {d : (List UInt8)} {c : UInt8} (hp : 1 ≤ val 0 d) (hc : 48 ≤ c.toNat ∧ c.toNat ≤ 57) (ih : decDigits (val 0 d) = d) : decDigits (val 0 (d ++ [c])) = d ++ [c] := by
  rw [val_snoc]
  generalize hv : val 0 d = v at hp ih ⊢
  have e1 : (v * 10 + (c.toNat - 48)) / 10 = v := by omega
  have e2 : 48 + (v * 10 + (c.toNat - 48)) % 10 = 48 + (c.toNat - 48) := by omega
  have e3 : UInt8.ofNat (48 + (c.toNat - 48)) = c := by
    apply UInt8.toNat_inj.1
    rw [toNat_dig (by omega)]
    omega
  rw [decDigits, dif_neg (by omega), e1, e2, e3, ih]
theorem all_snoc {d : (List UInt8)} {c : UInt8} (h : (d ++ [c]).all isDig = true) : d.all isDig = true ∧ 48 ≤ c.toNat ∧ c.toNat ≤ 57 := by
  rw [List.all_append, Bool.and_eq_true] at h
  refine ⟨h.1, ?_⟩
  have := h.2
  simp only [List.all_cons, List.all_nil, Bool.and_true, isDig, Bool.and_eq_true, decide_eq_true_eq] at this
  exact this
theorem snoc_of {d : (List UInt8)} (h : d ≠ []) : ∃ d' c, d = d' ++ [c] := ⟨d.dropLast, d.getLast h, (List.dropLast_concat_getLast h).symm⟩
theorem digs_snoc (k : Nat) : ∀ d : (List UInt8), d.length = k + 1 → d.all isDig = true → (d.head? ≠ some 48 ∨ d.length = 1) → decDigits (val 0 d) = d := by
  induction k with
  | zero =>
    intro d hk hd _
    obtain ⟨d', c, rfl⟩ := snoc_of (d := d) (by rintro rfl; simp at hk)
    have : d' = [] := by simpa using hk
    subst this
    exact digs_one c (all_snoc hd).2
  | succ k ih =>
    intro d hk hd hh
    obtain ⟨d', c, rfl⟩ := snoc_of (d := d) (by rintro rfl; simp at hk)
    have hl : d'.length = k + 1 := by simpa using hk
    have hne' : d' ≠ [] := by rintro rfl; simp at hl
    have h48 : d'.head? ≠ some 48 := by
      rcases hh with hh | hh
      · rwa [head_app hne'] at hh
      · rw [List.length_append, hl] at hh; simp at hh
    have hd' := all_snoc hd
    exact digs_more (val_pos hne' hd'.1 h48) hd'.2 (ih d' hl hd'.1 (.inl h48))
/-- What Int accepts is the decimal form of its result. -/
theorem itoa_of_int {l : (List UInt8)} {n : Int} (h : intR l = (n, 0)) : itoa n = l := by
  unfold intR at h
  split at h
  · simp at h
  · rename_i hd
    have hd' : decL l = true := by simpa using hd
    unfold decL digsL at hd'
    simp only [Bool.and_eq_true, Bool.or_eq_true, decide_eq_true_eq, Bool.not_eq_true', Bool.and_eq_false_iff, decide_eq_false_iff_not] at hd'
    obtain ⟨⟨d1, d2, d3⟩, d4⟩ := hd'
    have hs : decDigits (val 0 (strip l)) = strip l := digs_snoc ((strip l).length - 1) _ (by omega) d1 d3
    split at h
    · rename_i hn
      split at h
      · simp at h
      · simp only [Prod.mk.injEq, and_true] at h
        obtain ⟨r, rfl⟩ : ∃ r, l = 45 :: r := by
          cases l with
          | nil => simp [negL] at hn
          | cons b r => simp [negL] at hn; exact ⟨r, by rw [hn]⟩
        rw [strip_neg] at hs h d4
        have hv : val 0 r ≠ 0 := by
          intro e
          rw [e, decDigits, dif_pos (by decide)] at hs
          rcases d4 with d4 | d4
          · rw [hn] at d4; cases d4
          · exact d4 hs.symm
        have e : n.natAbs = val 0 r := by omega
        rw [itoa, if_pos (by omega), e, hs]
    · rename_i hn
      split at h
      · simp at h
      · simp only [Prod.mk.injEq, and_true] at h
        have hh : l.head? ≠ some 45 := by simpa [negL] using hn
        rw [strip_pos hh] at hs h
        have e : n.toNat = val 0 l := by omega
        rw [itoa, if_neg (by omega), e, hs]

/-! Names. -/
def isLet (b : UInt8) : Bool := decide (97 ≤ b.toNat) && decide (b.toNat ≤ 122)
def inName (b : UInt8) : Bool := isLet b || isDig b || decide (b.toNat = 95)
def nameL (l : (List UInt8)) : Bool := decide (l ≠ []) && decide (l.length ≤ 12) && (match l with | [] => false | b :: _ => isLet b) && l.all inName

/-! Lists of numbers. -/
def seqI (acc : List Int) : List (List UInt8) → List Int × Nat
  | [] => (acc, 0)
  | p :: ps => if (intR p).2 ≠ 0 then ([], (intR p).2) else seqI (acc ++ [(intR p).1]) ps
def listR (s : (List UInt8)) : List Int × Nat := if s = [45] then ([], 0) else seqI [] (parts 44 [] s)
def fmtL (l : List Int) : (List UInt8) := if l = [] then [45] else Lib.join (l.map itoa) [44]

theorem seqI_bad {acc : List Int} {p : (List UInt8)} {ps : List (List UInt8)} {n : Int} {e : Nat} (h : intR p = (n, e)) (he : e ≠ 0) : seqI acc (p :: ps) = ([], e) := by rw [seqI, h, if_pos he]
theorem seqI_more {acc : List Int} {p : (List UInt8)} {ps : List (List UInt8)} {n : Int} (h : intR p = (n, 0)) : seqI acc (p :: ps) = seqI (acc ++ [n]) ps := by rw [seqI, h, if_neg (by simp)]
theorem seqI_itoa : ∀ (l acc : List Int), (∀ n ∈ l, -9223372036854775808 ≤ n ∧ n ≤ 9223372036854775807) → seqI acc (l.map itoa) = (acc ++ l, 0)
  | [], acc, _ => by simp [seqI]
  | n :: l, acc, h => by
    have hn := h n (by simp)
    rw [List.map_cons, seqI_more (int_of_itoa hn.1 hn.2), seqI_itoa l _ (fun m hm => h m (by simp [hm]))]
    simp
theorem itoa_of_seqI : ∀ (ps : List (List UInt8)) (acc l : List Int), seqI acc ps = (l, 0) → ∃ k, l = acc ++ k ∧ k.map itoa = ps
  | [], acc, l, h => by
    simp only [seqI, Prod.mk.injEq, and_true] at h
    exact ⟨[], by simp [h], rfl⟩
  | p :: ps, acc, l, h => by
    obtain ⟨⟨n, e⟩, hp⟩ : ∃ r, intR p = r := ⟨_, rfl⟩
    by_cases he : e = 0
    · subst he
      rw [seqI_more hp] at h
      obtain ⟨k, rfl, hk⟩ := itoa_of_seqI ps _ _ h
      exact ⟨n :: k, by simp, by rw [List.map_cons, hk, itoa_of_int hp]⟩
    · rw [seqI_bad hp he] at h
      simp only [Prod.mk.injEq] at h
      exact absurd h.2 he
theorem itoa_no44 (n : Int) : (44 : UInt8) ∉ itoa n := by
  have hd : ∀ u, (44 : UInt8) ∉ decDigits u := by
    intro u hm
    have := List.all_eq_true.1 (digs_of u).1 _ hm
    exact absurd this (by decide)
  unfold itoa
  split
  · intro hm
    rcases List.mem_cons.1 hm with hm | hm
    · cases hm
    · exact hd _ hm
  · exact hd _
/-- Lists are restored from their text. -/
theorem list_of_fmt {l : List Int} (h : ∀ n ∈ l, -9223372036854775808 ≤ n ∧ n ≤ 9223372036854775807) : listR (fmtL l) = (l, 0) := by
  cases l with
  | nil => rfl
  | cons n l =>
    have hp : parts 44 [] (fmtL (n :: l)) = (n :: l).map itoa := by
      unfold fmtL
      rw [if_neg (by simp), List.map_cons]
      apply parts_of_join
      intro q hq
      rw [← List.map_cons] at hq
      obtain ⟨m, _, rfl⟩ := List.mem_map.1 hq
      exact itoa_no44 m
    have hne : fmtL (n :: l) ≠ [45] := by
      intro e
      rw [e] at hp
      have hn := h n (by simp)
      have : itoa n = [45] := by
        rw [List.map_cons] at hp
        have h2 : parts 44 [] [45] = [[45]] := rfl
        rw [h2] at hp
        exact (List.cons.inj hp).1.symm
      have h3 := int_of_itoa hn.1 hn.2
      rw [this] at h3
      have h4 : (intR [45]).2 = 4 := by decide
      rw [h3] at h4
      cases h4
    unfold listR
    rw [if_neg hne, hp, seqI_itoa _ _ h]
    rfl
/-- What List accepts is the form of its result. -/
theorem fmt_of_list {s : (List UInt8)} {l : List Int} (h : listR s = (l, 0)) : fmtL l = s := by
  unfold listR at h
  split at h
  · rename_i hs
    simp only [Prod.mk.injEq, and_true] at h
    rw [hs, ← h]
    rfl
  · obtain ⟨k, hl, hk⟩ := itoa_of_seqI _ _ _ h
    rw [List.nil_append] at hl
    subst hl
    unfold fmtL
    have hne : l ≠ [] := by
      rintro rfl
      exact parts_ne 44 s [] hk.symm
    rw [if_neg hne, hk, parts_join]
    rfl

end Go.Proofs.YtkoldgammeojkaaDoor.Numt
