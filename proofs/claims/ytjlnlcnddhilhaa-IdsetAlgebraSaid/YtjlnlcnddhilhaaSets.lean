/- Sets of ints as ascending lists: the plain mathematics, of no program. -/
import Derived.Lib.SlicesCompact
namespace Go.Proofs.Ytjlnlcnddhilhaa.Sets

/-- A set: each number is less than the next one. -/
def Asc (xs : List Int) : Prop := xs.Pairwise (· < ·)

theorem asc_nil : Asc [] := List.Pairwise.nil
theorem Asc.tail {x : Int} {xs : List Int} (h : Asc (x :: xs)) : Asc xs := (List.pairwise_cons.1 h).2
theorem Asc.head {x : Int} {xs : List Int} (h : Asc (x :: xs)) : ∀ n ∈ xs, x < n := (List.pairwise_cons.1 h).1
theorem Asc.cons {x : Int} {xs : List Int} (h : Asc xs) (hx : ∀ n ∈ xs, x < n) : Asc (x :: xs) := List.pairwise_cons.2 ⟨hx, h⟩
theorem Asc.filter {xs : List Int} (h : Asc xs) (p : Int → Bool) : Asc (xs.filter p) := List.Pairwise.filter p h

/-- A set is known by its elements. -/
theorem asc_ext : ∀ {xs ys : List Int}, Asc xs → Asc ys → (∀ n, n ∈ xs ↔ n ∈ ys) → xs = ys
  | [], [], _, _, _ => rfl
  | [], y :: ys, _, _, h => absurd ((h y).2 (by simp)) (by simp)
  | x :: xs, [], _, _, h => absurd ((h x).1 (by simp)) (by simp)
  | x :: xs, y :: ys, hx, hy, h => by
    have e : x = y := by
      have h1 := (h x).1 (by simp)
      have h2 := (h y).2 (by simp)
      simp only [List.mem_cons] at h1 h2
      rcases h1 with h1 | h1
      · exact h1
      · rcases h2 with h2 | h2
        · exact h2.symm
        · have := hy.head _ h1
          have := hx.head _ h2
          omega
    subst e
    congr 1
    refine asc_ext hx.tail hy.tail fun n => ⟨fun hn => ?_, fun hn => ?_⟩
    · have := (h n).1 (List.mem_cons_of_mem _ hn)
      rcases List.mem_cons.1 this with rfl | h2
      · exact absurd (hx.head _ hn) (by omega)
      · exact h2
    · have := (h n).2 (List.mem_cons_of_mem _ hn)
      rcases List.mem_cons.1 this with rfl | h2
      · exact absurd (hy.head _ hn) (by omega)
      · exact h2

/-- A set with a further element. -/
def ins (x : Int) (s : List Int) : List Int := s.filter (fun n => decide (n < x)) ++ x :: s.filter (fun n => decide (x < n))
/-- The set of a list's elements. -/
def sset (l : List Int) : List Int := l.foldr ins []

theorem mem_ins {x n : Int} {s : List Int} : n ∈ ins x s ↔ n = x ∨ n ∈ s := by
  unfold ins
  simp only [List.mem_append, List.mem_cons, List.mem_filter, decide_eq_true_eq]
  constructor
  · rintro (h | h | h)
    · exact .inr h.1
    · exact .inl h
    · exact .inr h.1
  · rintro (h | h)
    · exact .inr (.inl h)
    · rcases Int.lt_trichotomy n x with h1 | h1 | h1
      · exact .inl ⟨h, h1⟩
      · exact .inr (.inl h1)
      · exact .inr (.inr ⟨h, h1⟩)
theorem asc_ins {x : Int} {s : List Int} (h : Asc s) : Asc (ins x s) := by
  unfold ins Asc
  rw [List.pairwise_append]
  refine ⟨h.filter _, Asc.cons (h.filter _) (fun n hn => by simpa using (List.mem_filter.1 hn).2), fun a ha b hb => ?_⟩
  have h1 : a < x := by simpa using (List.mem_filter.1 ha).2
  rcases List.mem_cons.1 hb with rfl | hb
  · exact h1
  · have : x < b := by simpa using (List.mem_filter.1 hb).2
    omega
theorem ins_len (x : Int) (s : List Int) : (ins x s).length ≤ s.length + 1 := by
  unfold ins
  have : (s.filter (fun n => decide (n < x))).length + (s.filter (fun n => decide (x < n))).length ≤ s.length := by
    induction s with
    | nil => simp
    | cons a s ih =>
      simp only [List.filter_cons]
      rcases Int.lt_trichotomy a x with h | h | h
      · rw [if_pos (by simpa using h), if_neg (by simp; omega)]; simp; omega
      · rw [if_neg (by simp; omega), if_neg (by simp; omega)]; simp; omega
      · rw [if_neg (by simp; omega), if_pos (by simpa using h)]; simp; omega
  simp; omega
theorem ins_of_mem {x : Int} {s : List Int} (h : Asc s) (hx : x ∈ s) : ins x s = s :=
  asc_ext (asc_ins h) h fun n => by rw [mem_ins]; exact ⟨fun h => h.elim (fun e => e ▸ hx) id, .inr⟩

theorem mem_sset {n : Int} : ∀ {l : List Int}, n ∈ sset l ↔ n ∈ l
  | [] => Iff.rfl
  | _ :: _ => by rw [sset, List.foldr_cons, mem_ins, ← sset, mem_sset, List.mem_cons]
theorem asc_sset : ∀ l : List Int, Asc (sset l)
  | [] => asc_nil
  | _ :: l => asc_ins (asc_sset l)
theorem sset_len : ∀ l : List Int, (sset l).length ≤ l.length
  | [] => Nat.le_refl _
  | x :: l => by
    have := ins_len x (sset l)
    have := sset_len l
    show (ins x (sset l)).length ≤ _
    simp; omega
theorem sset_eq {xs l : List Int} (h : Asc xs) (hm : ∀ n, n ∈ xs ↔ n ∈ l) : xs = sset l :=
  asc_ext h (asc_sset l) fun n => (hm n).trans mem_sset.symm
theorem sset_self {xs : List Int} (h : Asc xs) : sset xs = xs := (sset_eq h fun _ => Iff.rfl).symm
theorem sset_snoc (l : List Int) (x : Int) : sset (l ++ [x]) = ins x (sset l) :=
  (sset_eq (asc_ins (asc_sset l)) fun n => by rw [mem_ins, mem_sset, List.mem_append, List.mem_singleton]; exact Or.comm).symm

/-! The three combinations. -/
def unionV (a b : List Int) : List Int := sset (a ++ b)
def commonV (a b : List Int) : List Int := sset (a.filter fun n => decide (n ∈ b))
def minusV (a b : List Int) : List Int := sset (a.filter fun n => !decide (n ∈ b))

theorem mem_unionV {a b : List Int} {n : Int} : n ∈ unionV a b ↔ n ∈ a ∨ n ∈ b := by unfold unionV; rw [mem_sset, List.mem_append]
theorem mem_commonV {a b : List Int} {n : Int} : n ∈ commonV a b ↔ n ∈ a ∧ n ∈ b := by unfold commonV; rw [mem_sset, List.mem_filter]; simp
theorem mem_minusV {a b : List Int} {n : Int} : n ∈ minusV a b ↔ n ∈ a ∧ n ∉ b := by unfold minusV; rw [mem_sset, List.mem_filter]; simp
theorem asc_unionV (a b : List Int) : Asc (unionV a b) := asc_sset _
theorem asc_commonV (a b : List Int) : Asc (commonV a b) := asc_sset _
theorem asc_minusV (a b : List Int) : Asc (minusV a b) := asc_sset _
theorem unionV_len (a b : List Int) : (unionV a b).length ≤ a.length + b.length := by have := sset_len (a ++ b); simpa [unionV] using this
theorem commonV_len (a b : List Int) : (commonV a b).length ≤ a.length := Nat.le_trans (sset_len _) (List.length_filter_le _ _)
theorem minusV_len (a b : List Int) : (minusV a b).length ≤ a.length := Nat.le_trans (sset_len _) (List.length_filter_le _ _)
theorem minusV_nil {a b : List Int} : (minusV a b).length = 0 ↔ ∀ n ∈ a, n ∈ b := by
  rw [List.length_eq_zero_iff]
  constructor
  · intro h n hn
    by_cases hb : n ∈ b
    · exact hb
    · exact absurd (mem_minusV.2 ⟨hn, hb⟩) (by rw [h]; simp)
  · intro h
    refine asc_ext (asc_minusV _ _) asc_nil fun n => ?_
    rw [mem_minusV]
    exact ⟨fun ⟨h1, h2⟩ => absurd (h n h1) h2, fun h => by simp at h⟩

theorem part_len (u : List Int) (p : Int → Bool) : (u.filter p).length + (u.filter fun n => !p n).length = u.length := by
  induction u with
  | nil => rfl
  | cons a u ih =>
    simp only [List.filter_cons]
    by_cases h : p a <;> simp [h] <;> omega
theorem union_count (a b : List Int) : (unionV a b).length = (minusV a b).length + (sset b).length := by
  rw [← part_len (unionV a b) (fun n => decide (n ∈ b)), Nat.add_comm]
  congr 2
  · refine asc_ext ((asc_unionV a b).filter _) (asc_minusV _ _) fun n => ?_
    rw [List.mem_filter, mem_unionV, mem_minusV]
    by_cases h : n ∈ b <;> simp [h]
  · refine asc_ext ((asc_unionV a b).filter _) (asc_sset _) fun n => ?_
    rw [List.mem_filter, mem_unionV, mem_sset]
    by_cases h : n ∈ b <;> simp [h]
theorem common_count (a b : List Int) : (commonV a b).length + (minusV a b).length = (sset a).length := by
  rw [← part_len (sset a) (fun n => decide (n ∈ b))]
  congr 2
  · refine asc_ext (asc_commonV _ _) ((asc_sset a).filter _) fun n => ?_
    rw [List.mem_filter, mem_commonV, mem_sset]
    by_cases h : n ∈ b <;> simp [h]
  · refine asc_ext (asc_minusV _ _) ((asc_sset a).filter _) fun n => ?_
    rw [List.mem_filter, mem_minusV, mem_sset]
    by_cases h : n ∈ b <;> simp [h]

/-! The algebra. -/
theorem unionV_comm (a b : List Int) : unionV a b = unionV b a := asc_ext (asc_unionV _ _) (asc_unionV _ _) fun n => by rw [mem_unionV, mem_unionV]; exact Or.comm
theorem commonV_comm (a b : List Int) : commonV a b = commonV b a := asc_ext (asc_commonV _ _) (asc_commonV _ _) fun n => by rw [mem_commonV, mem_commonV]; exact And.comm
theorem commonV_unionV (a b c : List Int) : commonV a (unionV b c) = unionV (commonV a b) (commonV a c) :=
  asc_ext (asc_commonV _ _) (asc_unionV _ _) fun n => by rw [mem_commonV, mem_unionV, mem_unionV, mem_commonV, mem_commonV]; exact and_or_left
theorem minusV_unionV (a b c : List Int) : minusV a (unionV b c) = minusV (minusV a b) c :=
  asc_ext (asc_minusV _ _) (asc_minusV _ _) fun n => by rw [mem_minusV, mem_unionV, mem_minusV, mem_minusV, not_or, and_assoc]
theorem unionV_parts (a b : List Int) : unionV (minusV a b) (commonV a b) = sset a :=
  asc_ext (asc_unionV _ _) (asc_sset _) fun n => by
    rw [mem_unionV, mem_minusV, mem_commonV, mem_sset]
    by_cases h : n ∈ b <;> simp [h]

/-! Sorting and compacting. -/
theorem compact_mem_asc (zs : List Int) (h : zs.Pairwise (· ≤ ·)) : Asc (Lib.compact zs) ∧ ∀ n, n ∈ Lib.compact zs ↔ n ∈ zs := by
  have key : ∀ m, m ≤ zs.length → Asc (Lib.compactUpTo zs.toArray m) ∧ (∀ n, n ∈ Lib.compactUpTo zs.toArray m ↔ n ∈ zs.take m) := by
    intro m
    induction m with
    | zero => exact fun _ => ⟨by simp [Lib.compactUpTo, Asc], fun n => by simp [Lib.compactUpTo]⟩
    | succ m ih =>
      intro hm
      obtain ⟨ih1, ih2⟩ := ih (by omega)
      have hm' : m < zs.length := by omega
      have e1 : zs.toArray[m]! = zs[m] := by simp [hm']
      have e2 : zs.take (m + 1) = zs.take m ++ [zs[m]] := by rw [List.take_succ_eq_append_getElem hm']
      have le : ∀ n ∈ zs.take m, n ≤ zs[m] := by
        intro n hn
        obtain ⟨i, hi, rfl⟩ := List.getElem_of_mem hn
        simp at hi
        rw [List.getElem_take]
        exact List.pairwise_iff_getElem.1 h i m (by omega) hm' (by omega)
      rw [Lib.compactUpTo_succ]
      by_cases hk : Lib.keeps zs.toArray m = true
      · rw [if_pos hk, e1]
        have lt : ∀ n ∈ Lib.compactUpTo zs.toArray m, n < zs[m] := by
          intro n hn
          have hn' := (ih2 n).1 hn
          have h1 := le n hn'
          have : n ≠ zs[m] := by
            intro e
            unfold Lib.keeps at hk
            simp only [decide_eq_true_eq] at hk
            rcases hk with hk | hk
            · subst hk; simp at hn'
            · apply hk
              obtain ⟨i, hi, hx⟩ := List.getElem_of_mem hn'
              simp at hi
              rw [List.getElem_take] at hx
              have h0 : 0 < m := by omega
              have h2 : m - 1 < zs.length := by omega
              have e3 : zs.toArray[m - 1]! = zs[m - 1] := by simp [h2]
              rw [e1, e3]
              have h3 : zs[i] ≤ zs[m - 1] := by
                by_cases hi' : i = m - 1
                · subst hi'; omega
                · exact List.pairwise_iff_getElem.1 h i (m - 1) (by omega) h2 (by omega)
              have h4 : zs[m - 1] ≤ zs[m] := List.pairwise_iff_getElem.1 h (m - 1) m h2 hm' (by omega)
              omega
          omega
        refine ⟨?_, fun n => ?_⟩
        · unfold Asc
          rw [List.pairwise_append]
          exact ⟨ih1, by simp, fun a ha b hb => by simp at hb; subst hb; exact lt a ha⟩
        · rw [e2, List.mem_append, List.mem_append, ih2]
      · rw [if_neg hk]
        refine ⟨by simpa using ih1, fun n => ?_⟩
        rw [List.append_nil, ih2, e2, List.mem_append, List.mem_singleton]
        refine ⟨.inl, fun h' => h'.elim id fun e => ?_⟩
        unfold Lib.keeps at hk
        simp only [decide_eq_true_eq, not_or, Decidable.not_not] at hk
        have h0 : 0 < m := by omega
        have h2 : m - 1 < zs.length := by omega
        have e3 : zs.toArray[m - 1]! = zs[m - 1] := by simp [h2]
        rw [e1, e3] at hk
        rw [e, hk.2]
        rw [List.mem_take_iff_getElem]
        exact ⟨m - 1, by omega, rfl⟩
  have := key zs.length (Nat.le_refl _)
  rw [List.take_of_length_le (Nat.le_refl _)] at this
  exact this
theorem compact_sort (zs : List Int) : Lib.compact (zs.mergeSort fun x y => decide (x ≤ y)) = sset zs := by
  have hs : (zs.mergeSort fun x y => decide (x ≤ y)).Pairwise (· ≤ ·) := by
    have := List.pairwise_mergeSort (le := fun x y : Int => decide (x ≤ y)) (fun a b c h1 h2 => by simp at *; omega) (fun a b => by simp; omega) zs
    exact this.imp (fun h => by simpa using h)
  obtain ⟨h1, h2⟩ := compact_mem_asc _ hs
  exact sset_eq h1 fun n => by rw [h2, List.mem_mergeSort]

/-! Merging two sets: an element is kept as 'kp' says by where it occurs. -/
def keepIf (c : Bool) (x : Int) (xs : List Int) : List Int := if c then x :: xs else xs
def mrg (kp : Bool → Bool → Bool) : List Int → List Int → List Int
  | [], [] => []
  | a :: as, [] => keepIf (kp true false) a (mrg kp as [])
  | [], b :: bs => keepIf (kp false true) b (mrg kp [] bs)
  | a :: as, b :: bs => if a < b then keepIf (kp true false) a (mrg kp as (b :: bs)) else if b < a then keepIf (kp false true) b (mrg kp (a :: as) bs) else keepIf (kp true true) a (mrg kp as bs)
termination_by as bs => as.length + bs.length
decreasing_by all_goals simp_wf <;> omega

theorem mem_keepIf {c : Bool} {x n : Int} {xs : List Int} : n ∈ keepIf c x xs ↔ (c = true ∧ n = x) ∨ n ∈ xs := by
  unfold keepIf; cases c <;> simp
theorem asc_keepIf {c : Bool} {x : Int} {xs : List Int} (h : Asc xs) (hx : ∀ n ∈ xs, x < n) : Asc (keepIf c x xs) := by
  unfold keepIf; cases c
  · exact h
  · exact h.cons hx

theorem mrg_ok (kp : Bool → Bool → Bool) : ∀ as bs : List Int, Asc as → Asc bs →
    Asc (mrg kp as bs) ∧ ∀ n, n ∈ mrg kp as bs ↔ (n ∈ as ∨ n ∈ bs) ∧ kp (decide (n ∈ as)) (decide (n ∈ bs)) = true := by
  intro as bs
  induction as, bs using mrg.induct with
  | case1 => intro _ _; rw [mrg]; exact ⟨asc_nil, fun n => by simp⟩
  | case2 a as ih =>
    intro ha hb
    obtain ⟨h1, h2⟩ := ih ha.tail hb
    have lt := ha.head
    rw [mrg]
    refine ⟨asc_keepIf h1 fun n hn => lt n (by have := ((h2 n).1 hn).1; simpa using this), fun n => ?_⟩
    rw [mem_keepIf, h2]
    by_cases e : n = a
    · subst e
      have : n ∉ as := fun h => absurd (lt n h) (by omega)
      simp [this]
    · simp [e]
  | case3 b bs ih =>
    intro ha hb
    obtain ⟨h1, h2⟩ := ih ha hb.tail
    have lt := hb.head
    rw [mrg]
    refine ⟨asc_keepIf h1 fun n hn => lt n (by have := ((h2 n).1 hn).1; simpa using this), fun n => ?_⟩
    rw [mem_keepIf, h2]
    by_cases e : n = b
    · subst e
      have : n ∉ bs := fun h => absurd (lt n h) (by omega)
      simp [this]
    · simp [e]
  | case4 a as b bs hab ih =>
    intro ha hb
    obtain ⟨h1, h2⟩ := ih ha.tail hb
    have lt := ha.head
    have ltb := hb.head
    rw [mrg, if_pos hab]
    refine ⟨asc_keepIf h1 fun n hn => ?_, fun n => ?_⟩
    · rcases ((h2 n).1 hn).1 with h | h
      · exact lt n h
      · rcases List.mem_cons.1 h with rfl | h
        · exact hab
        · have := ltb n h; omega
    · rw [mem_keepIf, h2]
      by_cases e : n = a
      · subst e
        have n1 : n ∉ as := fun h => absurd (lt n h) (by omega)
        have n2 : n ∉ b :: bs := fun h => by
          rcases List.mem_cons.1 h with rfl | h
          · omega
          · have := ltb n h; omega
        simp only [n1, n2, List.mem_cons_self, or_self, false_and, or_false, true_and, decide_true, decide_false, and_true]
      · simp only [e, List.mem_cons, false_or, and_false]
  | case5 a as b bs hab hba ih =>
    intro ha hb
    obtain ⟨h1, h2⟩ := ih ha hb.tail
    have lt := ha.head
    have ltb := hb.head
    rw [mrg, if_neg hab, if_pos hba]
    refine ⟨asc_keepIf h1 fun n hn => ?_, fun n => ?_⟩
    · rcases ((h2 n).1 hn).1 with h | h
      · rcases List.mem_cons.1 h with rfl | h
        · exact hba
        · have := lt n h; omega
      · exact ltb n h
    · rw [mem_keepIf, h2]
      by_cases e : n = b
      · subst e
        have n1 : n ∉ bs := fun h => absurd (ltb n h) (by omega)
        have n2 : n ∉ a :: as := fun h => by
          rcases List.mem_cons.1 h with rfl | h
          · omega
          · have := lt n h; omega
        simp only [n1, n2, List.mem_cons_self, or_true, or_self, false_and, or_false, true_and, decide_true, decide_false, and_true]
      · simp only [e, List.mem_cons, false_or, and_false]
  | case6 a as b bs hab hba ih =>
    intro ha hb
    obtain rfl : a = b := by omega
    obtain ⟨h1, h2⟩ := ih ha.tail hb.tail
    have lt := ha.head
    have ltb := hb.head
    rw [mrg, if_neg hab, if_neg hba]
    refine ⟨asc_keepIf h1 fun n hn => ?_, fun n => ?_⟩
    · rcases ((h2 n).1 hn).1 with h | h
      · exact lt n h
      · exact ltb n h
    · rw [mem_keepIf, h2]
      by_cases e : n = a
      · subst e
        have n1 : n ∉ bs := fun h => absurd (ltb n h) (by omega)
        have n2 : n ∉ as := fun h => absurd (lt n h) (by omega)
        simp [n1, n2]
      · simp [e]

theorem keepIf_len (c : Bool) (x : Int) (xs : List Int) : (keepIf c x xs).length ≤ xs.length + 1 := by
  unfold keepIf; cases c <;> simp

theorem mrg_or (as bs : List Int) (ha : Asc as) (hb : Asc bs) : mrg (fun x y => x || y) as bs = unionV as bs := by
  obtain ⟨h1, h2⟩ := mrg_ok (fun x y => x || y) as bs ha hb
  exact asc_ext h1 (asc_unionV _ _) fun n => by rw [h2, mem_unionV]; simp
theorem mrg_and (as bs : List Int) (ha : Asc as) (hb : Asc bs) : mrg (fun x y => x && y) as bs = commonV as bs := by
  obtain ⟨h1, h2⟩ := mrg_ok (fun x y => x && y) as bs ha hb
  exact asc_ext h1 (asc_commonV _ _) fun n => by rw [h2, mem_commonV]; simp; exact fun h _ => .inl h
theorem mrg_less (as bs : List Int) (ha : Asc as) (hb : Asc bs) : mrg (fun x y => x && !y) as bs = minusV as bs := by
  obtain ⟨h1, h2⟩ := mrg_ok (fun x y => x && !y) as bs ha hb
  exact asc_ext h1 (asc_minusV _ _) fun n => by rw [h2, mem_minusV]; simp; exact fun h _ => .inl h
theorem unionV_sset (a b : List Int) : unionV (sset a) (sset b) = unionV a b := asc_ext (asc_unionV _ _) (asc_unionV _ _) fun n => by rw [mem_unionV, mem_unionV, mem_sset, mem_sset]
theorem commonV_sset (a b : List Int) : commonV (sset a) (sset b) = commonV a b := asc_ext (asc_commonV _ _) (asc_commonV _ _) fun n => by rw [mem_commonV, mem_commonV, mem_sset, mem_sset]
theorem minusV_sset (a b : List Int) : minusV (sset a) (sset b) = minusV a b := asc_ext (asc_minusV _ _) (asc_minusV _ _) fun n => by rw [mem_minusV, mem_minusV, mem_sset, mem_sset]

end Go.Proofs.Ytjlnlcnddhilhaa.Sets
