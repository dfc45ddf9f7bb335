/- What ProfileCuts says, plain: a profile, cut in two and joined. -/
import Derived.Test.YtkoldgammeojkaaPjo
namespace Go.Proofs.Ytkoldgammeojkaa.Ctp
open Go.RowKit Go.Lib Go.Proofs.Ytkoldgammeojkaa.Lay Go.Proofs.Ytkoldgammeojkaa.Segs Go.Proofs.Ytkoldgammeojkaa.Pjo

theorem ok_lt {s : Sg} (h : okS s = true) : s.1 < s.2.1 := by
  simp only [okS, decide_eq_true_eq] at h
  exact h.1
theorem link_same {q q' : Sg} (h : q.2.1 = q'.2.1) (r : List Sg) : linkR (some q) r = linkR (some q') r := by
  cases r with
  | nil => rfl
  | cons s r => simp only [linkR, goesOn, h]
theorem link_append : ∀ (l r : List Sg) (q : Option Sg), linkR q (l ++ r) = (linkR q l && linkR (l.getLast?.or q) r)
  | [], r, q => by simp [linkR]
  | s :: l, r, q => by
    rw [List.cons_append, linkR, linkR, link_append l r (some s), List.getLast?_cons]
    have e : (l.getLast?.or (some s)) = ((some (l.getLast?.getD s)).or q) := by cases l.getLast? <;> rfl
    rw [e]
    simp only [Bool.and_assoc]
theorem link_lo : ∀ {r : List Sg} {q : Sg}, linkR (some q) r = true → ∀ t ∈ r, q.2.1 ≤ t.1
  | [], _, _, t, ht => by cases ht
  | s :: r, q, h, t, ht => by
    simp only [linkR, goesOn, Bool.and_eq_true, decide_eq_true_eq] at h
    obtain ⟨h1, h2, h3⟩ := h
    rcases List.mem_cons.1 ht with rfl | ht
    · omega
    · have := link_lo h3 t ht
      have := ok_lt h1
      omega
theorem link_hi : ∀ {l : List Sg} {q : Option Sg} {s : Sg} {r : List Sg}, linkR q (l ++ s :: r) = true → ∀ t ∈ l, t.2.1 ≤ s.1
  | [], _, _, _, _, t, ht => by cases ht
  | t0 :: l, q, s, r, h, t, ht => by
    rw [List.cons_append] at h
    simp only [linkR, Bool.and_eq_true] at h
    rcases List.mem_cons.1 ht with rfl | ht
    · exact link_lo h.2.2 s (by simp)
    · exact link_hi h.2.2 t ht
theorem link_ok : ∀ {p : List Sg} {q : Option Sg}, linkR q p = true → ∀ x ∈ p, okS x = true
  | [], _, _, x, hx => by cases hx
  | s :: r, q, h, x, hx => by
    simp only [linkR, Bool.and_eq_true] at h
    rcases List.mem_cons.1 hx with rfl | hx
    · exact h.1
    · exact link_ok h.2.2 x hx
theorem find_seg {x : Int} : ∀ {p : List Sg} {q : Option Sg} {s0 : Sg}, linkR q p = true → p.head? = some s0 → s0.1 ≤ x → (∀ s, p.getLast? = some s → x < s.2.1) → ∃ l s r, p = l ++ s :: r ∧ s.1 ≤ x ∧ x < s.2.1
  | [], _, _, _, h, _, _ => by cases h
  | s :: r, q, s0, hl, h, h0, hx => by
    simp only [List.head?_cons, Option.some.injEq] at h
    subst h
    by_cases hs : x < s.2.1
    · exact ⟨[], s, r, rfl, h0, hs⟩
    · simp only [linkR, Bool.and_eq_true] at hl
      rcases r with _ | ⟨s1, r⟩
      · exact absurd (hx s rfl) hs
      · have h1 := hl.2.2
        simp only [linkR, goesOn, Bool.and_eq_true, decide_eq_true_eq] at h1
        obtain ⟨l, u, v, e, e1, e2⟩ := find_seg (p := s1 :: r) hl.2.2 rfl (by omega) (fun u hu => hx u (by rw [List.getLast?_cons_cons]; exact hu))
        exact ⟨s :: l, u, v, by rw [e]; rfl, e1, e2⟩

/-- What is cut out of a piece. -/
def cutP (f t : Int) (l : List Sg) : List Sg := (l.filter (overB f t)).map (partF f t)
theorem cut_valid {p : List Sg} (h : validF p = true) (f t : Int) : cutF p f t = cutP f t p := by rw [cutF, thoseF, if_pos h]; rfl
theorem cutP_append (f t : Int) (l r : List Sg) : cutP f t (l ++ r) = cutP f t l ++ cutP f t r := by rw [cutP, List.filter_append, List.map_append]; rfl
theorem cutP_none {f t : Int} {l : List Sg} (h : ∀ s ∈ l, s.2.1 ≤ f ∨ t ≤ s.1) : cutP f t l = [] := by
  rw [cutP, List.filter_eq_nil_iff.2, List.map_nil]
  intro s hs
  have := h s hs
  have hn : ¬ ((partF f t s).1 < (partF f t s).2.1) := by
    simp only [partF]
    omega
  simpa [overB, longB] using hn
theorem part_whole {f t : Int} {s : Sg} (h1 : f ≤ s.1) (h2 : s.2.1 ≤ t) : partF f t s = s := by
  simp only [partF]
  rw [show max s.1 f = s.1 by omega, show min s.2.1 t = s.2.1 by omega]
theorem cutP_whole {f t : Int} : ∀ {l : List Sg}, (∀ s ∈ l, f ≤ s.1 ∧ s.2.1 ≤ t ∧ s.1 < s.2.1) → cutP f t l = l
  | [], _ => rfl
  | s :: l, h => by
    obtain ⟨h1, h2, h3⟩ := h s (by simp)
    have ih := cutP_whole (fun u hu => h u (List.mem_cons_of_mem _ hu))
    have ho : overB f t s = true := by rw [overB, part_whole h1 h2, longB, decide_eq_true h3]
    rw [cutP, List.filter_cons_of_pos ho, List.map_cons, part_whole h1 h2]
    exact congrArg (s :: ·) ih
theorem cutP_one {f t : Int} {s : Sg} (h : overB f t s = true) : cutP f t [s] = [partF f t s] := by simp [cutP, h]

theorem valid_iff {p : List Sg} : validF p = true ↔ p.length ≤ 128 ∧ linkR none p = true := by simp [validF]

/-- The profile has the same gradient and speed at a coordinate. -/
def Same (u v : Sg × Bool) : Prop := u.2 = v.2 ∧ u.1.2.2.1 = v.1.2.2.1 ∧ u.1.2.2.2 = v.1.2.2.2
theorem same_refl (u : Sg × Bool) : Same u u := ⟨rfl, rfl, rfl⟩
theorem head_append (a b : List Sg) : headF (a ++ b) = if a = [] then headF b else headF a := by
  cases a with
  | nil => rfl
  | cons s a => rfl
theorem at_valid {p : List Sg} (h : validF p = true) (y : Int) : atF p y = headF (p.filter (insideB y y)) := by rw [atF, thoseF, if_pos h]
theorem at_split {l r : List Sg} {s : Sg} {x : Int} (h1 : s.1 ≤ x) (h2 : x ≤ s.2.1) (y : Int) :
    Same (headF ((l ++ s :: r).filter (insideB y y))) (headF ((l ++ [(s.1, x, s.2.2.1, s.2.2.2)] ++ ([(x, s.2.1, s.2.2.1, s.2.2.2)] ++ r)).filter (insideB y y))) := by
  rw [List.append_assoc, List.filter_append, List.filter_append, head_append, head_append]
  split
  · rw [List.singleton_append, List.singleton_append]
    by_cases hy : s.1 ≤ y ∧ y < s.2.1
    · have e0 : insideB y y s = true := decide_eq_true hy
      by_cases hx : y < x
      · have e1 : insideB y y (s.1, x, s.2.2.1, s.2.2.2) = true := decide_eq_true ⟨hy.1, hx⟩
        rw [List.filter_cons_of_pos e0, List.filter_cons_of_pos e1]
        exact ⟨rfl, rfl, rfl⟩
      · have e1 : insideB y y (s.1, x, s.2.2.1, s.2.2.2) = false := decide_eq_false (fun h => hx h.2)
        have e2 : insideB y y (x, s.2.1, s.2.2.1, s.2.2.2) = true := decide_eq_true ⟨by omega, hy.2⟩
        rw [List.filter_cons_of_pos e0, List.filter_cons_of_neg (by simp [e1]), List.filter_cons_of_pos e2]
        exact ⟨rfl, rfl, rfl⟩
    · have e0 : insideB y y s = false := decide_eq_false hy
      have e1 : insideB y y (s.1, x, s.2.2.1, s.2.2.2) = false := decide_eq_false (fun h => hy ⟨h.1, by have := h.2; simp only at this; omega⟩)
      have e2 : insideB y y (x, s.2.1, s.2.2.1, s.2.2.2) = false := decide_eq_false (fun h => hy ⟨by have := h.1; simp only at this; omega, h.2⟩)
      rw [List.filter_cons_of_neg (by simp [e0]), List.filter_cons_of_neg (by simp [e1]), List.filter_cons_of_neg (by simp [e2])]
      exact same_refl _
  · exact same_refl _

/-- What the statement says of a profile that is cut at x and joined. -/
structure Two (p : List Sg) (x : Int) (s0 sl : Sg) (q : List Sg × Int) (na nb : Nat) : Prop where
  err : q.2 = 0 ∨ (q.2 = 2 ∧ na + nb = p.length + 1 ∧ p.length = 128)
  at_ : q.2 = 0 → ∀ y, Same (atF p y) (atF q.1 y)
  yes : q.2 = 0 → (x ≤ s0.1 ∨ sl.2.1 ≤ x ∨ ∃ g ∈ p, g.1 = x) → p = q.1
  no_ : q.2 = 0 → ¬ (x ≤ s0.1 ∨ sl.2.1 ≤ x ∨ ∃ g ∈ p, g.1 = x) → q.1.length = p.length + 1

theorem two_of {p : List Sg} {x : Int} {s0 sl : Sg} (hv : validF p = true) (h0 : p.head? = some s0) (hl : p.getLast? = some sl) :
    Two p x s0 sl (joinF (cutF p s0.1 x) (cutF p x sl.2.1)) (cutF p s0.1 x).length (cutF p x sl.2.1).length := by
  have hlen := (valid_iff.1 hv).1
  have hlk := (valid_iff.1 hv).2
  have hok := link_ok hlk
  have hfirst : ∀ t ∈ p, s0.1 ≤ t.1 := by
    intro t ht
    cases p with
    | nil => cases ht
    | cons s r =>
      simp only [List.head?_cons, Option.some.injEq] at h0
      subst h0
      rcases List.mem_cons.1 ht with rfl | ht
      · exact Int.le_refl _
      · simp only [linkR, Bool.and_eq_true] at hlk
        have := link_lo hlk.2.2 t ht
        have := ok_lt hlk.1
        omega
  have hlast : ∀ t ∈ p, t.2.1 ≤ sl.2.1 := by
    intro t ht
    obtain ⟨l, e⟩ := List.getLast?_eq_some_iff.1 hl
    rw [e] at ht hlk
    rcases List.mem_append.1 ht with ht | ht
    · have h1 := link_hi (s := sl) (r := []) hlk t ht
      have h2 := ok_lt (hok sl (by rw [e]; simp))
      omega
    · rw [List.mem_singleton.1 ht]; exact Int.le_refl _
  have hlt : ∀ t ∈ p, t.1 < t.2.1 := fun t ht => ok_lt (hok t ht)
  have hnil : validF [] = true := by decide
  rw [cut_valid hv, cut_valid hv]
  by_cases hA : x ≤ s0.1
  · have ea : cutP s0.1 x p = [] := cutP_none fun s hs => .inr (by have := hfirst s hs; omega)
    have eb : cutP x sl.2.1 p = p := cutP_whole fun s hs => ⟨by have := hfirst s hs; omega, hlast s hs, hlt s hs⟩
    rw [ea, eb, join_ok hnil hv (apart_l p) (by simp; omega), List.nil_append]
    exact ⟨.inl rfl, fun _ y => same_refl _, fun _ _ => rfl, fun _ h => absurd (.inl hA) h⟩
  by_cases hB : sl.2.1 ≤ x
  · have ea : cutP s0.1 x p = p := cutP_whole fun s hs => ⟨hfirst s hs, by have := hlast s hs; omega, hlt s hs⟩
    have eb : cutP x sl.2.1 p = [] := cutP_none fun s hs => .inl (by have := hlast s hs; omega)
    rw [ea, eb, join_ok hv hnil (apart_r p) (by simp; omega), List.append_nil]
    exact ⟨.inl rfl, fun _ y => same_refl _, fun _ _ => rfl, fun _ h => absurd (.inr (.inl hB)) h⟩
  obtain ⟨l, s, r, hp, hs1, hs2⟩ := find_seg (x := x) hlk h0 (by omega) (fun u hu => by rw [hl] at hu; cases hu; omega)
  have hhi := link_hi (by rw [← hp]; exact hlk)
  have hlk2 := hlk
  rw [hp, link_append] at hlk2
  simp only [Bool.and_eq_true, linkR] at hlk2
  obtain ⟨k1, k2, k3, k4⟩ := hlk2
  have hlo := link_lo k4
  have hmem : ∀ t, t ∈ l ∨ t = s ∨ t ∈ r → t ∈ p := by
    intro t ht
    rw [hp]
    simp only [List.mem_append, List.mem_cons]
    exact ht
  have hol := hok s (hmem s (.inr (.inl rfl)))
  have hpl : p.length = l.length + (r.length + 1) := by rw [hp, List.length_append, List.length_cons]
  by_cases hC : s.1 = x
  · have ea : cutP s0.1 x p = l := by
      rw [hp, cutP_append, cutP_whole (l := l) fun t ht => ⟨hfirst t (hmem t (.inl ht)), by have := hhi t ht; omega, hlt t (hmem t (.inl ht))⟩, cutP_none (l := s :: r) fun t ht => ?_, List.append_nil]
      rcases List.mem_cons.1 ht with rfl | ht
      · right; omega
      · right; have := hlo t ht; have := ok_lt hol; omega
    have eb : cutP x sl.2.1 p = s :: r := by
      rw [hp, cutP_append, cutP_none (l := l) fun t ht => .inl (by have := hhi t ht; omega), cutP_whole (l := s :: r) fun t ht => ?_, List.nil_append]
      have hm : t ∈ p := hmem t ((List.mem_cons.1 ht).elim (fun h => .inr (.inl h)) (fun h => .inr (.inr h)))
      refine ⟨?_, hlast t hm, hlt t hm⟩
      rcases List.mem_cons.1 ht with rfl | ht
      · omega
      · have := hlo t ht; have := ok_lt hol; omega
    have hva : validF l = true := valid_iff.2 ⟨by omega, k1⟩
    have hvb : validF (s :: r) = true := valid_iff.2 ⟨by rw [List.length_cons]; omega, by simp only [linkR, goesOn, k2, k4, Bool.and_self]⟩
    have hap : apart l (s :: r) = false := by
      unfold apart
      cases hg : l.getLast? with
      | none => rfl
      | some t =>
        rw [hg] at k3
        simp only [Option.some_or, goesOn, decide_eq_true_eq] at k3
        simp only [List.head?_cons]
        exact decide_eq_false (by omega)
    rw [ea, eb, join_ok hva hvb hap (by rw [List.length_cons]; omega), ← hp]
    exact ⟨.inl rfl, fun _ y => same_refl _, fun _ _ => rfl, fun _ h => absurd (.inr (.inr ⟨s, hmem s (.inr (.inl rfl)), hC⟩)) h⟩
  · have hlt1 : s.1 < x := by omega
    have ea : cutP s0.1 x p = l ++ [(s.1, x, s.2.2.1, s.2.2.2)] := by
      have e1 : partF s0.1 x s = (s.1, x, s.2.2.1, s.2.2.2) := by
        have := hfirst s (hmem s (.inr (.inl rfl)))
        simp only [partF]
        rw [show max s.1 s0.1 = s.1 by omega, show min s.2.1 x = x by omega]
      have e2 : overB s0.1 x s = true := by rw [overB, e1]; exact decide_eq_true hlt1
      rw [hp, show l ++ s :: r = l ++ ([s] ++ r) by simp, cutP_append, cutP_append, cutP_whole (l := l) fun t ht => ⟨hfirst t (hmem t (.inl ht)), by have := hhi t ht; omega, hlt t (hmem t (.inl ht))⟩, cutP_one e2, e1, cutP_none (l := r) fun t ht => .inr (by have := hlo t ht; omega), List.append_nil]
    have eb : cutP x sl.2.1 p = [(x, s.2.1, s.2.2.1, s.2.2.2)] ++ r := by
      have e1 : partF x sl.2.1 s = (x, s.2.1, s.2.2.1, s.2.2.2) := by
        have := hlast s (hmem s (.inr (.inl rfl)))
        simp only [partF]
        rw [show max s.1 x = x by omega, show min s.2.1 sl.2.1 = s.2.1 by omega]
      have e2 : overB x sl.2.1 s = true := by rw [overB, e1]; exact decide_eq_true hs2
      rw [hp, show l ++ s :: r = l ++ ([s] ++ r) by simp, cutP_append, cutP_append, cutP_none (l := l) fun t ht => .inl (by have := hhi t ht; omega), cutP_one e2, e1, cutP_whole (l := r) fun t ht => ⟨by have := hlo t ht; omega, hlast t (hmem t (.inr (.inr ht))), hlt t (hmem t (.inr (.inr ht)))⟩, List.nil_append]
    have ok1 : okS (s.1, x, s.2.2.1, s.2.2.2) = true := by
      simp only [okS, decide_eq_true_eq] at hol ⊢
      refine ⟨hlt1, hol.2.1, by omega, hol.2.2.2⟩
    have ok2 : okS (x, s.2.1, s.2.2.1, s.2.2.2) = true := by
      simp only [okS, decide_eq_true_eq] at hol ⊢
      refine ⟨hs2, by omega, hol.2.2.1, hol.2.2.2⟩
    have g1 : goesOn (l.getLast?.or none) (s.1, x, s.2.2.1, s.2.2.2) = true := by
      revert k3
      cases l.getLast? <;> exact id
    have k4' : linkR (some (x, s.2.1, s.2.2.1, s.2.2.2)) r = true := (link_same (q := (x, s.2.1, s.2.2.1, s.2.2.2)) (q' := s) rfl r).trans k4
    have la : linkR none (l ++ [(s.1, x, s.2.2.1, s.2.2.2)]) = true := by
      rw [link_append]
      simp only [linkR, k1, ok1, g1, Bool.and_self]
    have lb : linkR none ([(x, s.2.1, s.2.2.1, s.2.2.2)] ++ r) = true := by
      simp only [List.singleton_append, linkR, goesOn, ok2, k4', Bool.and_self]
    have hva : validF (l ++ [(s.1, x, s.2.2.1, s.2.2.2)]) = true := valid_iff.2 ⟨by rw [List.length_append, List.length_singleton]; omega, la⟩
    have hvb : validF ([(x, s.2.1, s.2.2.1, s.2.2.2)] ++ r) = true := valid_iff.2 ⟨by rw [List.length_append, List.length_singleton]; omega, lb⟩
    have hap : apart (l ++ [(s.1, x, s.2.2.1, s.2.2.2)]) ([(x, s.2.1, s.2.2.1, s.2.2.2)] ++ r) = false := by
      unfold apart
      rw [List.getLast?_append, List.singleton_append]
      simp
    have hsum : (l ++ [(s.1, x, s.2.2.1, s.2.2.2)]).length + ([(x, s.2.1, s.2.2.1, s.2.2.2)] ++ r).length = p.length + 1 := by
      rw [List.length_append, List.length_append, List.length_singleton, List.length_singleton]; omega
    rw [ea, eb]
    by_cases hfull : p.length = 128
    · rw [join_long hva hvb hap (by omega)]
      exact ⟨.inr ⟨rfl, hsum, hfull⟩, fun h => (by cases h), fun h => (by cases h), fun h => (by cases h)⟩
    · rw [join_ok hva hvb hap (by omega)]
      have hq : (l ++ [(s.1, x, s.2.2.1, s.2.2.2)] ++ ([(x, s.2.1, s.2.2.1, s.2.2.2)] ++ r)).length = p.length + 1 := by rw [List.length_append]; exact hsum
      have hvq : validF (l ++ [(s.1, x, s.2.2.1, s.2.2.2)] ++ ([(x, s.2.1, s.2.2.1, s.2.2.2)] ++ r)) = true := by
        refine valid_iff.2 ⟨by rw [hq]; omega, ?_⟩
        rw [link_append, la, Bool.true_and, List.getLast?_append]
        simp only [List.singleton_append, List.getLast?_singleton, Option.some_or, linkR, goesOn, ok2, k4', Bool.and_true, decide_true]
      refine ⟨.inl rfl, fun _ y => ?_, fun _ h => ?_, fun _ _ => hq⟩
      · rw [at_valid hv, at_valid hvq, hp]
        exact at_split (by omega) (by omega) y
      · exfalso
        rcases h with h | h | ⟨g, hg, e⟩
        · exact hA h
        · exact hB h
        · rw [hp] at hg
          rcases List.mem_append.1 hg with hg | hg
          · have := hhi g hg
            have := hlt g (hmem g (.inl hg))
            omega
          · rcases List.mem_cons.1 hg with rfl | hg
            · exact hC e
            · have := hlo g hg
              omega

end Go.Proofs.Ytkoldgammeojkaa.Ctp
