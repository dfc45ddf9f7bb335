/- What ProfileLowers says, plain. -/
import Derived.Test.YtkoldgammeojkaaCtp
import Derived.Test.YtkoldgammeojkaaPlm
namespace Go.Proofs.Ytkoldgammeojkaa.Lwp
open Go.RowKit Go.Lib Go.Proofs.Ytkoldgammeojkaa.Lay Go.Proofs.Ytkoldgammeojkaa.Segs Go.Proofs.Ytkoldgammeojkaa.Plm Go.Proofs.Ytkoldgammeojkaa.Ctp

/-- What becomes of a segment. -/
def pcs (f t v : Int) (s : Sg) : List Sg := if overB f t s = true then divideF f t v s else [s]
theorem lim_cons (f t v : Int) (s : Sg) (r : List Sg) : limR f t v (s :: r) = pcs f t v s ++ limR f t v r := rfl
theorem over_iff {f t : Int} {s : Sg} : overB f t s = true ↔ s.1 < s.2.1 ∧ s.1 < t ∧ f < s.2.1 ∧ f < t := by
  rw [show overB f t s = decide (max s.1 f < min s.2.1 t) from rfl, decide_eq_true_eq]
  omega
/-- The pieces, by the four ways in which a stretch lies. -/
theorem pieces {f t v : Int} {a z g p : Int} (_h : a < z) :
    ((overB f t (a, z, g, p) = false ∧ pcs f t v (a, z, g, p) = [(a, z, g, p)]) ∨
    (a < f ∧ f < z ∧ a < t ∧ t < z ∧ f < t ∧ pcs f t v (a, z, g, p) = [(a, f, g, p), (f, t, g, min p v), (t, z, g, p)]) ∨
    (a < f ∧ f < z ∧ z ≤ t ∧ pcs f t v (a, z, g, p) = [(a, f, g, p), (f, z, g, min p v)]) ∨
    (f ≤ a ∧ a < t ∧ t < z ∧ pcs f t v (a, z, g, p) = [(a, t, g, min p v), (t, z, g, p)]) ∨
    (f ≤ a ∧ z ≤ t ∧ pcs f t v (a, z, g, p) = [(a, z, g, min p v)])) := by
  cases ho : overB f t (a, z, g, p) with
  | false => exact .inl ⟨rfl, by rw [pcs, ho]; rfl⟩
  | true =>
    right
    obtain ⟨-, h1, h2, h3⟩ := over_iff.1 ho
    simp only at h1 h2
    have e : pcs f t v (a, z, g, p) = [partF a f (a, z, g, p), slowed v (partF f t (a, z, g, p)), partF t z (a, z, g, p)].filter longB := by rw [pcs, if_pos ho]; rfl
    have e2 : longB (slowed v (partF f t (a, z, g, p))) = true := ho
    by_cases c1 : a < f
    · have b1 : partF a f (a, z, g, p) = (a, f, g, p) := by simp only [partF]; rw [show max a a = a by omega, show min z f = f by omega]
      have l1 : longB (a, f, g, p) = true := decide_eq_true c1
      by_cases c2 : t < z
      · have b2 : slowed v (partF f t (a, z, g, p)) = (f, t, g, min p v) := by simp only [partF, slowed]; rw [show max a f = f by omega, show min z t = t by omega]
        have b3 : partF t z (a, z, g, p) = (t, z, g, p) := by simp only [partF]; rw [show max a t = t by omega, show min z z = z by omega]
        have l3 : longB (t, z, g, p) = true := decide_eq_true c2
        left
        refine ⟨c1, h2, h1, c2, h3, ?_⟩
        rw [b2] at e2
        rw [e, b1, b2, b3, List.filter_cons_of_pos l1, List.filter_cons_of_pos e2, List.filter_cons_of_pos l3, List.filter_nil]
      · have b2 : slowed v (partF f t (a, z, g, p)) = (f, z, g, min p v) := by simp only [partF, slowed]; rw [show max a f = f by omega, show min z t = z by omega]
        have b3 : partF t z (a, z, g, p) = (max a t, z, g, p) := by simp only [partF]; rw [show min z z = z by omega]
        have l3 : longB (max a t, z, g, p) = false := decide_eq_false (by simp only; omega)
        right; left
        refine ⟨c1, h2, by omega, ?_⟩
        rw [b2] at e2
        rw [e, b1, b2, b3, List.filter_cons_of_pos l1, List.filter_cons_of_pos e2, List.filter_cons_of_neg (by simp [l3]), List.filter_nil]
    · have b1 : partF a f (a, z, g, p) = (a, min z f, g, p) := by simp only [partF]; rw [show max a a = a by omega]
      have l1 : longB (a, min z f, g, p) = false := decide_eq_false (by simp only; omega)
      by_cases c2 : t < z
      · have b2 : slowed v (partF f t (a, z, g, p)) = (a, t, g, min p v) := by simp only [partF, slowed]; rw [show max a f = a by omega, show min z t = t by omega]
        have b3 : partF t z (a, z, g, p) = (t, z, g, p) := by simp only [partF]; rw [show max a t = t by omega, show min z z = z by omega]
        have l3 : longB (t, z, g, p) = true := decide_eq_true c2
        right; right; left
        refine ⟨by omega, h1, c2, ?_⟩
        rw [b2] at e2
        rw [e, b1, b2, b3, List.filter_cons_of_neg (by simp [l1]), List.filter_cons_of_pos e2, List.filter_cons_of_pos l3, List.filter_nil]
      · have b2 : slowed v (partF f t (a, z, g, p)) = (a, z, g, min p v) := by simp only [partF, slowed]; rw [show max a f = a by omega, show min z t = z by omega]
        have b3 : partF t z (a, z, g, p) = (max a t, z, g, p) := by simp only [partF]; rw [show min z z = z by omega]
        have l3 : longB (max a t, z, g, p) = false := decide_eq_false (by simp only; omega)
        right; right; right
        refine ⟨by omega, by omega, ?_⟩
        rw [b2] at e2
        rw [e, b1, b2, b3, List.filter_cons_of_neg (by simp [l1]), List.filter_cons_of_pos e2, List.filter_cons_of_neg (by simp [l3]), List.filter_nil]

theorem ok_mk {a z g p : Int} (h1 : a < z) (h2 : -1073741824 ≤ a) (h3 : z ≤ 1073741824) (h4 : -50 ≤ g) (h5 : g ≤ 50) (h6 : 1 ≤ p) (h7 : p ≤ 10000) : okS (a, z, g, p) = true := decide_eq_true ⟨h1, h2, h3, h4, h5, h6, h7⟩
theorem on_mk {q : Option Sg} {a z g p z' g' p' : Int} (h : goesOn q (a, z, g, p) = true) : goesOn q (a, z', g', p') = true := by
  cases q with
  | none => rfl
  | some u => exact h
/-- The limited profile goes on as the profile does. -/
theorem lim_link {f t v : Int} (hv : 1 ≤ v) : ∀ {p : List Sg} {q : Option Sg}, linkR q p = true → linkR q (limR f t v p) = true
  | [], _, _ => rfl
  | (a, z, g, p) :: r, q, h => by
    simp only [linkR, Bool.and_eq_true] at h
    obtain ⟨h1, h2, h3⟩ := h
    have ih := lim_link (f := f) (t := t) hv h3
    have hok := h1
    simp only [okS, decide_eq_true_eq] at hok
    obtain ⟨k1, k2, k3, k4, k5, k6, k7⟩ := hok
    rw [lim_cons, link_append, Bool.and_eq_true]
    have hend : ∀ u : Sg, u.2.1 = z → linkR (some u) (limR f t v r) = true := fun u hu => (link_same (q := u) (q' := (a, z, g, p)) hu _).trans ih
    rcases pieces (f := f) (t := t) (v := v) (g := g) (p := p) k1 with ⟨-, e⟩ | ⟨c1, c2, c3, c4, c5, e⟩ | ⟨c1, c2, c3, e⟩ | ⟨c1, c2, c3, e⟩ | ⟨c1, c2, e⟩
    all_goals
      rw [e]
      refine ⟨?_, hend _ rfl⟩
    · simp only [linkR, h1, h2, Bool.and_self]
    · have o1 : okS (a, f, g, p) = true := ok_mk (by omega) (by omega) (by omega) k4 k5 k6 k7
      have o2 : okS (f, t, g, min p v) = true := ok_mk (by omega) (by omega) (by omega) k4 k5 (by omega) (by omega)
      have o3 : okS (t, z, g, p) = true := ok_mk (by omega) (by omega) (by omega) k4 k5 k6 k7
      have g1 : goesOn q (a, f, g, p) = true := on_mk h2
      have e1 : goesOn (some (a, f, g, p)) (f, t, g, min p v) = true := decide_eq_true rfl
      have e2 : goesOn (some (f, t, g, min p v)) (t, z, g, p) = true := decide_eq_true rfl
      simp only [linkR, o1, o2, o3, g1, e1, e2, Bool.and_self]
    · have o1 : okS (a, f, g, p) = true := ok_mk (by omega) (by omega) (by omega) k4 k5 k6 k7
      have o2 : okS (f, z, g, min p v) = true := ok_mk (by omega) (by omega) (by omega) k4 k5 (by omega) (by omega)
      have g1 : goesOn q (a, f, g, p) = true := on_mk h2
      have e1 : goesOn (some (a, f, g, p)) (f, z, g, min p v) = true := decide_eq_true rfl
      simp only [linkR, o1, o2, g1, e1, Bool.and_self]
    · have o2 : okS (a, t, g, min p v) = true := ok_mk (by omega) (by omega) (by omega) k4 k5 (by omega) (by omega)
      have o3 : okS (t, z, g, p) = true := ok_mk (by omega) (by omega) (by omega) k4 k5 k6 k7
      have g1 : goesOn q (a, t, g, min p v) = true := on_mk h2
      have e1 : goesOn (some (a, t, g, min p v)) (t, z, g, p) = true := decide_eq_true rfl
      simp only [linkR, o2, o3, g1, e1, Bool.and_self]
    · have o2 : okS (a, z, g, min p v) = true := ok_mk (by omega) (by omega) (by omega) k4 k5 (by omega) (by omega)
      have g1 : goesOn q (a, z, g, min p v) = true := on_mk h2
      simp only [linkR, o2, g1, Bool.and_self]

/-- How many segments contain a coordinate within. -/
def cnt (y : Int) (p : List Sg) : Nat := (p.filter fun s => decide (s.1 < y ∧ y < s.2.1)).length
theorem cnt_zero {y : Int} {p : List Sg} (h : ∀ s ∈ p, y ≤ s.1) : cnt y p = 0 := by
  rw [cnt, List.filter_eq_nil_iff.2, List.length_nil]
  intro s hs
  have := h s hs
  simp only [decide_eq_true_eq]
  omega
theorem cnt_one {y : Int} : ∀ {p : List Sg} {q : Option Sg}, linkR q p = true → cnt y p ≤ 1
  | [], _, _ => Nat.zero_le _
  | s :: r, q, h => by
    simp only [linkR, Bool.and_eq_true] at h
    by_cases hy : s.1 < y ∧ y < s.2.1
    · have h0 : cnt y r = 0 := cnt_zero fun u hu => by have := link_lo h.2.2 u hu; omega
      rw [cnt, List.filter_cons_of_pos (by simpa using hy), List.length_cons]
      unfold cnt at h0
      omega
    · have ih := cnt_one (y := y) h.2.2
      rw [cnt, List.filter_cons_of_neg (by simpa using hy)]
      exact ih
theorem cnt_cons (y : Int) (s : Sg) (r : List Sg) : cnt y (s :: r) = (if s.1 < y ∧ y < s.2.1 then 1 else 0) + cnt y r := by
  unfold cnt
  by_cases h : s.1 < y ∧ y < s.2.1
  · rw [List.filter_cons_of_pos (by simpa using h), if_pos h, List.length_cons, Nat.add_comm]
  · rw [List.filter_cons_of_neg (by simpa using h), if_neg h, Nat.zero_add]
theorem lim_len {f t v : Int} : ∀ {p : List Sg} {q : Option Sg}, linkR q p = true → (limR f t v p).length ≤ p.length + cnt f p + cnt t p
  | [], _, _ => Nat.zero_le _
  | (a, z, g, p) :: r, q, h => by
    simp only [linkR, Bool.and_eq_true] at h
    obtain ⟨h1, _, h3⟩ := h
    have ih := lim_len (f := f) (t := t) (v := v) h3
    rw [lim_cons, List.length_append, List.length_cons, cnt_cons, cnt_cons]
    rcases pieces (f := f) (t := t) (v := v) (g := g) (p := p) (show a < z from ok_lt h1) with ⟨-, e⟩ | ⟨c1, c2, c3, c4, c5, e⟩ | ⟨c1, c2, c3, e⟩ | ⟨c1, c2, c3, e⟩ | ⟨c1, c2, e⟩
    · rw [e, List.length_singleton]; omega
    · rw [e, if_pos ⟨c1, c2⟩, if_pos ⟨c3, c4⟩]; simp only [List.length_cons, List.length_nil]; omega
    · rw [e, if_pos (show (a, z, g, p).1 < f ∧ f < (a, z, g, p).2.1 from ⟨c1, c2⟩)]; simp only [List.length_cons, List.length_nil]; omega
    · rw [e, if_pos (show (a, z, g, p).1 < t ∧ t < (a, z, g, p).2.1 from ⟨c2, c3⟩)]; simp only [List.length_cons, List.length_nil]; omega
    · rw [e, List.length_singleton]; omega
theorem lim_twice {f t v : Int} : ∀ {p : List Sg} {q : Option Sg}, linkR q p = true → limR f t v (limR f t v p) = limR f t v p
  | [], _, _ => rfl
  | (a, z, g, p) :: r, q, h => by
    simp only [linkR, Bool.and_eq_true] at h
    obtain ⟨h1, _, h3⟩ := h
    have ih := lim_twice (f := f) (t := t) (v := v) h3
    have hlow : ∀ {a' z' : Int}, z' ≤ f ∨ t ≤ a' → pcs f t v (a', z', g, p) = [(a', z', g, p)] := by
      intro a' z' hh
      have : overB f t (a', z', g, p) = false := by
        cases ho : overB f t (a', z', g, p) with
        | false => rfl
        | true =>
          obtain ⟨-, k1, k2, k3⟩ := over_iff.1 ho
          simp only at k1 k2
          omega
      rw [pcs, this]; rfl
    have hin : ∀ {a' z' : Int}, a' < z' → f ≤ a' → z' ≤ t → pcs f t v (a', z', g, min p v) = [(a', z', g, min p v)] := by
      intro a' z' k1 k2 k3
      rcases pieces (f := f) (t := t) (v := v) (g := g) (p := min p v) k1 with ⟨-, e⟩ | ⟨c1, _, _, _, _, _⟩ | ⟨c1, _, _, _⟩ | ⟨_, _, c3, _⟩ | ⟨_, _, e⟩
      · exact e
      · omega
      · omega
      · omega
      · rw [e, show min (min p v) v = min p v by omega]
    rw [lim_cons, lim_append, ih]
    congr 1
    rcases pieces (f := f) (t := t) (v := v) (g := g) (p := p) (show a < z from ok_lt h1) with ⟨-, e⟩ | ⟨c1, c2, c3, c4, c5, e⟩ | ⟨c1, c2, c3, e⟩ | ⟨c1, c2, c3, e⟩ | ⟨c1, c2, e⟩
    · rw [e, lim_cons, e]; rfl
    · rw [e, lim_cons, lim_cons, lim_cons, hlow (.inl (Int.le_refl _)), hin c5 (Int.le_refl _) (Int.le_refl _), hlow (.inr (Int.le_refl _))]; rfl
    · rw [e, lim_cons, lim_cons, hlow (.inl (Int.le_refl _)), hin c2 (Int.le_refl _) c3]; rfl
    · rw [e, lim_cons, lim_cons, hin c2 c1 (Int.le_refl _), hlow (.inr (Int.le_refl _))]; rfl
    · rw [e, lim_cons, hin (ok_lt h1) c1 c2]; rfl

/-- What the statement asks of the segments at a coordinate. -/
def wantF (f t v y sp : Int) : Int := if f ≤ y ∧ y < t then min sp v else sp
def Low (f t v y : Int) (u l : Sg × Bool) : Prop := u.2 = l.2 ∧ u.1.2.2.1 = l.1.2.2.1 ∧ (u.2 = true → l.1.2.2.2 = wantF f t v y u.1.2.2.2)
theorem lim_at {f t v y : Int} : ∀ {p : List Sg} {q : Option Sg}, linkR q p = true → Low f t v y (headF (p.filter (insideB y y))) (headF ((limR f t v p).filter (insideB y y)))
  | [], _, _ => ⟨rfl, rfl, fun h => by cases h⟩
  | (a, z, g, p) :: r, q, h => by
    simp only [linkR, Bool.and_eq_true] at h
    obtain ⟨h1, _, h3⟩ := h
    have ih := lim_at (f := f) (t := t) (v := v) (y := y) h3
    have hin : ∀ {a' z' p' : Int}, a' ≤ y → y < z' → insideB y y (a', z', g, p') = true := fun k1 k2 => decide_eq_true ⟨k1, k2⟩
    have hout : ∀ {a' z' p' : Int}, ¬ (a' ≤ y ∧ y < z') → ¬ insideB y y (a', z', g, p') = true := fun k1 => by
      intro hh
      exact k1 (of_decide_eq_true hh)
    have hw1 : (f ≤ y ∧ y < t) → wantF f t v y p = min p v := fun k => if_pos k
    have hw2 : ¬ (f ≤ y ∧ y < t) → wantF f t v y p = p := fun k => if_neg k
    rw [lim_cons, List.filter_append]
    by_cases hy : a ≤ y ∧ y < z
    · rw [List.filter_cons_of_pos (hin hy.1 hy.2), head_append]
      rcases pieces (f := f) (t := t) (v := v) (g := g) (p := p) (show a < z from ok_lt h1) with ⟨ho, e⟩ | ⟨c1, c2, c3, c4, c5, e⟩ | ⟨c1, c2, c3, e⟩ | ⟨c1, c2, c3, e⟩ | ⟨c1, c2, e⟩
      · rw [e, List.filter_cons_of_pos (hin hy.1 hy.2), if_neg (by simp)]
        refine ⟨rfl, rfl, fun _ => (hw2 (fun k => ?_)).symm⟩
        have : overB f t (a, z, g, p) = true := over_iff.2 ⟨by simp only; omega, by simp only; omega, by simp only; omega, by omega⟩
        rw [ho] at this
        cases this
      · rw [e]
        by_cases k1 : y < f
        · rw [List.filter_cons_of_pos (hin hy.1 k1), if_neg (by simp)]
          exact ⟨rfl, rfl, fun _ => (hw2 (by omega)).symm⟩
        · rw [List.filter_cons_of_neg (hout (by omega))]
          by_cases k2 : y < t
          · rw [List.filter_cons_of_pos (hin (by omega) k2), if_neg (by simp)]
            exact ⟨rfl, rfl, fun _ => (hw1 (by omega)).symm⟩
          · rw [List.filter_cons_of_neg (hout (by omega)), List.filter_cons_of_pos (hin (by omega) hy.2), if_neg (by simp)]
            exact ⟨rfl, rfl, fun _ => (hw2 (by omega)).symm⟩
      · rw [e]
        by_cases k1 : y < f
        · rw [List.filter_cons_of_pos (hin hy.1 k1), if_neg (by simp)]
          exact ⟨rfl, rfl, fun _ => (hw2 (by omega)).symm⟩
        · rw [List.filter_cons_of_neg (hout (by omega)), List.filter_cons_of_pos (hin (by omega) hy.2), if_neg (by simp)]
          exact ⟨rfl, rfl, fun _ => (hw1 (by omega)).symm⟩
      · rw [e]
        by_cases k2 : y < t
        · rw [List.filter_cons_of_pos (hin hy.1 k2), if_neg (by simp)]
          exact ⟨rfl, rfl, fun _ => (hw1 (by omega)).symm⟩
        · rw [List.filter_cons_of_neg (hout (by omega)), List.filter_cons_of_pos (hin (by omega) hy.2), if_neg (by simp)]
          exact ⟨rfl, rfl, fun _ => (hw2 (by omega)).symm⟩
      · rw [e, List.filter_cons_of_pos (hin hy.1 hy.2), if_neg (by simp)]
        exact ⟨rfl, rfl, fun _ => (hw1 (by omega)).symm⟩
    · have hnil : (pcs f t v (a, z, g, p)).filter (insideB y y) = [] := by
        rcases pieces (f := f) (t := t) (v := v) (g := g) (p := p) (show a < z from ok_lt h1) with ⟨ho, e⟩ | ⟨c1, c2, c3, c4, c5, e⟩ | ⟨c1, c2, c3, e⟩ | ⟨c1, c2, c3, e⟩ | ⟨c1, c2, e⟩
        · rw [e, List.filter_cons_of_neg (hout hy), List.filter_nil]
        · rw [e, List.filter_cons_of_neg (hout (by omega)), List.filter_cons_of_neg (hout (by omega)), List.filter_cons_of_neg (hout (by omega)), List.filter_nil]
        · rw [e, List.filter_cons_of_neg (hout (by omega)), List.filter_cons_of_neg (hout (by omega)), List.filter_nil]
        · rw [e, List.filter_cons_of_neg (hout (by omega)), List.filter_cons_of_neg (hout (by omega)), List.filter_nil]
        · rw [e, List.filter_cons_of_neg (hout hy), List.filter_nil]
      rw [List.filter_cons_of_neg (hout hy), hnil, List.nil_append]
      exact ih

/-- The whole statement. -/
theorem lowers {p : List Sg} {f t v : Int} (hp : validF p = true) (hn : p.length ≤ 100) (hv : 1 ≤ v) :
    limitF p f t v = limR f t v p ∧ validF (limR f t v p) = true ∧ limitF (limR f t v p) f t v = limR f t v p ∧ ∀ y, Low f t v y (atF p y) (atF (limR f t v p) y) := by
  have hlk := (valid_iff.1 hp).2
  have h1 := lim_len (f := f) (t := t) (v := v) hlk
  have h2 := cnt_one (y := f) hlk
  have h3 := cnt_one (y := t) hlk
  have hl : (limR f t v p).length ≤ 128 := by omega
  have hq : validF (limR f t v p) = true := valid_iff.2 ⟨hl, lim_link hv hlk⟩
  refine ⟨?_, hq, ?_, fun y => ?_⟩
  · rw [limitF, if_neg (by simp [hp]; omega), if_neg (by omega)]
  · rw [limitF, if_neg (by simp [hq]; omega), lim_twice hlk, if_neg (by omega)]
  · rw [at_valid hp, at_valid hq]
    exact lim_at hlk

end Go.Proofs.Ytkoldgammeojkaa.Lwp
