/- The passages of the elements: plain mathematics, of no program. -/
import Derived.WalkKit
namespace Go.Proofs.YtkoldgammeojkaaDoor.Rail

/-- The table: kind, side in, side out, position needed. -/
def rows : List (Int × Int × Int × Int) := [(1, 0, 1, 0), (1, 1, 0, 0), (2, 0, 1, 1), (2, 0, 2, 2), (2, 1, 0, 1), (2, 2, 0, 2), (3, 0, 1, 0), (3, 1, 0, 0), (3, 2, 3, 0), (3, 3, 2, 0)]
def row (j : Nat) : Int × Int × Int × Int := rows.getD j (0, 0, 0, 0)
theorem drop_row {j : Nat} (h : j < 10) : rows.drop j = row j :: rows.drop (j + 1) := by
  have hl : j < rows.length := h
  rw [List.drop_eq_getElem_cons hl]
  simp [row, List.getD_eq_getElem?_getD, hl]

/-- The first row that fits, for a position. -/
def outR (k i p : Int) : List (Int × Int × Int × Int) → Int × Bool
  | [] => (0, false)
  | r :: l => if k = r.1 ∧ i = r.2.1 ∧ (r.2.2.2 = 0 ∨ p = r.2.2.2) then (r.2.2.1, true) else outR k i p l
/-- The first row that fits, for a side out. -/
def needR (k i o : Int) : List (Int × Int × Int × Int) → Int × Bool
  | [] => (0, false)
  | r :: l => if k = r.1 ∧ i = r.2.1 ∧ o = r.2.2.1 then (r.2.2.2, true) else needR k i o l
/-- The sides out of the rows that fit. -/
def legsR (k i : Int) : List (Int × Int × Int × Int) → List Int
  | [] => []
  | r :: l => if k = r.1 ∧ i = r.2.1 then r.2.2.1 :: legsR k i l else legsR k i l
def outF (k i p : Int) : Int × Bool := outR k i p rows
def needF (k i o : Int) : Int × Bool := needR k i o rows
def legsF (k i : Int) : List Int := legsR k i rows
def sidesF (k : Int) : Int := if k = 1 then 2 else if k = 2 then 3 else if k = 3 then 4 else 0
def facF (k i : Int) : Bool := decide (k = 2 ∧ i = 0)

theorem outR_yes {k i p a b c d : Int} {l : List (Int × Int × Int × Int)} (h1 : k = a) (h2 : i = b) (h3 : d = 0 ∨ p = d) : outR k i p ((a, b, c, d) :: l) = (c, true) := by
  rw [outR, if_pos ⟨h1, h2, h3⟩]
theorem outR_no {k i p a b c d : Int} {l : List (Int × Int × Int × Int)} (h : ¬ (k = a ∧ i = b ∧ (d = 0 ∨ p = d))) : outR k i p ((a, b, c, d) :: l) = outR k i p l := by
  rw [outR, if_neg h]
theorem needR_yes {k i o a b c d : Int} {l : List (Int × Int × Int × Int)} (h1 : k = a) (h2 : i = b) (h3 : o = c) : needR k i o ((a, b, c, d) :: l) = (d, true) := by
  rw [needR, if_pos ⟨h1, h2, h3⟩]
theorem needR_no {k i o a b c d : Int} {l : List (Int × Int × Int × Int)} (h : ¬ (k = a ∧ i = b ∧ o = c)) : needR k i o ((a, b, c, d) :: l) = needR k i o l := by
  rw [needR, if_neg h]
theorem legsR_yes {k i a b c d : Int} {l : List (Int × Int × Int × Int)} (h1 : k = a) (h2 : i = b) : legsR k i ((a, b, c, d) :: l) = c :: legsR k i l := by
  rw [legsR, if_pos ⟨h1, h2⟩]
theorem legsR_no {k i a b c d : Int} {l : List (Int × Int × Int × Int)} (h : ¬ (k = a ∧ i = b)) : legsR k i ((a, b, c, d) :: l) = legsR k i l := by
  rw [legsR, if_neg h]

/-! Closed forms, kind by kind. -/
theorem kinds (k : Int) : k = 1 ∨ k = 2 ∨ k = 3 ∨ (k ≠ 1 ∧ k ≠ 2 ∧ k ≠ 3) := by omega
theorem ends (x : Int) : x = 0 ∨ x = 1 ∨ x = 2 ∨ x = 3 ∨ (x ≠ 0 ∧ x ≠ 1 ∧ x ≠ 2 ∧ x ≠ 3) := by omega
theorem poss (x : Int) : x = 1 ∨ x = 2 ∨ (x ≠ 1 ∧ x ≠ 2) := by omega

/-- The reference's Need. -/
def needC (k i o : Int) : Int × Bool :=
  if k = 1 ∨ k = 3 then (0, decide ((min i o = 0 ∧ max i o = 1) ∨ (k = 3 ∧ min i o = 2 ∧ max i o = 3)))
  else if k = 2 ∧ min i o = 0 ∧ max i o = 1 then (1, true)
  else if k = 2 ∧ min i o = 0 ∧ max i o = 2 then (2, true)
  else (0, false)
theorem need_none {k i o : Int} (h : k ≠ 1 ∧ k ≠ 2 ∧ k ≠ 3) : needF k i o = (0, false) := by
  simp [needF, needR, rows, h.1, h.2.1, h.2.2]
theorem out_none {k i p : Int} (h : k ≠ 1 ∧ k ≠ 2 ∧ k ≠ 3) : outF k i p = (0, false) := by
  simp [outF, outR, rows, h.1, h.2.1, h.2.2]
theorem legs_none {k i : Int} (h : k ≠ 1 ∧ k ≠ 2 ∧ k ≠ 3) : legsF k i = [] := by
  simp [legsF, legsR, rows, h.1, h.2.1, h.2.2]
theorem need_in {k i o : Int} (h : i ≠ 0 ∧ i ≠ 1 ∧ i ≠ 2 ∧ i ≠ 3) : needF k i o = (0, false) := by
  simp [needF, needR, rows, h.1, h.2.1, h.2.2.1, h.2.2.2]
theorem need_to {k i o : Int} (h : o ≠ 0 ∧ o ≠ 1 ∧ o ≠ 2 ∧ o ≠ 3) : needF k i o = (0, false) := by
  simp [needF, needR, rows, h.1, h.2.1, h.2.2.1, h.2.2.2]
theorem out_in {k i p : Int} (h : i ≠ 0 ∧ i ≠ 1 ∧ i ≠ 2 ∧ i ≠ 3) : outF k i p = (0, false) := by
  simp [outF, outR, rows, h.1, h.2.1, h.2.2.1, h.2.2.2]
theorem legs_in {k i : Int} (h : i ≠ 0 ∧ i ≠ 1 ∧ i ≠ 2 ∧ i ≠ 3) : legsF k i = [] := by
  simp [legsF, legsR, rows, h.1, h.2.1, h.2.2.1, h.2.2.2]
/-- At points, another position than the two. -/
theorem out_pos {i p : Int} (h : p ≠ 1 ∧ p ≠ 2) : outF 2 i p = (0, false) := by
  simp [outF, outR, rows, h.1, h.2]
/-- At tracks and crossings the position does not matter. -/
theorem out_any1 (i p : Int) : outF 1 i p = outF 1 i 0 := by simp [outF, outR, rows]
theorem out_any3 (i p : Int) : outF 3 i p = outF 3 i 0 := by simp [outF, outR, rows]

theorem needC_none {k i o : Int} (h : k ≠ 1 ∧ k ≠ 2 ∧ k ≠ 3) : needC k i o = (0, false) := by
  simp [needC, h.1, h.2.1, h.2.2]
theorem needC_in {k i o : Int} (h : i ≠ 0 ∧ i ≠ 1 ∧ i ≠ 2 ∧ i ≠ 3) : needC k i o = (0, false) := by
  have h1 : ¬ (min i o = 0 ∧ max i o = 1) := by omega
  have h2 : ¬ (min i o = 2 ∧ max i o = 3) := by omega
  have h3 : ¬ (min i o = 0 ∧ max i o = 2) := by omega
  simp [needC, h1, h2, h3]
theorem needC_to {k i o : Int} (h : o ≠ 0 ∧ o ≠ 1 ∧ o ≠ 2 ∧ o ≠ 3) : needC k i o = (0, false) := by
  have h1 : ¬ (min i o = 0 ∧ max i o = 1) := by omega
  have h2 : ¬ (min i o = 2 ∧ max i o = 3) := by omega
  have h3 : ¬ (min i o = 0 ∧ max i o = 2) := by omega
  simp [needC, h1, h2, h3]
theorem needF_eq (k i o : Int) : needF k i o = needC k i o := by
  rcases ends i with rfl | rfl | rfl | rfl | h
  all_goals first
    | (rw [need_in h, needC_in h]; done)
    | (rcases ends o with rfl | rfl | rfl | rfl | h
       all_goals first
         | (rw [need_to h, needC_to h]; done)
         | (rcases kinds k with rfl | rfl | rfl | h
            all_goals first
              | (rw [need_none h, needC_none h]; done)
              | rfl))

/-! What the statements say of these. -/
theorem need_sym (k i o : Int) : needF k i o = needF k o i := by
  rw [needF_eq, needF_eq]
  simp only [needC, Int.min_comm i o, Int.max_comm i o]

theorem fac_len (k i : Int) : decide ((1 : Int) < ((legsF k i).length : Int)) = facF k i := by
  rcases ends i with rfl | rfl | rfl | rfl | h
  all_goals first
    | (rw [legs_in h]; simp [facF, h.1]; done)
    | (rcases kinds k with rfl | rfl | rfl | h
       all_goals first
         | (rw [legs_none h]; simp [facF, h.2.1]; done)
         | rfl)

/-- The reference's Out and Legs: the sides out from o on, n of them. -/
def oR (k i p : Int) : Nat → Nat → Int × Bool
  | _, 0 => (0, false)
  | o, n + 1 => if (needF k i (o : Int)).2 = true ∧ ((needF k i (o : Int)).1 = 0 ∨ (needF k i (o : Int)).1 = p) then ((o : Int), true) else oR k i p (o + 1) n
def lR (k i : Int) : Nat → Nat → List Int
  | _, 0 => []
  | o, n + 1 => if (needF k i (o : Int)).2 = true then (o : Int) :: lR k i (o + 1) n else lR k i (o + 1) n
theorem oR_yes {k i p x : Int} {o n : Nat} (h : needF k i (o : Int) = (x, true)) (hx : x = 0 ∨ x = p) : oR k i p o (n + 1) = ((o : Int), true) := by
  rw [oR, h, if_pos ⟨rfl, hx⟩]
theorem oR_no {k i p x : Int} {o n : Nat} (h : needF k i (o : Int) = (x, true)) (hx : ¬ (x = 0 ∨ x = p)) : oR k i p o (n + 1) = oR k i p (o + 1) n := by
  rw [oR, h, if_neg (fun e => hx e.2)]
theorem oR_none {k i p x : Int} {o n : Nat} (h : needF k i (o : Int) = (x, false)) : oR k i p o (n + 1) = oR k i p (o + 1) n := by
  rw [oR, h, if_neg (by simp)]
theorem lR_yes {k i x : Int} {o n : Nat} (h : needF k i (o : Int) = (x, true)) : lR k i o (n + 1) = (o : Int) :: lR k i (o + 1) n := by
  rw [lR, h, if_pos rfl]
theorem lR_no {k i x : Int} {o n : Nat} (h : needF k i (o : Int) = (x, false)) : lR k i o (n + 1) = lR k i (o + 1) n := by
  rw [lR, h, if_neg (by simp)]
theorem oR_eq (k i p : Int) : oR k i p 0 4 = outF k i p := by
  rcases ends i with rfl | rfl | rfl | rfl | h
  all_goals first
    | (rw [out_in h]; simp [oR, need_in h]; done)
    | (rcases kinds k with rfl | rfl | rfl | h
       all_goals first
         | (rw [out_none h]; simp [oR, need_none h]; done)
         | (rw [out_any1]; rfl)
         | (rw [out_any3]; rfl)
         | (rcases poss p with rfl | rfl | h
            all_goals first
              | rfl
              | (rw [out_pos h]
                 have h1 : ¬ (1 = p) := by omega
                 have h2 : ¬ (2 = p) := by omega
                 simp [oR, needF, needR, rows, h1, h2])))
theorem lR_eq (k i : Int) : lR k i 0 4 = legsF k i := by
  rcases ends i with rfl | rfl | rfl | rfl | h
  all_goals first
    | (rw [legs_in h]; simp [lR, need_in h]; done)
    | (rcases kinds k with rfl | rfl | rfl | h
       all_goals first
         | (rw [legs_none h]; simp [lR, need_none h]; done)
         | rfl)

/-- What the statements say of passages: the way back, in the same position. -/
theorem out_back (k i p : Int) (h : (outF k i p).2 = true) : outF k (outF k i p).1 p = (i, true) := by
  revert h
  rcases ends i with rfl | rfl | rfl | rfl | h
  all_goals first
    | (rw [out_in h]; intro h; cases h; done)
    | (rcases kinds k with rfl | rfl | rfl | h
       all_goals first
         | (rw [out_none h]; intro h; cases h; done)
         | (rw [out_any1, out_any1 _ p]; decide)
         | (rw [out_any3, out_any3 _ p]; decide)
         | (rcases poss p with rfl | rfl | h
            all_goals first
              | decide
              | (rw [out_pos h]; intro h; cases h; done)))
/-- Where a passage leads. -/
theorem out_range (k i p : Int) (h : (outF k i p).2 = true) : (outF k i p).1 ≠ i ∧ 0 ≤ (outF k i p).1 ∧ (outF k i p).1 < sidesF k := by
  revert h
  rcases ends i with rfl | rfl | rfl | rfl | h
  all_goals first
    | (rw [out_in h]; intro h; cases h; done)
    | (rcases kinds k with rfl | rfl | rfl | h
       all_goals first
         | (rw [out_none h]; intro h; cases h; done)
         | (rw [out_any1]; decide)
         | (rw [out_any3]; decide)
         | (rcases poss p with rfl | rfl | h
            all_goals first
              | decide
              | (rw [out_pos h]; intro h; cases h; done)))
/-- A passage is possible in a position exactly if it needs this position, or none. -/
theorem out_need (k i o p : Int) : ((outF k i p).2 = true ∧ (outF k i p).1 = o) ↔ ((needF k i o).2 = true ∧ ((needF k i o).1 = 0 ∨ (needF k i o).1 = p)) := by
  rcases ends i with rfl | rfl | rfl | rfl | h
  all_goals first
    | (rw [out_in h, need_in h]; simp; done)
    | (rcases ends o with rfl | rfl | rfl | rfl | h
       all_goals
         rcases kinds k with rfl | rfl | rfl | h2
         all_goals first
           | (rw [out_none h2, need_none h2]; simp; done)
           | (rw [out_any1]; simp [outF, needF, outR, needR, rows]; done)
           | (rw [out_any3]; simp [outF, needF, outR, needR, rows]; done)
           | (rw [out_any1, need_to h]; simp [outF, outR, rows]; omega)
           | (rw [out_any3, need_to h]; simp [outF, outR, rows]; omega)
           | (rcases poss p with rfl | rfl | h3
              all_goals first
                | (simp [outF, needF, outR, needR, rows]; done)
                | (rw [need_to h]; simp [outF, outR, rows]; done)
                | (rw [need_to h]; simp [outF, outR, rows]; omega)
                | (rw [need_to h, out_pos h3]; simp; done)
                | (have h4 : ¬ (1 = p) := by omega
                   have h5 : ¬ (2 = p) := by omega
                   rw [out_pos h3]; simp [needF, needR, rows, h4, h5]; done)))
/-- Two different sides never lead to the same side. -/
theorem out_apart (k i o p : Int) (h1 : (outF k i p).2 = true) (h2 : (outF k o p).2 = true) (h : (outF k i p).1 = (outF k o p).1) : i = o := by
  have a := out_back k i p h1
  have b := out_back k o p h2
  rw [h, b] at a
  exact (congrArg Prod.fst a).symm
/-- The legs are the sides for which there is a passage. -/
theorem mem_legs (k i o : Int) : o ∈ legsF k i ↔ (needF k i o).2 = true := by
  rcases ends i with rfl | rfl | rfl | rfl | h
  all_goals first
    | (rw [legs_in h, need_in h]; simp; done)
    | (rcases kinds k with rfl | rfl | rfl | h
       all_goals first
         | (rw [legs_none h, need_none h]; simp; done)
         | (rcases ends o with rfl | rfl | rfl | rfl | h
            all_goals first
              | decide
              | (rw [need_to h]; simp [legsF, legsR, rows]; done)
              | (rw [need_to h]; simp [legsF, legsR, rows]; omega)))
theorem legs_len (k i : Int) : (legsF k i).length = if i < 0 ∨ sidesF k ≤ i then 0 else if facF k i = true then 2 else 1 := by
  rcases kinds k with rfl | rfl | rfl | h
  all_goals first
    | (rw [legs_none h]; simp [sidesF, h.1, h.2.1, h.2.2]; done)
    | (rw [legs_none h]; simp [sidesF, h.1, h.2.1, h.2.2]; omega)
    | (rcases ends i with rfl | rfl | rfl | rfl | h
       all_goals first
         | rfl
         | (rw [legs_in h]; simp [sidesF, facF]; done)
         | (rw [legs_in h]; simp [sidesF, facF]; omega))

end Go.Proofs.YtkoldgammeojkaaDoor.Rail
