/- A region that draws its order: three calls one behind another, three new boxes, three stores into them. -/
import Derived.Test.YtkoldgammeojkaaPsg
import Derived.OrdersHeld
namespace Go.Proofs.Ytkoldgammeojkaa.Drw
open Go.RowKit Go.Lib Go.Proofs.Ytkoldgammeojkaa.Reads Go.Proofs.Ytkoldgammeojkaa.Rows2 Go.Proofs.Ytkoldgammeojkaa.Lay Go.Proofs.Ytkoldgammeojkaa.Segs Go.Proofs.Ytkoldgammeojkaa.Psg

def lst (l6 l9 l16 l17 l18 l19 l20 l21 l22 : Bool) : Array Bool := #[true, true, true, true, true, true, l6, true, true, l9, true, true, true, true, true, true, l16, l17, l18, l19, l20, l21, l22]
/-- What may come up. -/
def may (l6 l9 l16 l17 l18 l19 l20 l21 l22 : Bool) (i : Nat) : Bool :=
  (i == 6 && !l6) || (i == 9 && !l9) || (i == 16 && !l16) || (i == 17 && !l17) || (i == 18 && !l18) || (i == 19 && !l19) ||
  (i == 20 && !l20 && (l6 && l17)) || (i == 21 && !l21 && (l9 && l18)) || (i == 22 && !l22 && (l16 && l19))
def one (b : Bool) : Nat := if b then 0 else 1
def left (l6 l9 l16 l17 l18 l19 l20 l21 l22 : Bool) : Nat := one l6 + one l9 + one l16 + one l17 + one l18 + one l19 + one l20 + one l21 + one l22

def rowA (s : Sg) : Array Value := #[.int .i64 s.1, .int .i64 s.2.1, .int .i64 s.2.2.1, .int .i64 s.2.2.2]
def zeroS : Sg := (0, 0, 0, 0)
def putS (w : World) (A : Nat) (s : Sg) : World := (((w.setCell ⟨A, 0, none⟩ (.int .i64 s.1)).setCell ⟨A, 1, none⟩ (.int .i64 s.2.1)).setCell ⟨A, 2, none⟩ (.int .i64 s.2.2.1)).setCell ⟨A, 3, none⟩ (.int .i64 s.2.2.2)
/-- The box of a variable. -/
structure Bx (W w : World) (T : TypeId) (v : Value) (A : Nat) (s : Sg) : Prop where
  ptr : v = .pointer (some ⟨A, 0, none⟩)
  low : W.heap.size ≤ A
  lt : A < w.heap.size
  row : w.heap[A]? = some (.cells (rowA s) T (0, 0))
theorem Bx.next {W w w' : World} {T : TypeId} {v : Value} {A : Nat} {s : Sg} (h : Bx W w T v A s) (hb : Below w.heap.size w w') : Bx W w' T v A s :=
  ⟨h.ptr, h.low, Nat.lt_of_lt_of_le h.lt hb.size, (hb.block A h.lt).trans h.row⟩
theorem put_size (w : World) (A : Nat) (s : Sg) : (putS w A s).heap.size = w.heap.size := by simp [putS, World.setCell]
theorem Bx.other {W w : World} {T : TypeId} {v : Value} {A B : Nat} {s r : Sg} (h : Bx W w T v A s) (hne : A ≠ B) : Bx W (putS w B r) T v A s := by
  refine ⟨h.ptr, h.low, by rw [put_size]; exact h.lt, ?_⟩
  have e : ∀ (x : World) (k : Nat) (u : Value), (x.setCell ⟨B, k, none⟩ u).heap[A]? = x.heap[A]? := fun x k u => heap_setCell_other _ _ _ _ (by simpa using hne)
  rw [putS, e, e, e, e]
  exact h.row
theorem Bx.put {W w : World} {T : TypeId} {v : Value} {A : Nat} {s r : Sg} (h : Bx W w T v A s) : Bx W (putS w A r) T v A r := by
  refine ⟨h.ptr, h.low, by rw [put_size]; exact h.lt, ?_⟩
  exact (set_four (c0 := .int .i64 s.1) (c1 := .int .i64 s.2.1) (c2 := .int .i64 s.2.2.1) (c3 := .int .i64 s.2.2.2) h.row).1
theorem bx_new {W w : World} {T : TypeId} (hb : Below W.heap.size W w) : Bx W (w.alloc (.cells (rowA zeroS) T)) T (.pointer (some ⟨w.heap.size, 0, none⟩)) w.heap.size zeroS :=
  ⟨rfl, hb.size, by simp, heap_alloc_new w _⟩
theorem below_put {W w : World} {A : Nat} {s : Sg} (hb : Below W.heap.size W w) (h : W.heap.size ≤ A) : Below W.heap.size W (putS w A s) := by
  have e : ∀ (x : World) (k : Nat) (u : Value), Below W.heap.size W x → Below W.heap.size W (x.setCell ⟨A, k, none⟩ u) := fun x k u hx => hx.setCell (by simpa using h) u
  exact e _ _ _ (e _ _ _ (e _ _ _ (e _ _ _ hb)))
def sel (b : Bool) (s : Sg) : Sg := if b then s else zeroS

/-- What holds between two operations. -/
structure Inv (W : World) (T : TypeId) (r1 r2 r3 : Sg) (l6 l9 l16 l17 l18 l19 l20 l21 l22 : Bool) (A7 A8 A9 : Nat) (v7 v8 v9 v16 v19 v26 : Value) (w : World) : Prop where
  below : Below W.heap.size W w
  c1 : l6 = true → v16 = sgV r1
  c2 : l9 = true → v19 = sgV r2
  c3 : l16 = true → v26 = sgV r3
  b7 : l17 = true → Bx W w T v7 A7 (sel l20 r1)
  b8 : l18 = true → Bx W w T v8 A8 (sel l21 r2)
  b9 : l19 = true → Bx W w T v9 A9 (sel l22 r3)
  n78 : l17 = true → l18 = true → A7 ≠ A8
  n79 : l17 = true → l19 = true → A7 ≠ A9
  n89 : l18 = true → l19 = true → A8 ≠ A9
  s7 : l20 = true → l17 = true
  s8 : l21 = true → l18 = true
  s9 : l22 = true → l19 = true

theorem drawn {P : Program} {ops : Array Oper} {Q : Exit → Act → World → Prop} {S : World → Prop} {W : World} {T : TypeId} {r1 r2 r3 : Sg} (f : Value → Value → Value → Value → Value → Value → Act)
    (hS : ∀ w', Below W.heap.size W w' → S w')
    (hready : ∀ l6 l9 l16 l17 l18 l19 l20 l21 l22, (Region.ready .any ops (lst l6 l9 l16 l17 l18 l19 l20 l21 l22)).all (may l6 l9 l16 l17 l18 l19 l20 l21 l22) = true)
    (hdone : ∀ l6 l9 l16 l17 l18 l19 l20 l21 l22, (Region.ready .any ops (lst l6 l9 l16 l17 l18 l19 l20 l21 l22)).isEmpty = (l6 && l9 && l16 && l17 && l18 && l19 && l20 && l21 && l22))
    (o6 : ∀ v7 v8 v9 v16 v19 v26 w K, (∀ w', Below w.heap.size w w' → K (f v7 v8 v9 (sgV r1) v19 v26) w') → wpOp P ops Q 6 K (f v7 v8 v9 v16 v19 v26) w)
    (o9 : ∀ v7 v8 v9 v16 v19 v26 w K, (∀ w', Below w.heap.size w w' → K (f v7 v8 v9 v16 (sgV r2) v26) w') → wpOp P ops Q 9 K (f v7 v8 v9 v16 v19 v26) w)
    (o16 : ∀ v7 v8 v9 v16 v19 v26 w K, (∀ w', Below w.heap.size w w' → K (f v7 v8 v9 v16 v19 (sgV r3)) w') → wpOp P ops Q 16 K (f v7 v8 v9 v16 v19 v26) w)
    (o17 : ∀ v7 v8 v9 v16 v19 v26 w K, K (f (.pointer (some ⟨w.heap.size, 0, none⟩)) v8 v9 v16 v19 v26) (w.alloc (.cells (rowA zeroS) T)) → wpOp P ops Q 17 K (f v7 v8 v9 v16 v19 v26) w)
    (o18 : ∀ v7 v8 v9 v16 v19 v26 w K, K (f v7 (.pointer (some ⟨w.heap.size, 0, none⟩)) v9 v16 v19 v26) (w.alloc (.cells (rowA zeroS) T)) → wpOp P ops Q 18 K (f v7 v8 v9 v16 v19 v26) w)
    (o19 : ∀ v7 v8 v9 v16 v19 v26 w K, K (f v7 v8 (.pointer (some ⟨w.heap.size, 0, none⟩)) v16 v19 v26) (w.alloc (.cells (rowA zeroS) T)) → wpOp P ops Q 19 K (f v7 v8 v9 v16 v19 v26) w)
    (o20 : ∀ A v8 v9 v19 v26 w K s, Bx W w T (.pointer (some ⟨A, 0, none⟩)) A s → K (f (.pointer (some ⟨A, 0, none⟩)) v8 v9 (sgV r1) v19 v26) (putS w A r1) → wpOp P ops Q 20 K (f (.pointer (some ⟨A, 0, none⟩)) v8 v9 (sgV r1) v19 v26) w)
    (o21 : ∀ A v7 v9 v16 v26 w K s, Bx W w T (.pointer (some ⟨A, 0, none⟩)) A s → K (f v7 (.pointer (some ⟨A, 0, none⟩)) v9 v16 (sgV r2) v26) (putS w A r2) → wpOp P ops Q 21 K (f v7 (.pointer (some ⟨A, 0, none⟩)) v9 v16 (sgV r2) v26) w)
    (o22 : ∀ A v7 v8 v16 v19 w K s, Bx W w T (.pointer (some ⟨A, 0, none⟩)) A s → K (f v7 v8 (.pointer (some ⟨A, 0, none⟩)) v16 v19 (sgV r3)) (putS w A r3) → wpOp P ops Q 22 K (f v7 v8 (.pointer (some ⟨A, 0, none⟩)) v16 v19 (sgV r3)) w)
    (hQ : ∀ A7 A8 A9 w, A7 ≠ A8 → A7 ≠ A9 → A8 ≠ A9 → Bx W w T (.pointer (some ⟨A7, 0, none⟩)) A7 r1 → Bx W w T (.pointer (some ⟨A8, 0, none⟩)) A8 r2 → Bx W w T (.pointer (some ⟨A9, 0, none⟩)) A9 r3 → Below W.heap.size W w →
      Q .normal (f (.pointer (some ⟨A7, 0, none⟩)) (.pointer (some ⟨A8, 0, none⟩)) (.pointer (some ⟨A9, 0, none⟩)) (sgV r1) (sgV r2) (sgV r3)) w) :
    ∀ fuel l6 l9 l16 l17 l18 l19 l20 l21 l22, left l6 l9 l16 l17 l18 l19 l20 l21 l22 = fuel → ∀ A7 A8 A9 v7 v8 v9 v16 v19 v26 w, Inv W T r1 r2 r3 l6 l9 l16 l17 l18 l19 l20 l21 l22 A7 A8 A9 v7 v8 v9 v16 v19 v26 w →
      wpAnyH P .any ops Q S fuel (lst l6 l9 l16 l17 l18 l19 l20 l21 l22) (f v7 v8 v9 v16 v19 v26) w := by
  have fin : ∀ l6 l9 l16 l17 l18 l19 l20 l21 l22, Region.ready .any ops (lst l6 l9 l16 l17 l18 l19 l20 l21 l22) = [] → ∀ A7 A8 A9 v7 v8 v9 v16 v19 v26 w, Inv W T r1 r2 r3 l6 l9 l16 l17 l18 l19 l20 l21 l22 A7 A8 A9 v7 v8 v9 v16 v19 v26 w → Q .normal (f v7 v8 v9 v16 v19 v26) w := by
    intro l6 l9 l16 l17 l18 l19 l20 l21 l22 h A7 A8 A9 v7 v8 v9 v16 v19 v26 w hi
    have hd := hdone l6 l9 l16 l17 l18 l19 l20 l21 l22
    rw [h] at hd
    simp only [List.isEmpty_nil, Bool.true_eq, Bool.and_eq_true] at hd
    obtain ⟨⟨⟨⟨⟨⟨⟨⟨rfl, rfl⟩, rfl⟩, rfl⟩, rfl⟩, rfl⟩, rfl⟩, rfl⟩, rfl⟩ := hd
    have h7 := hi.b7 rfl
    have h8 := hi.b8 rfl
    have h9 := hi.b9 rfl
    have e7 := h7.ptr
    have e8 := h8.ptr
    have e9 := h9.ptr
    have f1 := hi.c1 rfl
    have f2 := hi.c2 rfl
    have f3 := hi.c3 rfl
    subst e7 e8 e9 f1 f2 f3
    exact hQ A7 A8 A9 w (hi.n78 rfl rfl) (hi.n79 rfl rfl) (hi.n89 rfl rfl) h7 h8 h9 hi.below
  intro fuel
  induction fuel with
  | zero =>
    intro l6 l9 l16 l17 l18 l19 l20 l21 l22 hl A7 A8 A9 v7 v8 v9 v16 v19 v26 w hi
    have hr : Region.ready .any ops (lst l6 l9 l16 l17 l18 l19 l20 l21 l22) = [] := by
      rw [← List.isEmpty_iff, hdone]
      revert hl
      cases l6 <;> cases l9 <;> cases l16 <;> cases l17 <;> cases l18 <;> cases l19 <;> cases l20 <;> cases l21 <;> cases l22 <;> simp [left, one]
    exact ⟨hr, fin _ _ _ _ _ _ _ _ _ hr _ _ _ _ _ _ _ _ _ _ hi⟩
  | succ fuel ih =>
    intro l6 l9 l16 l17 l18 l19 l20 l21 l22 hl A7 A8 A9 v7 v8 v9 v16 v19 v26 w hi
    refine ⟨fun hr => fin _ _ _ _ _ _ _ _ _ hr _ _ _ _ _ _ _ _ _ _ hi, fun i hm => ?_⟩
    have hmay := List.all_eq_true.1 (hready l6 l9 l16 l17 l18 l19 l20 l21 l22) i hm
    simp only [may, Bool.or_eq_true, Bool.and_eq_true, beq_iff_eq, Bool.not_eq_true'] at hmay
    rcases hmay with (((((((⟨rfl, rfl⟩ | ⟨rfl, rfl⟩) | ⟨rfl, rfl⟩) | ⟨rfl, rfl⟩) | ⟨rfl, rfl⟩) | ⟨rfl, rfl⟩) | ⟨⟨rfl, rfl⟩, rfl, rfl⟩) | ⟨⟨rfl, rfl⟩, rfl, rfl⟩) | ⟨⟨rfl, rfl⟩, rfl, rfl⟩
    · refine o6 _ _ _ _ _ _ _ _ fun w' hb => ?_
      have hB := bel_next hi.below hb
      refine ⟨hS _ hB, ih true l9 l16 l17 l18 l19 l20 l21 l22 (by simp only [left, one] at hl ⊢; simp at hl ⊢; omega) A7 A8 A9 _ _ _ _ _ _ _ ?_⟩
      exact ⟨hB, fun _ => rfl, hi.c2, hi.c3, fun h => (hi.b7 h).next hb, fun h => (hi.b8 h).next hb, fun h => (hi.b9 h).next hb, hi.n78, hi.n79, hi.n89, hi.s7, hi.s8, hi.s9⟩
    · refine o9 _ _ _ _ _ _ _ _ fun w' hb => ?_
      have hB := bel_next hi.below hb
      refine ⟨hS _ hB, ih l6 true l16 l17 l18 l19 l20 l21 l22 (by simp only [left, one] at hl ⊢; simp at hl ⊢; omega) A7 A8 A9 _ _ _ _ _ _ _ ?_⟩
      exact ⟨hB, hi.c1, fun _ => rfl, hi.c3, fun h => (hi.b7 h).next hb, fun h => (hi.b8 h).next hb, fun h => (hi.b9 h).next hb, hi.n78, hi.n79, hi.n89, hi.s7, hi.s8, hi.s9⟩
    · refine o16 _ _ _ _ _ _ _ _ fun w' hb => ?_
      have hB := bel_next hi.below hb
      refine ⟨hS _ hB, ih l6 l9 true l17 l18 l19 l20 l21 l22 (by simp only [left, one] at hl ⊢; simp at hl ⊢; omega) A7 A8 A9 _ _ _ _ _ _ _ ?_⟩
      exact ⟨hB, hi.c1, hi.c2, fun _ => rfl, fun h => (hi.b7 h).next hb, fun h => (hi.b8 h).next hb, fun h => (hi.b9 h).next hb, hi.n78, hi.n79, hi.n89, hi.s7, hi.s8, hi.s9⟩
    · refine o17 _ _ _ _ _ _ _ _ ?_
      have hb : Below w.heap.size w (w.alloc (.cells (rowA zeroS) T)) := (Below.refl _ _).alloc (Nat.le_refl _) _
      have hB := bel_next hi.below hb
      have h20 : l20 = false := by
        cases l20 with
        | false => rfl
        | true => have := hi.s7 rfl; cases this
      subst h20
      refine ⟨hS _ hB, ih l6 l9 l16 true l18 l19 false l21 l22 (by simp only [left, one] at hl ⊢; simp at hl ⊢; omega) w.heap.size A8 A9 _ _ _ _ _ _ _ ?_⟩
      exact ⟨hB, hi.c1, hi.c2, hi.c3, fun _ => bx_new hi.below, fun h => (hi.b8 h).next hb, fun h => (hi.b9 h).next hb, fun _ h => by have := (hi.b8 h).lt; omega, fun _ h => by have := (hi.b9 h).lt; omega, hi.n89, fun h => (by cases h), hi.s8, hi.s9⟩
    · refine o18 _ _ _ _ _ _ _ _ ?_
      have hb : Below w.heap.size w (w.alloc (.cells (rowA zeroS) T)) := (Below.refl _ _).alloc (Nat.le_refl _) _
      have hB := bel_next hi.below hb
      have h21 : l21 = false := by
        cases l21 with
        | false => rfl
        | true => have := hi.s8 rfl; cases this
      subst h21
      refine ⟨hS _ hB, ih l6 l9 l16 l17 true l19 l20 false l22 (by simp only [left, one] at hl ⊢; simp at hl ⊢; omega) A7 w.heap.size A9 _ _ _ _ _ _ _ ?_⟩
      exact ⟨hB, hi.c1, hi.c2, hi.c3, fun h => (hi.b7 h).next hb, fun _ => bx_new hi.below, fun h => (hi.b9 h).next hb, fun h _ => by have := (hi.b7 h).lt; omega, hi.n79, fun _ h => by have := (hi.b9 h).lt; omega, hi.s7, fun h => (by cases h), hi.s9⟩
    · refine o19 _ _ _ _ _ _ _ _ ?_
      have hb : Below w.heap.size w (w.alloc (.cells (rowA zeroS) T)) := (Below.refl _ _).alloc (Nat.le_refl _) _
      have hB := bel_next hi.below hb
      have h22 : l22 = false := by
        cases l22 with
        | false => rfl
        | true => have := hi.s9 rfl; cases this
      subst h22
      refine ⟨hS _ hB, ih l6 l9 l16 l17 l18 true l20 l21 false (by simp only [left, one] at hl ⊢; simp at hl ⊢; omega) A7 A8 w.heap.size _ _ _ _ _ _ _ ?_⟩
      exact ⟨hB, hi.c1, hi.c2, hi.c3, fun h => (hi.b7 h).next hb, fun h => (hi.b8 h).next hb, fun _ => bx_new hi.below, hi.n78, fun h _ => by have := (hi.b7 h).lt; omega, fun h _ => by have := (hi.b8 h).lt; omega, hi.s7, hi.s8, fun h => (by cases h)⟩
    · have h7 := hi.b7 rfl
      have e7 := h7.ptr
      have f1 := hi.c1 rfl
      subst e7 f1
      refine o20 _ _ _ _ _ _ _ _ h7 ?_
      have hB := below_put (s := r1) hi.below h7.low
      refine ⟨hS _ hB, ih true l9 l16 true l18 l19 true l21 l22 (by simp only [left, one] at hl ⊢; simp at hl ⊢; omega) A7 A8 A9 _ _ _ _ _ _ _ ?_⟩
      exact ⟨hB, fun _ => rfl, hi.c2, hi.c3, fun _ => h7.put, fun h => (hi.b8 h).other (hi.n78 rfl h).symm, fun h => (hi.b9 h).other (hi.n79 rfl h).symm, hi.n78, hi.n79, hi.n89, fun _ => rfl, hi.s8, hi.s9⟩
    · have h8 := hi.b8 rfl
      have e8 := h8.ptr
      have f2 := hi.c2 rfl
      subst e8 f2
      refine o21 _ _ _ _ _ _ _ _ h8 ?_
      have hB := below_put (s := r2) hi.below h8.low
      refine ⟨hS _ hB, ih l6 true l16 l17 true l19 l20 true l22 (by simp only [left, one] at hl ⊢; simp at hl ⊢; omega) A7 A8 A9 _ _ _ _ _ _ _ ?_⟩
      exact ⟨hB, hi.c1, fun _ => rfl, hi.c3, fun h => (hi.b7 h).other (hi.n78 h rfl), fun _ => h8.put, fun h => (hi.b9 h).other (hi.n89 rfl h).symm, hi.n78, hi.n79, hi.n89, hi.s7, fun _ => rfl, hi.s9⟩
    · have h9 := hi.b9 rfl
      have e9 := h9.ptr
      have f3 := hi.c3 rfl
      subst e9 f3
      refine o22 _ _ _ _ _ _ _ _ h9 ?_
      have hB := below_put (s := r3) hi.below h9.low
      refine ⟨hS _ hB, ih l6 l9 true l17 l18 true l20 l21 true (by simp only [left, one] at hl ⊢; simp at hl ⊢; omega) A7 A8 A9 _ _ _ _ _ _ _ ?_⟩
      exact ⟨hB, hi.c1, hi.c2, fun _ => rfl, fun h => (hi.b7 h).other (hi.n79 h rfl), fun h => (hi.b8 h).other (hi.n89 h rfl), fun _ => h9.put, hi.n78, hi.n79, hi.n89, hi.s7, hi.s8, fun _ => rfl⟩

end Go.Proofs.Ytkoldgammeojkaa.Drw
