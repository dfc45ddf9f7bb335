/- Slices of ints that are only read: what they read as, wherever they lie. No program. -/
import Derived.WalkKit
import Derived.Below
import Derived.BigQuiet
import Derived.Deep.QuietTactic
import Derived.Sort.OwnSortedInts
namespace Go.Proofs.YtkoldgammeojkaaDoor.Reads
open Go.RowKit Go.Sort

theorem below_drewN {B : Nat} {a w : World} (h : Below B a w) (n : Nat) : Below B a (w.drewN n) := ⟨h.os, h.tape, h.output, h.size, h.block⟩
theorem wf_bounds {x : Int} (h : (Lit.int .i64 x).wf = true) : -9223372036854775808 ≤ x ∧ x ≤ 9223372036854775807 := by
  have hmin : IntKind.i64.min = -9223372036854775808 := rfl
  have hmax : IntKind.i64.max = 9223372036854775807 := rfl
  simp only [Lit.wf, Bool.and_eq_true, decide_eq_true_eq] at h
  omega

/-- The slice v reads as the ints xs; what it is read from lies below block B. -/
def Reads (B : Nat) (w : World) (v : Value) (xs : List Int) : Prop :=
  ∃ a cap, v = .slice a xs.length cap ∧ xs.length ≤ cap ∧ cap ≤ maxLen ∧ (∀ n ∈ xs, (Lit.int .i64 n).wf = true) ∧
    (xs = [] ∨ ∃ b off, a = some ⟨b, off, none⟩ ∧ b < B ∧ ∀ j, j < xs.length → w.cell? ⟨b, off + j, none⟩ = some (.int .i64 (xs.getD j 0)))

theorem Reads.mono {B B' : Nat} {w : World} {v : Value} {xs : List Int} (h : Reads B w v xs) (hB : B ≤ B') : Reads B' w v xs := by
  obtain ⟨a, cap, h1, h2, h3, h4, h5⟩ := h
  exact ⟨a, cap, h1, h2, h3, h4, h5.imp id fun ⟨b, off, e, hb, hc⟩ => ⟨b, off, e, by omega, hc⟩⟩
theorem Reads.below {B B' : Nat} {w w' : World} {v : Value} {xs : List Int} (h : Reads B w v xs) (hB : B ≤ B') (hw : Below B' w w') : Reads B w' v xs := by
  obtain ⟨a, cap, h1, h2, h3, h4, h5⟩ := h
  exact ⟨a, cap, h1, h2, h3, h4, h5.imp id fun ⟨b, off, e, hb, hc⟩ => ⟨b, off, e, hb, fun j hj => (hw.cell (p := ⟨b, off + j, none⟩) (show b < B' by omega)).trans (hc j hj)⟩⟩
theorem Reads.wf {B : Nat} {w : World} {v : Value} {xs : List Int} (h : Reads B w v xs) : ∀ n ∈ xs, (Lit.int .i64 n).wf = true := by
  obtain ⟨_, _, _, _, _, h4, _⟩ := h
  exact h4
theorem Reads.len {B : Nat} {w : World} {v : Value} {xs : List Int} (h : Reads B w v xs) : xs.length ≤ maxLen := by
  obtain ⟨_, _, _, h2, h3, _, _⟩ := h
  omega
theorem reads_nil (B : Nat) (w : World) : Reads B w (.slice none 0 0) [] := ⟨none, 0, rfl, Nat.le_refl _, Nat.zero_le _, by simp, .inl rfl⟩

theorem Reads.cons {B : Nat} {w : World} {v : Value} {x : Int} {xs : List Int} (h : Reads B w v (x :: xs)) :
    ∃ b off cap, v = .slice (some ⟨b, off, none⟩) (xs.length + 1) cap ∧ xs.length + 1 ≤ cap ∧ cap ≤ maxLen ∧ b < B ∧ w.cell? ⟨b, off, none⟩ = some (.int .i64 x) ∧ (Lit.int .i64 x).wf = true ∧
      (∀ a, xs = [] → Reads B w (.slice a xs.length (cap - 1)) xs) ∧ Reads B w (.slice (some ⟨b, off + 1, none⟩) xs.length (cap - 1)) xs := by
  obtain ⟨a, cap, h1, h2, h3, h4, h5⟩ := h
  rcases h5 with h5 | ⟨b, off, rfl, hb, hc⟩
  · cases h5
  · simp only [List.length_cons] at h1 h2 hc
    refine ⟨b, off, cap, h1, h2, h3, hb, by simpa using hc 0 (by omega), h4 _ (by simp), ?_, ?_⟩
    · intro a hx
      exact ⟨a, cap - 1, rfl, by omega, by omega, fun n hn => h4 n (by simp [hn]), .inl hx⟩
    · refine ⟨_, cap - 1, rfl, by omega, by omega, fun n hn => h4 n (by simp [hn]), .inr ⟨b, off + 1, rfl, hb, fun j hj => ?_⟩⟩
      have := hc (j + 1) (by omega)
      rw [show off + (j + 1) = off + 1 + j by omega] at this
      simpa using this

/-- A slice of the call's own reads as what it owns. -/
theorem reads_own {B base : Nat} {e : TypeId} {w : World} {v : Value} {xs : List Int} (h : w.ownsRow base e 1 v xs.length (xs.map (Value.int .i64))) (hw : ∀ n ∈ xs, (Lit.int .i64 n).wf = true) (hB : w.heap.size ≤ B) : Reads B w v xs := by
  have hx := h
  obtain ⟨_, hor⟩ := hx
  rcases hor with ⟨rfl, h0⟩ | ⟨g, cap, cur, rfl, hg, hh, hn, hcap, _, _⟩
  · have := List.length_eq_zero_iff.1 h0
    subst this
    exact reads_nil _ _
  · refine ⟨_, cap, rfl, hn, hcap, hw, .inr ⟨g, 0, rfl, ?_, fun j hj => ?_⟩⟩
    · have := (h.lt g rfl).2; omega
    · have := h.cells (g := g) rfl j (.int .i64 (xs.getD j 0)) (by simp [hj, List.getD_eq_getElem?_getD])
      simp only [Addr.add] at this
      rw [← this]
      by_cases h0 : j = 0
      · subst h0; simp
      · simp [h0]

/-- The cells as the shelf's contracts ask for them. -/
theorem Reads.at {B : Nat} {w : World} {v : Value} {xs : List Int} (h : Reads B w v xs) (h0 : xs ≠ []) :
    ∃ b off cap, v = .slice (some ⟨b, off, none⟩) xs.length cap ∧ xs.length ≤ cap ∧ cap ≤ maxLen ∧ b < B ∧ ∀ j, j < xs.length → w.cell? ⟨b, off + j, none⟩ = some (.int .i64 (xs.getD j 0)) := by
  obtain ⟨a, cap, h1, h2, h3, h4, h5⟩ := h
  rcases h5 with h5 | ⟨b, off, rfl, hb, hc⟩
  · exact absurd h5 h0
  · exact ⟨b, off, cap, h1, h2, h3, hb, hc⟩
theorem Reads.empty {B : Nat} {w : World} {v : Value} (h : Reads B w v []) : ∃ a cap, v = .slice a 0 cap ∧ cap ≤ maxLen := by
  obtain ⟨a, cap, h1, h2, h3, _⟩ := h
  exact ⟨a, cap, h1, h3⟩
/-- A slice of length 0 reads as the empty list. -/
theorem reads_empty (B : Nat) (w : World) (a : Option Addr) (cap : Nat) (h : cap ≤ maxLen) : Reads B w (.slice a 0 cap) [] := ⟨a, cap, rfl, Nat.zero_le _, h, by simp, .inl rfl⟩
/-- A slice of a row that is known. -/
theorem reads_mk {B b off cap : Nat} {w : World} (xs : List Int) (hB : b < B) (hl : xs.length ≤ cap) (hcap : cap ≤ maxLen) (hw : ∀ n ∈ xs, (Lit.int .i64 n).wf = true)
    (hc : ∀ j, j < xs.length → w.cell? ⟨b, off + j, none⟩ = some (.int .i64 (xs.getD j 0))) : Reads B w (.slice (some ⟨b, off, none⟩) xs.length cap) xs :=
  ⟨_, cap, rfl, hl, hcap, hw, .inr ⟨b, off, rfl, hB, hc⟩⟩
/-- What came in as an argument, as the frame opens it. -/
theorem reads_arg {w : World} {a : Option Addr} {len cap : Nat} {zs : List Int}
    (h : (a = none ∧ len = 0 ∧ cap = 0 ∧ zs = []) ∨ ∃ x, a = some x ∧ len ≤ cap ∧ cap ≤ maxLen ∧ zs.length = cap ∧ (∀ i, i < zs.length → w.cell? (x.add i) = some (.int .i64 (zs.getD i 0))) ∧ ∀ n ∈ zs, (Lit.int .i64 n).wf = true) :
    Reads w.heap.size w (.slice a len cap) (zs.take len) ∧ (zs.take len).length = len := by
  rcases h with ⟨rfl, rfl, rfl, rfl⟩ | ⟨x, rfl, hl, hm, hz, hcell, hwz⟩
  · exact ⟨reads_nil _ _, rfl⟩
  · have e : (zs.take len).length = len := by simp; omega
    refine ⟨⟨_, cap, by rw [e], by omega, hm, fun n hn => hwz n (List.mem_of_mem_take hn), ?_⟩, e⟩
    by_cases h0 : len = 0
    · subst h0; left; simp
    · right
      obtain ⟨b, off, spot⟩ := x
      have hc := hcell 0 (by omega)
      have hspot : spot = none := by simpa [Addr.add] using World.cell?_spot hc
      subst hspot
      have hb : b < w.heap.size := by
        have := World.block_lt_of_cell? w _ hc
        by_cases h : (0 : Nat) = 0
        · simpa [Addr.add] using this
        · omega
      refine ⟨b, off, rfl, hb, fun i hi => ?_⟩
      have := hcell i (by omega)
      have e2 : (zs.take len).getD i 0 = zs.getD i 0 := by rw [e] at hi; simp [List.getD_eq_getElem?_getD, hi]
      rw [e2, ← this]
      simp only [Addr.add]
      by_cases h0 : i = 0
      · subst h0; simp
      · simp [h0]

end Go.Proofs.YtkoldgammeojkaaDoor.Reads
