/- An argument opened: a slice of slices of texts. -/
import Derived.Test.YtnechpciaidkmaaDoorRows2
import Derived.ProofKit
import Derived.ChangeSlices
import Derived.Deep.Slices
import Derived.SizedLaws
namespace Go.Proofs.YtnechpciaidkmaaDoor.Openw
open Go.ChangeShapes Go.WideShapes Go.Deep Go.Proofs.YtnechpciaidkmaaDoor.Text Go.Proofs.YtnechpciaidkmaaDoor.Rows2

theorem weights_all {H : Type} {P : Program} {e : TypeId} {d : DataW H} {n : Nat} (hn : n ∈ d.weights P e) : ∀ {l : List (DataW H)}, d ∈ l → n ∈ DataW.weightsAll P e l
  | [], h => by cases h
  | x :: l, h => by
    simp only [DataW.weightsAll, List.mem_append]
    rcases List.mem_cons.1 h with rfl | h
    · exact .inl hn
    · exact .inr (weights_all hn h)

/-- Cells one behind another, from an address on. -/
theorem row_cells {w : World} {a : Addr} {len cap : Nat} {V : Nat → Value} (hl : len ≤ cap) (hm : cap ≤ maxLen) (h : ∀ i, i < len → w.cell? (a.add i) = some (V i)) : Row (fun b => b < w.heap.size) w (.slice (some a) len cap) ((List.range len).map V) := by
  have e : ((List.range len).map V).length = len := by simp
  refine ⟨some a, cap, by rw [e], by rw [e]; exact hl, hm, ?_⟩
  by_cases h0 : len = 0
  · subst h0
    exact .inl rfl
  · right
    obtain ⟨b, off, spot⟩ := a
    have hc := h 0 (by omega)
    have hspot : spot = none := by simpa [Addr.add] using World.cell?_spot hc
    subst hspot
    have hb : b < w.heap.size := by
      have := World.block_lt_of_cell? w _ hc
      simpa [Addr.add] using this
    refine ⟨b, off, rfl, hb, fun j x hx => ?_⟩
    have hj : j < len := by
      have := (List.getElem?_eq_some_iff.1 hx).1
      rwa [e] at this
    have hx2 : x = V j := by
      rw [List.getElem?_map, List.getElem?_range hj] at hx
      exact (Option.some.inj hx).symm
    rw [hx2, ← h j hj]
    simp only [Addr.add]
    by_cases h0 : j = 0
    · subst h0; simp
    · simp [h0]

section
variable {H : Type} {enc : TypeId × Value → H} {P : Program} {w : World} {base : Nat} {held : Bool}

theorem open_strs {e es : TypeId} {n : Nat} {v : Value} {d : DataW H} {p : List MemPlace} (he : P.underlying e = some (.slice es)) (hs : P.underlying es = some .string) (hcs : P.cellsOf es = 1) (hby : P.bytesOf es = 16)
    (h : DataW.trod enc P w base (fun _ => true) held n e [v] = some (d, p)) (hsz : ∀ k ∈ d.weights P e, k ≤ reachBytes) : ∃ l : List (List UInt8), Strs (fun b => b < w.heap.size) w v l ∧ l.length ≤ 140737488355328 := by
  rcases open_slice1 he hcs h with ⟨h1, _⟩ | ⟨a, len, cap, m, n', V, D, Pl, h1, _, hl, hm, hmm, hx, hel⟩
  · simp only [List.cons.injEq, and_true] at h1
    subst h1
    exact ⟨[], strs_nil _ _, by simp⟩
  · simp only [List.cons.injEq, and_true] at h1
    subst h1
    have hlen : len ≤ m := by rw [hmm]; simp; exact hl
    obtain ⟨f, hf⟩ := choose_lt (α := (List UInt8)) (n := len) (p := fun i s => V i = .string (bs s) ∧ s.length ≤ maxLen) (fun i hi => by
      obtain ⟨s, e1, _, hb⟩ := DataW.trod_string hs (hel i (by omega)).2
      refine ⟨s.data.toList, by rw [bs_of]; simpa using e1, ?_⟩
      rw [← bs_size, bs_of]
      exact hb)
    have hd : len ≤ 140737488355328 := by
      have hw := hsz ((((List.range len).map D).length + ((List.range (m - len)).map fun j => D (len + j)).length) * P.bytesOf es) (by
        have := congrArg Prod.fst hx
        simp only at this
        rw [this]
        simp [DataW.weights, he])
      rw [hby] at hw
      simp [reachBytes] at hw
      omega
    refine ⟨(List.range len).map f, ⟨?_, fun s hs' => ?_⟩, by simpa using hd⟩
    · have hr := row_cells (w := w) hl hm (fun i hi => (hel i (by omega)).1)
      have e2 : (List.range len).map V = strV ((List.range len).map f) := by
        unfold strV
        rw [List.map_map]
        exact List.map_congr_left fun i hi => (hf i (by simpa using hi)).1
      rw [e2] at hr
      exact hr
    · obtain ⟨i, hi, rfl⟩ := List.mem_map.1 hs'
      exact (hf i (by simpa using hi)).2

/-- A slice of slices of texts. -/
theorem open_lines {t e es : TypeId} {n : Nat} {v : Value} {d : DataW H} {p : List MemPlace} (ht : P.underlying t = some (.slice e)) (he : P.underlying e = some (.slice es)) (hs : P.underlying es = some .string) (hc : P.cellsOf e = 1) (hcs : P.cellsOf es = 1) (hby : P.bytesOf es = 16)
    (h : DataW.trod enc P w base (fun _ => true) held n t [v] = some (d, p)) (hsz : ∀ k ∈ d.weights P t, k ≤ reachBytes) : ∃ ls : List (List (List UInt8)), Lns (fun b => b < w.heap.size) w v ls ∧ ∀ l ∈ ls, l.length ≤ 140737488355328 := by
  rcases open_slice1 ht hc h with ⟨h1, _⟩ | ⟨a, len, cap, m, n', V, D, Pl, h1, _, hl, hm, hmm, hx, hel⟩
  · simp only [List.cons.injEq, and_true] at h1
    subst h1
    exact ⟨[], lns_nil _ _, by simp⟩
  · simp only [List.cons.injEq, and_true] at h1
    subst h1
    have hlen : len ≤ m := by rw [hmm]; simp; exact hl
    obtain ⟨f, hf⟩ := choose_lt (α := List (List UInt8)) (n := len) (p := fun i l => Strs (fun b => b < w.heap.size) w (V i) l ∧ l.length ≤ 140737488355328) (fun i hi => by
      refine open_strs he hs hcs hby (hel i (by omega)).2 fun k hk => hsz k ?_
      have := congrArg Prod.fst hx
      simp only at this
      rw [this]
      simp only [DataW.weights, ht, List.mem_cons, List.mem_append]
      exact .inr (.inl (weights_all hk (List.mem_map.2 ⟨i, by simpa using hi, rfl⟩))))
    refine ⟨(List.range len).map f, ⟨(List.range len).map V, row_cells hl hm (fun i hi => (hel i (by omega)).1), by simp, fun j x l hx2 hl2 => ?_⟩, fun l hl2 => ?_⟩
    · have hj : j < len := by
        have := (List.getElem?_eq_some_iff.1 hx2).1
        simpa using this
      rw [List.getElem?_map, List.getElem?_range hj] at hx2 hl2
      rw [← Option.some.inj hx2, ← Option.some.inj hl2]
      exact (hf j hj).1
    · obtain ⟨i, hi, rfl⟩ := List.mem_map.1 hl2
      exact (hf i (by simpa using hi)).2
end

end Go.Proofs.YtnechpciaidkmaaDoor.Openw
