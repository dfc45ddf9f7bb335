/- Arguments opened: a struct of one-cell fields by value, and its fields. -/
import Derived.Test.YtnechpciaidkmaaDoorReads
import Derived.ProofKit
import Derived.ChangeSlices
import Derived.Deep.Slices
import Derived.Deep.Fields
import Derived.ChangeSame
namespace Go.Proofs.YtnechpciaidkmaaDoor.Open
open Go.ChangeShapes Go.WideShapes Go.Deep Go.Proofs.YtnechpciaidkmaaDoor.Reads

section
variable {H : Type} {enc : TypeId × Value → H} {P : Program} {w : World} {base : Nat} {held : Bool}

/-- A struct by value whose fields take a cell each: its cells, and what each field's cell reads as. -/
theorem open_struct {r : Reach} {b0 : Nat} {t : TypeId} {fs : Array Field} {v : Value} {d : DataW H} {p : List MemPlace} {spare : Nat → Bool} (hs : P.underlying t = some (.struct fs)) (hone : oneCellFields P fs = true) (hC : P.cellsOf t = fs.size)
    (hv : Value.okWide P w r b0 t v) (h : DataW.Trod enc P w base spare held t v d p) :
    ∃ (cs : List Value) (n : Nat), v = .agg cs.toArray ∧ cs.length = fs.size ∧ ∀ (j : Nat) (f : Field) (c : Value), fs[j]? = some f → cs[j]? = some c → ∃ y, DataW.trod enc P w base spare held n f.type [c] = some y := by
  obtain ⟨⟨cs⟩, rfl, hsz⟩ := okWide_struct hs hv
  obtain ⟨fuel, hf⟩ := h
  obtain ⟨xs, n, _, _, hlen, hxl, hg⟩ := DataW.trod_struct hs hf
  refine ⟨cs, n, rfl, by rw [← hC, ← hsz]; rfl, fun j f c hj hc => ?_⟩
  obtain ⟨ho, hk⟩ := hone_of hone j f hj
  have hjx : j < xs.length := by rw [hxl]; exact (Array.getElem?_eq_some_iff.1 hj).1
  have hjc : j < cs.length := (List.getElem?_eq_some_iff.1 hc).1
  have h1 := hg j f hj
  rw [ho, hk] at h1
  have e : (((Value.agg ⟨cs⟩).cells.toList).drop j).take 1 = [c] := by
    show (cs.drop j).take 1 = [c]
    rw [List.drop_eq_getElem_cons hjc]
    have := (List.getElem?_eq_some_iff.1 hc).2
    simp [this]
  rw [e] at h1
  exact ⟨_, h1.trans (List.getElem?_eq_getElem hjx)⟩

theorem five {α : Type} {l : List α} {n : Nat} (h : l.length = n) (hn : n = 5) : ∃ a b c d e, l = [a, b, c, d, e] := by
  match l, h.trans hn with
  | [a, b, c, d, e], _ => exact ⟨a, b, c, d, e, rfl⟩

/-- A slice of ints, as a field or an argument holds it. -/
theorem open_reads {t e : TypeId} {fuel : Nat} {c : Value} {x : DataW H × List MemPlace} (ht : P.underlying t = some (.slice e)) (he : P.underlying e = some (.int .i64)) (hc : P.cellsOf e = 1)
    (h : DataW.trod enc P w base (fun _ => true) held fuel t [c] = some x) : ∃ l : List Int, Reads w.heap.size w c l := by
  rcases open_ints ht he hc h with ⟨h1, _⟩ | ⟨a, len, cap, zs, h1, _, hl, hm, hz, _, hcell, hwz⟩
  · simp only [List.cons.injEq, and_true] at h1
    subst h1
    exact ⟨[], reads_nil _ _⟩
  · simp only [List.cons.injEq, and_true] at h1
    subst h1
    exact ⟨_, (reads_arg (.inr ⟨a, rfl, hl, hm, by simpa using hz, hcell, hwz⟩)).1⟩
end

end Go.Proofs.YtnechpciaidkmaaDoor.Open
