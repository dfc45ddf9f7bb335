/- Slices of any one-cell elements, of texts, and of slices of texts: what they read as, wherever they lie. -/
import Derived.Test.YtkoldgammeojkaaDoorText
import Derived.Test.YtkoldgammeojkaaDoorReads
import Derived.Test.YtkoldgammeojkaaDoorProg
import Derived.WalkKit
import Derived.Below
import Derived.Outline
import Derived.Lib.Hide
import Derived.Lib.AppendIntMem
import Derived.Deep.DeepFit
import Derived.Lib.QuietBelow
import Derived.Deep.QuietTactic
namespace Go.Proofs.YtkoldgammeojkaaDoor.Rows2
open Go.RowKit Go.Lib Go.Proofs.YtkoldgammeojkaaDoor.Text Go.Proofs.YtkoldgammeojkaaDoor.Reads

/-- The slice v reads as these cells; what it is read from lies in blocks that are ok. -/
def Row (ok : Nat → Prop) (w : World) (v : Value) (vs : List Value) : Prop :=
  ∃ a cap, v = .slice a vs.length cap ∧ vs.length ≤ cap ∧ cap ≤ maxLen ∧
    (vs = [] ∨ ∃ b off, a = some ⟨b, off, none⟩ ∧ ok b ∧ ∀ j x, vs[j]? = some x → w.cell? ⟨b, off + j, none⟩ = some x)

theorem cell_same {w w' : World} {p : Addr} (h : w'.heap[p.block]? = w.heap[p.block]?) : w'.cell? p = w.cell? p := by
  unfold World.cell?
  rw [h]
theorem Row.keep {ok ok' : Nat → Prop} {w w' : World} {v : Value} {vs : List Value} (h : Row ok w v vs) (hk : ∀ b, ok b → ok' b ∧ w'.heap[b]? = w.heap[b]?) : Row ok' w' v vs := by
  obtain ⟨a, cap, h1, h2, h3, h4⟩ := h
  refine ⟨a, cap, h1, h2, h3, h4.imp id fun ⟨b, off, e, hb, hc⟩ => ⟨b, off, e, (hk b hb).1, fun j x hx => ?_⟩⟩
  rw [cell_same (hk b hb).2]
  exact hc j x hx
theorem Row.len {ok : Nat → Prop} {w : World} {v : Value} {vs : List Value} (h : Row ok w v vs) : vs.length ≤ maxLen := by
  obtain ⟨_, _, _, h2, h3, _⟩ := h
  omega
theorem row_nil (ok : Nat → Prop) (w : World) : Row ok w (.slice none 0 0) [] := ⟨none, 0, rfl, Nat.le_refl _, Nat.zero_le _, .inl rfl⟩
theorem row_mk {ok : Nat → Prop} {w : World} {b off cap : Nat} (vs : List Value) (hb : ok b) (hl : vs.length ≤ cap) (hm : cap ≤ maxLen) (hc : ∀ j x, vs[j]? = some x → w.cell? ⟨b, off + j, none⟩ = some x) : Row ok w (.slice (some ⟨b, off, none⟩) vs.length cap) vs :=
  ⟨_, cap, rfl, hl, hm, .inr ⟨b, off, rfl, hb, hc⟩⟩
/-- A slice of the call's own reads as what it owns. -/
theorem row_own {ok : Nat → Prop} {base : Nat} {e : TypeId} {w : World} {v : Value} {vs : List Value} (h : w.ownsRow base e 1 v vs.length vs) (hok : ∀ g, v.ownBlock = some g → g < w.heap.size → ok g) : Row ok w v vs := by
  have hx := h
  obtain ⟨_, hor⟩ := hx
  rcases hor with ⟨rfl, h0⟩ | ⟨g, cap, cur, rfl, hg, hh, hn, hcap, _, _⟩
  · have := List.length_eq_zero_iff.1 h0
    subst this
    exact row_nil _ _
  · refine ⟨_, cap, rfl, hn, hcap, .inr ⟨g, 0, rfl, hok g rfl (h.lt g rfl).2, fun j x hx => ?_⟩⟩
    have := h.cells (g := g) rfl j x hx
    simp only [Addr.add] at this
    rw [← this]
    by_cases h0 : j = 0
    · subst h0; simp
    · simp [h0]
theorem Row.shape {ok : Nat → Prop} {w : World} {v : Value} {vs : List Value} (h : Row ok w v vs) :
    ∃ a cap, v = .slice a vs.length cap ∧ (vs.length : Int) ≤ 9223372036854775807 ∧ cap ≤ maxLen ∧ vs.length ≤ cap ∧ ∀ k x, vs[k]? = some x → ∃ b off, a = some ⟨b, off, none⟩ ∧ ok b ∧ w.cell? ⟨b, off + k, none⟩ = some x := by
  have hm := h.len
  obtain ⟨a, cap, rfl, h2, h3, h4⟩ := h
  refine ⟨a, cap, rfl, by unfold maxLen at hm; omega, h3, h2, fun k x hx => ?_⟩
  rcases h4 with rfl | ⟨b, off, rfl, hb, hc⟩
  · simp at hx
  · exact ⟨b, off, rfl, hb, hc k x hx⟩

/-- The cells of these texts. -/
def strV (ss : List (List UInt8)) : List Value := ss.map fun s => .string (bs s)
theorem strV_len (ss : List (List UInt8)) : (strV ss).length = ss.length := by simp [strV]
theorem strV_at {ss : List (List UInt8)} {k : Nat} {s : (List UInt8)} (h : ss[k]? = some s) : (strV ss)[k]? = some (.string (bs s)) := by simp [strV, h]
theorem at_lt {α : Type} {l : List α} {k : Nat} (h : k < l.length) : ∃ x, l[k]? = some x := ⟨l[k], List.getElem?_eq_getElem h⟩

/-- The slice v reads as these texts. -/
def Strs (ok : Nat → Prop) (w : World) (v : Value) (ss : List (List UInt8)) : Prop := Row ok w v (strV ss) ∧ ∀ s ∈ ss, s.length ≤ maxLen
/-- The slice v reads as these lists of texts. -/
def Lns (ok : Nat → Prop) (w : World) (v : Value) (ls : List (List (List UInt8))) : Prop :=
  ∃ vs : List Value, Row ok w v vs ∧ vs.length = ls.length ∧ ∀ (j : Nat) (x : Value) (l : List (List UInt8)), vs[j]? = some x → ls[j]? = some l → Strs ok w x l

theorem Strs.keep {ok ok' : Nat → Prop} {w w' : World} {v : Value} {ss : List (List UInt8)} (h : Strs ok w v ss) (hk : ∀ b, ok b → ok' b ∧ w'.heap[b]? = w.heap[b]?) : Strs ok' w' v ss := ⟨h.1.keep hk, h.2⟩
theorem Lns.keep {ok ok' : Nat → Prop} {w w' : World} {v : Value} {ls : List (List (List UInt8))} (h : Lns ok w v ls) (hk : ∀ b, ok b → ok' b ∧ w'.heap[b]? = w.heap[b]?) : Lns ok' w' v ls := by
  obtain ⟨vs, h1, h2, h3⟩ := h
  exact ⟨vs, h1.keep hk, h2, fun j x l hx hl => (h3 j x l hx hl).keep hk⟩
theorem strs_nil (ok : Nat → Prop) (w : World) : Strs ok w (.slice none 0 0) [] := ⟨row_nil _ _, fun s hs => by cases hs⟩
theorem lns_nil (ok : Nat → Prop) (w : World) : Lns ok w (.slice none 0 0) [] := ⟨[], row_nil _ _, rfl, fun j x l hx _ => by simp at hx⟩

theorem keep_below {B B' : Nat} {w w' : World} (h : Below B w w') (hB : B ≤ B') : ∀ b, b < B → b < B' ∧ w'.heap[b]? = w.heap[b]? := fun b hb => ⟨Nat.lt_of_lt_of_le hb hB, h.block b hb⟩
theorem keep_next {w w' : World} (h : Below w.heap.size w w') : ∀ b, b < w.heap.size → b < w'.heap.size ∧ w'.heap[b]? = w.heap[b]? := keep_below h h.size

theorem Strs.shape {ok : Nat → Prop} {w : World} {v : Value} {ss : List (List UInt8)} (h : Strs ok w v ss) :
    ∃ a cap, v = .slice a ss.length cap ∧ (ss.length : Int) ≤ 9223372036854775807 ∧ cap ≤ maxLen ∧ ss.length ≤ cap ∧ ∀ k s, ss[k]? = some s → s.length ≤ maxLen ∧ ∃ b off, a = some ⟨b, off, none⟩ ∧ ok b ∧ w.cell? ⟨b, off + k, none⟩ = some (.string (bs s)) := by
  obtain ⟨a, cap, h1, h2, h3, h4, h5⟩ := h.1.shape
  rw [strV_len] at h1 h2 h4
  exact ⟨a, cap, h1, h2, h3, h4, fun k s hs => ⟨h.2 s (List.mem_of_getElem? hs), h5 k _ (strV_at hs)⟩⟩
theorem Lns.shape {ok : Nat → Prop} {w : World} {v : Value} {ls : List (List (List UInt8))} (h : Lns ok w v ls) :
    ∃ a cap, v = .slice a ls.length cap ∧ (ls.length : Int) ≤ 9223372036854775807 ∧ cap ≤ maxLen ∧ ls.length ≤ cap ∧ ∀ k l, ls[k]? = some l → ∃ b off x, a = some ⟨b, off, none⟩ ∧ ok b ∧ w.cell? ⟨b, off + k, none⟩ = some x ∧ Strs ok w x l := by
  obtain ⟨vs, h1, hlen, h3⟩ := h
  obtain ⟨a, cap, e1, e2, e3, e4, e5⟩ := h1.shape
  rw [hlen] at e1 e2 e4
  refine ⟨a, cap, e1, e2, e3, e4, fun k l hl => ?_⟩
  have hk : k < vs.length := by
    rw [hlen]
    exact (List.getElem?_eq_some_iff.1 hl).1
  obtain ⟨x, hx⟩ := at_lt hk
  obtain ⟨b, off, f1, f2, f3⟩ := e5 k x hx
  exact ⟨b, off, x, f1, f2, f3, h3 k x l hx hl⟩

/-- A slice that a call made whole, at the end of the heap. -/
theorem row_fresh (vs : List Value) {T : TypeId} {w : World} {cs : Array Value} {n : Nat} (hcs : cs = vs.toArray) (hn : n = vs.length) (hm : n ≤ maxLen) : Row (fun b => b < (w.alloc (.cells cs T)).heap.size) (w.alloc (.cells cs T)) (.slice (some ⟨w.heap.size, 0, none⟩) n n) vs := by
  subst hcs hn
  refine row_mk vs (by simp) (Nat.le_refl _) hm fun j x hx => ?_
  rw [World.cell?_alloc_at _ _ _ _ rfl]
  simpa using hx
theorem strs_fresh (ss : List (List UInt8)) {T : TypeId} {w : World} {cs : Array Value} {n : Nat} (hcs : cs = (strV ss).toArray) (hn : n = ss.length) (hm : n ≤ maxLen) (hs : ∀ s ∈ ss, s.length ≤ maxLen) : Strs (fun b => b < (w.alloc (.cells cs T)).heap.size) (w.alloc (.cells cs T)) (.slice (some ⟨w.heap.size, 0, none⟩) n n) ss :=
  ⟨row_fresh (strV ss) hcs (by rw [strV_len]; exact hn) hm, hs⟩

end Go.Proofs.YtkoldgammeojkaaDoor.Rows2
