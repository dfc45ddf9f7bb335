/- Slices of ints that are read: plain helpers, and the statements' 'same'. -/
import Derived.Test.YtgbgpncacpgikaaDoorReads
import Derived.Test.YtgbgpncacpgikaaDoorProg
import Derived.Outline
import Derived.Lib.Hide
import Derived.Deep.DeepFit
namespace Go.Proofs.YtgbgpncacpgikaaDoor.Ints
open Go.RowKit Go.Sort Go.Proofs.YtgbgpncacpgikaaDoor.Reads

theorem getD_mem {xs : List Int} {k : Nat} (h : k < xs.length) : xs.getD k 0 ∈ xs := by
  have : xs.getD k 0 = xs[k] := by simp [List.getD_eq_getElem?_getD, h]
  rw [this]; exact List.getElem_mem h
theorem take_snoc {xs : List Int} {k : Nat} (h : k < xs.length) : xs.take (k + 1) = xs.take k ++ [xs.getD k 0] := by
  have : xs.getD k 0 = xs[k] := by simp [List.getD_eq_getElem?_getD, h]
  rw [List.take_succ_eq_append_getElem h, this]
theorem take_all (xs : List Int) : xs.take xs.length = xs := List.take_of_length_le (Nat.le_refl _)
theorem rcell {B : Nat} {w : World} {a : Option Addr} {n cap : Nat} {xs : List Int} (h : Reads B w (.slice a n cap) xs) :
    n = xs.length ∧ ∀ k, k < xs.length → ∃ b off, a = some ⟨b, off, none⟩ ∧ b < B ∧ w.cell? ⟨b, off + k, none⟩ = some (.int .i64 (xs.getD k 0)) := by
  obtain ⟨a', cap', h1, h2, h3, h4, h5⟩ := h
  cases h1
  refine ⟨rfl, fun k hk => ?_⟩
  rcases h5 with rfl | ⟨b, off, rfl, hb, hc⟩
  · cases hk
  · exact ⟨b, off, rfl, hb, hc k hk⟩
theorem rshape {B : Nat} {w : World} {v : Value} {xs : List Int} (h : Reads B w v xs) : ∃ a cap, v = .slice a xs.length cap ∧ (xs.length : Int) ≤ 9223372036854775807 := by
  have hm := h.len
  obtain ⟨a, cap, h1, _⟩ := h
  exact ⟨a, cap, h1, by unfold maxLen at hm; omega⟩

theorem next {W w' : World} {v : Value} {xs : List Int} (R : Reads W.heap.size W v xs) (hb : Below W.heap.size W w') : Reads w'.heap.size w' v xs := (R.below (Nat.le_refl _) hb).mono hb.size
theorem next_alloc {W : World} {v : Value} {xs : List Int} (R : Reads W.heap.size W v xs) (o : Obj) : Reads (W.alloc o).heap.size (W.alloc o) v xs := next R ((Below.refl _ _).alloc (Nat.le_refl _) o)
theorem bel_next {w W w' : World} (h : Below w.heap.size w W) (hb : Below W.heap.size W w') : Below w.heap.size w w' := h.trans (hb.mono h.size)
theorem bel_alloc {w W : World} (h : Below w.heap.size w W) (o : Obj) : Below w.heap.size w (W.alloc o) := h.alloc h.size o

/-- A literal slice. -/
theorem reads_lit (xs : List Int) {cs : Array Value} {T blk n : Nat} {w : World} (hb : blk = w.heap.size) (hcs : cs = (xs.map (Value.int .i64)).toArray) (hn : n = xs.length) (hm : n ≤ maxLen) (hw : ∀ n ∈ xs, (Lit.int .i64 n).wf = true) :
    Reads (w.alloc (.cells cs T)).heap.size (w.alloc (.cells cs T)) (.slice (some ⟨blk, 0, none⟩) n n) xs := by
  subst hb hn hcs
  refine reads_mk xs (by simp) (Nat.le_refl _) hm hw fun j hj => ?_
  rw [World.cell?_alloc_at _ _ _ _ rfl]
  simp [hj, List.getD_eq_getElem?_getD]

theorem ret_bool {a b : Bool} (h : a = b) : Ending.returned (.bool a) = .returned (.bool b) := by rw [h]

def sameB (xs ys : List Int) : Bool := decide (xs = ys)
theorem same_step {xs ys : List Int} {k : Nat} (hx : k < xs.length) (hy : k < ys.length) (h : xs.take k = ys.take k) (he : xs.getD k 0 = ys.getD k 0) : xs.take (k + 1) = ys.take (k + 1) := by
  rw [take_snoc hx, take_snoc hy, h, he]
theorem same_no {xs ys : List Int} {k : Nat} (he : xs.getD k 0 ≠ ys.getD k 0) : sameB xs ys = false := by
  unfold sameB
  exact decide_eq_false (fun e => he (by rw [e]))

theorem same_any {va vb : Value} {xs ys : List Int} {w : World} (h : Reads w.heap.size w va xs) (hy : Reads w.heap.size w vb ys) :
    Calls Tryd.prog 10 #[va, vb] w fun e w' => e = .returned (.bool (sameB xs ys)) ∧ Below w.heap.size w w' := by
  obtain ⟨a, cap, rfl, hm⟩ := rshape h
  obtain ⟨a2, cap2, rfl, hm2⟩ := rshape hy
  have HC := Lib.hid (rcell h).2
  have HC2 := Lib.hid (rcell hy).2
  clear h hy
  by_cases hlen : xs.length = ys.length
  · have HLEN := Lib.hid hlen
    rw [hlen] at hm ⊢
    clear hlen
    have hq : ((ys.length : Int) != (ys.length : Int)) = false := by simp
    go_enter Tryd.func10, Tryd.ntmps10
    go_wp2
    go_loopw [13] (fun vi wr => ∃ k : Nat, k ≤ ys.length ∧ vi = .int .i64 k ∧ xs.take k = ys.take k ∧ Below w.heap.size w wr) (fun vi _ => ys.length - (intOf vi).toNat)
    case atStart => exact ⟨0, Nat.zero_le _, rfl, rfl, Below.refl _ _⟩
    case round =>
      obtain ⟨k, hk, rfl, ht, hbel⟩ := hrel
      have HT := Lib.hid ht
      have HB := Lib.hid hbel
      clear ht hbel
      by_cases hlt : k < ys.length
      · obtain ⟨b, off, rfl, hb, hc0⟩ := HC.out k (by rw [HLEN.out]; exact hlt)
        obtain ⟨b2, off2, rfl, hb2, hc2⟩ := HC2.out k hlt
        obtain ⟨x, hx⟩ : ∃ x, xs.getD k 0 = x := ⟨_, rfl⟩
        obtain ⟨y, hy⟩ : ∃ y, ys.getD k 0 = y := ⟨_, rfl⟩
        have g1 : wr.cell? ⟨b, off + k, none⟩ = some (.int .i64 x) := by rw [← hx]; exact (HB.out.cell hb).trans hc0
        have g2 : wr.cell? ⟨b2, off2 + k, none⟩ = some (.int .i64 y) := by rw [← hy]; exact (HB.out.cell hb2).trans hc2
        have HX := Lib.hid hx
        have HY := Lib.hid hy
        clear hx hy hc0 hc2 hb hb2
        by_cases hxy : x = y
        · subst hxy
          have HS := Lib.hid (same_step (by rw [HLEN.out]; exact hlt) hlt HT.out (HX.out.trans HY.out.symm))
          have hqq : (x != x) = false := by simp
          go_wp2
          go_quiet (fail)
          go_wp2
          go_roundw
          case rel => exact ⟨k + 1, by omega, by go_num, HS.out, below_drewN HB.out _⟩
          case measure => simp [intOf]; omega
        · have HS := Lib.hid (same_no (k := k) (xs := xs) (ys := ys) (by rw [HX.out, HY.out]; exact hxy))
          have hqq : (x != y) = true := by simpa using hxy
          clear hxy
          go_wp2
          go_quiet (fail)
          go_wp2
          go_ret
          exact ⟨by rw [HS.out]; rfl, below_drewN HB.out _⟩
      · obtain rfl : k = ys.length := by omega
        have HS := Lib.hid (show sameB xs ys = true by
          have := HT.out
          rw [take_all, ← HLEN.out, take_all] at this
          simpa [sameB] using this)
        go_wp2
        go_ret
        exact ⟨by rw [HS.out]; rfl, HB.out⟩
  · have HS := Lib.hid (show sameB xs ys = false by unfold sameB; exact decide_eq_false (fun e => hlen (by rw [e])))
    have hq : ((xs.length : Int) != (ys.length : Int)) = true := by simp; omega
    clear hlen
    go_enter Tryd.func10, Tryd.ntmps10
    go_wp2
    go_ret
    exact ⟨by rw [HS.out]; rfl, Below.refl _ _⟩


end Go.Proofs.YtgbgpncacpgikaaDoor.Ints
