/- The calls of idset's helpers. -/
import Derived.Test.YtjlnlcnddhilhaaShelf
import Derived.Test.YtjlnlcnddhilhaaSets
import Derived.Test.YtjlnlcnddhilhaaReads
import Derived.Maps.AppendAt
import Derived.Outline
import Derived.Lib.Hide
namespace Go.Proofs.Ytjlnlcnddhilhaa.Idset
open Go.RowKit Go.Sort Go.Proofs.Ytjlnlcnddhilhaa.Sets Go.Proofs.Ytjlnlcnddhilhaa.Reads

/-- A new slice that reads as xs; nothing that was there has changed. -/
def SetOut (xs : List Int) (w : World) (e : Ending) (w' : World) : Prop := ∃ v', e = .returned v' ∧ Reads w'.heap.size w' v' xs ∧ Below w.heap.size w w'

theorem wf_sset {xs : List Int} (h : ∀ n ∈ xs, (Lit.int .i64 n).wf = true) : ∀ n ∈ sset xs, (Lit.int .i64 n).wf = true := fun n hn => h n (mem_sset.1 hn)

/-- Behind the sort: the facts of the world that the walk goes on with. -/
theorem after_sort {w w1 w2 : World} {g cap : Nat} {e : TypeId} {cur : Array Value} {xs : List Int} (hbel : Below w.heap.size w w1) (hg : w.heap.size ≤ g) (hh : w1.heap[g]? = some (.cells cur e (0, 0))) (hcap : xs.length ≤ cap) (hs : cur.size = cap * 1)
    (h : ∃ n os, w2 = grow (putRow (Value.int .i64) (Sort.ahead w1 n) g 0 (xs.mergeSort fun x y => decide (x ≤ y)).toArray) os) :
    Below w.heap.size w w2 ∧ g < w2.heap.size ∧ Holds (Value.int .i64) w2 g 0 (xs.mergeSort fun x y => decide (x ≤ y)).toArray := by
  obtain ⟨n, os, rfl⟩ := h
  have hb := hbel.size
  have hg1 : g < w1.heap.size := (Array.getElem?_eq_some_iff.1 hh).1
  refine ⟨hbel.grown (grownBy_sortedI _) hb (fun k hk => by cases hk; omega), ?_, ?_⟩
  · have := (grownBy_sortedI (w := w1) (g := g) (n := n) (os := os) (xs.mergeSort fun x y => decide (x ≤ y)).toArray).size
    omega
  · refine holds_of_blockI (heap_sortedI _ hh) ?_
    exact take_putCellsI cur _ (by rw [List.length_mergeSort]; omega)

/-- Behind the compacting. -/
theorem after_compact {w w2 w3 : World} {g cap : Nat} {ts : List Int} (hbel : Below w.heap.size w w2) (hg : w.heap.size ≤ g) (hg2 : g < w2.heap.size) (hH : Holds (Value.int .i64) w2 g 0 ts.toArray) (hl : ts.length ≤ cap) (hcap : cap ≤ maxLen) (hw : ∀ n ∈ Lib.compact ts, (Lit.int .i64 n).wf = true)
    (h : ∃ q, w3 = putRow (Value.int .i64) (Sort.ahead w2 q) g 0 (Lib.compact ts ++ List.replicate (ts.length - (Lib.compact ts).length) 0).toArray) :
    Below w.heap.size w w3 ∧ Reads w3.heap.size w3 (.slice (some ⟨g, 0, none⟩) (Lib.compact ts).length cap) (Lib.compact ts) := by
  obtain ⟨q, rfl⟩ := h
  have hb := hbel.size
  have hle := Lib.compact_length_le ts
  have hgr := grownBy_sortedI (w := w2) (g := g) (n := q) (os := #[]) (Lib.compact ts ++ List.replicate (ts.length - (Lib.compact ts).length) 0).toArray
  rw [grow_empty] at hgr
  refine ⟨hbel.grown hgr hb (fun k hk => by cases hk; omega), reads_mk _ (by have := hgr.size; omega) (by omega) hcap hw fun j hj => ?_⟩
  rw [cell?_putRow _ _ _ _ _ _ (holds_ahead _ _ _ _ _ _ hH) (by simp; omega) j (by simp; omega)]
  simp [List.getElem!_eq_getElem?_getD, List.getElem?_append, hj, List.getD_eq_getElem?_getD]

theorem k_or (x y : Bool) (w : World) : Calls Try.prog 28 #[.bool x, .bool y] w fun e w' => e = .returned (.bool (x || y)) ∧ w = w' := by
  cases x <;> cases y
  all_goals
    go_enter Try.func28, Try.ntmps28
    go_wp2
    go_ret
    exact ⟨rfl, rfl⟩
theorem k_and (x y : Bool) (w : World) : Calls Try.prog 29 #[.bool x, .bool y] w fun e w' => e = .returned (.bool (x && y)) ∧ w = w' := by
  cases x <;> cases y
  all_goals
    go_enter Try.func29, Try.ntmps29
    go_wp2
    go_ret
    exact ⟨rfl, rfl⟩
theorem k_less (x y : Bool) (w : World) : Calls Try.prog 31 #[.bool x, .bool y] w fun e w' => e = .returned (.bool (x && !y)) ∧ w = w' := by
  cases x <;> cases y
  all_goals
    go_enter Try.func31, Try.ntmps31
    go_wp2
    go_ret
    exact ⟨rfl, rfl⟩

theorem sorted_row (b off cap : Nat) (xs : List Int) (w : World) (h0 : xs ≠ []) (hl : xs.length ≤ 1099511627776) (_hb : b < w.heap.size) (hwf : ∀ n ∈ xs, (Lit.int .i64 n).wf = true)
    (hc : ∀ j, j < xs.length → w.cell? ⟨b, off + j, none⟩ = some (.int .i64 (xs.getD j 0))) :
    Calls Try.prog 24 #[.slice (some ⟨b, off, none⟩) xs.length cap] w (SetOut (sset xs) w) := by
  have HC := Lib.hid hc
  have HL := Lib.hid hl
  have HW := Lib.hid hwf
  have H0 := Lib.hid h0
  clear hc hl hwf h0
  go_enter Try.func24, Try.ntmps24
  go_wp2_with fail
  refine (Try.slices_Clone_int b off xs.length cap xs w (Nat.le_refl _) (by have := HL.out; omega) HC.out).mono ?_
  rintro e w1 ⟨v1, rfl, hown, hne, hbel⟩
  rw [List.take_of_length_le (Nat.le_refl _)] at hown
  obtain ⟨_, hor⟩ := hown
  rcases hor with ⟨h, _⟩ | ⟨g, c1, cur, rfl, hg, hh, hn, hcap, hs, ht⟩
  · exact absurd h hne
  rw [Nat.mul_one] at ht
  have HH := Lib.hid (holds_of_blockI hh ht)
  have HB := Lib.hid hbel
  have HG := Lib.hid hg
  have HP := Lib.hid hh
  have HN := Lib.hid hn
  have HCAP := Lib.hid hcap
  have HS := Lib.hid hs
  clear hne hbel hg hh hn hcap hs ht
  go_wp2_with fail
  refine (Try.slices_Sort_int g 0 c1 xs w1 HH.out ((Array.getElem?_eq_some_iff.1 HP.out).1) (by have := HL.out; omega)).mono ?_
  rintro e w2 ⟨rfl, h2⟩
  have A := Lib.hid (after_sort HB.out HG.out HP.out HN.out HS.out h2)
  clear h2
  go_wp2_with fail
  have el : (xs.mergeSort fun x y => decide (x ≤ y)).length = xs.length := List.length_mergeSort _
  have C := Try.slices_Compact_int g 0 c1 (xs.mergeSort fun x y => decide (x ≤ y)) w2 A.out.2.2 (by rw [el]; have := HL.out; omega) (by rw [el]; exact HN.out)
  rw [el] at C
  refine C.mono ?_
  rintro e w3 ⟨rfl, h3⟩
  rw [← el] at h3
  have D := after_compact A.out.1 HG.out A.out.2.1 A.out.2.2 (by rw [el]; exact HN.out) HCAP.out (by rw [compact_sort]; exact wf_sset HW.out) h3
  rw [compact_sort] at D
  have HD := Lib.hid D
  clear D h3 C el
  rw [compact_sort]
  go_wp2_with fail
  go_ret
  exact ⟨_, rfl, HD.out.2, HD.out.1⟩

theorem sorted_empty (a : Option Addr) (cap : Nat) (w : World) :
    Calls Try.prog 24 #[.slice a 0 cap] w (SetOut [] w) := by
  rcases a with _ | a
  · go_enter Try.func24, Try.ntmps24
    go_wp2_with fail
    refine (Try.slices_Clone_int_nil 0 cap w).mono ?_
    rintro e w1 ⟨rfl, hw⟩
    obtain rfl := hw.symm
    go_wp2_with fail
    refine (Try.slices_Sort_int_none none 0 _).mono ?_
    rintro e w2 ⟨rfl, hw⟩
    obtain rfl := hw.symm
    go_wp2_with fail
    refine (Try.slices_Compact_int_empty none 0 _).mono ?_
    rintro e w3 ⟨rfl, hw⟩
    obtain rfl := hw.symm
    go_wp2_with fail
    go_ret
    exact ⟨_, rfl, reads_empty _ _ _ _ (Nat.zero_le _), Below.refl _ _⟩
  · go_enter Try.func24, Try.ntmps24
    go_wp2_with fail
    refine (Try.slices_Clone_int_zero a cap w).mono ?_
    rintro e w1 ⟨v1, rfl, hown, hne, hbel⟩
    obtain ⟨_, hor⟩ := hown
    rcases hor with ⟨h, _⟩ | ⟨g, c1, cur, rfl, hg, hh, hn, hcap, hs, ht⟩
    · exact absurd h hne
    have HB := Lib.hid hbel
    have HCAP := Lib.hid hcap
    clear hne hbel hg hh hn hs ht hcap
    go_wp2_with fail
    refine (Try.slices_Sort_int_none (some ⟨g, 0, none⟩) c1 w1).mono ?_
    rintro e w2 ⟨rfl, hw⟩
    obtain rfl := hw.symm
    go_wp2_with fail
    refine (Try.slices_Compact_int_empty (some ⟨g, 0, none⟩) c1 _).mono ?_
    rintro e w3 ⟨rfl, hw⟩
    obtain rfl := hw.symm
    go_wp2_with fail
    go_ret
    exact ⟨_, rfl, reads_empty _ _ _ _ HCAP.out, HB.out⟩

/-- The set of a list, as a new slice. -/
theorem sorted_any {v : Value} {xs : List Int} {w : World} (h : Reads w.heap.size w v xs) (hl : xs.length ≤ 1099511627776) :
    Calls Try.prog 24 #[v] w (SetOut (sset xs) w) := by
  by_cases h0 : xs = []
  · subst h0
    obtain ⟨a, cap, rfl, _⟩ := h.empty
    exact sorted_empty a cap w
  · obtain ⟨b, off, cap, rfl, _, _, hb, hc⟩ := h.at h0
    exact sorted_row b off cap xs w h0 hl hb h.wf hc

end Go.Proofs.Ytjlnlcnddhilhaa.Idset
