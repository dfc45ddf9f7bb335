/- The examples of layer 2's statements, and what carries a slice from world to world. -/
import Derived.Test.YtjlnlcnddhilhaaRmore
namespace Go.Proofs.Ytjlnlcnddhilhaa.Rsets
open Go.RowKit Go.Sort Go.Proofs.Ytjlnlcnddhilhaa.Sets Go.Proofs.Ytjlnlcnddhilhaa.Reads Go.Proofs.Ytjlnlcnddhilhaa.Idset

theorem next {W w' : World} {v : Value} {xs : List Int} (R : Reads W.heap.size W v xs) (hb : Below W.heap.size W w') : Reads w'.heap.size w' v xs := (R.below (Nat.le_refl _) hb).mono hb.size
theorem next_alloc {W : World} {v : Value} {xs : List Int} (R : Reads W.heap.size W v xs) (o : Obj) : Reads (W.alloc o).heap.size (W.alloc o) v xs := next R ((Below.refl _ _).alloc (Nat.le_refl _) o)
theorem bel_next {w W w' : World} (h : Below w.heap.size w W) (hb : Below W.heap.size W w') : Below w.heap.size w w' := h.trans (hb.mono h.size)
theorem bel_alloc {w W : World} (h : Below w.heap.size w W) (o : Obj) : Below w.heap.size w (W.alloc o) := h.alloc h.size o

/-- A literal slice. -/
theorem reads_lit (xs : List Int) {cs : Array Value} {T blk n : Nat} {w : World} (hb : blk = w.heap.size) (hcs : cs = (xs.map (Value.int .i64)).toArray) (hn : n = xs.length) (hm : n ≤ maxLen) (hw : ∀ n ∈ xs, (Lit.int .i64 n).wf = true) :
    Reads (w.alloc (.cells cs T)).heap.size (w.alloc (.cells cs T)) (.slice (some ⟨blk, 0, none⟩) n n) xs := by
  subst hb hn hcs
  refine reads_mk xs (by simp) (Nat.le_refl _) hm hw fun j hj => ?_
  rw [World.cell?_alloc_at _ _ _ _ rfl]
  simp [hj, List.getD_eq_getElem?_getD]

theorem ret_bool {a b : Bool} (h : a = b) : Ending.returned (.bool a) = .returned (.bool b) := by rw [h]

theorem large_yes {va vb : Value} {xs ys : List Int} {w : World} (h : Reads w.heap.size w va xs) (hy : Reads w.heap.size w vb ys) (hl : 200 < xs.length ∨ 200 < ys.length) :
    Calls Try.prog 8 #[va, vb] w fun e w' => e = .returned (.bool true) ∧ w = w' := by
  obtain ⟨a, cap, rfl, hm⟩ := rshape h
  obtain ⟨a2, cap2, rfl, hm2⟩ := rshape hy
  clear h hy
  by_cases h1 : 200 < xs.length
  · clear hl
    go_enter Try.func8, Try.ntmps8
    go_wp2
    go_ret
    exact ⟨rfl, rfl⟩
  · have h2 : 200 < ys.length := by omega
    clear hl
    go_enter Try.func8, Try.ntmps8
    go_wp2
    go_ret
    exact ⟨ret_bool (by simp; omega), rfl⟩
theorem large_no {va vb : Value} {xs ys : List Int} {w : World} (h : Reads w.heap.size w va xs) (hy : Reads w.heap.size w vb ys) (h1 : xs.length ≤ 200) (h2 : ys.length ≤ 200) :
    Calls Try.prog 8 #[va, vb] w fun e w' => e = .returned (.bool false) ∧ w = w' := by
  obtain ⟨a, cap, rfl, hm⟩ := rshape h
  obtain ⟨a2, cap2, rfl, hm2⟩ := rshape hy
  clear h hy
  go_enter Try.func8, Try.ntmps8
  go_wp2
  go_ret
  exact ⟨ret_bool (by simp; omega), rfl⟩

/-- The statements' examples. -/
theorem alive_any (w : World) :
    Calls Try.prog 9 #[] w fun e w' => e = .returned (.bool true) ∧ Below w.heap.size w w' := by
  go_enter Try.func9, Try.ntmps9
  go_wp2_with fail
  have B0 := Lib.hid (bel_alloc (bel_alloc (bel_alloc (Below.refl w.heap.size w) (.cells #[.int .i64 3, .int .i64 1] 3)) (.cells #[.int .i64 2, .int .i64 3] 3)) (.cells #[.int .i64 2, .int .i64 1, .int .i64 2] 3))
  have RA := Lib.hid (next_alloc (next_alloc (reads_lit [3, 1] (T := 3) (w := w) (blk := w.heap.size) (n := 2) (cs := #[.int .i64 3, .int .i64 1]) rfl rfl rfl (by decide) (by decide)) (.cells #[.int .i64 2, .int .i64 3] 3)) (.cells #[.int .i64 2, .int .i64 1, .int .i64 2] 3))
  have RB := Lib.hid (next_alloc (reads_lit [2, 3] (T := 3) (w := w.alloc (.cells #[.int .i64 3, .int .i64 1] 3)) (blk := w.heap.size + 1) (n := 2) (cs := #[.int .i64 2, .int .i64 3]) (by simp) rfl rfl (by decide) (by decide)) (.cells #[.int .i64 2, .int .i64 1, .int .i64 2] 3))
  refine (make_any (xs := [2, 1, 2]) (reads_lit _ (by simp) rfl rfl (by decide) (by decide)) (by decide)).mono ?_
  rintro e w1 ⟨v1, rfl, R⟩
  rw [show sset [2, 1, 2] = [1, 2] by decide] at R
  have B1 := Lib.hid (bel_next B0.out R.2)
  have RA1 := Lib.hid (next RA.out R.2)
  have RB1 := Lib.hid (next RB.out R.2)
  have R1 := Lib.hid R.1
  clear R B0 RA RB
  go_wp2_with fail
  refine (rsame_any (xs := [1, 2]) (ys := [1, 2]) (next_alloc R1.out _) (reads_lit _ rfl rfl rfl (by decide) (by decide))).mono ?_
  rintro e w2 ⟨rfl, R⟩
  rw [show sameB [1, 2] [1, 2] = true by decide]
  have B2 := Lib.hid (bel_next (bel_alloc B1.out _) R)
  have RA2 := Lib.hid (next (next_alloc RA1.out _) R)
  have RB2 := Lib.hid (next (next_alloc RB1.out _) R)
  clear R B1 RA1 RB1 R1
  go_wp2_with fail
  refine (union_any RA2.out RB2.out (by decide) (by decide)).mono ?_
  rintro e w3 ⟨v3, rfl, R⟩
  rw [show unionV [3, 1] [2, 3] = [1, 2, 3] by decide] at R
  have B3 := Lib.hid (bel_next B2.out R.2)
  have RA3 := Lib.hid (next RA2.out R.2)
  have RB3 := Lib.hid (next RB2.out R.2)
  have R3 := Lib.hid R.1
  clear R B2 RA2 RB2
  go_wp2_with fail
  refine (rsame_any (xs := [1, 2, 3]) (ys := [1, 2, 3]) (next_alloc R3.out _) (reads_lit _ rfl rfl rfl (by decide) (by decide))).mono ?_
  rintro e w4 ⟨rfl, R⟩
  rw [show sameB [1, 2, 3] [1, 2, 3] = true by decide]
  have B4 := Lib.hid (bel_next (bel_alloc B3.out _) R)
  have RA4 := Lib.hid (next (next_alloc RA3.out _) R)
  have RB4 := Lib.hid (next (next_alloc RB3.out _) R)
  clear R B3 RA3 RB3 R3
  go_wp2_with fail
  refine (common_any RA4.out RB4.out (by decide) (by decide)).mono ?_
  rintro e w5 ⟨v5, rfl, R⟩
  rw [show commonV [3, 1] [2, 3] = [3] by decide] at R
  have B5 := Lib.hid (bel_next B4.out R.2)
  have RA5 := Lib.hid (next RA4.out R.2)
  have RB5 := Lib.hid (next RB4.out R.2)
  have R5 := Lib.hid R.1
  clear R B4 RA4 RB4
  go_wp2_with fail
  refine (rsame_any (xs := [3]) (ys := [3]) (next_alloc R5.out _) (reads_lit _ rfl rfl rfl (by decide) (by decide))).mono ?_
  rintro e w6 ⟨rfl, R⟩
  rw [show sameB [3] [3] = true by decide]
  have B6 := Lib.hid (bel_next (bel_alloc B5.out _) R)
  have RA6 := Lib.hid (next (next_alloc RA5.out _) R)
  have RB6 := Lib.hid (next (next_alloc RB5.out _) R)
  clear R B5 RA5 RB5 R5
  go_wp2_with fail
  refine (minus_any RA6.out RB6.out (by decide) (by decide)).mono ?_
  rintro e w7 ⟨v7, rfl, R⟩
  rw [show minusV [3, 1] [2, 3] = [1] by decide] at R
  have B7 := Lib.hid (bel_next B6.out R.2)
  have RA7 := Lib.hid (next RA6.out R.2)
  have RB7 := Lib.hid (next RB6.out R.2)
  have R7 := Lib.hid R.1
  clear R B6 RA6 RB6
  go_wp2_with fail
  refine (rsame_any (xs := [1]) (ys := [1]) (next_alloc R7.out _) (reads_lit _ rfl rfl rfl (by decide) (by decide))).mono ?_
  rintro e w8 ⟨rfl, R⟩
  rw [show sameB [1] [1] = true by decide]
  have B8 := Lib.hid (bel_next (bel_alloc B7.out _) R)
  have RA8 := Lib.hid (next (next_alloc RA7.out _) R)
  have RB8 := Lib.hid (next (next_alloc RB7.out _) R)
  clear R B7 RA7 RB7 R7
  go_wp2_with fail
  refine (has_any (n := 1) RA8.out).mono ?_
  rintro e w9 ⟨rfl, rfl⟩
  rw [show hasB 1 [3, 1] = true by decide]
  go_wp2_with fail
  refine (has_any (n := 1) (reads_nil _ _)).mono ?_
  rintro e w9 ⟨rfl, rfl⟩
  rw [show hasB 1 [] = false by decide]
  go_wp2_with fail
  refine (within_any (reads_nil _ _) RA8.out (by decide) (by decide)).mono ?_
  rintro e w9 ⟨rfl, R⟩
  rw [show withinB [] [3, 1] = true by decide]
  have B9 := Lib.hid (bel_next B8.out R)
  have RA9 := Lib.hid (next RA8.out R)
  have RB9 := Lib.hid (next RB8.out R)
  clear R B8 RA8 RB8
  go_wp2_with fail
  refine (within_any RA9.out RB9.out (by decide) (by decide)).mono ?_
  rintro e w10 ⟨rfl, R⟩
  rw [show withinB [3, 1] [2, 3] = false by decide]
  have B10 := Lib.hid (bel_next B9.out R)
  clear R B9 RA9 RB9
  go_wp2_with fail
  go_ret
  exact ⟨rfl, B10.out⟩

end Go.Proofs.Ytjlnlcnddhilhaa.Rsets
