/- Lines of two bytes: their text, and what memory holds while they are laid. -/
import Derived.Test.YtnechpciaidkmaaDoorFlistw
namespace Go.Proofs.YtnechpciaidkmaaDoor.Limitw
open Go.RowKit Go.Lib Go.Proofs.YtnechpciaidkmaaDoor.Text Go.Proofs.YtnechpciaidkmaaDoor.Kind Go.Proofs.YtnechpciaidkmaaDoor.Reads Go.Proofs.YtnechpciaidkmaaDoor.Rows2 Go.Proofs.YtnechpciaidkmaaDoor.Samew Go.Proofs.YtnechpciaidkmaaDoor.Ownl Go.Proofs.YtnechpciaidkmaaDoor.Linw Go.Proofs.YtnechpciaidkmaaDoor.Joinw Go.Proofs.YtnechpciaidkmaaDoor.Rjoinw Go.Proofs.YtnechpciaidkmaaDoor.Flistw

/-- The text of n lines of two bytes. -/
def exT (n : Nat) : (List UInt8) := (List.replicate n [97, 10]).flatten
def exLs (n : Nat) : List (List (List UInt8)) := List.replicate n [[97]]
def exV (j : Nat) : Nat := if j % 2 = 0 then 97 else 10
theorem exT_len (n : Nat) : (exT n).length = 2 * n := by
  unfold exT
  rw [List.length_flatten, List.map_replicate, List.sum_replicate_nat]
  simp
  omega
theorem exT_succ (n : Nat) : exT (n + 1) = 97 :: 10 :: exT n := by simp [exT, List.replicate_succ]
theorem exT_at : ∀ (n j : Nat) (c : UInt8), (exT n)[j]? = some c → c.toNat = exV j
  | 0, j, c, h => by simp [exT] at h
  | n + 1, 0, c, h => by
    rw [exT_succ] at h
    simp at h
    subst h
    rfl
  | n + 1, 1, c, h => by
    rw [exT_succ] at h
    simp at h
    subst h
    rfl
  | n + 1, j + 2, c, h => by
    rw [exT_succ] at h
    simp at h
    rw [exT_at n j c h]
    unfold exV
    rw [show (j + 2) % 2 = j % 2 by omega]
theorem ex_joinT (n : Nat) : joinT (exLs n) = exT n := by
  unfold joinT exLs exT
  rw [List.map_replicate]
  rfl
theorem ex_good (n : Nat) : (exLs n).all lineL = true := by
  unfold exLs
  rw [List.all_replicate]
  cases n with
  | zero => rfl
  | succ n => rfl
theorem ex_join (n : Nat) : joinR (exLs n) = if 16384 < n then ([], 2) else (exT n, 0) := by
  have hl := exT_len n
  by_cases h : 16384 < n
  · rw [if_pos h]
    exact join_long (ex_good n) (by rw [ex_joinT, hl]; omega)
  · rw [if_neg h, ← ex_joinT]
    exact join_good (ex_good n) (by rw [ex_joinT, hl]; omega)
theorem ex_lines (n : Nat) : linesR (exT n) = if 16384 < n then ([], 0, 2) else (exLs n, 0, 0) := by
  have hl := exT_len n
  by_cases h : 16384 < n
  · rw [if_pos h]
    exact lines_long (by rw [hl]; omega)
  · have hj := ex_join n
    rw [if_neg h] at hj ⊢
    exact lines_of_join hj

/-! Memory. -/
def zb : Array Value := #[.int .u8 0]
def zl : Array Value := #[.slice none 0 0]
theorem infoB : (Tryd.prog.info? 5).map (fun i => (i.zero, i.size, i.bytes)) = some (some (.int .u8 0), 1, 1) := by kernel_rfl
theorem make_bytes (n : Nat) (hn : n ≤ 20000) (w : World) : (Instr.makeSlice 32 (.int .i64 (2 * (n : Int))) (.int .i64 (2 * (n : Int)))).run Tryd.prog w = .ok (.slice (some ⟨w.heap.size, 0, none⟩) (2 * n) (2 * n)) (w.alloc (.cells (madeCells zb (2 * n)) 5)) := by
  obtain ⟨i0, hi, hz0, hz1, hz2⟩ := info_parts infoB
  have := run_make (P := Tryd.prog) w 32 5 i0 (.int .u8 0) Tryd.underlying32 hi hz0 .i64 .i64 (2 * (n : Int)) (2 * (n : Int)) (by omega) (Int.le_refl _) (by rw [hz2]; omega) (by omega)
  rw [hz1, Nat.mul_one, show (2 * (n : Int)).toNat = 2 * n by omega] at this
  exact this
theorem make_lines (n : Nat) (hn : n ≤ 20000) (w : World) : (Instr.makeSlice 23 (.int .i64 (n : Int)) (.int .i64 (n : Int))).run Tryd.prog w = .ok (.slice (some ⟨w.heap.size, 0, none⟩) n n) (w.alloc (.cells (madeCells zl n) 33)) := by
  obtain ⟨i0, hi, hz0, hz1, hz2⟩ := info_parts infoL
  have := run_make (P := Tryd.prog) w 23 33 i0 (.slice none 0 0) Tryd.underlying23 hi hz0 .i64 .i64 (n : Int) (n : Int) (by omega) (Int.le_refl _) (by rw [hz2]; omega) (by omega)
  rw [hz1, Nat.mul_one] at this
  exact this

/-- The bytes' block b0 and the lines' block b0 + 1, with k lines laid. -/
def Fill (n b0 k : Nat) (wr : World) : Prop :=
  (∃ cs : Array Value, wr.heap[b0]? = some (.cells cs 5 (0, 0)) ∧ cs.size = 2 * n ∧ ∀ j, j < 2 * k → cs[j]? = some (.int .u8 (exV j : Int))) ∧
  (∃ cs : Array Value, wr.heap[b0 + 1]? = some (.cells cs 33 (0, 0)) ∧ cs.size = n ∧ ∀ (j : Nat) (x : Value), j < k → cs[j]? = some x → Strs (fun b => b0 + 2 ≤ b ∧ b < wr.heap.size) wr x [[97]]) ∧ b0 + 2 ≤ wr.heap.size

theorem fill_start (n : Nat) (w : World) : Fill n w.heap.size 0 ((w.alloc (.cells (madeCells zb (2 * n)) 5)).alloc (.cells (madeCells zl n) 33)) :=
  ⟨⟨_, heap_alloc2_old _ _ _, size_madeCells _ _, by intro j hj; omega⟩, ⟨_, heap_alloc2_new _ _ _, size_madeCells _ _, by intro j x hj; omega⟩, by simp⟩
/-- One round's writes. -/
def step1 (wr : World) (b0 k : Nat) : World := wr.setCell ⟨b0, 2 * k, none⟩ (.int .u8 97)
def step2 (wr : World) (b0 k : Nat) : World := (step1 wr b0 k).setCell ⟨b0, 2 * k + 1, none⟩ (.int .u8 10)
def step3 (wr : World) (b0 k : Nat) : World := (step2 wr b0 k).alloc (.cells #[.string ⟨#[97]⟩] 9)
def step4 (wr : World) (b0 k : Nat) : World := (step3 wr b0 k).setCell ⟨b0 + 1, k, none⟩ (.slice (some ⟨wr.heap.size, 0, none⟩) 1 1)

theorem set_bytes {cs : Array Value} {n k : Nat} (hk : k < n) (hs : cs.size = 2 * n) (h : ∀ j, j < 2 * k → cs[j]? = some (.int .u8 (exV j : Int))) :
    ∀ j, j < 2 * (k + 1) → ((cs.setIfInBounds (2 * k) (.int .u8 97)).setIfInBounds (2 * k + 1) (.int .u8 10))[j]? = some (.int .u8 (exV j : Int)) := by
  intro j hj
  rw [Array.getElem?_setIfInBounds]
  by_cases h1 : 2 * k + 1 = j
  · subst h1
    rw [if_pos rfl, if_pos (by simp; omega)]
    have : exV (2 * k + 1) = 10 := by unfold exV; rw [if_neg (by omega)]
    rw [this]; rfl
  · rw [if_neg h1, Array.getElem?_setIfInBounds]
    by_cases h2 : 2 * k = j
    · subst h2
      rw [if_pos rfl, if_pos (by omega)]
      have : exV (2 * k) = 97 := by unfold exV; rw [if_pos (by omega)]
      rw [this]; rfl
    · rw [if_neg h2]
      exact h j (by omega)
theorem size1 (wr : World) (b0 k : Nat) : (step1 wr b0 k).heap.size = wr.heap.size := by simp [step1]
theorem size2 (wr : World) (b0 k : Nat) : (step2 wr b0 k).heap.size = wr.heap.size := by simp [step2, size1]
theorem size3 (wr : World) (b0 k : Nat) : (step3 wr b0 k).heap.size = wr.heap.size + 1 := by simp [step3, size2]
theorem size4 (wr : World) (b0 k : Nat) : (step4 wr b0 k).heap.size = wr.heap.size + 1 := by simp [step4, size3]
theorem heap2_other {wr : World} {b0 k j : Nat} (h : j ≠ b0) : (step2 wr b0 k).heap[j]? = wr.heap[j]? := by
  unfold step2 step1
  rw [heap_setCell_other _ _ _ _ h, heap_setCell_other _ _ _ _ h]
theorem heap4_other {wr : World} {b0 k j : Nat} (h0 : j ≠ b0) (h1 : j ≠ b0 + 1) (hj : j < wr.heap.size) : (step4 wr b0 k).heap[j]? = wr.heap[j]? := by
  unfold step4
  rw [heap_setCell_other _ _ _ _ h1]
  unfold step3
  rw [heap_alloc_old _ _ (by rw [size2]; exact hj), heap2_other h0]
theorem fill_more {n b0 k : Nat} {wr : World} (h : Fill n b0 k wr) (hk : k < n) : Fill n b0 (k + 1) (step4 wr b0 k) := by
  obtain ⟨⟨cs, h1, h2, h3⟩, ⟨ds, g1, g2, g3⟩, hsz⟩ := h
  have a1 : (step2 wr b0 k).heap[b0]? = some (.cells ((cs.setIfInBounds (2 * k) (.int .u8 97)).setIfInBounds (2 * k + 1) (.int .u8 10)) 5 (0, 0)) :=
    heap_setCell_same _ _ _ _ _ _ (heap_setCell_same _ _ _ _ _ _ h1)
  have a2 : (step4 wr b0 k).heap[b0]? = some (.cells ((cs.setIfInBounds (2 * k) (.int .u8 97)).setIfInBounds (2 * k + 1) (.int .u8 10)) 5 (0, 0)) := by
    unfold step4
    rw [heap_setCell_other _ _ _ _ (by show b0 ≠ b0 + 1; omega)]
    unfold step3
    rw [heap_alloc_old _ _ (by rw [size2]; omega)]
    exact a1
  have c1 : (step3 wr b0 k).heap[b0 + 1]? = some (.cells ds 33 (0, 0)) := by
    unfold step3
    rw [heap_alloc_old _ _ (by rw [size2]; omega), heap2_other (by omega)]
    exact g1
  have c2 : (step4 wr b0 k).heap[b0 + 1]? = some (.cells (ds.setIfInBounds k (.slice (some ⟨wr.heap.size, 0, none⟩) 1 1)) 33 (0, 0)) := heap_setCell_same _ _ _ _ _ _ c1
  have d1 : (step4 wr b0 k).heap[wr.heap.size]? = some (.cells #[.string ⟨#[97]⟩] 9 (0, 0)) := by
    unfold step4
    rw [heap_setCell_other _ _ _ _ (by show wr.heap.size ≠ b0 + 1; omega)]
    unfold step3
    have := heap_alloc_new (step2 wr b0 k) (.cells #[.string ⟨#[97]⟩] 9)
    rw [size2] at this
    exact this
  refine ⟨⟨_, a2, by simpa using h2, set_bytes hk h2 h3⟩, ⟨_, c2, by simpa using g2, fun j x hj hx => ?_⟩, by rw [size4]; omega⟩
  rw [Array.getElem?_setIfInBounds] at hx
  by_cases hjk : k = j
  · subst hjk
    rw [if_pos rfl, if_pos (by omega)] at hx
    obtain rfl := Option.some.inj hx
    refine ⟨row_mk (ok := fun b => b0 + 2 ≤ b ∧ b < (step4 wr b0 k).heap.size) (b := wr.heap.size) (off := 0) (cap := 1) (strV [[97]]) ⟨by omega, by rw [size4]; omega⟩ (Nat.le_refl _) (by unfold maxLen; omega) fun i y hy => ?_, by unfold maxLen; simp⟩
    rw [cell_of_row _ _ _ _ _ _ d1]
    match i, hy with
    | 0, hy => exact hy
    | i + 1, hy => simp [strV] at hy
  · rw [if_neg hjk] at hx
    exact (g3 j x (by omega) hx).keep fun b hb => ⟨⟨hb.1, by rw [size4]; omega⟩, heap4_other (by omega) (by omega) hb.2⟩
theorem fill_below {w wr : World} {k : Nat} (h : Below w.heap.size w wr) : Below w.heap.size w (step4 wr w.heap.size k) := by
  have h2 : Below w.heap.size w (step2 wr w.heap.size k) := (h.setCell (p := ⟨w.heap.size, 2 * k, none⟩) (Nat.le_refl _) _).setCell (p := ⟨w.heap.size, 2 * k + 1, none⟩) (Nat.le_refl _) _
  exact (h2.alloc h2.size _).setCell (p := ⟨w.heap.size + 1, k, none⟩) (Nat.le_succ _) _

/-- The cells that a round writes. -/
theorem fill_cells {n b0 k : Nat} {wr : World} (h : Fill n b0 k wr) (hk : k < n) :
    ((∃ u, wr.cell? ⟨b0, 2 * k, none⟩ = some u) ∧ wr.frozen? ⟨b0, 2 * k, none⟩ = false) ∧
    ((∃ u, (step1 wr b0 k).cell? ⟨b0, 2 * k + 1, none⟩ = some u) ∧ (step1 wr b0 k).frozen? ⟨b0, 2 * k + 1, none⟩ = false) ∧
    ((∃ u, (step3 wr b0 k).cell? ⟨b0 + 1, k, none⟩ = some u) ∧ (step3 wr b0 k).frozen? ⟨b0 + 1, k, none⟩ = false) := by
  obtain ⟨⟨cs, h1, h2, _⟩, ⟨ds, g1, g2, _⟩, hsz⟩ := h
  have b1 : (step1 wr b0 k).heap[b0]? = some (.cells (cs.setIfInBounds (2 * k) (.int .u8 97)) 5 (0, 0)) := heap_setCell_same _ _ _ _ _ _ h1
  have c1 : (step3 wr b0 k).heap[b0 + 1]? = some (.cells ds 33 (0, 0)) := by
    unfold step3
    rw [heap_alloc_old _ _ (by rw [size2]; omega), heap2_other (by omega)]
    exact g1
  refine ⟨⟨⟨cs[2 * k]'(by omega), ?_⟩, frozen_of_row _ _ _ _ _ h1⟩, ⟨⟨(cs.setIfInBounds (2 * k) (.int .u8 97))[2 * k + 1]'(by simp; omega), ?_⟩, frozen_of_row _ _ _ _ _ b1⟩, ⟨⟨ds[k]'(by omega), ?_⟩, frozen_of_row _ _ _ _ _ c1⟩⟩
  · rw [cell_of_row _ _ _ _ _ _ h1, Array.getElem?_eq_getElem]
  · rw [cell_of_row _ _ _ _ _ _ b1, Array.getElem?_eq_getElem]
  · rw [cell_of_row _ _ _ _ _ _ c1, Array.getElem?_eq_getElem]

/-- The bytes, as a string. -/
theorem fill_text {n b0 : Nat} {wr : World} (h : Fill n b0 n wr) : (convert 32 9 (.slice (some ⟨b0, 0, none⟩) (2 * n) (2 * n))).run Tryd.prog wr = .ok (.string (bs (exT n))) wr := by
  obtain ⟨⟨cs, h1, h2, h3⟩, _⟩ := h
  have := run_convert_bytes_back (P := Tryd.prog) wr 32 9 5 ⟨b0, 0, none⟩ (2 * n) (exT n) Tryd.underlying32 Tryd.underlying5 Tryd.underlying9 (fun j hj => by
    rw [show ((⟨b0, 0, none⟩ : Addr).add j) = ⟨b0, 0 + j, none⟩ by unfold Addr.add; split <;> simp_all, cell_of_row _ _ _ _ _ _ h1, Nat.zero_add]
    rw [exT_len] at hj
    rw [h3 j hj]
    have h4 := exT_at n j ((exT n)[j]'(by rw [exT_len]; exact hj)) (List.getElem?_eq_getElem _)
    rw [h4])
  rw [exT_len] at this
  exact this
/-- The lines. -/
theorem fill_lns {n b0 : Nat} {wr : World} (h : Fill n b0 n wr) (hn : n ≤ 20000) : Lns (fun b => b < wr.heap.size) wr (.slice (some ⟨b0 + 1, 0, none⟩) n n) (exLs n) := by
  obtain ⟨_, ⟨ds, g1, g2, g3⟩, hsz⟩ := h
  have e : ds.toList.length = n := by simpa using g2
  have hr := row_mk (ok := fun b => b < wr.heap.size) (w := wr) (b := b0 + 1) (off := 0) (cap := n) ds.toList (by show b0 + 1 < _; omega) (by omega) (by unfold maxLen; omega) (fun j x hx => by
    rw [Nat.zero_add, cell_of_row _ _ _ _ _ _ g1]
    simpa using hx)
  rw [e] at hr
  refine ⟨ds.toList, hr, by rw [e]; simp [exLs], fun j x l hx hl => ?_⟩
  have hj : j < n := by
    have := (List.getElem?_eq_some_iff.1 hx).1
    omega
  have hl2 : l = [[97]] := by
    unfold exLs at hl
    rw [List.getElem?_replicate, if_pos hj] at hl
    exact (Option.some.inj hl).symm
  subst hl2
  exact (g3 j x hj (by simpa using hx)).keep fun b hb => ⟨hb.2, rfl⟩
theorem fill_next {n b0 k : Nat} {w w' : World} (h : Fill n b0 k w) (hb : Below w.heap.size w w') : Fill n b0 k w' := by
  obtain ⟨⟨cs, h1, h2, h3⟩, ⟨ds, g1, g2, g3⟩, hsz⟩ := h
  exact ⟨⟨cs, (hb.block _ (by omega)).trans h1, h2, h3⟩, ⟨ds, (hb.block _ (by omega)).trans g1, g2, fun j x hj hx => (g3 j x hj hx).keep fun b hbb => ⟨⟨hbb.1, Nat.lt_of_lt_of_le hbb.2 hb.size⟩, hb.block b hbb.2⟩⟩, Nat.le_trans hsz hb.size⟩

end Go.Proofs.YtnechpciaidkmaaDoor.Limitw
