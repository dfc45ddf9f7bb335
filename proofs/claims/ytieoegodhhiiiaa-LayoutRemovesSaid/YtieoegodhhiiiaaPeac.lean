/- The program's each: a value of each of a list, type by type. -/
import Derived.Test.YtieoegodhhiiiaaPfn
import Derived.Test.YtieoegodhhiiiaaLcnt
import Derived.Test.YtieoegodhhiiiaaLele
import Derived.Laws.MakeOwn
import Derived.Laws.OwnMore
import Derived.Laws.ResultCell
namespace Go.Proofs.Ytieoegodhhiiiaa.Peac
open Go.RowKit Go.Lib Go.Proofs.Ytieoegodhhiiiaa.Reads Go.Proofs.Ytieoegodhhiiiaa.Rows2 Go.Proofs.Ytieoegodhhiiiaa.Lay Go.Proofs.Ytieoegodhhiiiaa.Layf Go.Proofs.Ytieoegodhhiiiaa.Lcon Go.Proofs.Ytieoegodhhiiiaa.Ldup Go.Proofs.Ytieoegodhhiiiaa.Lext Go.Proofs.Ytieoegodhhiiiaa.Lnmd Go.Proofs.Ytieoegodhhiiiaa.Pbas Go.Proofs.Ytieoegodhhiiiaa.Pfn Go.Proofs.Ytieoegodhhiiiaa.Lnam Go.Proofs.Ytieoegodhhiiiaa.Lmem
open Go.Proofs.Ytieoegodhhiiiaa.Lele (infoE)
open Go.Proofs.Ytieoegodhhiiiaa.Text hiding lineL joinR

/-- A row of N cells in block g of which the first k are set. -/
def Up (g N : Nat) (T : TypeId) (cells : List Value) (k : Nat) (wr : World) : Prop :=
  ∃ cs : Array Value, wr.heap[g]? = some (.cells cs T (0, 0)) ∧ cs.size = N ∧ ∀ i, i < k → cs[i]? = cells[i]?
theorem up_start (N : Nat) (T : TypeId) (cells : List Value) (z : Array Value) (w : World) : Up w.heap.size N T cells 0 (w.alloc (.cells (madeCells z N) T)) :=
  ⟨_, heap_alloc_new _ _, size_madeCells _ _, fun _ hi => absurd hi (Nat.not_lt_zero _)⟩
theorem up_next {g N k : Nat} {T : TypeId} {cells : List Value} {wr w' : World} (h : Up g N T cells k wr) (hb : Below wr.heap.size wr w') : Up g N T cells k w' := by
  obtain ⟨cs, h1, h2, h3⟩ := h
  have hg : g < wr.heap.size := by
    rcases Nat.lt_or_ge g wr.heap.size with h | h
    · exact h
    · rw [Array.getElem?_eq_none h] at h1
      cases h1
  exact ⟨cs, (hb.block g hg).trans h1, h2, h3⟩
theorem up_more {g N k : Nat} {T : TypeId} {cells : List Value} {wr : World} {u : Value} (h : Up g N T cells k wr) (hk : k < N) (hu : cells[k]? = some u) : Up g N T cells (k + 1) (wr.setCell ⟨g, k, none⟩ u) := by
  obtain ⟨cs, h1, h2, h3⟩ := h
  refine ⟨_, Go.heap_setCell_same _ _ _ _ _ _ h1, by simpa using h2, fun i hi => ?_⟩
  rw [Array.getElem?_setIfInBounds]
  by_cases e : k = i
  · subst e
    rw [if_pos rfl, if_pos (by omega), hu]
  · rw [if_neg e, h3 i (by omega)]
theorem up_cell {g N k j : Nat} {T : TypeId} {cells : List Value} {wr : World} (h : Up g N T cells k wr) (hj : j < N) : (∃ u, wr.cell? ⟨g, j, none⟩ = some u) ∧ wr.frozen? ⟨g, j, none⟩ = false := by
  obtain ⟨cs, h1, h2, _⟩ := h
  obtain ⟨q1, q2⟩ := cells_at h1 j
  exact ⟨⟨cs[j], q1.trans (Array.getElem?_eq_getElem (by omega))⟩, q2⟩
/-- All cells set: the slice reads as its rows. -/
theorem up_grid {g n sz : Nat} {T : TypeId} {rows : List (List Value)} {wr : World} {ok : Nat → Prop} (h : Up g (rows.length * sz) T rows.flatten (rows.length * sz) wr) (hl : ∀ r ∈ rows, r.length = sz) (hn : n = rows.length) (hm : n ≤ maxLen) (hg : ok g) : Grid ok wr (.slice (some ⟨g, 0, none⟩) n n) sz rows := by
  subst hn
  obtain ⟨cs, h1, h2, h3⟩ := h
  refine ⟨_, _, rfl, Nat.le_refl _, hm, .inr ⟨g, 0, rfl, hg, fun i r hr j x hx => ?_⟩⟩
  have hi := (List.getElem?_eq_some_iff.1 hr).1
  have hj := (List.getElem?_eq_some_iff.1 hx).1
  rw [hl r (List.mem_of_getElem? hr)] at hj
  have hlt : i * sz + j < rows.length * sz := by
    have := Nat.mul_le_mul_right sz (show i + 1 ≤ rows.length by omega)
    rw [Nat.add_mul, Nat.one_mul] at this
    omega
  rw [Nat.zero_add, cell_of_row _ _ _ _ _ _ h1, h3 _ hlt]
  have hfl : ∀ (l : List (List Value)), (∀ r ∈ l, r.length = sz) → ∀ i r, l[i]? = some r → ∀ j x, r[j]? = some x → l.flatten[i * sz + j]? = some x := by
    intro l
    induction l with
    | nil => intro _ i r h; simp at h
    | cons a l ih =>
      intro hl i r hr j x hx
      rw [List.flatten_cons]
      cases i with
      | zero =>
        cases hr
        rw [Nat.zero_mul, Nat.zero_add, List.getElem?_append_left (List.getElem?_eq_some_iff.1 hx).1]
        exact hx
      | succ i =>
        have ha := hl a List.mem_cons_self
        rw [List.getElem?_append_right (by rw [ha, Nat.add_mul]; omega), ha, show (i + 1) * sz + j - sz = i * sz + j by rw [Nat.add_mul]; omega]
        exact ih (fun r hr => hl r (List.mem_cons_of_mem _ hr)) i r (by simpa using hr) j x hx
  exact hfl rows hl i r hr j x hx
theorem flat_at {sz : Nat} {rows : List (List Value)} (hl : ∀ r ∈ rows, r.length = sz) {i : Nat} {r : List Value} (hr : rows[i]? = some r) {j : Nat} {x : Value} (hx : r[j]? = some x) : rows.flatten[i * sz + j]? = some x := by
  induction rows generalizing i with
  | nil => simp at hr
  | cons a l ih =>
    rw [List.flatten_cons]
    cases i with
    | zero =>
      cases hr
      rw [Nat.zero_mul, Nat.zero_add, List.getElem?_append_left (List.getElem?_eq_some_iff.1 hx).1]
      exact hx
    | succ i =>
      have ha := hl a List.mem_cons_self
      rw [List.getElem?_append_right (by rw [ha, Nat.add_mul]; omega), ha, show (i + 1) * sz + j - sz = i * sz + j by rw [Nat.add_mul]; omega]
      exact ih (fun r hr => hl r (List.mem_cons_of_mem _ hr)) (by simpa using hr)

theorem makeS (n : Nat) (hn : n ≤ 1000) (w : World) : ∃ z, (Instr.makeSlice 22 (.int .i64 (n : Int)) (.int .i64 (n : Int))).run Try.prog w = .ok (.slice (some ⟨w.heap.size, 0, none⟩) n n) (w.alloc (.cells (madeCells z (n * 1)) 9)) := by
  obtain ⟨i0, hi, hz0, hz1, hz2⟩ := info_parts infoS
  have := run_make (P := Try.prog) w 22 9 i0 (.string ByteArray.empty) Try.underlying22 hi hz0 .i64 .i64 (n : Int) (n : Int) (by omega) (Int.le_refl _) (by rw [hz2]; omega) (by omega)
  rw [hz1] at this
  exact ⟨_, this⟩
theorem makeI (n : Nat) (hn : n ≤ 1000) (w : World) : ∃ z, (Instr.makeSlice 42 (.int .i64 (n : Int)) (.int .i64 (n : Int))).run Try.prog w = .ok (.slice (some ⟨w.heap.size, 0, none⟩) n n) (w.alloc (.cells (madeCells z (n * 1)) 3)) := by
  obtain ⟨i0, hi, hz0, hz1, hz2⟩ := info_parts infoI
  have := run_make (P := Try.prog) w 42 3 i0 (.int .i64 0) Try.underlying42 hi hz0 .i64 .i64 (n : Int) (n : Int) (by omega) (Int.le_refl _) (by rw [hz2]; omega) (by omega)
  rw [hz1] at this
  exact ⟨_, this⟩
theorem makeE (n : Nat) (hn : n ≤ 1000) (w : World) : ∃ z, (Instr.makeSlice 52 (.int .i64 (n : Int)) (.int .i64 (n : Int))).run Try.prog w = .ok (.slice (some ⟨w.heap.size, 0, none⟩) n n) (w.alloc (.cells (madeCells z (n * 2)) 37)) := by
  obtain ⟨i0, hi, hz0, hz1, hz2⟩ := info_parts infoE
  have := run_make (P := Try.prog) w 52 37 i0 (.agg #[.int .i64 0, .int .i64 0]) Try.underlying52 hi hz0 .i64 .i64 (n : Int) (n : Int) (by omega) (Int.le_refl _) (by rw [hz2]; omega) (by omega)
  rw [hz1] at this
  exact ⟨_, this⟩
/-- What a call gives that returns rows. -/
def RowsOut (sz : Nat) (rows : List (List Value)) (w : World) (e : Ending) (w' : World) : Prop := ∃ v, e = .returned v ∧ Grid (In w') w' v sz rows ∧ Below w.heap.size w w'


set_option maxRecDepth 100000 in
theorem valEN (x : Elem) (w : World) : Calls Try.prog 80 #[elV x] w fun e w' => e = .returned (.string (bs x.name)) ∧ Below w.heap.size w w' := by
  obtain ⟨nm, kd, ln, gr, sp, sl, sc⟩ := x
  have HB := Lib.hid ((Below.refl w.heap.size w).alloc (Nat.le_refl _) (.cells #[.string (bs nm), .int .i64 kd, .int .i64 ln, .int .i64 gr, .int .i64 sp, .int .i64 sl, .int .i64 sc] 34))
  unfold elV
  simp only
  go_enter Try.func80, Try.ntmps80
  go_wp2_with fail
  go_ret
  exact ⟨rfl, HB.out⟩

set_option maxRecDepth 100000 in
set_option maxHeartbeats 1600000 in
theorem eachEN {xs : List Elem} {v : Value} {w : World} (h : Grid (In w) w v 7 (xs.map Elem.cells)) (hn : xs.length ≤ 1000) :
    Calls Try.prog 79 #[v, .func (.func 80) #[] #[]] w (RowsOut 1 (xs.map fun x => [Value.string (bs x.name)]) w) := by
  have eg : ∀ args w, Sem.run Try.prog (callFunc 80 args) w = .ok (.enter 80 args) w := enters_of Try.func80 (by kernel_rfl) rfl
  obtain ⟨a, cap, rfl, hm, hel⟩ := atE h
  obtain ⟨z, hmk⟩ := makeS xs.length hn w
  obtain ⟨rows, hrows⟩ : ∃ rows, (xs.map fun x => [Value.string (bs x.name)]) = rows := ⟨_, rfl⟩
  have hl : rows.length = xs.length := by rw [← hrows, List.length_map]
  have hsz : ∀ r ∈ rows, r.length = 1 := by
    intro r hr
    rw [← hrows] at hr
    obtain ⟨x, _, rfl⟩ := List.mem_map.1 hr
    rfl
  rw [hrows]
  have HRW := Lib.hid hrows
  have HL := Lib.hid hl
  have HSZ := Lib.hid hsz
  have HE := Lib.hid hel
  have U0 := Lib.hid (up_start (xs.length * 1) 9 rows.flatten z w)
  have B0 := Lib.hid ((Below.refl w.heap.size w).alloc (Nat.le_refl _) (.cells (madeCells z (xs.length * 1)) 9))
  have S0 := Lib.hid (show w.heap.size < (w.alloc (.cells (madeCells z (xs.length * 1)) 9)).heap.size by simp)
  have HN := Lib.hid hn
  clear hrows hl hsz hel h hn
  go_enter Try.func79, Try.ntmps79
  go_wp2_with fail
  obtain ⟨W, hW⟩ : ∃ W, w.alloc (.cells (madeCells z (xs.length * 1)) 9) = W := ⟨_, rfl⟩
  first
    | rw [hW] at U0 B0 S0 ⊢
    | (simp only [Nat.mul_one] at hW U0 B0 S0 ⊢
       rw [hW] at U0 B0 S0 ⊢)
  clear hW hmk
  go_loopw [13] (fun vj wr => ∃ j : Nat, vj = .int .i64 (j : Int) ∧ j ≤ xs.length ∧ Up w.heap.size (xs.length * 1) 9 rows.flatten (j * 1) wr ∧ Below w.heap.size w wr ∧ w.heap.size < wr.heap.size) (fun vj _ => xs.length - (RowKit.intOf vj).toNat)
  case atStart => exact ⟨0, rfl, Nat.zero_le _, by simpa using U0.out, B0.out, S0.out⟩
  case round =>
    obtain ⟨j, rfl, hj, hu, hb, hlt⟩ := hrel
    have HB := Lib.hid hb
    have HU := Lib.hid hu
    have HT := Lib.hid hlt
    clear hb hu hlt
    by_cases hjl : j < xs.length
    · obtain ⟨x, hx⟩ := at_lt hjl
      obtain ⟨b, off, rfl, _, c0, c1, c2, c3, c4, c5, c6⟩ := HE.out wr HB.out j x hx
      have HX := Lib.hid (show rows[j]? = some ([Value.string (bs x.name)]) by rw [← HRW.out, List.getElem?_map, hx]; rfl)
      clear hx
      have HV := Lib.hid (fun w => valEN x w)
      obtain ⟨nm, kd, ln, gr, sp, sl, sc⟩ := x
      simp only at c0 c1 c2 c3 c4 c5 c6 HX HV
      unfold elV at HV
      go_wp2_with fail
      refine (HV.out _).mono ?_
      rintro e w' ⟨rfl, hb2⟩
      have b1 := HB.out.alloc HB.out.size (.cells #[.string (bs nm), .int .i64 kd, .int .i64 ln, .int .i64 gr, .int .i64 sp, .int .i64 sl, .int .i64 sc] 34)
      have t1 : w.heap.size < (wr.alloc (.cells #[.string (bs nm), .int .i64 kd, .int .i64 ln, .int .i64 gr, .int .i64 sp, .int .i64 sl, .int .i64 sc] 34)).heap.size := by have := HT.out; simp; omega
      have t2 := Nat.lt_of_lt_of_le t1 hb2.size
      have HB2 := Lib.hid (bel_next b1 hb2)
      have HU2 := Lib.hid (up_next (up_next HU.out ((Below.refl _ _).alloc (Nat.le_refl _) (.cells #[.string (bs nm), .int .i64 kd, .int .i64 ln, .int .i64 gr, .int .i64 sp, .int .i64 sl, .int .i64 sc] 34))) hb2)
      clear b1 hb2 t1
      obtain ⟨⟨y0, k0⟩, f0⟩ := up_cell HU2.out (j := j) (by omega)
      have HT2 := Lib.hid t2
      clear t2
      go_wp2_with fail
      go_roundw
      case rel => exact ⟨j + 1, by simp, by omega, by have := up_more (u := Value.string (bs nm)) HU2.out (by omega) (flat_at HSZ.out HX.out (j := 0) rfl); simpa [Nat.mul_one] using this, HB2.out.setCell (by simp) _, by simpa [World.setCell] using HT2.out⟩
      case measure => simp [RowKit.intOf]; omega
    · have he : j = xs.length := by omega
      subst he
      go_wp2_with fail
      go_ret
      have hu2 := HU.out
      rw [← HL.out] at hu2
      exact ⟨_, rfl, up_grid hu2 HSZ.out HL.out.symm (by have := HN.out; unfold maxLen; omega) HT.out, HB.out⟩

set_option maxRecDepth 100000 in
theorem valGN (x : Sig) (w : World) : Calls Try.prog 82 #[sgV x] w fun e w' => e = .returned (.string (bs x.name)) ∧ Below w.heap.size w w' := by
  obtain ⟨nm, ⟨u1, u2⟩, ov⟩ := x
  have HB := Lib.hid ((Below.refl w.heap.size w).alloc (Nat.le_refl _) (.cells #[.string (bs nm), .int .i64 u1, .int .i64 u2, .int .i64 ov] 55))
  unfold sgV
  simp only
  go_enter Try.func82, Try.ntmps82
  go_wp2_with fail
  go_ret
  exact ⟨rfl, HB.out⟩

set_option maxRecDepth 100000 in
set_option maxHeartbeats 1600000 in
theorem eachGN {xs : List Sig} {v : Value} {w : World} (h : Grid (In w) w v 4 (xs.map Sig.cells)) (hn : xs.length ≤ 1000) :
    Calls Try.prog 81 #[v, .func (.func 82) #[] #[]] w (RowsOut 1 (xs.map fun x => [Value.string (bs x.name)]) w) := by
  have eg : ∀ args w, Sem.run Try.prog (callFunc 82 args) w = .ok (.enter 82 args) w := enters_of Try.func82 (by kernel_rfl) rfl
  obtain ⟨a, cap, rfl, hm, hel⟩ := atG h
  obtain ⟨z, hmk⟩ := makeS xs.length hn w
  obtain ⟨rows, hrows⟩ : ∃ rows, (xs.map fun x => [Value.string (bs x.name)]) = rows := ⟨_, rfl⟩
  have hl : rows.length = xs.length := by rw [← hrows, List.length_map]
  have hsz : ∀ r ∈ rows, r.length = 1 := by
    intro r hr
    rw [← hrows] at hr
    obtain ⟨x, _, rfl⟩ := List.mem_map.1 hr
    rfl
  rw [hrows]
  have HRW := Lib.hid hrows
  have HL := Lib.hid hl
  have HSZ := Lib.hid hsz
  have HE := Lib.hid hel
  have U0 := Lib.hid (up_start (xs.length * 1) 9 rows.flatten z w)
  have B0 := Lib.hid ((Below.refl w.heap.size w).alloc (Nat.le_refl _) (.cells (madeCells z (xs.length * 1)) 9))
  have S0 := Lib.hid (show w.heap.size < (w.alloc (.cells (madeCells z (xs.length * 1)) 9)).heap.size by simp)
  have HN := Lib.hid hn
  clear hrows hl hsz hel h hn
  go_enter Try.func81, Try.ntmps81
  go_wp2_with fail
  obtain ⟨W, hW⟩ : ∃ W, w.alloc (.cells (madeCells z (xs.length * 1)) 9) = W := ⟨_, rfl⟩
  first
    | rw [hW] at U0 B0 S0 ⊢
    | (simp only [Nat.mul_one] at hW U0 B0 S0 ⊢
       rw [hW] at U0 B0 S0 ⊢)
  clear hW hmk
  go_loopw [13] (fun vj wr => ∃ j : Nat, vj = .int .i64 (j : Int) ∧ j ≤ xs.length ∧ Up w.heap.size (xs.length * 1) 9 rows.flatten (j * 1) wr ∧ Below w.heap.size w wr ∧ w.heap.size < wr.heap.size) (fun vj _ => xs.length - (RowKit.intOf vj).toNat)
  case atStart => exact ⟨0, rfl, Nat.zero_le _, by simpa using U0.out, B0.out, S0.out⟩
  case round =>
    obtain ⟨j, rfl, hj, hu, hb, hlt⟩ := hrel
    have HB := Lib.hid hb
    have HU := Lib.hid hu
    have HT := Lib.hid hlt
    clear hb hu hlt
    by_cases hjl : j < xs.length
    · obtain ⟨x, hx⟩ := at_lt hjl
      obtain ⟨b, off, rfl, _, c0, c1, c2, c3⟩ := HE.out wr HB.out j x hx
      have HX := Lib.hid (show rows[j]? = some ([Value.string (bs x.name)]) by rw [← HRW.out, List.getElem?_map, hx]; rfl)
      clear hx
      have HV := Lib.hid (fun w => valGN x w)
      obtain ⟨nm, ⟨u1, u2⟩, ov⟩ := x
      simp only at c0 c1 c2 c3 HX HV
      unfold sgV at HV
      go_wp2_with fail
      refine (HV.out _).mono ?_
      rintro e w' ⟨rfl, hb2⟩
      have b1 := HB.out.alloc HB.out.size (.cells #[.string (bs nm), .int .i64 u1, .int .i64 u2, .int .i64 ov] 55)
      have t1 : w.heap.size < (wr.alloc (.cells #[.string (bs nm), .int .i64 u1, .int .i64 u2, .int .i64 ov] 55)).heap.size := by have := HT.out; simp; omega
      have t2 := Nat.lt_of_lt_of_le t1 hb2.size
      have HB2 := Lib.hid (bel_next b1 hb2)
      have HU2 := Lib.hid (up_next (up_next HU.out ((Below.refl _ _).alloc (Nat.le_refl _) (.cells #[.string (bs nm), .int .i64 u1, .int .i64 u2, .int .i64 ov] 55))) hb2)
      clear b1 hb2 t1
      obtain ⟨⟨y0, k0⟩, f0⟩ := up_cell HU2.out (j := j) (by omega)
      have HT2 := Lib.hid t2
      clear t2
      go_wp2_with fail
      go_roundw
      case rel => exact ⟨j + 1, by simp, by omega, by have := up_more (u := Value.string (bs nm)) HU2.out (by omega) (flat_at HSZ.out HX.out (j := 0) rfl); simpa [Nat.mul_one] using this, HB2.out.setCell (by simp) _, by simpa [World.setCell] using HT2.out⟩
      case measure => simp [RowKit.intOf]; omega
    · have he : j = xs.length := by omega
      subst he
      go_wp2_with fail
      go_ret
      have hu2 := HU.out
      rw [← HL.out] at hu2
      exact ⟨_, rfl, up_grid hu2 HSZ.out HL.out.symm (by have := HN.out; unfold maxLen; omega) HT.out, HB.out⟩

set_option maxRecDepth 100000 in
theorem valGE (x : Sig) (w : World) : Calls Try.prog 28 #[sgV x] w fun e w' => e = .returned (pV x.spot) ∧ Below w.heap.size w w' := by
  obtain ⟨nm, ⟨u1, u2⟩, ov⟩ := x
  have HB := Lib.hid ((Below.refl w.heap.size w).alloc (Nat.le_refl _) (.cells #[.string (bs nm), .int .i64 u1, .int .i64 u2, .int .i64 ov] 55))
  unfold sgV
  simp only
  unfold pV
  simp only
  go_enter Try.func28, Try.ntmps28
  go_wp2_with fail
  refine bodyPost_ret (v := .agg #[.int .i64 u1, .int .i64 u2]) ?_ rfl ⟨rfl, ?_⟩
  · exact results_cell_row rfl _ _ (w.heap.size + 1) 37 _ (0, 0) _ rfl (by simpa using heap_alloc_new (w.alloc (.cells #[.string (bs nm), .int .i64 u1, .int .i64 u2, .int .i64 ov] 55)) (.cells #[.int .i64 u1, .int .i64 u2] 37)) Try.underlying37 rfl (by kernel_rfl)
  · exact HB.out.alloc HB.out.size _

set_option maxRecDepth 100000 in
set_option maxHeartbeats 1600000 in
theorem eachGE {xs : List Sig} {v : Value} {w : World} (h : Grid (In w) w v 4 (xs.map Sig.cells)) (hn : xs.length ≤ 1000) :
    Calls Try.prog 27 #[v, .func (.func 28) #[] #[]] w (RowsOut 2 (xs.map fun x => [Value.int .i64 x.spot.1, Value.int .i64 x.spot.2]) w) := by
  have eg : ∀ args w, Sem.run Try.prog (callFunc 28 args) w = .ok (.enter 28 args) w := enters_of Try.func28 (by kernel_rfl) rfl
  obtain ⟨a, cap, rfl, hm, hel⟩ := atG h
  obtain ⟨z, hmk⟩ := makeE xs.length hn w
  obtain ⟨rows, hrows⟩ : ∃ rows, (xs.map fun x => [Value.int .i64 x.spot.1, Value.int .i64 x.spot.2]) = rows := ⟨_, rfl⟩
  have hl : rows.length = xs.length := by rw [← hrows, List.length_map]
  have hsz : ∀ r ∈ rows, r.length = 2 := by
    intro r hr
    rw [← hrows] at hr
    obtain ⟨x, _, rfl⟩ := List.mem_map.1 hr
    rfl
  rw [hrows]
  have HRW := Lib.hid hrows
  have HL := Lib.hid hl
  have HSZ := Lib.hid hsz
  have HE := Lib.hid hel
  have U0 := Lib.hid (up_start (xs.length * 2) 37 rows.flatten z w)
  have B0 := Lib.hid ((Below.refl w.heap.size w).alloc (Nat.le_refl _) (.cells (madeCells z (xs.length * 2)) 37))
  have S0 := Lib.hid (show w.heap.size < (w.alloc (.cells (madeCells z (xs.length * 2)) 37)).heap.size by simp)
  have HN := Lib.hid hn
  clear hrows hl hsz hel h hn
  go_enter Try.func27, Try.ntmps27
  go_wp2_with fail
  obtain ⟨W, hW⟩ : ∃ W, w.alloc (.cells (madeCells z (xs.length * 2)) 37) = W := ⟨_, rfl⟩
  first
    | rw [hW] at U0 B0 S0 ⊢
    | (simp only [Nat.mul_one] at hW U0 B0 S0 ⊢
       rw [hW] at U0 B0 S0 ⊢)
  clear hW hmk
  go_loopw [13] (fun vj wr => ∃ j : Nat, vj = .int .i64 (j : Int) ∧ j ≤ xs.length ∧ Up w.heap.size (xs.length * 2) 37 rows.flatten (j * 2) wr ∧ Below w.heap.size w wr ∧ w.heap.size < wr.heap.size) (fun vj _ => xs.length - (RowKit.intOf vj).toNat)
  case atStart => exact ⟨0, rfl, Nat.zero_le _, by simpa using U0.out, B0.out, S0.out⟩
  case round =>
    obtain ⟨j, rfl, hj, hu, hb, hlt⟩ := hrel
    have HB := Lib.hid hb
    have HU := Lib.hid hu
    have HT := Lib.hid hlt
    clear hb hu hlt
    by_cases hjl : j < xs.length
    · obtain ⟨x, hx⟩ := at_lt hjl
      obtain ⟨b, off, rfl, _, c0, c1, c2, c3⟩ := HE.out wr HB.out j x hx
      have HX := Lib.hid (show rows[j]? = some ([Value.int .i64 x.spot.1, Value.int .i64 x.spot.2]) by rw [← HRW.out, List.getElem?_map, hx]; rfl)
      clear hx
      have HV := Lib.hid (fun w => valGE x w)
      obtain ⟨nm, ⟨u1, u2⟩, ov⟩ := x
      simp only at c0 c1 c2 c3 HX HV
      unfold sgV at HV
      unfold pV at HV
      simp only at HV
      go_wp2_with fail
      refine (HV.out _).mono ?_
      rintro e w' ⟨rfl, hb2⟩
      have b1 := HB.out.alloc HB.out.size (.cells #[.string (bs nm), .int .i64 u1, .int .i64 u2, .int .i64 ov] 55)
      have t1 : w.heap.size < (wr.alloc (.cells #[.string (bs nm), .int .i64 u1, .int .i64 u2, .int .i64 ov] 55)).heap.size := by have := HT.out; simp; omega
      have t2 := Nat.lt_of_lt_of_le t1 hb2.size
      have HB2 := Lib.hid (bel_next b1 hb2)
      have HU2 := Lib.hid (up_next (up_next HU.out ((Below.refl _ _).alloc (Nat.le_refl _) (.cells #[.string (bs nm), .int .i64 u1, .int .i64 u2, .int .i64 ov] 55))) hb2)
      clear b1 hb2 t1
      obtain ⟨⟨y0, k0⟩, f0⟩ := up_cell HU2.out (j := j * 2) (by omega)
      obtain ⟨⟨y1, k1⟩, f1⟩ := up_cell HU2.out (j := j * 2 + 1) (by omega)
      have HT2 := Lib.hid t2
      clear t2
      go_wp2_with fail
      go_roundw
      case rel => exact ⟨j + 1, by simp, by omega, by have q1 := up_more (u := Value.int .i64 u1) HU2.out (by omega) (flat_at HSZ.out HX.out (j := 0) rfl); have q2 := up_more (u := Value.int .i64 u2) q1 (by omega) (flat_at HSZ.out HX.out (j := 1) rfl); rw [show (j + 1) * 2 = j * 2 + 1 + 1 by omega]; exact q2, (HB2.out.setCell (by simp) _).setCell (by simp) _, by simpa [World.setCell] using HT2.out⟩
      case measure => simp [RowKit.intOf]; omega
    · have he : j = xs.length := by omega
      subst he
      go_wp2_with fail
      go_ret
      have hu2 := HU.out
      rw [← HL.out] at hu2
      exact ⟨_, rfl, up_grid hu2 HSZ.out HL.out.symm (by have := HN.out; unfold maxLen; omega) HT.out, HB.out⟩

set_option maxRecDepth 100000 in
theorem valBI (x : Bal) (w : World) : Calls Try.prog 33 #[baV x] w fun e w' => e = .returned (.int .i64 x.id) ∧ Below w.heap.size w w' := by
  obtain ⟨bi, be, bo⟩ := x
  have HB := Lib.hid ((Below.refl w.heap.size w).alloc (Nat.le_refl _) (.cells #[.int .i64 bi, .int .i64 be, .int .i64 bo] 61))
  unfold baV
  simp only
  go_enter Try.func33, Try.ntmps33
  go_wp2_with fail
  go_ret
  exact ⟨rfl, HB.out⟩

set_option maxRecDepth 100000 in
set_option maxHeartbeats 1600000 in
theorem eachBI {xs : List Bal} {v : Value} {w : World} (h : Grid (In w) w v 3 (xs.map Bal.cells)) (hn : xs.length ≤ 1000) :
    Calls Try.prog 32 #[v, .func (.func 33) #[] #[]] w (RowsOut 1 (xs.map fun x => [Value.int .i64 x.id]) w) := by
  have eg : ∀ args w, Sem.run Try.prog (callFunc 33 args) w = .ok (.enter 33 args) w := enters_of Try.func33 (by kernel_rfl) rfl
  obtain ⟨a, cap, rfl, hm, hel⟩ := atB h
  obtain ⟨z, hmk⟩ := makeI xs.length hn w
  obtain ⟨rows, hrows⟩ : ∃ rows, (xs.map fun x => [Value.int .i64 x.id]) = rows := ⟨_, rfl⟩
  have hl : rows.length = xs.length := by rw [← hrows, List.length_map]
  have hsz : ∀ r ∈ rows, r.length = 1 := by
    intro r hr
    rw [← hrows] at hr
    obtain ⟨x, _, rfl⟩ := List.mem_map.1 hr
    rfl
  rw [hrows]
  have HRW := Lib.hid hrows
  have HL := Lib.hid hl
  have HSZ := Lib.hid hsz
  have HE := Lib.hid hel
  have U0 := Lib.hid (up_start (xs.length * 1) 3 rows.flatten z w)
  have B0 := Lib.hid ((Below.refl w.heap.size w).alloc (Nat.le_refl _) (.cells (madeCells z (xs.length * 1)) 3))
  have S0 := Lib.hid (show w.heap.size < (w.alloc (.cells (madeCells z (xs.length * 1)) 3)).heap.size by simp)
  have HN := Lib.hid hn
  clear hrows hl hsz hel h hn
  go_enter Try.func32, Try.ntmps32
  go_wp2_with fail
  obtain ⟨W, hW⟩ : ∃ W, w.alloc (.cells (madeCells z (xs.length * 1)) 3) = W := ⟨_, rfl⟩
  first
    | rw [hW] at U0 B0 S0 ⊢
    | (simp only [Nat.mul_one] at hW U0 B0 S0 ⊢
       rw [hW] at U0 B0 S0 ⊢)
  clear hW hmk
  go_loopw [13] (fun vj wr => ∃ j : Nat, vj = .int .i64 (j : Int) ∧ j ≤ xs.length ∧ Up w.heap.size (xs.length * 1) 3 rows.flatten (j * 1) wr ∧ Below w.heap.size w wr ∧ w.heap.size < wr.heap.size) (fun vj _ => xs.length - (RowKit.intOf vj).toNat)
  case atStart => exact ⟨0, rfl, Nat.zero_le _, by simpa using U0.out, B0.out, S0.out⟩
  case round =>
    obtain ⟨j, rfl, hj, hu, hb, hlt⟩ := hrel
    have HB := Lib.hid hb
    have HU := Lib.hid hu
    have HT := Lib.hid hlt
    clear hb hu hlt
    by_cases hjl : j < xs.length
    · obtain ⟨x, hx⟩ := at_lt hjl
      obtain ⟨b, off, rfl, _, c0, c1, c2⟩ := HE.out wr HB.out j x hx
      have HX := Lib.hid (show rows[j]? = some ([Value.int .i64 x.id]) by rw [← HRW.out, List.getElem?_map, hx]; rfl)
      clear hx
      have HV := Lib.hid (fun w => valBI x w)
      obtain ⟨bi, be, bo⟩ := x
      simp only at c0 c1 c2 HX HV
      unfold baV at HV
      go_wp2_with fail
      refine (HV.out _).mono ?_
      rintro e w' ⟨rfl, hb2⟩
      have b1 := HB.out.alloc HB.out.size (.cells #[.int .i64 bi, .int .i64 be, .int .i64 bo] 61)
      have t1 : w.heap.size < (wr.alloc (.cells #[.int .i64 bi, .int .i64 be, .int .i64 bo] 61)).heap.size := by have := HT.out; simp; omega
      have t2 := Nat.lt_of_lt_of_le t1 hb2.size
      have HB2 := Lib.hid (bel_next b1 hb2)
      have HU2 := Lib.hid (up_next (up_next HU.out ((Below.refl _ _).alloc (Nat.le_refl _) (.cells #[.int .i64 bi, .int .i64 be, .int .i64 bo] 61))) hb2)
      clear b1 hb2 t1
      obtain ⟨⟨y0, k0⟩, f0⟩ := up_cell HU2.out (j := j) (by omega)
      have HT2 := Lib.hid t2
      clear t2
      go_wp2_with fail
      go_roundw
      case rel => exact ⟨j + 1, by simp, by omega, by have := up_more (u := Value.int .i64 bi) HU2.out (by omega) (flat_at HSZ.out HX.out (j := 0) rfl); simpa [Nat.mul_one] using this, HB2.out.setCell (by simp) _, by simpa [World.setCell] using HT2.out⟩
      case measure => simp [RowKit.intOf]; omega
    · have he : j = xs.length := by omega
      subst he
      go_wp2_with fail
      go_ret
      have hu2 := HU.out
      rw [← HL.out] at hu2
      exact ⟨_, rfl, up_grid hu2 HSZ.out HL.out.symm (by have := HN.out; unfold maxLen; omega) HT.out, HB.out⟩

end Go.Proofs.Ytieoegodhhiiiaa.Peac
