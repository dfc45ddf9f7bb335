/- Texts of this proof, merged: Rlz, Peac, Omap, Lmap, Omapn, Pdis. -/
import Derived.Test.YtfdipcphohhlgaaGreatDoorG20
import Derived.Test.YtfdipcphohhlgaaGreatDoorG21
import Derived.Test.YtfdipcphohhlgaaGreatDoorG22
import Derived.Test.YtfdipcphohhlgaaGreatDoorG23
import Derived.Test.YtfdipcphohhlgaaGreatDoorG24
import Derived.Test.YtfdipcphohhlgaaGreatDoorG18
import Derived.Test.YtfdipcphohhlgaaGreatDoorG07
import Derived.Laws.MakeOwn
import Derived.Laws.OwnMore
import Derived.Laws.ResultCell
import Derived.Maps.Own
import Derived.Maps.OwnOps
import Derived.Maps.OwnSet
import Derived.Maps.Views
import Derived.DeepKeys5
import Derived.Test.YtfdipcphohhlgaaGreatDoorG02
import Derived.Test.YtfdipcphohhlgaaGreatDoorG06

/- The program's reader reads a line, whatever it is. -/
namespace Go.Proofs.YtfdipcphohhlgaaGreatDoor.Rlz
open Go.RowKit Go.Lib Go.Proofs.YtfdipcphohhlgaaGreatDoor.Reads Go.Proofs.YtfdipcphohhlgaaGreatDoor.Rows2 Go.Proofs.YtfdipcphohhlgaaGreatDoor.Lay Go.Proofs.YtfdipcphohhlgaaGreatDoor.Layf Go.Proofs.YtfdipcphohhlgaaGreatDoor.Lcon Go.Proofs.YtfdipcphohhlgaaGreatDoor.Numt Go.Proofs.YtfdipcphohhlgaaGreatDoor.Plnf Go.Proofs.YtfdipcphohhlgaaGreatDoor.Pkin Go.Proofs.YtfdipcphohhlgaaGreatDoor.Prds Go.Proofs.YtfdipcphohhlgaaGreatDoor.Rdr Go.Proofs.YtfdipcphohhlgaaGreatDoor.Rdk Go.Proofs.YtfdipcphohhlgaaGreatDoor.Rdn Go.Proofs.YtfdipcphohhlgaaGreatDoor.Rla
open Go.Proofs.YtfdipcphohhlgaaGreatDoor.Debw (Deb)
open Go.Proofs.YtfdipcphohhlgaaGreatDoor.Text hiding lineL joinR

set_option maxRecDepth 100000 in
theorem read_no {W0 w : World} {g : Nat} {L : Lay} {vs ve vj vg vb lv : Value} {pl : Int} {s : Rs} {k : List UInt8} {r : List (List UInt8)} (h : RW W0 g w L vs ve vj vg vb pl s) (hl : Strs (In W0) W0 lv (k :: r)) (hc : canB pl (placeF k) = false) :
    Calls Tryz.prog 40 #[.pointer (some ⟨g, 0, none⟩), lv] w fun e w' => e = .returned (.int .i64 4) ∧ Below W0.heap.size W0 w' := by
  obtain ⟨b, off, c, rfl, hb, hn, hx, -⟩ := line_head hl
  have x0 := (h.bel.cell (p := ⟨b, off, none⟩) hb).trans hx
  have H0 := Lib.hid h
  have HP := Lib.hid (fun w => place_any k w)
  have HC := Lib.hid (fun w' (q : RW W0 g w' L vs ve vj vg vb pl s) => can_any (placeF k) q)
  rw [hc] at HC
  obtain ⟨p, hp⟩ : ∃ p, placeF k = p := ⟨_, rfl⟩
  rw [hp] at HC HP
  obtain ⟨N, hN⟩ : ∃ N, r.length + 1 = N := ⟨_, rfl⟩
  have hN2 : (N : Int) ≤ 9223372036854775807 := by omega
  have q3 : 0 < N := by omega
  have q4 : (0 : Int) < (N : Int) := by omega
  rw [hN]
  clear h hl hn hN hc hx hp
  go_enter Tryz.func40, Tryz.ntmps40
  go_wp2_with fail
  refine (HP.out _).mono ?_
  rintro e w1 ⟨rfl, b1⟩
  have R1 := Lib.hid (H0.out.next b1)
  clear b1 x0
  go_wp2_with fail
  refine (HC.out _ R1.out).mono ?_
  rintro e w2 ⟨rfl, rfl⟩
  go_wp2_with fail
  go_ret
  exact ⟨rfl, R1.out.bel⟩

/-- The place behind i lines. -/
def PlOk (i last : Nat) (pl : Int) : Prop := (i = 0 ∧ last = 0 ∧ pl = 0) ∨ (0 < i ∧ pl = (last : Int) + 1)
theorem can_step {i last : Nat} {pl : Int} {L : Lay} {k : List UInt8} {r : List (List UInt8)} (h : PlOk i last pl) :
    (canB pl (placeF k) = false → (stepL i last L (k :: r)).1 = 4) ∧
    (canB pl (placeF k) = true → rankL k ≠ none ∧ 1 ≤ placeF k ∧ placeF k ≤ 6 ∧ (stepL i last L (k :: r)).1 = (readL L (k :: r)).1 ∧ (stepL i last L (k :: r)).2.2 = (readL L (k :: r)).2 ∧ placeF k = ((stepL i last L (k :: r)).2.1 : Int) + 1) := by
  unfold stepL
  rw [List.headD_cons]
  have hrk : ∀ q, rankL k = some q → q ≤ 5 := by
    intro q hq
    unfold rankL at hq
    repeat' split at hq
    all_goals first
      | (simp only [Option.some.injEq] at hq; omega)
      | (cases hq)
  cases hr : rankL k with
  | none =>
    have e : placeF k = 0 := by unfold placeF; rw [hr]
    have hc : canB pl 0 = false := by
      unfold canB
      split
      · rfl
      · rfl
    rw [e, hc]
    exact ⟨fun _ => rfl, fun h => by cases h⟩
  | some q =>
    have e : placeF k = (q : Int) + 1 := by unfold placeF; rw [hr]
    have hq := hrk q hr
    have hc : canB pl ((q : Int) + 1) = decide (decide (q = 0) = decide (i = 0) ∧ last ≤ q) := by
      unfold canB
      rcases h with ⟨rfl, rfl, rfl⟩ | ⟨hi, rfl⟩
      · rw [if_pos rfl]
        by_cases h0 : q = 0
        · subst h0; rfl
        · rw [decide_eq_false (show ¬ ((q : Int) + 1 = 1) by omega)]
          simp [h0]
      · rw [if_neg (by omega)]
        by_cases h0 : q = 0
        · subst h0
          simp
          omega
        · rw [decide_eq_true (show (1 : Int) < (q : Int) + 1 by omega), Bool.true_and]
          have hi0 : ¬ i = 0 := by omega
          simp only [h0, hi0, decide_false, true_and]
          congr 1
          simp only [eq_iff_iff]
          omega
    rw [e, hc]
    refine ⟨fun hd => ?_, fun hd => ?_⟩
    · simp only
      rw [if_neg (of_decide_eq_false hd)]
    · simp only
      rw [if_pos (of_decide_eq_true hd)]
      exact ⟨by simp, by omega, by omega, rfl, rfl, rfl⟩

/-- The sizes of a layout's lists are at most n. -/
def Small (n : Nat) (L : Lay) : Prop := L.secs.length ≤ n ∧ L.els.length ≤ n ∧ L.joints.length ≤ n ∧ L.sigs.length ≤ n ∧ L.bals.length ≤ n
theorem small_prog {n : Nat} {L : Lay} (ws : List (List UInt8)) (h : Small n L) : Small (n + 1) (progL L ws).2 := by
  obtain ⟨h1, h2, h3, h4, h5⟩ := h
  unfold Small progL
  simp only
  repeat' split
  all_goals
    simp only [List.length_append, List.length_singleton]
    omega
theorem fin_zero {s : Rs} (h : finE s = 0) : s = ⟨[], false, false⟩ := by
  obtain ⟨ws, m, u⟩ := s
  unfold finE at h
  cases m
  · cases ws with
    | nil => cases u with
      | false => rfl
      | true => simp at h
    | cons x r => simp at h
  · simp at h

/-- What a call of read gives. -/
def LineOut (W0 : World) (g i last : Nat) (L : Lay) (ws : List (List UInt8)) (e : Ending) (w' : World) : Prop :=
  ∃ r, e = .returned (.int .i64 r) ∧ r = (stepL i last L ws).1 ∧ Below W0.heap.size W0 w' ∧
    (r = 0 → ∃ vs ve vj vg vb pl, RW W0 g w' (stepL i last L ws).2.2 vs ve vj vg vb pl ⟨[], false, false⟩ ∧ PlOk (i + 1) (stepL i last L ws).2.1 pl ∧ Small (i + 1) (stepL i last L ws).2.2)

theorem read_any {W0 w : World} {g i last : Nat} {L : Lay} {vs ve vj vg vb lv : Value} {pl : Int} {k : List UInt8} {r : List (List UInt8)} (hd : Deb W0) (h : RW W0 g w L vs ve vj vg vb pl ⟨[], false, false⟩) (hl : Strs (In W0) W0 lv (k :: r)) (hsh : ∀ x ∈ r, x.length ≤ 40000)
    (hp : PlOk i last pl) (hs : Small i L) (hi : i ≤ 100000) : Calls Tryz.prog 40 #[.pointer (some ⟨g, 0, none⟩), lv] w (LineOut W0 g i last L (k :: r)) := by
  obtain ⟨c0, c1⟩ := can_step (L := L) (k := k) (r := r) hp
  cases hc : canB pl (placeF k) with
  | false =>
    refine (read_no h hl hc).mono ?_
    rintro e w' ⟨rfl, hb⟩
    exact ⟨4, rfl, (c0 hc).symm, hb, fun h => by cases h⟩
  | true =>
    obtain ⟨hr, hp1, hp6, e1, e2, e3⟩ := c1 hc
    obtain ⟨s1, s2, s3, s4, s5⟩ := hs
    obtain ⟨q1, q2⟩ := prog_read L (k :: r) hr
    have fin : ∀ (e : Ending) (w' : World), ReadOut W0 g (placeF k) (progL L (k :: r)).2 (progL L (k :: r)).1 (finE (progL L (k :: r)).1) e w' → LineOut W0 g i last L (k :: r) e w' := by
      rintro e w' ⟨rfl, hb, hz⟩
      refine ⟨_, rfl, (e1.trans q1).symm, hb, fun h0 => ?_⟩
      obtain ⟨vs', ve', vj', vg', vb', hrw⟩ := hz h0
      rw [fin_zero h0] at hrw
      rw [e2, q2 h0]
      exact ⟨vs', ve', vj', vg', vb', _, hrw, .inr ⟨by omega, e3⟩, small_prog _ ⟨s1, s2, s3, s4, s5⟩⟩
    have hcase : placeF k = 1 ∨ placeF k = 2 ∨ placeF k = 3 ∨ placeF k = 4 ∨ placeF k = 5 ∨ placeF k = 6 := by omega
    rcases hcase with hk | hk | hk | hk | hk | hk
    all_goals rw [hk] at fin
    · exact (Rl1.read_1 hd h hl hsh (by omega) (by omega) (by omega) (by omega) (by omega) hc hk).mono fin
    · exact (Rl2.read_2 hd h hl hsh (by omega) (by omega) (by omega) (by omega) (by omega) hc hk).mono fin
    · exact (Rl3.read_3 hd h hl hsh (by omega) (by omega) (by omega) (by omega) (by omega) hc hk).mono fin
    · exact (Rl4.read_4 hd h hl hsh (by omega) (by omega) (by omega) (by omega) (by omega) hc hk).mono fin
    · exact (Rl5.read_5 hd h hl hsh (by omega) (by omega) (by omega) (by omega) (by omega) hc hk).mono fin
    · exact (Rl6.read_6 hd h hl hsh (by omega) (by omega) (by omega) (by omega) (by omega) hc hk).mono fin

end Go.Proofs.YtfdipcphohhlgaaGreatDoor.Rlz

/- The program's each: a value of each of a list, type by type. -/
namespace Go.Proofs.YtfdipcphohhlgaaGreatDoor.Peac
open Go.RowKit Go.Lib Go.Proofs.YtfdipcphohhlgaaGreatDoor.Reads Go.Proofs.YtfdipcphohhlgaaGreatDoor.Rows2 Go.Proofs.YtfdipcphohhlgaaGreatDoor.Lay Go.Proofs.YtfdipcphohhlgaaGreatDoor.Layf Go.Proofs.YtfdipcphohhlgaaGreatDoor.Lcon Go.Proofs.YtfdipcphohhlgaaGreatDoor.Ldup Go.Proofs.YtfdipcphohhlgaaGreatDoor.Lext Go.Proofs.YtfdipcphohhlgaaGreatDoor.Lnmd Go.Proofs.YtfdipcphohhlgaaGreatDoor.Pbas Go.Proofs.YtfdipcphohhlgaaGreatDoor.Pfn Go.Proofs.YtfdipcphohhlgaaGreatDoor.Lnam Go.Proofs.YtfdipcphohhlgaaGreatDoor.Lmem
open Go.Proofs.YtfdipcphohhlgaaGreatDoor.Lele (infoE)
open Go.Proofs.YtfdipcphohhlgaaGreatDoor.Text hiding lineL joinR

/-- A row of N cells in block g of which the first k are set. -/
def Up (g N : Nat) (T : TypeId) (cells : List Value) (k : Nat) (wr : World) : Prop :=
  ∃ cs : Array Value, wr.heap[g]? = some (.cells cs T (0, 0)) ∧ cs.size = N ∧ ∀ i, i < k → cs[i]? = cells[i]?
theorem up_start (N : Nat) (T : TypeId) (cells : List Value) (z : Array Value) (w : World) : Up w.heap.size N T cells 0 (w.alloc (.cells (madeCells z N) T)) :=
  ⟨_, heap_alloc_new _ _, size_madeCells _ _, fun _ hi => absurd hi (Nat.not_lt_zero _)⟩
theorem up_next {g N k : Nat} {T : TypeId} {cells : List Value} {wr w' : World} (h : Up g N T cells k wr) (hb : Below wr.heap.size wr w') : Up g N T cells k w' := by
  obtain ⟨cs, h1, h2, h3⟩ := h
  have hg : g < wr.heap.size := by
    rcases Nat.lt_or_ge g wr.heap.size with h | h
    · exact h
    · rw [Array.getElem?_eq_none h] at h1
      cases h1
  exact ⟨cs, (hb.block g hg).trans h1, h2, h3⟩
theorem up_more {g N k : Nat} {T : TypeId} {cells : List Value} {wr : World} {u : Value} (h : Up g N T cells k wr) (hk : k < N) (hu : cells[k]? = some u) : Up g N T cells (k + 1) (wr.setCell ⟨g, k, none⟩ u) := by
  obtain ⟨cs, h1, h2, h3⟩ := h
  refine ⟨_, Go.heap_setCell_same _ _ _ _ _ _ h1, by simpa using h2, fun i hi => ?_⟩
  rw [Array.getElem?_setIfInBounds]
  by_cases e : k = i
  · subst e
    rw [if_pos rfl, if_pos (by omega), hu]
  · rw [if_neg e, h3 i (by omega)]
theorem up_cell {g N k j : Nat} {T : TypeId} {cells : List Value} {wr : World} (h : Up g N T cells k wr) (hj : j < N) : (∃ u, wr.cell? ⟨g, j, none⟩ = some u) ∧ wr.frozen? ⟨g, j, none⟩ = false := by
  obtain ⟨cs, h1, h2, _⟩ := h
  obtain ⟨q1, q2⟩ := cells_at h1 j
  exact ⟨⟨cs[j], q1.trans (Array.getElem?_eq_getElem (by omega))⟩, q2⟩
/-- All cells set: the slice reads as its rows. -/
theorem up_grid {g n sz : Nat} {T : TypeId} {rows : List (List Value)} {wr : World} {ok : Nat → Prop} (h : Up g (rows.length * sz) T rows.flatten (rows.length * sz) wr) (hl : ∀ r ∈ rows, r.length = sz) (hn : n = rows.length) (hm : n ≤ maxLen) (hg : ok g) : Grid ok wr (.slice (some ⟨g, 0, none⟩) n n) sz rows := by
  subst hn
  obtain ⟨cs, h1, h2, h3⟩ := h
  refine ⟨_, _, rfl, Nat.le_refl _, hm, .inr ⟨g, 0, rfl, hg, fun i r hr j x hx => ?_⟩⟩
  have hi := (List.getElem?_eq_some_iff.1 hr).1
  have hj := (List.getElem?_eq_some_iff.1 hx).1
  rw [hl r (List.mem_of_getElem? hr)] at hj
  have hlt : i * sz + j < rows.length * sz := by
    have := Nat.mul_le_mul_right sz (show i + 1 ≤ rows.length by omega)
    rw [Nat.add_mul, Nat.one_mul] at this
    omega
  rw [Nat.zero_add, cell_of_row _ _ _ _ _ _ h1, h3 _ hlt]
  have hfl : ∀ (l : List (List Value)), (∀ r ∈ l, r.length = sz) → ∀ i r, l[i]? = some r → ∀ j x, r[j]? = some x → l.flatten[i * sz + j]? = some x := by
    intro l
    induction l with
    | nil => intro _ i r h; simp at h
    | cons a l ih =>
      intro hl i r hr j x hx
      rw [List.flatten_cons]
      cases i with
      | zero =>
        cases hr
        rw [Nat.zero_mul, Nat.zero_add, List.getElem?_append_left (List.getElem?_eq_some_iff.1 hx).1]
        exact hx
      | succ i =>
        have ha := hl a List.mem_cons_self
        rw [List.getElem?_append_right (by rw [ha, Nat.add_mul]; omega), ha, show (i + 1) * sz + j - sz = i * sz + j by rw [Nat.add_mul]; omega]
        exact ih (fun r hr => hl r (List.mem_cons_of_mem _ hr)) i r (by simpa using hr) j x hx
  exact hfl rows hl i r hr j x hx
theorem flat_at {sz : Nat} {rows : List (List Value)} (hl : ∀ r ∈ rows, r.length = sz) {i : Nat} {r : List Value} (hr : rows[i]? = some r) {j : Nat} {x : Value} (hx : r[j]? = some x) : rows.flatten[i * sz + j]? = some x := by
  induction rows generalizing i with
  | nil => simp at hr
  | cons a l ih =>
    rw [List.flatten_cons]
    cases i with
    | zero =>
      cases hr
      rw [Nat.zero_mul, Nat.zero_add, List.getElem?_append_left (List.getElem?_eq_some_iff.1 hx).1]
      exact hx
    | succ i =>
      have ha := hl a List.mem_cons_self
      rw [List.getElem?_append_right (by rw [ha, Nat.add_mul]; omega), ha, show (i + 1) * sz + j - sz = i * sz + j by rw [Nat.add_mul]; omega]
      exact ih (fun r hr => hl r (List.mem_cons_of_mem _ hr)) (by simpa using hr)

theorem makeS (n : Nat) (hn : n ≤ 1000) (w : World) : ∃ z, (Instr.makeSlice 22 (.int .i64 (n : Int)) (.int .i64 (n : Int))).run Tryz.prog w = .ok (.slice (some ⟨w.heap.size, 0, none⟩) n n) (w.alloc (.cells (madeCells z (n * 1)) 9)) := by
  obtain ⟨i0, hi, hz0, hz1, hz2⟩ := info_parts infoS
  have := run_make (P := Tryz.prog) w 22 9 i0 (.string ByteArray.empty) Tryz.underlying22 hi hz0 .i64 .i64 (n : Int) (n : Int) (by omega) (Int.le_refl _) (by rw [hz2]; omega) (by omega)
  rw [hz1] at this
  exact ⟨_, this⟩
theorem makeI (n : Nat) (hn : n ≤ 1000) (w : World) : ∃ z, (Instr.makeSlice 68 (.int .i64 (n : Int)) (.int .i64 (n : Int))).run Tryz.prog w = .ok (.slice (some ⟨w.heap.size, 0, none⟩) n n) (w.alloc (.cells (madeCells z (n * 1)) 3)) := by
  obtain ⟨i0, hi, hz0, hz1, hz2⟩ := info_parts infoI
  have := run_make (P := Tryz.prog) w 68 3 i0 (.int .i64 0) Tryz.underlying68 hi hz0 .i64 .i64 (n : Int) (n : Int) (by omega) (Int.le_refl _) (by rw [hz2]; omega) (by omega)
  rw [hz1] at this
  exact ⟨_, this⟩
theorem makeE (n : Nat) (hn : n ≤ 1000) (w : World) : ∃ z, (Instr.makeSlice 63 (.int .i64 (n : Int)) (.int .i64 (n : Int))).run Tryz.prog w = .ok (.slice (some ⟨w.heap.size, 0, none⟩) n n) (w.alloc (.cells (madeCells z (n * 2)) 47)) := by
  obtain ⟨i0, hi, hz0, hz1, hz2⟩ := info_parts infoE
  have := run_make (P := Tryz.prog) w 63 47 i0 (.agg #[.int .i64 0, .int .i64 0]) Tryz.underlying63 hi hz0 .i64 .i64 (n : Int) (n : Int) (by omega) (Int.le_refl _) (by rw [hz2]; omega) (by omega)
  rw [hz1] at this
  exact ⟨_, this⟩
/-- What a call gives that returns rows. -/
def RowsOut (sz : Nat) (rows : List (List Value)) (w : World) (e : Ending) (w' : World) : Prop := ∃ v, e = .returned v ∧ Grid (In w') w' v sz rows ∧ Below w.heap.size w w'


set_option maxRecDepth 100000 in
theorem valEN (x : Elem) (w : World) : Calls Tryz.prog 111 #[elV x] w fun e w' => e = .returned (.string (bs x.name)) ∧ Below w.heap.size w w' := by
  obtain ⟨nm, kd, ln, gr, sp, sl, sc⟩ := x
  have HB := Lib.hid ((Below.refl w.heap.size w).alloc (Nat.le_refl _) (.cells #[.string (bs nm), .int .i64 kd, .int .i64 ln, .int .i64 gr, .int .i64 sp, .int .i64 sl, .int .i64 sc] 45))
  unfold elV
  simp only
  go_enter Tryz.func111, Tryz.ntmps111
  go_wp2_with fail
  go_ret
  exact ⟨rfl, HB.out⟩

set_option maxRecDepth 100000 in
set_option maxHeartbeats 1600000 in
theorem eachEN {xs : List Elem} {v : Value} {w : World} (h : Grid (In w) w v 7 (xs.map Elem.cells)) (hn : xs.length ≤ 1000) :
    Calls Tryz.prog 110 #[v, .func (.func 111) #[] #[]] w (RowsOut 1 (xs.map fun x => [Value.string (bs x.name)]) w) := by
  have eg : ∀ args w, Sem.run Tryz.prog (callFunc 111 args) w = .ok (.enter 111 args) w := enters_of Tryz.func111 (by kernel_rfl) rfl
  obtain ⟨a, cap, rfl, hm, hel⟩ := atE h
  obtain ⟨z, hmk⟩ := makeS xs.length hn w
  obtain ⟨rows, hrows⟩ : ∃ rows, (xs.map fun x => [Value.string (bs x.name)]) = rows := ⟨_, rfl⟩
  have hl : rows.length = xs.length := by rw [← hrows, List.length_map]
  have hsz : ∀ r ∈ rows, r.length = 1 := by
    intro r hr
    rw [← hrows] at hr
    obtain ⟨x, _, rfl⟩ := List.mem_map.1 hr
    rfl
  rw [hrows]
  have HRW := Lib.hid hrows
  have HL := Lib.hid hl
  have HSZ := Lib.hid hsz
  have HE := Lib.hid hel
  have U0 := Lib.hid (up_start (xs.length * 1) 9 rows.flatten z w)
  have B0 := Lib.hid ((Below.refl w.heap.size w).alloc (Nat.le_refl _) (.cells (madeCells z (xs.length * 1)) 9))
  have S0 := Lib.hid (show w.heap.size < (w.alloc (.cells (madeCells z (xs.length * 1)) 9)).heap.size by simp)
  have HN := Lib.hid hn
  clear hrows hl hsz hel h hn
  go_enter Tryz.func110, Tryz.ntmps110
  go_wp2_with fail
  obtain ⟨W, hW⟩ : ∃ W, w.alloc (.cells (madeCells z (xs.length * 1)) 9) = W := ⟨_, rfl⟩
  first
    | rw [hW] at U0 B0 S0 ⊢
    | (simp only [Nat.mul_one] at hW U0 B0 S0 ⊢
       rw [hW] at U0 B0 S0 ⊢)
  clear hW hmk
  go_loopw [13] (fun vj wr => ∃ j : Nat, vj = .int .i64 (j : Int) ∧ j ≤ xs.length ∧ Up w.heap.size (xs.length * 1) 9 rows.flatten (j * 1) wr ∧ Below w.heap.size w wr ∧ w.heap.size < wr.heap.size) (fun vj _ => xs.length - (RowKit.intOf vj).toNat)
  case atStart => exact ⟨0, rfl, Nat.zero_le _, by simpa using U0.out, B0.out, S0.out⟩
  case round =>
    obtain ⟨j, rfl, hj, hu, hb, hlt⟩ := hrel
    have HB := Lib.hid hb
    have HU := Lib.hid hu
    have HT := Lib.hid hlt
    clear hb hu hlt
    by_cases hjl : j < xs.length
    · obtain ⟨x, hx⟩ := at_lt hjl
      obtain ⟨b, off, rfl, _, c0, c1, c2, c3, c4, c5, c6⟩ := HE.out wr HB.out j x hx
      have HX := Lib.hid (show rows[j]? = some ([Value.string (bs x.name)]) by rw [← HRW.out, List.getElem?_map, hx]; rfl)
      clear hx
      have HV := Lib.hid (fun w => valEN x w)
      obtain ⟨nm, kd, ln, gr, sp, sl, sc⟩ := x
      simp only at c0 c1 c2 c3 c4 c5 c6 HX HV
      unfold elV at HV
      go_wp2_with fail
      refine (HV.out _).mono ?_
      rintro e w' ⟨rfl, hb2⟩
      have b1 := HB.out.alloc HB.out.size (.cells #[.string (bs nm), .int .i64 kd, .int .i64 ln, .int .i64 gr, .int .i64 sp, .int .i64 sl, .int .i64 sc] 45)
      have t1 : w.heap.size < (wr.alloc (.cells #[.string (bs nm), .int .i64 kd, .int .i64 ln, .int .i64 gr, .int .i64 sp, .int .i64 sl, .int .i64 sc] 45)).heap.size := by have := HT.out; simp; omega
      have t2 := Nat.lt_of_lt_of_le t1 hb2.size
      have HB2 := Lib.hid (bel_next b1 hb2)
      have HU2 := Lib.hid (up_next (up_next HU.out ((Below.refl _ _).alloc (Nat.le_refl _) (.cells #[.string (bs nm), .int .i64 kd, .int .i64 ln, .int .i64 gr, .int .i64 sp, .int .i64 sl, .int .i64 sc] 45))) hb2)
      clear b1 hb2 t1
      obtain ⟨⟨y0, k0⟩, f0⟩ := up_cell HU2.out (j := j) (by omega)
      have HT2 := Lib.hid t2
      clear t2
      go_wp2_with fail
      go_roundw
      case rel => exact ⟨j + 1, by simp, by omega, by have := up_more (u := Value.string (bs nm)) HU2.out (by omega) (flat_at HSZ.out HX.out (j := 0) rfl); simpa [Nat.mul_one] using this, HB2.out.setCell (by simp) _, by simpa [World.setCell] using HT2.out⟩
      case measure => simp [RowKit.intOf]; omega
    · have he : j = xs.length := by omega
      subst he
      go_wp2_with fail
      go_ret
      have hu2 := HU.out
      rw [← HL.out] at hu2
      exact ⟨_, rfl, up_grid hu2 HSZ.out HL.out.symm (by have := HN.out; unfold maxLen; omega) HT.out, HB.out⟩

set_option maxRecDepth 100000 in
theorem valGN (x : Sig) (w : World) : Calls Tryz.prog 113 #[sgV x] w fun e w' => e = .returned (.string (bs x.name)) ∧ Below w.heap.size w w' := by
  obtain ⟨nm, ⟨u1, u2⟩, ov⟩ := x
  have HB := Lib.hid ((Below.refl w.heap.size w).alloc (Nat.le_refl _) (.cells #[.string (bs nm), .int .i64 u1, .int .i64 u2, .int .i64 ov] 51))
  unfold sgV
  simp only
  go_enter Tryz.func113, Tryz.ntmps113
  go_wp2_with fail
  go_ret
  exact ⟨rfl, HB.out⟩

set_option maxRecDepth 100000 in
set_option maxHeartbeats 1600000 in
theorem eachGN {xs : List Sig} {v : Value} {w : World} (h : Grid (In w) w v 4 (xs.map Sig.cells)) (hn : xs.length ≤ 1000) :
    Calls Tryz.prog 112 #[v, .func (.func 113) #[] #[]] w (RowsOut 1 (xs.map fun x => [Value.string (bs x.name)]) w) := by
  have eg : ∀ args w, Sem.run Tryz.prog (callFunc 113 args) w = .ok (.enter 113 args) w := enters_of Tryz.func113 (by kernel_rfl) rfl
  obtain ⟨a, cap, rfl, hm, hel⟩ := atG h
  obtain ⟨z, hmk⟩ := makeS xs.length hn w
  obtain ⟨rows, hrows⟩ : ∃ rows, (xs.map fun x => [Value.string (bs x.name)]) = rows := ⟨_, rfl⟩
  have hl : rows.length = xs.length := by rw [← hrows, List.length_map]
  have hsz : ∀ r ∈ rows, r.length = 1 := by
    intro r hr
    rw [← hrows] at hr
    obtain ⟨x, _, rfl⟩ := List.mem_map.1 hr
    rfl
  rw [hrows]
  have HRW := Lib.hid hrows
  have HL := Lib.hid hl
  have HSZ := Lib.hid hsz
  have HE := Lib.hid hel
  have U0 := Lib.hid (up_start (xs.length * 1) 9 rows.flatten z w)
  have B0 := Lib.hid ((Below.refl w.heap.size w).alloc (Nat.le_refl _) (.cells (madeCells z (xs.length * 1)) 9))
  have S0 := Lib.hid (show w.heap.size < (w.alloc (.cells (madeCells z (xs.length * 1)) 9)).heap.size by simp)
  have HN := Lib.hid hn
  clear hrows hl hsz hel h hn
  go_enter Tryz.func112, Tryz.ntmps112
  go_wp2_with fail
  obtain ⟨W, hW⟩ : ∃ W, w.alloc (.cells (madeCells z (xs.length * 1)) 9) = W := ⟨_, rfl⟩
  first
    | rw [hW] at U0 B0 S0 ⊢
    | (simp only [Nat.mul_one] at hW U0 B0 S0 ⊢
       rw [hW] at U0 B0 S0 ⊢)
  clear hW hmk
  go_loopw [13] (fun vj wr => ∃ j : Nat, vj = .int .i64 (j : Int) ∧ j ≤ xs.length ∧ Up w.heap.size (xs.length * 1) 9 rows.flatten (j * 1) wr ∧ Below w.heap.size w wr ∧ w.heap.size < wr.heap.size) (fun vj _ => xs.length - (RowKit.intOf vj).toNat)
  case atStart => exact ⟨0, rfl, Nat.zero_le _, by simpa using U0.out, B0.out, S0.out⟩
  case round =>
    obtain ⟨j, rfl, hj, hu, hb, hlt⟩ := hrel
    have HB := Lib.hid hb
    have HU := Lib.hid hu
    have HT := Lib.hid hlt
    clear hb hu hlt
    by_cases hjl : j < xs.length
    · obtain ⟨x, hx⟩ := at_lt hjl
      obtain ⟨b, off, rfl, _, c0, c1, c2, c3⟩ := HE.out wr HB.out j x hx
      have HX := Lib.hid (show rows[j]? = some ([Value.string (bs x.name)]) by rw [← HRW.out, List.getElem?_map, hx]; rfl)
      clear hx
      have HV := Lib.hid (fun w => valGN x w)
      obtain ⟨nm, ⟨u1, u2⟩, ov⟩ := x
      simp only at c0 c1 c2 c3 HX HV
      unfold sgV at HV
      go_wp2_with fail
      refine (HV.out _).mono ?_
      rintro e w' ⟨rfl, hb2⟩
      have b1 := HB.out.alloc HB.out.size (.cells #[.string (bs nm), .int .i64 u1, .int .i64 u2, .int .i64 ov] 51)
      have t1 : w.heap.size < (wr.alloc (.cells #[.string (bs nm), .int .i64 u1, .int .i64 u2, .int .i64 ov] 51)).heap.size := by have := HT.out; simp; omega
      have t2 := Nat.lt_of_lt_of_le t1 hb2.size
      have HB2 := Lib.hid (bel_next b1 hb2)
      have HU2 := Lib.hid (up_next (up_next HU.out ((Below.refl _ _).alloc (Nat.le_refl _) (.cells #[.string (bs nm), .int .i64 u1, .int .i64 u2, .int .i64 ov] 51))) hb2)
      clear b1 hb2 t1
      obtain ⟨⟨y0, k0⟩, f0⟩ := up_cell HU2.out (j := j) (by omega)
      have HT2 := Lib.hid t2
      clear t2
      go_wp2_with fail
      go_roundw
      case rel => exact ⟨j + 1, by simp, by omega, by have := up_more (u := Value.string (bs nm)) HU2.out (by omega) (flat_at HSZ.out HX.out (j := 0) rfl); simpa [Nat.mul_one] using this, HB2.out.setCell (by simp) _, by simpa [World.setCell] using HT2.out⟩
      case measure => simp [RowKit.intOf]; omega
    · have he : j = xs.length := by omega
      subst he
      go_wp2_with fail
      go_ret
      have hu2 := HU.out
      rw [← HL.out] at hu2
      exact ⟨_, rfl, up_grid hu2 HSZ.out HL.out.symm (by have := HN.out; unfold maxLen; omega) HT.out, HB.out⟩

set_option maxRecDepth 100000 in
theorem valGE (x : Sig) (w : World) : Calls Tryz.prog 34 #[sgV x] w fun e w' => e = .returned (pV x.spot) ∧ Below w.heap.size w w' := by
  obtain ⟨nm, ⟨u1, u2⟩, ov⟩ := x
  have HB := Lib.hid ((Below.refl w.heap.size w).alloc (Nat.le_refl _) (.cells #[.string (bs nm), .int .i64 u1, .int .i64 u2, .int .i64 ov] 51))
  unfold sgV
  simp only
  unfold pV
  simp only
  go_enter Tryz.func34, Tryz.ntmps34
  go_wp2_with fail
  refine bodyPost_ret (v := .agg #[.int .i64 u1, .int .i64 u2]) ?_ rfl ⟨rfl, ?_⟩
  · exact results_cell_row rfl _ _ (w.heap.size + 1) 47 _ (0, 0) _ rfl (by simpa using heap_alloc_new (w.alloc (.cells #[.string (bs nm), .int .i64 u1, .int .i64 u2, .int .i64 ov] 51)) (.cells #[.int .i64 u1, .int .i64 u2] 47)) Tryz.underlying47 rfl (by kernel_rfl)
  · exact HB.out.alloc HB.out.size _

set_option maxRecDepth 100000 in
set_option maxHeartbeats 1600000 in
theorem eachGE {xs : List Sig} {v : Value} {w : World} (h : Grid (In w) w v 4 (xs.map Sig.cells)) (hn : xs.length ≤ 1000) :
    Calls Tryz.prog 33 #[v, .func (.func 34) #[] #[]] w (RowsOut 2 (xs.map fun x => [Value.int .i64 x.spot.1, Value.int .i64 x.spot.2]) w) := by
  have eg : ∀ args w, Sem.run Tryz.prog (callFunc 34 args) w = .ok (.enter 34 args) w := enters_of Tryz.func34 (by kernel_rfl) rfl
  obtain ⟨a, cap, rfl, hm, hel⟩ := atG h
  obtain ⟨z, hmk⟩ := makeE xs.length hn w
  obtain ⟨rows, hrows⟩ : ∃ rows, (xs.map fun x => [Value.int .i64 x.spot.1, Value.int .i64 x.spot.2]) = rows := ⟨_, rfl⟩
  have hl : rows.length = xs.length := by rw [← hrows, List.length_map]
  have hsz : ∀ r ∈ rows, r.length = 2 := by
    intro r hr
    rw [← hrows] at hr
    obtain ⟨x, _, rfl⟩ := List.mem_map.1 hr
    rfl
  rw [hrows]
  have HRW := Lib.hid hrows
  have HL := Lib.hid hl
  have HSZ := Lib.hid hsz
  have HE := Lib.hid hel
  have U0 := Lib.hid (up_start (xs.length * 2) 47 rows.flatten z w)
  have B0 := Lib.hid ((Below.refl w.heap.size w).alloc (Nat.le_refl _) (.cells (madeCells z (xs.length * 2)) 47))
  have S0 := Lib.hid (show w.heap.size < (w.alloc (.cells (madeCells z (xs.length * 2)) 47)).heap.size by simp)
  have HN := Lib.hid hn
  clear hrows hl hsz hel h hn
  go_enter Tryz.func33, Tryz.ntmps33
  go_wp2_with fail
  obtain ⟨W, hW⟩ : ∃ W, w.alloc (.cells (madeCells z (xs.length * 2)) 47) = W := ⟨_, rfl⟩
  first
    | rw [hW] at U0 B0 S0 ⊢
    | (simp only [Nat.mul_one] at hW U0 B0 S0 ⊢
       rw [hW] at U0 B0 S0 ⊢)
  clear hW hmk
  go_loopw [13] (fun vj wr => ∃ j : Nat, vj = .int .i64 (j : Int) ∧ j ≤ xs.length ∧ Up w.heap.size (xs.length * 2) 47 rows.flatten (j * 2) wr ∧ Below w.heap.size w wr ∧ w.heap.size < wr.heap.size) (fun vj _ => xs.length - (RowKit.intOf vj).toNat)
  case atStart => exact ⟨0, rfl, Nat.zero_le _, by simpa using U0.out, B0.out, S0.out⟩
  case round =>
    obtain ⟨j, rfl, hj, hu, hb, hlt⟩ := hrel
    have HB := Lib.hid hb
    have HU := Lib.hid hu
    have HT := Lib.hid hlt
    clear hb hu hlt
    by_cases hjl : j < xs.length
    · obtain ⟨x, hx⟩ := at_lt hjl
      obtain ⟨b, off, rfl, _, c0, c1, c2, c3⟩ := HE.out wr HB.out j x hx
      have HX := Lib.hid (show rows[j]? = some ([Value.int .i64 x.spot.1, Value.int .i64 x.spot.2]) by rw [← HRW.out, List.getElem?_map, hx]; rfl)
      clear hx
      have HV := Lib.hid (fun w => valGE x w)
      obtain ⟨nm, ⟨u1, u2⟩, ov⟩ := x
      simp only at c0 c1 c2 c3 HX HV
      unfold sgV at HV
      unfold pV at HV
      simp only at HV
      go_wp2_with fail
      refine (HV.out _).mono ?_
      rintro e w' ⟨rfl, hb2⟩
      have b1 := HB.out.alloc HB.out.size (.cells #[.string (bs nm), .int .i64 u1, .int .i64 u2, .int .i64 ov] 51)
      have t1 : w.heap.size < (wr.alloc (.cells #[.string (bs nm), .int .i64 u1, .int .i64 u2, .int .i64 ov] 51)).heap.size := by have := HT.out; simp; omega
      have t2 := Nat.lt_of_lt_of_le t1 hb2.size
      have HB2 := Lib.hid (bel_next b1 hb2)
      have HU2 := Lib.hid (up_next (up_next HU.out ((Below.refl _ _).alloc (Nat.le_refl _) (.cells #[.string (bs nm), .int .i64 u1, .int .i64 u2, .int .i64 ov] 51))) hb2)
      clear b1 hb2 t1
      obtain ⟨⟨y0, k0⟩, f0⟩ := up_cell HU2.out (j := j * 2) (by omega)
      obtain ⟨⟨y1, k1⟩, f1⟩ := up_cell HU2.out (j := j * 2 + 1) (by omega)
      have HT2 := Lib.hid t2
      clear t2
      go_wp2_with fail
      go_roundw
      case rel => exact ⟨j + 1, by simp, by omega, by have q1 := up_more (u := Value.int .i64 u1) HU2.out (by omega) (flat_at HSZ.out HX.out (j := 0) rfl); have q2 := up_more (u := Value.int .i64 u2) q1 (by omega) (flat_at HSZ.out HX.out (j := 1) rfl); rw [show (j + 1) * 2 = j * 2 + 1 + 1 by omega]; exact q2, (HB2.out.setCell (by simp) _).setCell (by simp) _, by simpa [World.setCell] using HT2.out⟩
      case measure => simp [RowKit.intOf]; omega
    · have he : j = xs.length := by omega
      subst he
      go_wp2_with fail
      go_ret
      have hu2 := HU.out
      rw [← HL.out] at hu2
      exact ⟨_, rfl, up_grid hu2 HSZ.out HL.out.symm (by have := HN.out; unfold maxLen; omega) HT.out, HB.out⟩

set_option maxRecDepth 100000 in
theorem valBI (x : Bal) (w : World) : Calls Tryz.prog 39 #[baV x] w fun e w' => e = .returned (.int .i64 x.id) ∧ Below w.heap.size w w' := by
  obtain ⟨bi, be, bo⟩ := x
  have HB := Lib.hid ((Below.refl w.heap.size w).alloc (Nat.le_refl _) (.cells #[.int .i64 bi, .int .i64 be, .int .i64 bo] 59))
  unfold baV
  simp only
  go_enter Tryz.func39, Tryz.ntmps39
  go_wp2_with fail
  go_ret
  exact ⟨rfl, HB.out⟩

set_option maxRecDepth 100000 in
set_option maxHeartbeats 1600000 in
theorem eachBI {xs : List Bal} {v : Value} {w : World} (h : Grid (In w) w v 3 (xs.map Bal.cells)) (hn : xs.length ≤ 1000) :
    Calls Tryz.prog 38 #[v, .func (.func 39) #[] #[]] w (RowsOut 1 (xs.map fun x => [Value.int .i64 x.id]) w) := by
  have eg : ∀ args w, Sem.run Tryz.prog (callFunc 39 args) w = .ok (.enter 39 args) w := enters_of Tryz.func39 (by kernel_rfl) rfl
  obtain ⟨a, cap, rfl, hm, hel⟩ := atB h
  obtain ⟨z, hmk⟩ := makeI xs.length hn w
  obtain ⟨rows, hrows⟩ : ∃ rows, (xs.map fun x => [Value.int .i64 x.id]) = rows := ⟨_, rfl⟩
  have hl : rows.length = xs.length := by rw [← hrows, List.length_map]
  have hsz : ∀ r ∈ rows, r.length = 1 := by
    intro r hr
    rw [← hrows] at hr
    obtain ⟨x, _, rfl⟩ := List.mem_map.1 hr
    rfl
  rw [hrows]
  have HRW := Lib.hid hrows
  have HL := Lib.hid hl
  have HSZ := Lib.hid hsz
  have HE := Lib.hid hel
  have U0 := Lib.hid (up_start (xs.length * 1) 3 rows.flatten z w)
  have B0 := Lib.hid ((Below.refl w.heap.size w).alloc (Nat.le_refl _) (.cells (madeCells z (xs.length * 1)) 3))
  have S0 := Lib.hid (show w.heap.size < (w.alloc (.cells (madeCells z (xs.length * 1)) 3)).heap.size by simp)
  have HN := Lib.hid hn
  clear hrows hl hsz hel h hn
  go_enter Tryz.func38, Tryz.ntmps38
  go_wp2_with fail
  obtain ⟨W, hW⟩ : ∃ W, w.alloc (.cells (madeCells z (xs.length * 1)) 3) = W := ⟨_, rfl⟩
  first
    | rw [hW] at U0 B0 S0 ⊢
    | (simp only [Nat.mul_one] at hW U0 B0 S0 ⊢
       rw [hW] at U0 B0 S0 ⊢)
  clear hW hmk
  go_loopw [13] (fun vj wr => ∃ j : Nat, vj = .int .i64 (j : Int) ∧ j ≤ xs.length ∧ Up w.heap.size (xs.length * 1) 3 rows.flatten (j * 1) wr ∧ Below w.heap.size w wr ∧ w.heap.size < wr.heap.size) (fun vj _ => xs.length - (RowKit.intOf vj).toNat)
  case atStart => exact ⟨0, rfl, Nat.zero_le _, by simpa using U0.out, B0.out, S0.out⟩
  case round =>
    obtain ⟨j, rfl, hj, hu, hb, hlt⟩ := hrel
    have HB := Lib.hid hb
    have HU := Lib.hid hu
    have HT := Lib.hid hlt
    clear hb hu hlt
    by_cases hjl : j < xs.length
    · obtain ⟨x, hx⟩ := at_lt hjl
      obtain ⟨b, off, rfl, _, c0, c1, c2⟩ := HE.out wr HB.out j x hx
      have HX := Lib.hid (show rows[j]? = some ([Value.int .i64 x.id]) by rw [← HRW.out, List.getElem?_map, hx]; rfl)
      clear hx
      have HV := Lib.hid (fun w => valBI x w)
      obtain ⟨bi, be, bo⟩ := x
      simp only at c0 c1 c2 HX HV
      unfold baV at HV
      go_wp2_with fail
      refine (HV.out _).mono ?_
      rintro e w' ⟨rfl, hb2⟩
      have b1 := HB.out.alloc HB.out.size (.cells #[.int .i64 bi, .int .i64 be, .int .i64 bo] 59)
      have t1 : w.heap.size < (wr.alloc (.cells #[.int .i64 bi, .int .i64 be, .int .i64 bo] 59)).heap.size := by have := HT.out; simp; omega
      have t2 := Nat.lt_of_lt_of_le t1 hb2.size
      have HB2 := Lib.hid (bel_next b1 hb2)
      have HU2 := Lib.hid (up_next (up_next HU.out ((Below.refl _ _).alloc (Nat.le_refl _) (.cells #[.int .i64 bi, .int .i64 be, .int .i64 bo] 59))) hb2)
      clear b1 hb2 t1
      obtain ⟨⟨y0, k0⟩, f0⟩ := up_cell HU2.out (j := j) (by omega)
      have HT2 := Lib.hid t2
      clear t2
      go_wp2_with fail
      go_roundw
      case rel => exact ⟨j + 1, by simp, by omega, by have := up_more (u := Value.int .i64 bi) HU2.out (by omega) (flat_at HSZ.out HX.out (j := 0) rfl); simpa [Nat.mul_one] using this, HB2.out.setCell (by simp) _, by simpa [World.setCell] using HT2.out⟩
      case measure => simp [RowKit.intOf]; omega
    · have he : j = xs.length := by omega
      subst he
      go_wp2_with fail
      go_ret
      have hu2 := HU.out
      rw [← HL.out] at hu2
      exact ⟨_, rfl, up_grid hu2 HSZ.out HL.out.symm (by have := HN.out; unfold maxLen; omega) HT.out, HB.out⟩

end Go.Proofs.YtfdipcphohhlgaaGreatDoor.Peac

/- Maps that a call makes, as functions from keys to what they hold. No program. -/
namespace Go.Proofs.YtfdipcphohhlgaaGreatDoor.Omap
open Go.Maps (Keyed)

/-- How keys and what they hold are spelled. -/
structure MapForm (P : Program) (k e : TypeId) (κ ε : Type) where
  kv : κ → Value
  ok : κ → Prop
  ev : ε → Value
  de : ε → DataW Unit
  z0 : ε
  keyed : Keyed P k
  key : ∀ x, ok x → ∃ l, keyOf P k (kv x) = some l
  kinj : ∀ x y, kv x = kv y → x = y
  einj : ∀ x y, ev x = ev y → x = y
  dinj : ∀ x y, de x = de y → x = y
  zero : ∀ w, (zeroValue e).run P w = .ok (ev z0) w

section
variable {P : Program} {k e : TypeId} {κ ε : Type} (F : MapForm P k e κ ε)

/-- How what a key holds reads. -/
noncomputable def MapForm.rd (v : Value) : Option (DataW Unit × List MemPlace) :=
  open Classical in if h : ∃ y, F.ev y = v then some (F.de h.choose, []) else none
theorem MapForm.rd_of (y : ε) : F.rd (F.ev y) = some (F.de y, []) := by
  have h : ∃ y', F.ev y' = F.ev y := ⟨y, rfl⟩
  unfold MapForm.rd
  rw [dif_pos h, F.einj _ _ h.choose_spec]
theorem MapForm.rd_inv {v : Value} {y : ε} {ps : List MemPlace} (h : F.rd v = some (F.de y, ps)) : v = F.ev y := by
  unfold MapForm.rd at h
  split at h
  · rename_i hx
    simp only [Option.some.injEq, Prod.mk.injEq] at h
    rw [← hx.choose_spec, F.dinj _ _ h.1]
  · cases h

/-- Block b of w is a map that holds what f says. -/
def MapForm.Is (w : World) (b n : Nat) (f : κ → Option ε) : Prop :=
  ∃ D, w.ownsMap P k F.rd b n D ∧ ∀ x l, keyOf P k (F.kv x) = some l → Maps.has D l = (f x).isSome ∧ ∀ z, D.atKey l z = match f x with | some y => F.de y | none => z
def upd [DecidableEq κ] (f : κ → Option ε) (x : κ) (y : ε) : κ → Option ε := fun x' => if x' = x then some y else f x'

theorem MapForm.made (w : World) : F.Is (w.alloc (.map #[] 0)) w.heap.size 0 (fun _ => none) :=
  ⟨.map [], World.ownsMap_made w P k _, fun _ _ _ => ⟨rfl, fun _ => rfl⟩⟩
theorem MapForm.kept {w w' : World} {b n : Nat} {f : κ → Option ε} {row : Option Nat} (h : F.Is w b n f) (hg : w.grownBy w' row) (hne : some b ≠ row) : F.Is w' b n f := by
  obtain ⟨D, h1, h2⟩ := h
  exact ⟨D, h1.kept hg hne, h2⟩
theorem MapForm.alloc {w : World} {b n : Nat} {f : κ → Option ε} (h : F.Is w b n f) (o : Obj) : F.Is (w.alloc o) b n f := by
  obtain ⟨D, h1, h2⟩ := h
  exact ⟨D, h1.alloc o, h2⟩
theorem MapForm.lt {w : World} {b n : Nat} {f : κ → Option ε} (h : F.Is w b n f) : b < w.heap.size := by
  obtain ⟨D, h1, _⟩ := h
  exact h1.lt
/-- .. and a block that is as it was. -/
theorem MapForm.same {w w' : World} {b n : Nat} {f : κ → Option ε} (h : F.Is w b n f) (hb : w'.heap[b]? = w.heap[b]?) : F.Is w' b n f := by
  obtain ⟨D, ⟨es, clock, h0, h1⟩, h2⟩ := h
  exact ⟨D, ⟨es, clock, hb.trans h0, h1⟩, h2⟩

/-- v, ok := m[x]. -/
theorem MapForm.look_ok {t : TypeId} {w : World} {b n : Nat} {f : κ → Option ε} (h : F.Is w b n f) (ht : P.underlying t = some (.map k e)) {x : κ} (hx : F.ok x) :
    (Instr.lookup t (.map (some b)) (F.kv x) true).run P w = .ok (.tuple #[F.ev ((f x).getD F.z0), .bool (f x).isSome]) w := by
  obtain ⟨D, h1, h2⟩ := h
  obtain ⟨l, hl⟩ := F.key x hx
  obtain ⟨ha, hb⟩ := h2 x l hl
  obtain ⟨v, ps, hr, hv⟩ := h1.look_ok F.keyed ht (F.zero w) (F.rd_of F.z0) hl
  rw [hr, ha]
  rw [hb] at hv
  cases hf : f x with
  | none =>
    rw [hf] at hv
    rw [F.rd_inv hv]
    rfl
  | some y =>
    rw [hf] at hv
    rw [F.rd_inv hv]
    rfl
/-- m[x]. -/
theorem MapForm.look {t : TypeId} {w : World} {b n : Nat} {f : κ → Option ε} (h : F.Is w b n f) (ht : P.underlying t = some (.map k e)) {x : κ} (hx : F.ok x) :
    (Instr.lookup t (.map (some b)) (F.kv x) false).run P w = .ok (F.ev ((f x).getD F.z0)) w := by
  obtain ⟨D, h1, h2⟩ := h
  obtain ⟨l, hl⟩ := F.key x hx
  obtain ⟨_, hb⟩ := h2 x l hl
  obtain ⟨v, ps, hr, hv⟩ := h1.lookup F.keyed ht (F.zero w) (F.rd_of F.z0) hl
  rw [hr]
  rw [hb] at hv
  cases hf : f x with
  | none =>
    rw [hf] at hv
    rw [F.rd_inv hv]
    rfl
  | some y =>
    rw [hf] at hv
    rw [F.rd_inv hv]
    rfl
theorem isMap_of {w : World} {R : Value → Option (DataW Unit × List MemPlace)} {b n : Nat} {D : DataW Unit} (h : w.ownsMap P k R b n D) : Maps.IsMap D := by
  obtain ⟨es, clock, _, _, _, rfl⟩ := h
  exact ⟨_, rfl⟩
/-- m[x] = y. -/
theorem MapForm.update [DecidableEq κ] {t : TypeId} {w : World} {b n : Nat} {f : κ → Option ε} (h : F.Is w b n f) (ht : P.underlying t = some (.map k e)) (hn : n < maxLen) {x : κ} (hx : F.ok x) (y : ε) :
    ∃ w', (Instr.mapUpdate t (.map (some b)) (F.kv x) (F.ev y)).run P w = .ok () w' ∧ F.Is w' b (n + 1) (upd f x y) ∧ w.grownBy w' (some b) := by
  obtain ⟨D, h1, h2⟩ := h
  obtain ⟨l, hl⟩ := F.key x hx
  obtain ⟨w', hr, h3, h4⟩ := h1.update F.keyed ht hn hl (F.rd_of y)
  refine ⟨w', hr, ⟨_, h3, fun x' l' hl' => ?_⟩, h4⟩
  have hm := isMap_of h1
  have hk := F.keyed.key hl
  by_cases hxx : x' = x
  · subst hxx
    have e : l' = l := Option.some.inj (hl'.symm.trans hl)
    subst e
    rw [upd, if_pos rfl]
    exact ⟨Maps.has_put_same hm hk _, fun z => Maps.atKey_put_same hm hk _ z⟩
  · have hne : l' ≠ l := fun e => by
      subst e
      exact hxx (F.kinj _ _ (F.keyed.inj hl' hl))
    rw [upd, if_neg hxx]
    obtain ⟨a1, a2⟩ := h2 x' l' hl'
    exact ⟨(Maps.has_put_other hne _).trans a1, fun z => (Maps.atKey_put_other hne _ z).trans (a2 z)⟩
/-- m[x] = y, at the operation: '(at_mapUpdate; refine F.step _ rfl _ _ _ T rfl ht hn hx b rfl h _ _ rfl rfl ?_; intro w' h' hg')'. -/
theorem MapForm.step [DecidableEq κ] (w : World) {ops : Array Oper} {rest : List Oper} {o : Oper} {a : Act} {Q : Exit → Act → World → Prop}
    (hg : o.guard = none) (m x v : Operand) (t : TypeId) (hop : o.op = Op.mapUpdate t m x v) (ht : P.underlying t = some (.map k e)) {n : Nat} (hn : n < maxLen) {q : κ} (hq : F.ok q) (b : Nat) (hm : a.eval m = .map (some b)) {f : κ → Option ε} (h : F.Is w b n f)
    (y : ε) (hx : a.eval x = F.kv q) (hv : a.eval v = F.ev y) (hK : ∀ w', F.Is w' b (n + 1) (upd f q y) → w.grownBy w' (some b) → wpList P ops Q rest (a.put o.dst undef) w') : wpList P ops Q (o :: rest) a w := by
  refine wpList_plain hg fun K' hK' => ?_
  obtain ⟨w', hrun, r1, r2⟩ := F.update h ht hn hq y
  unfold Oper.wp
  simp [execOp, hop, hm, hx, hv, hrun, Result.andThen]
  exact hK' _ _ (hK w' r1 r2)
end

end Go.Proofs.YtfdipcphohhlgaaGreatDoor.Omap

/- Maps from ends to ends. -/
namespace Go.Proofs.YtfdipcphohhlgaaGreatDoor.Lmap
open Go.RowKit Go.Lib Go.Maps Go.Proofs.YtfdipcphohhlgaaGreatDoor.Lay Go.Proofs.YtfdipcphohhlgaaGreatDoor.Layf Go.Proofs.YtfdipcphohhlgaaGreatDoor.Lext Go.Proofs.YtfdipcphohhlgaaGreatDoor.Omap

theorem laidOut : laidOutB Tryz.prog = true := by kernel_rfl
theorem endKey {p : Int × Int} (h : pWf p) : ∃ l, keyOf Tryz.prog 47 (pV p) = some l := by
  obtain ⟨h1, h2⟩ := h
  have hk : Tryz.prog.keyType 47 = true := by kernel_rfl
  have hz : 0 < Tryz.prog.types.size := of_decide_eq_true (by kernel_rfl)
  have hs : ∃ n, Tryz.prog.types.size = n + 1 := ⟨Tryz.prog.types.size - 1, by omega⟩
  have hc : Tryz.prog.cellsOf 47 = 2 := by kernel_rfl
  have hc1 : Tryz.prog.cellsOf 3 = 1 := by kernel_rfl
  obtain ⟨n, hn⟩ := hs
  have hl : Tryz.prog.keyLits (n + 1 + 1) 47 [.int .i64 p.1, .int .i64 p.2] = some [.int .i64 p.1, .int .i64 p.2] := by
    have hi : ∀ x : Int, Wf x → Tryz.prog.keyLits (n + 1) 3 [.int .i64 x] = some [.int .i64 x] := fun x hx => by
      unfold Program.keyLits
      rw [Tryz.underlying3]
      simp only [Wf] at hx
      simp [hx]
    unfold Program.keyLits
    rw [Tryz.underlying47]
    simp [hc, hc1, hi _ h1, hi _ h2]
  refine ⟨.string (keyBytes [.int .i64 p.1, .int .i64 p.2]), ?_⟩
  unfold keyOf
  rw [Tryz.underlying47]
  simp only [hk, Bool.true_and]
  rw [if_pos (by unfold pV Value.formed; rw [Tryz.underlying47]; simp [hc]), hn]
  show (Tryz.prog.keyLits (n + 1 + 1) 47 [.int .i64 p.1, .int .i64 p.2]).map _ = _
  rw [hl]
  rfl
theorem endKeyed : Keyed Tryz.prog 47 := Keyed.of_law (deep_law_gate laidOut (of_decide_eq_true (by kernel_rfl)) (of_decide_eq_true (by kernel_rfl)) (by kernel_rfl) (by kernel_rfl))
theorem pV_inj (p q : Int × Int) (h : pV p = pV q) : p = q := by
  simp only [pV, Value.agg.injEq, Array.mk.injEq, List.cons.injEq, Value.int.injEq, true_and, and_true] at h
  exact Prod.ext h.1 h.2
/-- map[api.End]api.End. -/
def endEnd : MapForm Tryz.prog 47 47 (Int × Int) (Int × Int) where
  kv := pV
  ok := pWf
  ev := pV
  de := fun p => .agg [.lit (.int .i64 p.1), .lit (.int .i64 p.2)]
  z0 := (0, 0)
  keyed := endKeyed
  key := fun _ h => endKey h
  kinj := pV_inj
  einj := pV_inj
  dinj := fun p q h => by
    simp only [DataW.agg.injEq, List.cons.injEq, DataW.lit.injEq, Lit.int.injEq, true_and, and_true] at h
    exact Prod.ext h.1 h.2
  zero := fun w => by kernel_rfl

end Go.Proofs.YtfdipcphohhlgaaGreatDoor.Lmap

/- Maps that a call makes, with the number of their keys; whether something is in a list twice, by such a map. -/
namespace Go.Proofs.YtfdipcphohhlgaaGreatDoor.Omapn
open Go.RowKit Go.Lib Go.Maps Go.Proofs.YtfdipcphohhlgaaGreatDoor.Lay Go.Proofs.YtfdipcphohhlgaaGreatDoor.Layf Go.Proofs.YtfdipcphohhlgaaGreatDoor.Lext Go.Proofs.YtfdipcphohhlgaaGreatDoor.Omap Go.Proofs.YtfdipcphohhlgaaGreatDoor.Lmap Go.Proofs.YtfdipcphohhlgaaGreatDoor.Rows2 Go.Proofs.YtfdipcphohhlgaaGreatDoor.Ldup Go.Proofs.YtfdipcphohhlgaaGreatDoor.Reads

section
variable {P : Program} {k e : TypeId} {κ ε : Type} (F : MapForm P k e κ ε)

/-- Block b of w is a map of c keys that holds what f says. -/
def IsC (w : World) (b n c : Nat) (f : κ → Option ε) : Prop :=
  ∃ D, w.ownsMap P k F.rd b n D ∧ Maps.size D = c ∧ ∀ x l, keyOf P k (F.kv x) = some l → Maps.has D l = (f x).isSome ∧ ∀ z, D.atKey l z = match f x with | some y => F.de y | none => z
theorem IsC.is {w : World} {b n c : Nat} {f : κ → Option ε} (h : IsC F w b n c f) : F.Is w b n f := by
  obtain ⟨D, h1, _, h2⟩ := h
  exact ⟨D, h1, h2⟩
theorem isC_made (w : World) : IsC F (w.alloc (.map #[] 0)) w.heap.size 0 0 (fun _ => none) :=
  ⟨.map [], World.ownsMap_made w P k _, rfl, fun _ _ _ => ⟨rfl, fun _ => rfl⟩⟩
theorem IsC.kept {w w' : World} {b n c : Nat} {f : κ → Option ε} {row : Option Nat} (h : IsC F w b n c f) (hg : w.grownBy w' row) (hne : some b ≠ row) : IsC F w' b n c f := by
  obtain ⟨D, h1, h2⟩ := h
  exact ⟨D, h1.kept hg hne, h2⟩
theorem IsC.alloc {w : World} {b n c : Nat} {f : κ → Option ε} (h : IsC F w b n c f) (o : Obj) : IsC F (w.alloc o) b n c f := by
  obtain ⟨D, h1, h2⟩ := h
  exact ⟨D, h1.alloc o, h2⟩
theorem IsC.drew {w : World} {b n c : Nat} {f : κ → Option ε} (h : IsC F w b n c f) : IsC F w.drew b n c f := by
  obtain ⟨D, h1, h2⟩ := h
  exact ⟨D, h1.drew, h2⟩
theorem IsC.lt {w : World} {b n c : Nat} {f : κ → Option ε} (h : IsC F w b n c f) : b < w.heap.size := by
  obtain ⟨D, h1, _⟩ := h
  exact h1.lt
theorem IsC.le {w : World} {b n c : Nat} {f : κ → Option ε} (h : IsC F w b n c f) : c ≤ n := by
  obtain ⟨D, h1, h2, _⟩ := h
  rw [← h2]
  exact h1.size_le
theorem IsC.same {w w' : World} {b n c : Nat} {f : κ → Option ε} (h : IsC F w b n c f) (hb : w'.heap[b]? = w.heap[b]?) : IsC F w' b n c f := by
  obtain ⟨D, ⟨es, clock, h0, h1⟩, h2⟩ := h
  exact ⟨D, ⟨es, clock, hb.trans h0, h1⟩, h2⟩
/-- len(m). -/
theorem IsC.len {t ty : TypeId} {w : World} {b n c : Nat} {f : κ → Option ε} (h : IsC F w b n c f) (ht : P.underlying t = some (.map k e)) : (Builtin.len_ #[t] ty #[.map (some b)]).run P w = .ok (.int .i64 (c : Int)) w := by
  obtain ⟨D, h1, h2, _⟩ := h
  rw [h1.len ht ty, h2]
/-- m[x] = y. -/
theorem IsC.update [DecidableEq κ] {t : TypeId} {w : World} {b n c : Nat} {f : κ → Option ε} (h : IsC F w b n c f) (ht : P.underlying t = some (.map k e)) (hn : n < maxLen) {x : κ} (hx : F.ok x) (y : ε) :
    ∃ w', (Instr.mapUpdate t (.map (some b)) (F.kv x) (F.ev y)).run P w = .ok () w' ∧ IsC F w' b (n + 1) (if (f x).isSome = true then c else c + 1) (upd f x y) ∧ w.grownBy w' (some b) := by
  obtain ⟨D, h1, hs, h2⟩ := h
  obtain ⟨l, hl⟩ := F.key x hx
  obtain ⟨w', hr, h3, h4⟩ := h1.update F.keyed ht hn hl (F.rd_of y)
  have hm := isMap_of h1
  have hk := F.keyed.key hl
  refine ⟨w', hr, ⟨_, h3, ?_, fun x' l' hl' => ?_⟩, h4⟩
  · rw [Maps.size_put (h1.tidy F.keyed), (h2 x l hl).1, hs]
  · by_cases hxx : x' = x
    · subst hxx
      have e : l' = l := Option.some.inj (hl'.symm.trans hl)
      subst e
      rw [upd, if_pos rfl]
      exact ⟨Maps.has_put_same hm hk _, fun z => Maps.atKey_put_same hm hk _ z⟩
    · have hne : l' ≠ l := fun e => by
        subst e
        exact hxx (F.kinj _ _ (F.keyed.inj hl' hl))
      rw [upd, if_neg hxx]
      obtain ⟨a1, a2⟩ := h2 x' l' hl'
      exact ⟨(Maps.has_put_other hne _).trans a1, fun z => (Maps.atKey_put_other hne _ z).trans (a2 z)⟩
/-- m[x] = y, at the operation. -/
theorem IsC.step [DecidableEq κ] (w : World) {ops : Array Oper} {rest : List Oper} {o : Oper} {a : Act} {Q : Exit → Act → World → Prop}
    (hg : o.guard = none) (m x v : Operand) (t : TypeId) (hop : o.op = Op.mapUpdate t m x v) (ht : P.underlying t = some (.map k e)) {n c : Nat} (hn : n < maxLen) {q : κ} (hq : F.ok q) (b : Nat) (hm : a.eval m = .map (some b)) {f : κ → Option ε} (h : IsC F w b n c f)
    (y : ε) (hx : a.eval x = F.kv q) (hv : a.eval v = F.ev y) (hK : ∀ w', IsC F w' b (n + 1) (if (f q).isSome = true then c else c + 1) (upd f q y) → w.grownBy w' (some b) → wpList P ops Q rest (a.put o.dst undef) w') : wpList P ops Q (o :: rest) a w := by
  refine wpList_plain hg fun K' hK' => ?_
  obtain ⟨w', hrun, r1, r2⟩ := IsC.update F h ht hn hq y
  unfold Oper.wp
  simp [execOp, hop, hm, hx, hv, hrun, Result.andThen]
  exact hK' _ _ (hK w' r1 r2)
/-- len(m), at the operation. -/
theorem IsC.len_step {w : World} {ops : Array Oper} {rest : List Oper} {o : Oper} {a : Act} {Q : Exit → Act → World → Prop}
    (hg : o.guard = none) (m : Operand) (t : TypeId) (hop : o.op = Op.call { callee := Callee.builtin Builtin.len, args := #[m], argTypes := #[t] }) (ht : P.underlying t = some (.map k e)) {b n c : Nat} {f : κ → Option ε} (hm : a.eval m = .map (some b)) (h : IsC F w b n c f)
    (hK : wpList P ops Q rest (a.put o.dst (.int .i64 (c : Int))) w) : wpList P ops Q (o :: rest) a w := by
  refine wpList_plain hg fun K' hK' => ?_
  unfold Oper.wp
  simp [execOp, hop, resolve, invoke, builtin, hm, IsC.len F h ht, Result.andThen]
  exact hK' _ _ hK
end

/-! Counting what differs. -/
theorem dup_snoc {α : Type} [DecidableEq α] (x : α) : ∀ (l : List α), dupB (l ++ [x]) = (dupB l || decide (x ∈ l))
  | [] => by simp [dupB]
  | y :: l => by
    rw [List.cons_append, dupB, dupB, dup_snoc x l, Bool.eq_iff_iff]
    simp only [Bool.or_eq_true, decide_eq_true_eq, List.mem_append, List.mem_cons, List.not_mem_nil, or_false]
    constructor
    · rintro ((h | rfl) | h | h)
      · exact .inl (.inl h)
      · exact .inr (.inl rfl)
      · exact .inl (.inr h)
      · exact .inr (.inr h)
    · rintro ((h | h) | rfl | h)
      · exact .inl (.inl h)
      · exact .inr (.inl h)
      · exact .inl (.inr rfl)
      · exact .inr (.inr h)
/-- c counts what differs in l: all of it exactly if nothing is there twice. -/
def Cd {α : Type} [DecidableEq α] (l : List α) (c : Nat) : Prop := c ≤ l.length ∧ (c = l.length ↔ dupB l = false)
theorem cd_nil {α : Type} [DecidableEq α] : Cd ([] : List α) 0 := ⟨Nat.le_refl _, by simp [dupB]⟩
theorem cd_snoc {α : Type} [DecidableEq α] {l : List α} {c : Nat} {x : α} {s : Bool} (h : Cd l c) (hs : s = decide (x ∈ l)) : Cd (l ++ [x]) (if s = true then c else c + 1) := by
  obtain ⟨h1, h2⟩ := h
  unfold Cd
  rw [dup_snoc, List.length_append, List.length_singleton, Bool.or_eq_false_iff, ← h2, hs]
  by_cases hx : x ∈ l
  · simp only [hx, decide_true, if_true]
    refine ⟨by omega, ?_⟩
    constructor
    · intro h
      omega
    · intro h
      cases h.2
  · simp only [hx, decide_false, Bool.false_eq_true, if_false, and_true]
    exact ⟨by omega, by omega⟩
theorem cd_eq {α : Type} [DecidableEq α] {l : List α} {c : Nat} (h : Cd l c) : ((c : Int) == (l.length : Int)) = !dupB l := by
  cases hd : dupB l with
  | false => simp [h.2.2 hd]
  | true =>
    have : c ≠ l.length := fun e => by rw [h.2.1 e] at hd; cases hd
    simp; omega
/-- The keys that are there are those of a list. -/
def Keys {κ ε : Type} [DecidableEq κ] (f : κ → Option ε) (l : List κ) : Prop := ∀ x, (f x).isSome = decide (x ∈ l)
theorem keys_nil {κ ε : Type} [DecidableEq κ] : Keys (fun _ => none : κ → Option ε) [] := fun _ => by simp
theorem keys_snoc {κ ε : Type} [DecidableEq κ] {f : κ → Option ε} {l : List κ} {x : κ} {y : ε} (h : Keys f l) : Keys (upd f x y) (l ++ [x]) := fun z => by
  unfold upd
  by_cases e : z = x
  · simp [e]
  · rw [if_neg e, h z]
    simp [e]
theorem take_more {α : Type} {l : List α} {j : Nat} {x : α} (h : l[j]? = some x) : l.take (j + 1) = l.take j ++ [x] := by
  obtain ⟨hj, rfl⟩ := List.getElem?_eq_some_iff.1 h
  exact List.take_succ_eq_append_getElem hj

theorem litB_inj (x y : Bool) (h : (DataW.lit (.bool x) : DataW Unit) = .lit (.bool y)) : x = y := by
  simpa using h
/-- map[string]bool. -/
def strBool : MapForm Tryz.prog 9 4 (List UInt8) Bool where
  kv := fun s => .string (Go.Proofs.YtfdipcphohhlgaaGreatDoor.Text.bs s)
  ok := fun s => s.length ≤ maxLen
  ev := .bool
  de := fun x => .lit (.bool x)
  z0 := false
  keyed := string_keyed Tryz.underlying9
  key := fun s h => ⟨_, Go.WideMaps.keyOf_string_mk Tryz.underlying9 (by rw [Go.Proofs.YtfdipcphohhlgaaGreatDoor.Text.bs_size]; exact h)⟩
  kinj := fun s t h => by
    have h2 : Go.Proofs.YtfdipcphohhlgaaGreatDoor.Text.bs s = Go.Proofs.YtfdipcphohhlgaaGreatDoor.Text.bs t := by simpa using h
    have := congrArg (fun b : ByteArray => b.data.toList) h2
    simpa [Go.Proofs.YtfdipcphohhlgaaGreatDoor.Text.bs] using this
  einj := fun x y h => by simpa using h
  dinj := litB_inj
  zero := fun w => by kernel_rfl
/-- map[int]bool. -/
def intBool : MapForm Tryz.prog 3 4 Int Bool where
  kv := fun s => .int .i64 s
  ok := Wf
  ev := .bool
  de := fun x => .lit (.bool x)
  z0 := false
  keyed := int_keyed Tryz.underlying3
  key := fun s h => ⟨_, keyOf_int_mk Tryz.underlying3 h⟩
  kinj := fun s t h => by simpa using h
  einj := fun x y h => by simpa using h
  dinj := litB_inj
  zero := fun w => by kernel_rfl
/-- map[api.End]bool. -/
def endBool : MapForm Tryz.prog 47 4 (Int × Int) Bool where
  kv := pV
  ok := pWf
  ev := .bool
  de := fun x => .lit (.bool x)
  z0 := false
  keyed := endKeyed
  key := fun _ h => endKey h
  kinj := pV_inj
  einj := fun x y h => by simpa using h
  dinj := litB_inj
  zero := fun w => by kernel_rfl

end Go.Proofs.YtfdipcphohhlgaaGreatDoor.Omapn

/- The program's distinct, type by type: whether nothing is in a list twice. -/
namespace Go.Proofs.YtfdipcphohhlgaaGreatDoor.Pdis
open Go.RowKit Go.Lib Go.Proofs.YtfdipcphohhlgaaGreatDoor.Reads Go.Proofs.YtfdipcphohhlgaaGreatDoor.Rows2 Go.Proofs.YtfdipcphohhlgaaGreatDoor.Lay Go.Proofs.YtfdipcphohhlgaaGreatDoor.Layf Go.Proofs.YtfdipcphohhlgaaGreatDoor.Lcon Go.Proofs.YtfdipcphohhlgaaGreatDoor.Ldup Go.Proofs.YtfdipcphohhlgaaGreatDoor.Lext Go.Proofs.YtfdipcphohhlgaaGreatDoor.Lnmd Go.Proofs.YtfdipcphohhlgaaGreatDoor.Pbas Go.Proofs.YtfdipcphohhlgaaGreatDoor.Pfn Go.Proofs.YtfdipcphohhlgaaGreatDoor.Omap Go.Proofs.YtfdipcphohhlgaaGreatDoor.Omapn Go.Proofs.YtfdipcphohhlgaaGreatDoor.Lmap
open Go.Proofs.YtfdipcphohhlgaaGreatDoor.Text hiding lineL joinR

theorem ints_at {w : World} {v : Value} {xs : List Int} (h : Grid (In w) w v 1 (xs.map fun x => [Value.int .i64 x])) :
    ∃ a cap, v = .slice a xs.length cap ∧ (xs.length : Int) ≤ 9223372036854775807 ∧ ∀ (wr : World), Below w.heap.size w wr → ∀ (i : Nat) (x : Int), xs[i]? = some x → ∃ b off, a = some ⟨b, off, none⟩ ∧ b < w.heap.size ∧ wr.cell? ⟨b, off + i, none⟩ = some (.int .i64 x) := by
  obtain ⟨a, cap, h1, h2, _, _, h5⟩ := h.shape
  rw [List.length_map] at h1 h2
  refine ⟨a, cap, h1, h2, fun wr hb i x hx => ?_⟩
  obtain ⟨b, off, e, hbl, hc⟩ := h5 i _ (by rw [List.getElem?_map, hx]; rfl)
  have := hc 0 _ rfl
  rw [Nat.mul_one] at this
  exact ⟨b, off, e, hbl, (hb.cell (show b < w.heap.size from hbl)).trans this⟩
theorem pairs_at {w : World} {v : Value} {xs : List (Int × Int)} (h : Grid (In w) w v 2 (xs.map pCells)) :
    ∃ a cap, v = .slice a xs.length cap ∧ (xs.length : Int) ≤ 9223372036854775807 ∧ ∀ (wr : World), Below w.heap.size w wr → ∀ (i : Nat) (x : Int × Int), xs[i]? = some x → ∃ b off, a = some ⟨b, off, none⟩ ∧ b < w.heap.size ∧ wr.cell? ⟨b, off + i * 2, none⟩ = some (.int .i64 x.1) ∧ wr.cell? ⟨b, off + i * 2 + 1, none⟩ = some (.int .i64 x.2) := by
  obtain ⟨a, cap, h1, h2, _, _, h5⟩ := h.shape
  rw [List.length_map] at h1 h2
  refine ⟨a, cap, h1, h2, fun wr hb i x hx => ?_⟩
  obtain ⟨b, off, e, hbl, hc⟩ := h5 i _ (by rw [List.getElem?_map, hx]; rfl)
  exact ⟨b, off, e, hbl, (hb.cell (show b < w.heap.size from hbl)).trans (hc 0 _ rfl), (hb.cell (show b < w.heap.size from hbl)).trans (hc 1 _ rfl)⟩
/-- A call that writes a block of its own. -/
theorem below_map {b0 : Nat} {w wr w' : World} (hb : Below w.heap.size w wr) (hg : wr.grownBy w' (some b0)) (h0 : w.heap.size ≤ b0) : Below w.heap.size w w' :=
  hb.grown hg hb.size (fun k e => by cases e; exact h0)
/-- What holds at the head of the loop. -/
def DRel {κ : Type} [DecidableEq κ] {k : TypeId} (F : MapForm Tryz.prog k 4 κ Bool) (xs : List κ) (w : World) (vj : Value) (wr : World) : Prop :=
  ∃ (j n c : Nat) (f : κ → Option Bool), vj = .int .i64 (j : Int) ∧ j ≤ xs.length ∧ n ≤ j ∧ IsC F wr w.heap.size n c f ∧ Keys f (xs.take j) ∧ Cd (xs.take j) c ∧ Below w.heap.size w wr
theorem drel_next {κ : Type} [DecidableEq κ] {k : TypeId} {F : MapForm Tryz.prog k 4 κ Bool} {xs : List κ} {w wr w1 : World} {j n c : Nat} {f : κ → Option Bool} {x : κ} (hx : xs[j]? = some x) (hn : n ≤ j) (hk : Keys f (xs.take j)) (hc : Cd (xs.take j) c) (hb : Below w.heap.size w wr)
    (h1 : IsC F w1 w.heap.size (n + 1) (if (f x).isSome = true then c else c + 1) (upd f x true)) (hg : wr.grownBy w1 (some w.heap.size)) : DRel F xs w (.int .i64 ((j : Int) + 1)) w1 := by
  have hj := (List.getElem?_eq_some_iff.1 hx).1
  refine ⟨j + 1, n + 1, _, _, by simp, hj, by omega, h1, ?_, ?_, below_map hb hg (Nat.le_refl _)⟩
  · rw [take_more hx]
    exact keys_snoc hk
  · rw [take_more hx]
    exact cd_snoc hc (hk x)


set_option maxRecDepth 100000 in
set_option maxHeartbeats 1600000 in
theorem distinctS {xs : List (List UInt8)} {v : Value} {w : World} (h : Strs (In w) w v xs) (hn : xs.length ≤ 1000) :
    Calls Tryz.prog 63 #[v] w (BoolOut (!dupB xs) w) := by
  obtain ⟨a, cap, rfl, hm, hel⟩ := atS h
  have HE := Lib.hid hel
  have HW := Lib.hid (h.2)
  have HN := Lib.hid hn
  obtain ⟨r, hr⟩ : ∃ r, dupB xs = r := ⟨_, rfl⟩
  rw [hr]
  have HR := Lib.hid hr
  clear hel h hr hn
  have hmm := @run_makeMap Tryz.prog
  go_enter Tryz.func63, Tryz.ntmps63
  go_wp2_with fail
  go_loopw [9] (fun vj wr => DRel strBool xs w vj wr) (fun vj _ => xs.length - (RowKit.intOf vj).toNat)
  case atStart => exact ⟨0, 0, 0, fun _ => none, rfl, Nat.zero_le _, Nat.le_refl _, isC_made _ _, by simpa using keys_nil, by simpa using cd_nil, (Below.refl _ _).alloc (Nat.le_refl _) _⟩
  case round =>
    obtain ⟨j, n, c, f, rfl, hj, hnj, hi, hk, hc, hb⟩ := hrel
    have HB := Lib.hid hb
    have HI := Lib.hid hi
    have HK := Lib.hid hk
    have HC := Lib.hid hc
    have hlt := IsC.lt _ hi
    clear hb hi hk hc
    by_cases hjl : j < xs.length
    · obtain ⟨x, hx⟩ := at_lt hjl
      obtain ⟨b, off, rfl, _, c0⟩ := HE.out wr HB.out j x hx
      have HX := Lib.hid hx
      clear hx
      go_wp2_with (at_mapUpdate; refine IsC.step strBool _ rfl _ _ _ 134 rfl Tryz.underlying134 (show n < maxLen by have := HN.out; unfold maxLen; omega) (by exact HW.out _ (List.mem_of_getElem? HX.out)) w.heap.size rfl (HI.out) _ rfl rfl ?_; intro w1 h1 hg1; have R1 := Lib.hid h1; have R2 := Lib.hid hg1; clear h1 hg1)
      go_roundw
      case rel => exact drel_next HX.out hnj HK.out HC.out (HB.out) R1.out R2.out
      case measure => simp [RowKit.intOf]; omega
    · have he : j = xs.length := by omega
      subst he
      have HQ : Hid (((c : Int) == (xs.length : Int)) = !r) := by
        have h1 := HC.out
        rw [List.take_length] at h1
        rw [← HR.out]
        exact cd_eq h1
      go_wp2_with (at_len; refine IsC.len_step strBool rfl _ 134 rfl Tryz.underlying134 rfl HI.out ?_)
      go_ret
      exact ⟨by rw [← HQ.out]; rfl, HB.out⟩

set_option maxRecDepth 100000 in
set_option maxHeartbeats 1600000 in
theorem distinctI {xs : List Int} {v : Value} {w : World} (h : Grid (In w) w v 1 (xs.map fun x => [Value.int .i64 x])) (hw : ∀ x ∈ xs, Wf x) (hn : xs.length ≤ 1000) :
    Calls Tryz.prog 37 #[v] w (BoolOut (!dupB xs) w) := by
  obtain ⟨a, cap, rfl, hm, hel⟩ := ints_at h
  have HE := Lib.hid hel
  have HW := Lib.hid (hw)
  have HN := Lib.hid hn
  obtain ⟨r, hr⟩ : ∃ r, dupB xs = r := ⟨_, rfl⟩
  rw [hr]
  have HR := Lib.hid hr
  clear hel h hr hn
  have hmm := @run_makeMap Tryz.prog
  go_enter Tryz.func37, Tryz.ntmps37
  go_wp2_with fail
  go_loopw [9] (fun vj wr => DRel intBool xs w vj wr) (fun vj _ => xs.length - (RowKit.intOf vj).toNat)
  case atStart => exact ⟨0, 0, 0, fun _ => none, rfl, Nat.zero_le _, Nat.le_refl _, isC_made _ _, by simpa using keys_nil, by simpa using cd_nil, (Below.refl _ _).alloc (Nat.le_refl _) _⟩
  case round =>
    obtain ⟨j, n, c, f, rfl, hj, hnj, hi, hk, hc, hb⟩ := hrel
    have HB := Lib.hid hb
    have HI := Lib.hid hi
    have HK := Lib.hid hk
    have HC := Lib.hid hc
    have hlt := IsC.lt _ hi
    clear hb hi hk hc
    by_cases hjl : j < xs.length
    · obtain ⟨x, hx⟩ := at_lt hjl
      obtain ⟨b, off, rfl, _, c0⟩ := HE.out wr HB.out j x hx
      have HX := Lib.hid hx
      clear hx
      go_wp2_with (at_mapUpdate; refine IsC.step intBool _ rfl _ _ _ 110 rfl Tryz.underlying110 (show n < maxLen by have := HN.out; unfold maxLen; omega) (by exact HW.out _ (List.mem_of_getElem? HX.out)) w.heap.size rfl (HI.out) _ rfl rfl ?_; intro w1 h1 hg1; have R1 := Lib.hid h1; have R2 := Lib.hid hg1; clear h1 hg1)
      go_roundw
      case rel => exact drel_next HX.out hnj HK.out HC.out (HB.out) R1.out R2.out
      case measure => simp [RowKit.intOf]; omega
    · have he : j = xs.length := by omega
      subst he
      have HQ : Hid (((c : Int) == (xs.length : Int)) = !r) := by
        have h1 := HC.out
        rw [List.take_length] at h1
        rw [← HR.out]
        exact cd_eq h1
      go_wp2_with (at_len; refine IsC.len_step intBool rfl _ 110 rfl Tryz.underlying110 rfl HI.out ?_)
      go_ret
      exact ⟨by rw [← HQ.out]; rfl, HB.out⟩

set_option maxRecDepth 100000 in
set_option maxHeartbeats 1600000 in
theorem distinctE {xs : List (Int × Int)} {v : Value} {w : World} (h : Grid (In w) w v 2 (xs.map pCells)) (hw : ∀ x ∈ xs, pWf x) (hn : xs.length ≤ 1000) :
    Calls Tryz.prog 32 #[v] w (BoolOut (!dupB xs) w) := by
  obtain ⟨a, cap, rfl, hm, hel⟩ := pairs_at h
  have HE := Lib.hid hel
  have HW := Lib.hid (hw)
  have HN := Lib.hid hn
  obtain ⟨r, hr⟩ : ∃ r, dupB xs = r := ⟨_, rfl⟩
  rw [hr]
  have HR := Lib.hid hr
  clear hel h hr hn
  have hmm := @run_makeMap Tryz.prog
  go_enter Tryz.func32, Tryz.ntmps32
  go_wp2_with fail
  go_loopw [9] (fun vj wr => DRel endBool xs w vj wr) (fun vj _ => xs.length - (RowKit.intOf vj).toNat)
  case atStart => exact ⟨0, 0, 0, fun _ => none, rfl, Nat.zero_le _, Nat.le_refl _, isC_made _ _, by simpa using keys_nil, by simpa using cd_nil, (Below.refl _ _).alloc (Nat.le_refl _) _⟩
  case round =>
    obtain ⟨j, n, c, f, rfl, hj, hnj, hi, hk, hc, hb⟩ := hrel
    have HB := Lib.hid hb
    have HI := Lib.hid hi
    have HK := Lib.hid hk
    have HC := Lib.hid hc
    have hlt := IsC.lt _ hi
    clear hb hi hk hc
    by_cases hjl : j < xs.length
    · obtain ⟨x, hx⟩ := at_lt hjl
      obtain ⟨b, off, rfl, _, c0, c1⟩ := HE.out wr HB.out j x hx
      have HX := Lib.hid hx
      clear hx
      obtain ⟨u1, u2⟩ := x
      simp only at c0 c1
      go_wp2_with (at_mapUpdate; refine IsC.step endBool _ rfl _ _ _ 105 rfl Tryz.underlying105 (show n < maxLen by have := HN.out; unfold maxLen; omega) (by exact HW.out _ (List.mem_of_getElem? HX.out)) w.heap.size rfl ((IsC.alloc endBool HI.out _)) _ rfl rfl ?_; intro w1 h1 hg1; have R1 := Lib.hid h1; have R2 := Lib.hid hg1; clear h1 hg1)
      go_roundw
      case rel => exact drel_next HX.out hnj HK.out HC.out (HB.out.alloc HB.out.size _) R1.out R2.out
      case measure => simp [RowKit.intOf]; omega
    · have he : j = xs.length := by omega
      subst he
      have HQ : Hid (((c : Int) == (xs.length : Int)) = !r) := by
        have h1 := HC.out
        rw [List.take_length] at h1
        rw [← HR.out]
        exact cd_eq h1
      go_wp2_with (at_len; refine IsC.len_step endBool rfl _ 105 rfl Tryz.underlying105 rfl HI.out ?_)
      go_ret
      exact ⟨by rw [← HQ.out]; rfl, HB.out⟩

end Go.Proofs.YtfdipcphohhlgaaGreatDoor.Pdis
