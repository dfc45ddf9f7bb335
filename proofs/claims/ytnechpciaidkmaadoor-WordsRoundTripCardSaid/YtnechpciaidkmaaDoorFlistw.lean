/- FormatList: words' and the reference's. -/
import Derived.Test.YtnechpciaidkmaaDoorListw
import Derived.Test.YtnechpciaidkmaaDoorRjoinw
import Derived.Laws.MakeOwn
import Derived.Laws.Rows
namespace Go.Proofs.YtnechpciaidkmaaDoor.Flistw
open Go.RowKit Go.Lib Go.Proofs.YtnechpciaidkmaaDoor.Text Go.Proofs.YtnechpciaidkmaaDoor.Numt Go.Proofs.YtnechpciaidkmaaDoor.Kind Go.Proofs.YtnechpciaidkmaaDoor.Word Go.Proofs.YtnechpciaidkmaaDoor.Rword Go.Proofs.YtnechpciaidkmaaDoor.Reads Go.Proofs.YtnechpciaidkmaaDoor.Rows2 Go.Proofs.YtnechpciaidkmaaDoor.Samew Go.Proofs.YtnechpciaidkmaaDoor.Debw Go.Proofs.YtnechpciaidkmaaDoor.Ownl Go.Proofs.YtnechpciaidkmaaDoor.Linw Go.Proofs.YtnechpciaidkmaaDoor.Joinw Go.Proofs.YtnechpciaidkmaaDoor.Rjoinw Go.Proofs.YtnechpciaidkmaaDoor.Fmtw

theorem fmt_nil : fmtL [] = [45] := rfl
theorem fmt_cons {l : List Int} (h : l ≠ []) : fmtL l = Lib.join (l.map itoa) [44] := by rw [fmtL, if_neg h]
theorem join_len (c : UInt8) (m : Nat) : ∀ ps : List (List UInt8), (∀ p ∈ ps, p.length ≤ m) → (Lib.join ps [c]).length ≤ (m + 1) * ps.length
  | [], _ => by simp [join_nil]
  | p :: ps, h => by
    have ht : ∀ qs : List (List UInt8), (∀ q ∈ qs, q.length ≤ m) → (tailL c qs).length ≤ (m + 1) * qs.length := by
      intro qs
      induction qs with
      | nil => intro _; simp [tailL]
      | cons q qs ih =>
        intro hq
        have h1 := ih (fun x hx => hq x (by simp [hx]))
        have h2 := hq q (by simp)
        have : (tailL c (q :: qs)).length = q.length + 1 + (tailL c qs).length := by simp [tailL]; omega
        rw [this, List.length_cons, Nat.mul_succ]
        omega
    have h1 := ht ps (fun x hx => h x (by simp [hx]))
    have h2 := h p (by simp)
    rw [join_tail, List.length_append, List.length_cons, Nat.mul_succ]
    omega
theorem fmt_len {l : List Int} (h : ∀ n ∈ l, (Lit.int .i64 n).wf = true) : (Lib.join (l.map itoa) [44]).length ≤ 22 * l.length := by
  have := join_len 44 21 (l.map itoa) (fun p hp => by
    obtain ⟨n, hn, rfl⟩ := List.mem_map.1 hp
    have hb := wf_bounds (h n hn)
    exact itoa_length_le n hb.1 hb.2)
  simpa using this
theorem getD_at {l : List Int} {k : Nat} (h : k < l.length) : l[k]? = some (l.getD k 0) := by simp [List.getD_eq_getElem?_getD, h]
theorem map_at {l : List Int} {k : Nat} (h : k < l.length) : (l.map itoa)[k]? = some (itoa (l.getD k 0)) := by rw [List.getElem?_map, getD_at h]; rfl
theorem getD_mem {l : List Int} {k : Nat} (h : k < l.length) : l.getD k 0 ∈ l := List.mem_of_getElem? (getD_at h)

def z1 : Array Value := #[.string ByteArray.empty]
theorem make_any (n : Nat) (hn : n ≤ 100000) (w : World) : (Instr.makeSlice 33 (.int .i64 (n : Int)) (.int .i64 (n : Int))).run Tryd.prog w = .ok (.slice (some ⟨w.heap.size, 0, none⟩) n n) (w.alloc (.cells (madeCells z1 n) 9)) := by
  obtain ⟨i0, hi, hz0, hz1, hz2⟩ := info_parts infoS
  have := run_make (P := Tryd.prog) w 33 9 i0 (.string ByteArray.empty) Tryd.underlying33 hi hz0 .i64 .i64 (n : Int) (n : Int) (by omega) (Int.le_refl _) (by rw [hz2]; omega) (by omega)
  rw [hz1, Nat.mul_one] at this
  exact this
/-- What the slice of texts holds: the first k are laid. -/
def Laid (l : List Int) (b k : Nat) (wr : World) : Prop :=
  ∃ cs : Array Value, wr.heap[b]? = some (.cells cs 9 (0, 0)) ∧ cs.size = l.length ∧ ∀ j, j < k → cs[j]? = (strV (l.map itoa))[j]?
theorem laid_put {l : List Int} {b k : Nat} {wr : World} (h : Laid l b k wr) (hk : k < l.length) : Laid l b (k + 1) (wr.setCell ⟨b, k, none⟩ (.string (bs (itoa (l.getD k 0))))) := by
  obtain ⟨cs, h1, h2, h3⟩ := h
  refine ⟨_, heap_setCell_same _ _ _ _ _ _ h1, by simpa using h2, fun j hj => ?_⟩
  rw [Array.getElem?_setIfInBounds]
  by_cases hjk : k = j
  · subst hjk
    rw [if_pos rfl, if_pos (by omega), strV_at (map_at hk)]
  · rw [if_neg hjk]
    exact h3 j (by omega)
theorem laid_next {l : List Int} {b k : Nat} {w w' : World} (h : Laid l b k w) (hb : Below w.heap.size w w') : Laid l b k w' := by
  obtain ⟨cs, h1, h2, h3⟩ := h
  exact ⟨cs, (hb.block b (Array.getElem?_eq_some_iff.1 h1).1).trans h1, h2, h3⟩
theorem laid_cell {l : List Int} {b k : Nat} {w : World} (h : Laid l b k w) (hk : k < l.length) : (∃ u, w.cell? ⟨b, k, none⟩ = some u) ∧ w.frozen? ⟨b, k, none⟩ = false := by
  obtain ⟨cs, h1, h2, _⟩ := h
  refine ⟨⟨cs[k]'(by omega), ?_⟩, frozen_of_row _ _ _ _ _ h1⟩
  rw [cell_of_row _ _ _ _ _ _ h1, Array.getElem?_eq_getElem]
theorem laid_strs {l : List Int} {b : Nat} {w : World} (h : Laid l b l.length w) (hl : l.length ≤ 100000) (hw : ∀ n ∈ l, (Lit.int .i64 n).wf = true) : Strs (fun b => b < w.heap.size) w (.slice (some ⟨b, 0, none⟩) l.length l.length) (l.map itoa) := by
  obtain ⟨cs, h1, _, h3⟩ := h
  have e : (strV (l.map itoa)).length = l.length := by simp [strV]
  refine ⟨?_, fun s hs => ?_⟩
  · have := row_mk (ok := fun b => b < w.heap.size) (w := w) (b := b) (off := 0) (cap := l.length) (strV (l.map itoa)) (Array.getElem?_eq_some_iff.1 h1).1 (by omega) (by unfold maxLen; omega) (fun j x hx => by
      have hj : j < (strV (l.map itoa)).length := (List.getElem?_eq_some_iff.1 hx).1
      rw [Nat.zero_add, cell_of_row _ _ _ _ _ _ h1, h3 j (by omega)]
      exact hx)
    rw [e] at this
    exact this
  · obtain ⟨n, hn, rfl⟩ := List.mem_map.1 hs
    have hb := wf_bounds (hw n hn)
    have := itoa_length_le n hb.1 hb.2
    unfold maxLen
    omega

set_option maxRecDepth 100000 in
set_option maxHeartbeats 1600000 in
theorem formatList_any {v : Value} {l : List Int} {w : World} (h : Reads w.heap.size w v l) (hl : l.length ≤ 100000) (hdeb : Deb w) :
    Calls Tryd.prog 27 #[v] w fun e w' => e = .returned (.string (bs (fmtL l))) ∧ Below w.heap.size w w' := by
  obtain ⟨a, cap, rfl, hm⟩ := rshape h
  have HC := Lib.hid (rcell h).2
  have HWF := Lib.hid h.wf
  have HD := Lib.hid hdeb
  clear h hdeb
  by_cases h0 : l = []
  · subst h0
    go_enter Tryd.func27, Tryd.ntmps27
    go_wp2_with fail
    go_ret
    exact ⟨rfl, Below.refl _ _⟩
  · have hl0 : ((l.length : Int) == 0) = false := by
      have := List.length_pos_iff.2 h0
      rw [beq_eq_false_iff_ne]; omega
    have HF := Lib.hid (fmt_cons h0)
    have HH0 := Lib.hid h0
    have hmk := fun w => make_any l.length hl w
    clear h0
    go_enter Tryd.func27, Tryd.ntmps27
    go_wp2_with fail
    clear hmk hl0
    go_loopw [14] (fun vi wr => ∃ k : Nat, vi = .int .i64 k ∧ k ≤ l.length ∧ Laid l w.heap.size k wr ∧ Below w.heap.size w wr) (fun vi _ => l.length - (RowKit.intOf vi).toNat)
    case atStart => exact ⟨0, rfl, Nat.zero_le _, ⟨_, heap_alloc_new _ _, size_madeCells _ _, by intro j hj; omega⟩, (Below.refl _ _).alloc (Nat.le_refl _) _⟩
    case round =>
      obtain ⟨k, rfl, hk, hlaid, hb⟩ := hrel
      have HB := Lib.hid hb
      have HL := Lib.hid hlaid
      clear hb hlaid
      by_cases hlt : k < l.length
      · obtain ⟨b, off, rfl, hb0, hc0⟩ := HC.out k hlt
        have HP := Lib.hid (fun (w1 : World) (h : Laid l w.heap.size k w1) => laid_put h hlt)
        have hwx := wf_bounds (HWF.out _ (getD_mem hlt))
        obtain ⟨x, hx⟩ : ∃ x, l.getD k 0 = x := ⟨_, rfl⟩
        rw [hx] at hc0 HP hwx
        have g1 : wr.cell? ⟨b, off + k, none⟩ = some (.int .i64 x) := (HB.out.cell hb0).trans hc0
        have HFm := Lib.hid (format_any x wr hwx.1 hwx.2 (deb_next HD.out HB.out))
        clear hx hc0 hb0 hwx
        go_wp2_with fail
        refine HFm.out.mono ?_
        rintro e w1 ⟨rfl, hb1⟩
        have HB1 := Lib.hid (bel_next HB.out hb1)
        have HL1 := Lib.hid (laid_next HL.out hb1)
        obtain ⟨⟨u, c1⟩, f1⟩ := laid_cell HL1.out hlt
        clear hb1
        go_wp2_with fail
        go_roundw
        case rel => exact ⟨k + 1, by simp, by omega, HP.out _ HL1.out, HB1.out.setCell (p := ⟨w.heap.size, k, none⟩) (Nat.le_refl _) _⟩
        case measure => simp [RowKit.intOf]; omega
      · obtain rfl : k = l.length := by omega
        have HS := Lib.hid (laid_strs HL.out hl HWF.out)
        have HJ := Lib.hid (joins_any 44 HS.out (by simpa using HH0.out) (by have := fmt_len HWF.out; omega))
        rw [← HF.out] at HJ
        go_wp2_with fail
        refine HJ.out.mono ?_
        rintro e w1 ⟨rfl, hb1⟩
        have HB1 := Lib.hid (bel_next HB.out hb1)
        clear hb1
        go_wp2_with fail
        go_ret
        exact ⟨rfl, HB1.out⟩

set_option maxRecDepth 100000 in
set_option maxHeartbeats 1600000 in
theorem rformatList_any {v : Value} {l : List Int} {w : World} (h : Reads w.heap.size w v l) (hl : l.length ≤ 100000) :
    Calls Tryd.prog 28 #[v] w fun e w' => e = .returned (.string (bs (fmtL l))) ∧ w' = w := by
  obtain ⟨a, cap, rfl, hm⟩ := rshape h
  have HC := Lib.hid (rcell h).2
  have HWF := Lib.hid h.wf
  clear h
  by_cases h0 : l = []
  · subst h0
    go_enter Tryd.func28, Tryd.ntmps28
    go_wp2_with fail
    go_ret
    exact ⟨rfl, rfl⟩
  · have hl0 : ((l.length : Int) == 0) = false := by
      have := List.length_pos_iff.2 h0
      rw [beq_eq_false_iff_ne]; omega
    have HF := Lib.hid (fmt_cons h0)
    clear h0
    go_enter Tryd.func28, Tryd.ntmps28
    go_wp2_with fail
    clear hl0
    go_loop [3, 4] (fun vs vi => ∃ k : Nat, vs = .string (bs (Lib.join ((l.map itoa).take k) [44])) ∧ vi = .int .i64 k ∧ k ≤ l.length) (fun _ vi => l.length - (RowKit.intOf vi).toNat)
    case atStart => exact ⟨0, rfl, rfl, Nat.zero_le _⟩
    case round =>
      obtain ⟨k, rfl, rfl, hk⟩ := hrel
      have HLn := Lib.hid (Nat.le_trans (join_take_le 44 (l.map itoa) k) (fmt_len HWF.out))
      by_cases hlt : k < l.length
      · obtain ⟨b, off, rfl, hb0, g1⟩ := HC.out k hlt
        have hwx := wf_bounds (HWF.out _ (getD_mem hlt))
        have hmx := map_at hlt
        obtain ⟨x, hx⟩ : ∃ x, l.getD k 0 = x := ⟨_, rfl⟩
        rw [hx] at g1 hwx hmx
        have hil := itoa_length_le x hwx.1 hwx.2
        have HFm := Lib.hid (fun w => rformat_any x w hwx.1 hwx.2)
        obtain ⟨t, ht⟩ : ∃ t, itoa x = t := ⟨_, rfl⟩
        rw [ht] at hil hmx HFm
        obtain ⟨Z, hZ⟩ : ∃ Z, Lib.join ((l.map itoa).take (k + 1)) [44] = Z := ⟨_, rfl⟩
        have HZ := Lib.hid hZ
        by_cases hk0 : k = 0
        · subst hk0
          have hz : Z = t := by rw [← hZ, take_snoc hmx]; exact join_one _ _
          have hadd : ∀ w, (Op.stringOp .add (bs (Lib.join ((l.map itoa).take 0) [44])) (bs t)).run Tryd.prog w = .ok (.string (bs Z)) w := by
            intro w
            rw [List.take_zero, join_nil, add_bs _ _ (by simp; omega), hz]
            rfl
          have g0 : w.cell? ⟨b, off, none⟩ = some (.int .i64 x) := g1
          obtain ⟨X, hX⟩ : ∃ X, Lib.join ((l.map itoa).take 0) [44] = X := ⟨_, rfl⟩
          rw [hX] at hadd ⊢
          clear g1 hx hwx hmx hb0 ht hil hZ hz hX HLn
          go_wp2_with fail
          refine (HFm.out _).mono ?_
          rintro e w ⟨rfl, rfl⟩
          go_wp2_with fail
          go_round
          case rel => exact ⟨1, by rw [HZ.out], rfl, by omega⟩
          case measure => simp [RowKit.intOf]; omega
        · have hne : (l.map itoa).take k ≠ [] := by
            intro e
            have := congrArg List.length e
            rw [List.length_take, List.length_map, List.length_nil] at this
            omega
          have hz : Z = Lib.join ((l.map itoa).take k) [44] ++ 44 :: t := by rw [← hZ, take_snoc hmx]; exact join_snoc 44 t hne
          have hln := HLn.out
          obtain ⟨X, hX⟩ : ∃ X, Lib.join ((l.map itoa).take k) [44] = X := ⟨_, rfl⟩
          rw [hX] at hz hln ⊢
          obtain ⟨Y, hY⟩ : ∃ Y, X ++ [44] = Y := ⟨_, rfl⟩
          have hadd1 : ∀ w, (Op.stringOp .add (bs X) ⟨#[44]⟩).run Tryd.prog w = .ok (.string (bs Y)) w := fun w => by
            rw [← hY]
            exact add_bs (P := Tryd.prog) X [44] (by simp; omega) w
          have hadd2 : ∀ w, (Op.stringOp .add (bs Y) (bs t)).run Tryd.prog w = .ok (.string (bs Z)) w := by
            intro w
            have hyl : Y.length = X.length + 1 := by rw [← hY]; simp
            rw [add_bs _ _ (by omega), hz, ← hY]
            simp
          have hpos : (0 : Int) < k := by omega
          clear hx hwx hmx hb0 ht hil hZ hz hX hY hne hln HLn
          go_wp2_with fail
          refine (HFm.out _).mono ?_
          rintro e w ⟨rfl, rfl⟩
          go_wp2_with fail
          go_round
          case rel => exact ⟨k + 1, by rw [HZ.out], by simp, by omega⟩
          case measure => simp [RowKit.intOf]; omega
      · have hfull : (l.map itoa).take k = l.map itoa := List.take_of_length_le (by simp; omega)
        rw [hfull, ← HF.out]
        go_wp2_with fail
        go_ret
        exact ⟨rfl, rfl⟩

end Go.Proofs.YtnechpciaidkmaaDoor.Flistw
