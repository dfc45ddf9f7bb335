/- The calls of the reference of layer 2. -/
import Derived.Test.YtjlnlcnddhilhaaUses
namespace Go.Proofs.Ytjlnlcnddhilhaa.Rsets
open Go.RowKit Go.Sort Go.Proofs.Ytjlnlcnddhilhaa.Sets Go.Proofs.Ytjlnlcnddhilhaa.Reads Go.Proofs.Ytjlnlcnddhilhaa.Idset

/-! Plain lists. -/
theorem getD_mem {xs : List Int} {k : Nat} (h : k < xs.length) : xs.getD k 0 ∈ xs := by
  have : xs.getD k 0 = xs[k] := by simp [List.getD_eq_getElem?_getD, h]
  rw [this]; exact List.getElem_mem h
theorem take_snoc {xs : List Int} {k : Nat} (h : k < xs.length) : xs.take (k + 1) = xs.take k ++ [xs.getD k 0] := by
  have : xs.getD k 0 = xs[k] := by simp [List.getD_eq_getElem?_getD, h]
  rw [List.take_succ_eq_append_getElem h, this]
theorem take_all (xs : List Int) : xs.take xs.length = xs := List.take_of_length_le (Nat.le_refl _)
theorem hasB_true {n : Int} {xs : List Int} (h : n ∈ xs) : hasB n xs = true := by simp [hasB, h]
theorem hasB_false {n : Int} {xs : List Int} (h : n ∉ xs) : hasB n xs = false := by simp [hasB, h]

theorem rcell {B : Nat} {w : World} {a : Option Addr} {n cap : Nat} {xs : List Int} (h : Reads B w (.slice a n cap) xs) :
    n = xs.length ∧ ∀ k, k < xs.length → ∃ b off, a = some ⟨b, off, none⟩ ∧ b < B ∧ w.cell? ⟨b, off + k, none⟩ = some (.int .i64 (xs.getD k 0)) := by
  obtain ⟨a', cap', h1, h2, h3, h4, h5⟩ := h
  cases h1
  refine ⟨rfl, fun k hk => ?_⟩
  rcases h5 with rfl | ⟨b, off, rfl, hb, hc⟩
  · cases hk
  · exact ⟨b, off, rfl, hb, hc k hk⟩
theorem rshape {B : Nat} {w : World} {v : Value} {xs : List Int} (h : Reads B w v xs) : ∃ a cap, v = .slice a xs.length cap ∧ (xs.length : Int) ≤ 9223372036854775807 := by
  have hm := h.len
  obtain ⟨a, cap, h1, _⟩ := h
  exact ⟨a, cap, h1, by unfold maxLen at hm; omega⟩

/-- The reference's Has. -/
theorem rhas_any {v : Value} {xs : List Int} {n : Int} {w : World} (h : Reads w.heap.size w v xs) :
    Calls Try.prog 14 #[v, .int .i64 n] w fun e w' => e = .returned (.bool (hasB n xs)) ∧ w = w' := by
  obtain ⟨a, cap, rfl, hm⟩ := rshape h
  have HC := Lib.hid (rcell h).2
  clear h
  go_enter Try.func14, Try.ntmps14
  go_wp2
  go_loop [5] (fun i => ∃ k : Nat, k ≤ xs.length ∧ i = .int .i64 k ∧ n ∉ xs.take k) (fun i => xs.length - (intOf i).toNat)
  case atStart => exact ⟨0, Nat.zero_le _, rfl, by simp⟩
  case round =>
    obtain ⟨k, hk, rfl, hn⟩ := hrel
    have HN := Lib.hid hn
    clear hn
    by_cases hlt : k < xs.length
    · obtain ⟨b, off, rfl, _, hc⟩ := HC.out k hlt
      obtain ⟨x, hx⟩ : ∃ x, xs.getD k 0 = x := ⟨_, rfl⟩
      rw [hx] at hc
      have HX := Lib.hid hx
      clear hx
      by_cases hxn : x = n
      · subst hxn
        have HB := Lib.hid (hasB_true (by rw [← HX.out]; exact getD_mem hlt : x ∈ xs))
        go_wp2
        go_ret
        exact ⟨by rw [HB.out]; rfl, rfl⟩
      · have hq : (x == n) = false := by simpa using hxn
        have HT := Lib.hid (show n ∉ xs.take (k + 1) by
          rw [take_snoc hlt, HX.out, List.mem_append, List.mem_singleton]
          exact fun h => h.elim HN.out (fun e => hxn e.symm))
        clear hxn
        go_wp2
        go_round
        case rel => exact ⟨k + 1, by omega, by go_num, HT.out⟩
        case measure => simp [intOf]; omega
    · obtain rfl : k = xs.length := by omega
      have HB := Lib.hid (hasB_false (n := n) (xs := xs) (by have := HN.out; rwa [take_all] at this))
      go_wp2
      go_ret
      exact ⟨by rw [HB.out]; rfl, rfl⟩

/-! The reference's insert. -/
def lowF (n : Int) (ys : List Int) : List Int := ys.filter fun m => decide (m < n)
def highF (n : Int) (ys : List Int) : List Int := ys.filter fun m => decide (n < m)
def doneB (n : Int) (ys : List Int) : Bool := !(highF n ys).isEmpty
def insOut (n : Int) (ys : List Int) : List Int := if doneB n ys then lowF n ys ++ n :: highF n ys else lowF n ys

theorem doneB_start (n : Int) : doneB n [] = false := rfl
theorem insOut_start (n : Int) : insOut n [] = [] := rfl
theorem step_low {n x : Int} {ys : List Int} (hd : doneB n ys = false) (hx : x < n) : doneB n (ys ++ [x]) = false ∧ insOut n (ys ++ [x]) = insOut n ys ++ [x] := by
  have e1 : highF n (ys ++ [x]) = highF n ys := by simp [highF, List.filter_append, show ¬ n < x by omega]
  have e2 : lowF n (ys ++ [x]) = lowF n ys ++ [x] := by simp [lowF, List.filter_append, hx]
  have e3 : doneB n (ys ++ [x]) = false := by unfold doneB at *; rw [e1]; exact hd
  exact ⟨e3, by unfold insOut; rw [e3, hd, e2]; rfl⟩
theorem step_high {n x : Int} {ys : List Int} (hd : doneB n ys = false) (hx : n < x) : doneB n (ys ++ [x]) = true ∧ insOut n (ys ++ [x]) = insOut n ys ++ [n] ++ [x] := by
  have e0 : highF n ys = [] := by unfold doneB at hd; simpa using hd
  have e1 : highF n (ys ++ [x]) = [x] := by
    have : highF n (ys ++ [x]) = highF n ys ++ [x] := by simp [highF, List.filter_append, hx]
    rw [this, e0]; rfl
  have e2 : lowF n (ys ++ [x]) = lowF n ys := by simp [lowF, List.filter_append, show ¬ x < n by omega]
  have e3 : doneB n (ys ++ [x]) = true := by unfold doneB; rw [e1]; rfl
  exact ⟨e3, by unfold insOut; rw [e3, hd, e2, e1]; simp⟩
theorem step_more {n x : Int} {ys : List Int} (hd : doneB n ys = true) (hx : n < x) : doneB n (ys ++ [x]) = true ∧ insOut n (ys ++ [x]) = insOut n ys ++ [x] := by
  have e1 : highF n (ys ++ [x]) = highF n ys ++ [x] := by simp [highF, List.filter_append, hx]
  have e2 : lowF n (ys ++ [x]) = lowF n ys := by simp [lowF, List.filter_append, show ¬ x < n by omega]
  have e3 : doneB n (ys ++ [x]) = true := by unfold doneB; rw [e1]; simp
  exact ⟨e3, by unfold insOut; rw [e3, hd, e2, e1]; simp⟩
theorem end_done {n : Int} {ys : List Int} (hd : doneB n ys = true) : insOut n ys = ins n ys := by unfold insOut; rw [hd]; rfl
theorem end_low {n : Int} {ys : List Int} (hd : doneB n ys = false) : insOut n ys ++ [n] = ins n ys := by
  have e0 : highF n ys = [] := by unfold doneB at hd; simpa using hd
  unfold insOut ins
  rw [hd]
  show lowF n ys ++ [n] = lowF n ys ++ n :: highF n ys
  rw [e0]
theorem done_high {n : Int} {xs : List Int} {k : Nat} (ha : Asc xs) (hk : k < xs.length) (hd : doneB n (xs.take k) = true) : n < xs.getD k 0 := by
  have e : xs.getD k 0 = xs[k] := by simp [List.getD_eq_getElem?_getD, hk]
  have h0 : highF n (xs.take k) ≠ [] := by unfold doneB at hd; simpa using hd
  obtain ⟨m, hm⟩ := List.exists_mem_of_ne_nil _ h0
  have hm1 := (List.mem_filter.1 hm).1
  have hm2 : n < m := by simpa using (List.mem_filter.1 hm).2
  obtain ⟨i, hi, rfl⟩ := List.getElem_of_mem hm1
  simp at hi
  rw [List.getElem_take] at hm2
  have := List.pairwise_iff_getElem.1 ha i k (by omega) hk (by omega)
  rw [e]
  omega
theorem insOut_len (n : Int) (ys : List Int) : (insOut n ys).length ≤ ys.length + 1 := by
  have h := ins_len n ys
  by_cases hd : doneB n ys = true
  · rw [end_done hd]; exact h
  · have := end_low (n := n) (ys := ys) (by simpa using hd)
    rw [← this] at h
    simp at h; omega
theorem insOut_wf {n : Int} {ys : List Int} (hn : (Lit.int .i64 n).wf = true) (h : ∀ m ∈ ys, (Lit.int .i64 m).wf = true) : ∀ m ∈ ins n ys, (Lit.int .i64 m).wf = true := by
  intro m hm
  rcases mem_ins.1 hm with rfl | hm
  · exact hn
  · exact h m hm

def vals (xs : List Int) : List Value := xs.map (Value.int .i64)
theorem vals_len (xs : List Int) : (vals xs).length = xs.length := by simp [vals]
def IRel (n : Int) (xs : List Int) (w : World) (vo vd vi : Value) (wr : World) : Prop :=
  ∃ k : Nat, k ≤ xs.length ∧ vi = .int .i64 k ∧ vd = .bool (doneB n (xs.take k)) ∧ wr.ownsRow w.heap.size 3 1 vo (insOut n (xs.take k)).length (vals (insOut n (xs.take k))) ∧ Below w.heap.size w wr

theorem own_snoc {w : World} {B : Nat} {v : Value} {xs : List Int} {x : Int} {ys : List Int} (h : w.ownsRow B 3 1 v (xs.length + 1) (vals xs ++ [.int .i64 x])) (e : ys = xs ++ [x]) : w.ownsRow B 3 1 v ys.length (vals ys) := by
  subst e
  simpa [vals] using h
theorem bel_snoc {w wr w1 : World} {v : Value} {k : Nat} {xs : List Value} {o : Obj} (hb : Below w.heap.size w wr) (h : wr.ownsRow w.heap.size 3 1 v k xs) (hg : (wr.alloc o).grownBy w1 v.ownBlock) : Below w.heap.size w w1 := by
  have hs : w.heap.size ≤ wr.heap.size := hb.size
  exact (hb.alloc hs _).grown hg (by simp; omega) (own_lt h)

set_option maxHeartbeats 2000000 in
theorem rinsert_any {v : Value} {xs : List Int} {n : Int} {w : World} (h : Reads w.heap.size w v xs) (ha : Asc xs) (hn : (Lit.int .i64 n).wf = true) (hl : xs.length ≤ 1099511627776) :
    Calls Try.prog 25 #[v, .int .i64 n] w (SetOut (ins n xs) w) := by
  have HR := Lib.hid h
  have HHAS := Lib.hid (rhas_any (n := n) h)
  have HW := Lib.hid h.wf
  obtain ⟨a, cap, rfl, hm⟩ := rshape h
  have HC := Lib.hid (rcell h).2
  have HA := Lib.hid ha
  have HN := Lib.hid hn
  clear h ha hn
  by_cases hmem : n ∈ xs
  · have e := hasB_true hmem
    rw [e] at HHAS
    have E := Lib.hid (ins_of_mem HA.out hmem)
    clear e hmem
    go_enter Try.func25, Try.ntmps25
    go_wp2_with fail
    refine HHAS.out.mono ?_
    rintro e w1 ⟨rfl, rfl⟩
    go_wp2_with fail
    go_ret
    exact ⟨_, rfl, by rw [E.out]; exact HR.out, Below.refl _ _⟩
  · have e := hasB_false hmem
    rw [e] at HHAS
    have NM := Lib.hid hmem
    clear e hmem
    obtain ⟨i0, hi, hz0, hz1, hz2⟩ := info_parts info
    have HI := Lib.hid hi
    have HZ0 := Lib.hid hz0
    have HZ1 := Lib.hid hz1
    have HZ2 := Lib.hid hz2
    clear hi hz0 hz1 hz2
    go_enter Try.func25, Try.ntmps25
    go_wp2_with fail
    refine HHAS.out.mono ?_
    rintro e w1 ⟨rfl, rfl⟩
    go_wp2_with fail
    go_loopw [5, 6, 7] (fun vo vd vi wr => IRel n xs w vo vd vi wr) (fun _ _ vi _ => xs.length - (intOf vi).toNat)
    case atStart => exact ⟨0, Nat.zero_le _, rfl, rfl, World.ownsRow_nil _ _ _ _, Below.refl _ _⟩
    case round =>
      obtain ⟨k, hk, rfl, rfl, hv, hbel⟩ := hrel
      have HV := Lib.hid hv
      have HB := Lib.hid hbel
      have HS := Lib.hid hbel.size
      have hlo := insOut_len n (xs.take k)
      have hlt0 : (xs.take k).length ≤ k := List.length_take_le _ _
      have hlk : (insOut n (xs.take k)).length ≤ 1099511627777 := by omega
      clear hv hbel hlo hlt0
      obtain ⟨d, hd⟩ : ∃ d, doneB n (xs.take k) = d := ⟨_, rfl⟩
      rw [hd]
      have HD := Lib.hid hd
      clear hd
      by_cases hlt : k < xs.length
      · obtain ⟨b, off, rfl, hb, hc0⟩ := HC.out k hlt
        obtain ⟨x, hx⟩ : ∃ x, xs.getD k 0 = x := ⟨_, rfl⟩
        have hc : wr.cell? ⟨b, off + k, none⟩ = some (.int .i64 x) := by rw [← hx]; exact (HB.out.cell hb).trans hc0
        have HX := Lib.hid hx
        have HC0 : Hid (w.cell? ⟨b, off + k, none⟩ = some (.int .i64 x)) := Lib.hid (by rw [← hx]; exact hc0)
        have HBB := Lib.hid hb
        have hne : x ≠ n := by rw [← hx]; intro e; exact NM.out (by rw [← e]; exact getD_mem hlt)
        have HT := Lib.hid (take_snoc hlt)
        rw [hx] at HT
        clear hx hc0 hb
        cases d with
        | true =>
          have hx := done_high HA.out hlt HD.out
          rw [HX.out] at hx
          have ST := Lib.hid (step_more HD.out hx)
          clear hx hne
          go_wp2_with ((at_builtin; refine wpList_append_own_at _ rfl (.tmp 32) (.tmp 37) 22 rfl w.heap.size 3 i0 (.int .i64 0) 1 8 Try.underlying22 HI.out HZ0.out HZ1.out HZ2.out rfl (by decide) _ _ _ rfl (HV.out.alloc _) ⟨wr.heap.size, 0, none⟩ 1 1 [.int .i64 x] rfl rfl (cell_one_new _ _ _) (by intro u hu; simp at hu; subst hu; rfl) (by unfold maxLen; omega) (by omega) (by have := HS.out; simp; omega) ?_; intro v1 w1 h1own hg1 _ _; have R1 := Lib.hid h1own; have R2 := Lib.hid hg1; clear h1own hg1))
          go_roundw
          case rel => exact ⟨k + 1, by omega, by go_num, by rw [HT.out, ST.out.1], own_snoc R1.out (by rw [HT.out, ST.out.2]), bel_snoc HB.out HV.out R2.out⟩
          case measure => simp [intOf]; omega
        | false =>
          by_cases hx : n < x
          · have ST := Lib.hid (step_high HD.out hx)
            clear hne
            go_wp2_with (first
              | (at_builtin; refine wpList_append_own_at _ rfl (.tmp 28) (.tmp 30) 22 rfl w.heap.size 3 i0 (.int .i64 0) 1 8 Try.underlying22 HI.out HZ0.out HZ1.out HZ2.out rfl (by decide) _ _ _ rfl (HV.out.alloc _) ⟨wr.heap.size, 0, none⟩ 1 1 [.int .i64 n] rfl rfl (cell_one_new _ _ _) (by intro u hu; simp at hu; subst hu; rfl) (by unfold maxLen; omega) (by omega) (by have := HS.out; simp; omega) ?_; intro v1 w1 h1own hg1 _ _; have R1 := Lib.hid h1own; have R2 := Lib.hid hg1; have hc3 : w1.cell? ⟨b, off + k, none⟩ = some (.int .i64 x) := ((bel_snoc HB.out HV.out hg1).cell HBB.out).trans HC0.out; clear h1own hg1)
              | (at_builtin; refine wpList_append_own_at _ rfl (.tmp 32) (.tmp 37) 22 rfl w.heap.size 3 i0 (.int .i64 0) 1 8 Try.underlying22 HI.out HZ0.out HZ1.out HZ2.out rfl (by decide) _ _ _ rfl ((own_snoc R1.out rfl).alloc _) ⟨w1.heap.size, 0, none⟩ 1 1 [.int .i64 x] rfl rfl (cell_one_new _ _ _) (by intro u hu; simp at hu; subst hu; rfl) (by unfold maxLen; simp only [List.length_append, List.length_cons, List.length_nil]; omega) (by simp only [List.length_append, List.length_cons, List.length_nil]; omega) (by have := (bel_snoc HB.out HV.out R2.out).size; simp; omega) ?_; intro v2 w2 h2own hg2 _ _; have R3 := Lib.hid h2own; have R4 := Lib.hid hg2; clear h2own hg2))
            go_roundw
            case rel => exact ⟨k + 1, by omega, by go_num, by rw [HT.out, ST.out.1], own_snoc R3.out (by rw [HT.out, ST.out.2]), bel_snoc (bel_snoc HB.out HV.out R2.out) (own_snoc R1.out rfl) R4.out⟩
            case measure => simp [intOf]; omega
          · have ST := Lib.hid (step_low HD.out (show x < n by omega))
            clear hne
            go_wp2_with ((at_builtin; refine wpList_append_own_at _ rfl (.tmp 32) (.tmp 37) 22 rfl w.heap.size 3 i0 (.int .i64 0) 1 8 Try.underlying22 HI.out HZ0.out HZ1.out HZ2.out rfl (by decide) _ _ _ rfl (HV.out.alloc _) ⟨wr.heap.size, 0, none⟩ 1 1 [.int .i64 x] rfl rfl (cell_one_new _ _ _) (by intro u hu; simp at hu; subst hu; rfl) (by unfold maxLen; omega) (by omega) (by have := HS.out; simp; omega) ?_; intro v1 w1 h1own hg1 _ _; have R1 := Lib.hid h1own; have R2 := Lib.hid hg1; clear h1own hg1))
            go_roundw
            case rel => exact ⟨k + 1, by omega, by go_num, by rw [HT.out, ST.out.1], own_snoc R1.out (by rw [HT.out, ST.out.2]), bel_snoc HB.out HV.out R2.out⟩
            case measure => simp [intOf]; omega
      · obtain rfl : k = xs.length := by omega
        rw [take_all] at HD
        rw [take_all] at HV hlk
        cases d with
        | true =>
          have E := end_done HD.out
          rw [E] at HV
          have R := Lib.hid (show Reads wr.heap.size wr u5 (ins n xs) from reads_own HV.out (insOut_wf HN.out HW.out) (Nat.le_refl _))
          clear E
          go_wp2_with fail
          go_ret
          exact ⟨_, rfl, R.out, HB.out⟩
        | false =>
          have E := Lib.hid (end_low HD.out)
          go_wp2_with ((at_builtin; refine wpList_append_own_at _ rfl (.tmp 41) (.tmp 43) 22 rfl w.heap.size 3 i0 (.int .i64 0) 1 8 Try.underlying22 HI.out HZ0.out HZ1.out HZ2.out rfl (by decide) _ _ _ rfl (HV.out.alloc _) ⟨wr.heap.size, 0, none⟩ 1 1 [.int .i64 n] rfl rfl (cell_one_new _ _ _) (by intro u hu; simp at hu; subst hu; rfl) (by unfold maxLen; omega) (by omega) (by have := HS.out; simp; omega) ?_; intro v1 w1 h1own hg1 _ _; have R1 := Lib.hid h1own; have R2 := Lib.hid hg1; clear h1own hg1))
          go_ret
          have h3 := own_snoc (x := n) (ys := ins n xs) R1.out E.out.symm
          exact ⟨_, rfl, reads_own h3 (insOut_wf HN.out HW.out) (Nat.le_refl _), bel_snoc HB.out HV.out R2.out⟩

end Go.Proofs.Ytjlnlcnddhilhaa.Rsets
