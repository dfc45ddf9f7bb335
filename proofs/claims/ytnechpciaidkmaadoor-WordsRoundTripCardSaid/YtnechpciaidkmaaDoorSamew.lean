/- isLine, and the reference's comparisons of lists. -/
import Derived.Test.YtnechpciaidkmaaDoorRword
import Derived.Test.YtnechpciaidkmaaDoorRows2
import Derived.Test.YtnechpciaidkmaaDoorDebw
namespace Go.Proofs.YtnechpciaidkmaaDoor.Samew
open Go.RowKit Go.Lib Go.Proofs.YtnechpciaidkmaaDoor.Text Go.Proofs.YtnechpciaidkmaaDoor.Numt Go.Proofs.YtnechpciaidkmaaDoor.Kind Go.Proofs.YtnechpciaidkmaaDoor.Word Go.Proofs.YtnechpciaidkmaaDoor.Rword Go.Proofs.YtnechpciaidkmaaDoor.Reads Go.Proofs.YtnechpciaidkmaaDoor.Rows2 Go.Proofs.YtnechpciaidkmaaDoor.Debw

theorem drop_cons {α : Type} {l : List α} {k : Nat} {x : α} (h : l[k]? = some x) : l.drop k = x :: l.drop (k + 1) := by
  obtain ⟨hk, hx⟩ := List.getElem?_eq_some_iff.1 h
  rw [List.drop_eq_getElem_cons hk, hx]
theorem line_eq (ws : List (List UInt8)) : lineL ws = (ws.all wordL && decide (0 < ws.length)) := by
  unfold lineL
  rw [Bool.and_comm]
  congr 1
  exact decide_eq_decide.2 ⟨fun h => List.length_pos_iff.2 h, fun h => List.length_pos_iff.1 h⟩

set_option maxRecDepth 100000 in
theorem line_any {v : Value} {ws : List (List UInt8)} {w : World} (h : Strs (fun b => b < w.heap.size) w v ws) :
    Calls Tryd.prog 31 #[v] w (BoolOut (lineL ws) w) := by
  obtain ⟨a, cap, rfl, hm, _, _, hc⟩ := h.shape
  have HC := Lib.hid hc
  have e := line_eq ws
  obtain ⟨W, hW⟩ : ∃ W, lineL ws = W := ⟨_, rfl⟩
  obtain ⟨A, hA⟩ : ∃ A, ws.all wordL = A := ⟨_, rfl⟩
  rw [hW, hA] at e
  rw [hW]
  have HE := Lib.hid e
  have HA := Lib.hid hA
  clear h hc e hW hA
  go_enter Tryd.func31, Tryd.ntmps31
  go_wp2_with fail
  go_loopw [7] (fun vi wr => ∃ k : Nat, vi = .int .i64 k ∧ k ≤ ws.length ∧ (ws.drop k).all wordL = A ∧ Below w.heap.size w wr) (fun vi _ => ws.length - (RowKit.intOf vi).toNat)
  case atStart => exact ⟨0, rfl, Nat.zero_le _, HA.out, Below.refl _ _⟩
  case round =>
    obtain ⟨k, rfl, hk, hr, hbel⟩ := hrel
    have HR := Lib.hid hr
    have HB := Lib.hid hbel
    clear hr hbel
    by_cases hlt : k < ws.length
    · obtain ⟨s, hs⟩ := at_lt hlt
      obtain ⟨_, b, off, rfl, hb, hcell⟩ := HC.out k s hs
      have g1 : wr.cell? ⟨b, off + k, none⟩ = some (.string (bs s)) := (HB.out.cell hb).trans hcell
      have HW := Lib.hid (word_any (bs s) wr)
      rw [bs_list] at HW
      rw [drop_cons hs, List.all_cons] at HR
      clear hs hcell hb
      rcases Bool.eq_false_or_eq_true (wordL s) with h1 | h1
      · rw [h1] at HW HR
        go_wp2_with fail
        refine HW.out.mono ?_
        rintro e w1 ⟨rfl, hb1⟩
        have HB1 := Lib.hid (HB.out.trans (hb1.mono HB.out.size))
        clear hb1
        go_wp2_with fail
        go_roundw
        case rel => exact ⟨k + 1, by simp, by omega, by have := HR.out; rwa [Bool.true_and] at this, HB1.out⟩
        case measure => simp [RowKit.intOf]; omega
      · rw [h1] at HW HR
        have HF := Lib.hid (show A = false by have := HR.out; rwa [Bool.false_and, eq_comm] at this)
        go_wp2_with fail
        refine HW.out.mono ?_
        rintro e w1 ⟨rfl, hb1⟩
        have HB1 := Lib.hid (HB.out.trans (hb1.mono HB.out.size))
        clear hb1
        go_wp2_with fail
        go_ret
        exact ⟨by rw [HE.out, HF.out, Bool.false_and]; rfl, HB1.out⟩
    · have HF := Lib.hid (show A = true by
        have := HR.out
        rw [List.drop_eq_nil_of_le (by omega)] at this
        exact this.symm)
      by_cases h0 : 0 < ws.length
      · have h0' : decide ((0 : Int) < ws.length) = true := decide_eq_true (by omega)
        go_wp2_with fail
        go_ret
        exact ⟨by rw [HE.out, HF.out, decide_eq_true h0]; rfl, HB.out⟩
      · have h0' : decide ((0 : Int) < ws.length) = false := decide_eq_false (by omega)
        go_wp2_with fail
        go_ret
        exact ⟨by rw [HE.out, decide_eq_false h0, Bool.and_false]; rfl, HB.out⟩

set_option maxRecDepth 100000 in
theorem sameLine_any {va vb : Value} {ws : List (List UInt8)} {w : World} (h : Strs (fun b => b < w.heap.size) w va ws) (h2 : Strs (fun b => b < w.heap.size) w vb ws) :
    Calls Tryd.prog 33 #[va, vb] w (BoolOut true w) := by
  obtain ⟨a, cap, rfl, hm, _, _, hc⟩ := h.shape
  obtain ⟨a2, cap2, rfl, _, _, _, hc2⟩ := h2.shape
  have HC := Lib.hid hc
  have HC2 := Lib.hid hc2
  clear h h2 hc hc2
  go_enter Tryd.func33, Tryd.ntmps33
  go_wp2_with fail
  go_loopw [5] (fun vi wr => ∃ k : Nat, vi = .int .i64 k ∧ k ≤ ws.length ∧ Below w.heap.size w wr) (fun vi _ => ws.length - (RowKit.intOf vi).toNat)
  case atStart => exact ⟨0, rfl, Nat.zero_le _, Below.refl _ _⟩
  case round =>
    obtain ⟨k, rfl, hk, hbel⟩ := hrel
    have HB := Lib.hid hbel
    clear hbel
    by_cases hlt : k < ws.length
    · obtain ⟨s, hs⟩ := at_lt hlt
      obtain ⟨_, b, off, rfl, hb, hcell⟩ := HC.out k s hs
      obtain ⟨_, b2, off2, rfl, hb2, hcell2⟩ := HC2.out k s hs
      have g1 : wr.cell? ⟨b, off + k, none⟩ = some (.string (bs s)) := (HB.out.cell hb).trans hcell
      have g2 : wr.cell? ⟨b2, off2 + k, none⟩ = some (.string (bs s)) := (HB.out.cell hb2).trans hcell2
      clear hs hcell hb hcell2 hb2
      go_wp2_with fail
      go_quiet (fail)
      go_wp2_with fail
      go_roundw
      case rel => exact ⟨k + 1, by simp, by omega, below_drewN HB.out _⟩
      case measure => simp [RowKit.intOf]; omega
    · obtain rfl : k = ws.length := by omega
      go_wp2_with fail
      go_ret
      exact ⟨rfl, HB.out⟩

set_option maxRecDepth 100000 in
set_option maxHeartbeats 800000 in
theorem same_any {va vb : Value} {ls : List (List (List UInt8))} {w : World} (h : Lns (fun b => b < w.heap.size) w va ls) (h2 : Lns (fun b => b < w.heap.size) w vb ls) :
    Calls Tryd.prog 14 #[va, vb] w (BoolOut true w) := by
  obtain ⟨a, cap, rfl, hm, _, _, hc⟩ := h.shape
  obtain ⟨a2, cap2, rfl, _, _, _, hc2⟩ := h2.shape
  have HC := Lib.hid hc
  have HC2 := Lib.hid hc2
  clear h h2 hc hc2
  go_enter Tryd.func14, Tryd.ntmps14
  go_wp2_with fail
  go_loopw [5] (fun vi wr => ∃ k : Nat, vi = .int .i64 k ∧ k ≤ ls.length ∧ Below w.heap.size w wr) (fun vi _ => ls.length - (RowKit.intOf vi).toNat)
  case atStart => exact ⟨0, rfl, Nat.zero_le _, Below.refl _ _⟩
  case round =>
    obtain ⟨k, rfl, hk, hbel⟩ := hrel
    have HB := Lib.hid hbel
    clear hbel
    by_cases hlt : k < ls.length
    · obtain ⟨l, hl⟩ := at_lt hlt
      obtain ⟨b, off, x, rfl, hb, hcell, hx⟩ := HC.out k l hl
      obtain ⟨b2, off2, y, rfl, hb2, hcell2, hy⟩ := HC2.out k l hl
      have c1 := (HB.out.cell hb).trans hcell
      have c2 := (HB.out.cell hb2).trans hcell2
      have g1 := cell_regrown c1
      have g2 := cell_regrown c2
      have hx' := hx.keep (keep_below HB.out HB.out.size)
      have hy' := hy.keep (keep_below HB.out HB.out.size)
      have CL := Lib.hid (fun d os => Calls.regrown_of (w := wr) (d := d) (os := os) (sameLine_any (hx'.keep (keep_next (below_regrown wr d os))) (hy'.keep (keep_next (below_regrown wr d os)))))
      clear hl hcell hb hcell2 hb2 hx hy hx' hy'
      go_wp2_with fail
      refine wp_region_quiet_below (by kernel_rfl) (by kernel_rfl) ?_
      repeat (quiet_step (with_reducible exact CL.out _ _))
      refine wpQuiet_nil ?_
      intro w1 hw'
      obtain ⟨⟨dq, osq⟩, hw''⟩ := hw'
      subst hw''
      have HB2 := Lib.hid (bel_next HB.out (below_regrown wr dq osq))
      go_wp2_with fail
      go_roundw
      case rel => exact ⟨k + 1, by simp, by omega, HB2.out⟩
      case measure => simp [RowKit.intOf]; omega
    · obtain rfl : k = ls.length := by omega
      go_wp2_with fail
      go_ret
      exact ⟨rfl, HB.out⟩

theorem rcell {B : Nat} {w : World} {a : Option Addr} {n cap : Nat} {xs : List Int} (h : Reads B w (.slice a n cap) xs) :
    n = xs.length ∧ ∀ k, k < xs.length → ∃ b off, a = some ⟨b, off, none⟩ ∧ b < B ∧ w.cell? ⟨b, off + k, none⟩ = some (.int .i64 (xs.getD k 0)) := by
  obtain ⟨a', cap', h1, h2, h3, h4, h5⟩ := h
  cases h1
  refine ⟨rfl, fun k hk => ?_⟩
  rcases h5 with rfl | ⟨b, off, rfl, hb, hc⟩
  · cases hk
  · exact ⟨b, off, rfl, hb, hc k hk⟩
theorem rshape {B : Nat} {w : World} {v : Value} {xs : List Int} (h : Reads B w v xs) : ∃ a cap, v = .slice a xs.length cap ∧ (xs.length : Int) ≤ 9223372036854775807 := by
  have hm := h.len
  obtain ⟨a, cap, h1, _⟩ := h
  exact ⟨a, cap, h1, by unfold maxLen at hm; omega⟩
theorem ints_next {W w' : World} {v : Value} {xs : List Int} (R : Reads W.heap.size W v xs) (hb : Below W.heap.size W w') : Reads w'.heap.size w' v xs := (R.below (Nat.le_refl _) hb).mono hb.size

set_option maxRecDepth 100000 in
theorem sameInts_any {va vb : Value} {xs : List Int} {w : World} (h : Reads w.heap.size w va xs) (h2 : Reads w.heap.size w vb xs) :
    Calls Tryd.prog 26 #[va, vb] w (BoolOut true w) := by
  obtain ⟨a, cap, rfl, hm⟩ := rshape h
  obtain ⟨a2, cap2, rfl, _⟩ := rshape h2
  have HC := Lib.hid (rcell h).2
  have HC2 := Lib.hid (rcell h2).2
  clear h h2
  go_enter Tryd.func26, Tryd.ntmps26
  go_wp2_with fail
  go_loopw [5] (fun vi wr => ∃ k : Nat, vi = .int .i64 k ∧ k ≤ xs.length ∧ Below w.heap.size w wr) (fun vi _ => xs.length - (RowKit.intOf vi).toNat)
  case atStart => exact ⟨0, rfl, Nat.zero_le _, Below.refl _ _⟩
  case round =>
    obtain ⟨k, rfl, hk, hbel⟩ := hrel
    have HB := Lib.hid hbel
    clear hbel
    by_cases hlt : k < xs.length
    · obtain ⟨b, off, rfl, hb, hc0⟩ := HC.out k hlt
      obtain ⟨b2, off2, rfl, hb2, hc2⟩ := HC2.out k hlt
      obtain ⟨x, hx⟩ : ∃ x, xs.getD k 0 = x := ⟨_, rfl⟩
      rw [hx] at hc0 hc2
      have g1 : wr.cell? ⟨b, off + k, none⟩ = some (.int .i64 x) := (HB.out.cell hb).trans hc0
      have g2 : wr.cell? ⟨b2, off2 + k, none⟩ = some (.int .i64 x) := (HB.out.cell hb2).trans hc2
      clear hx hc0 hc2 hb hb2
      go_wp2_with fail
      go_quiet (fail)
      go_wp2_with fail
      go_roundw
      case rel => exact ⟨k + 1, by simp, by omega, below_drewN HB.out _⟩
      case measure => simp [RowKit.intOf]; omega
    · obtain rfl : k = xs.length := by omega
      go_wp2_with fail
      go_ret
      exact ⟨rfl, HB.out⟩

end Go.Proofs.YtnechpciaidkmaaDoor.Samew
