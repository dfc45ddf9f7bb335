/- Join of words. -/
import Derived.Test.YtnechpciaidkmaaDoorBldw
import Derived.Test.YtnechpciaidkmaaDoorLinw
import Derived.Test.YtnechpciaidkmaaDoorFmtw
namespace Go.Proofs.YtnechpciaidkmaaDoor.Joinw
open Go.RowKit Go.Lib Go.Proofs.YtnechpciaidkmaaDoor.Text Go.Proofs.YtnechpciaidkmaaDoor.Kind Go.Proofs.YtnechpciaidkmaaDoor.Word Go.Proofs.YtnechpciaidkmaaDoor.Rword Go.Proofs.YtnechpciaidkmaaDoor.Reads Go.Proofs.YtnechpciaidkmaaDoor.Rows2 Go.Proofs.YtnechpciaidkmaaDoor.Samew Go.Proofs.YtnechpciaidkmaaDoor.Debw Go.Proofs.YtnechpciaidkmaaDoor.Ownl Go.Proofs.YtnechpciaidkmaaDoor.Linw Go.Proofs.YtnechpciaidkmaaDoor.Bldw Go.Proofs.YtnechpciaidkmaaDoor.Fmtw

theorem tail_len (c : UInt8) : ∀ ps : List (List UInt8), ps.length ≤ (tailL c ps).length
  | [] => Nat.zero_le _
  | p :: ps => by
    have := tail_len c ps
    simp only [tailL, List.map_cons, List.flatten_cons, List.length_append, List.length_cons] at this ⊢
    omega
theorem join_count (c : UInt8) : ∀ ps : List (List UInt8), ps.length ≤ (Lib.join ps [c]).length + 1
  | [] => by simp
  | p :: ps => by
    have := tail_len c ps
    rw [join_tail, List.length_append, List.length_cons]
    omega
theorem line_le {ls : List (List (List UInt8))} {l : List (List UInt8)} (h : l ∈ ls) : (Lib.join l [32]).length + 1 ≤ (joinT ls).length := by
  induction ls with
  | nil => cases h
  | cons x ls ih =>
    rw [joinT_cons, List.length_append]
    rcases List.mem_cons.1 h with rfl | h
    · have : (lineT l).length = (Lib.join l [32]).length + 1 := by simp [lineT]
      omega
    · have := ih h; omega
theorem take_le (ls : List (List (List UInt8))) (k : Nat) : (joinT (ls.take k)).length ≤ (joinT ls).length := by
  induction ls generalizing k with
  | nil => simp
  | cons x ls ih =>
    cases k with
    | zero => simp [joinT]
    | succ k =>
      rw [List.take_succ_cons, joinT_cons, joinT_cons, List.length_append, List.length_append]
      have := ih k
      omega
theorem take_at {ls : List (List (List UInt8))} {k : Nat} {l : List (List UInt8)} (h : ls[k]? = some l) : joinT (ls.take (k + 1)) = joinT (ls.take k) ++ lineT l := by
  rw [List.take_add_one, h]
  exact joinT_snoc _ _
theorem take_full {α : Type} {ls : List α} {k : Nat} (h : ¬ k < ls.length) : ls.take k = ls := List.take_of_length_le (by omega)

/-- strings.Join at one byte. -/
theorem joins_any (c : UInt8) {v : Value} {ws : List (List UInt8)} {w : World} (h : Strs (fun b => b < w.heap.size) w v ws) (h0 : ws ≠ []) (hj : (Lib.join ws [c]).length ≤ 1000000000000) :
    Calls Tryd.prog 35 #[v, .string ⟨#[c]⟩] w fun e w' => e = .returned (.string (bs (Lib.join ws [c]))) ∧ Below w.heap.size w w' := by
  have hcount := join_count c ws
  obtain ⟨⟨a, cap, rfl, h2, h3, h4⟩, _⟩ := h
  rw [strV_len] at h2 ⊢
  have hmap : (ws.map bs).map (·.data.toList) = ws := by
    rw [List.map_map]
    have : ((fun x : ByteArray => x.data.toList) ∘ bs) = id := by funext x; rfl
    rw [this, List.map_id]
  rcases h4 with h4 | ⟨b, off, rfl, hb, hc⟩
  · exact absurd (by simpa [strV] using h4) h0
  · have hlen : (ws.map bs).length = ws.length := by simp
    have := Tryd.strings_Join b off cap (ws.map bs) ⟨#[c]⟩ w (fun j x hx => by
      refine hc j _ ?_
      rw [List.getElem?_map] at hx
      obtain ⟨y, hy, rfl⟩ := Option.map_eq_some_iff.1 hx
      exact strV_at hy) hb (by rw [hlen]; omega) (by rw [hlen]; exact h2) (by rw [hmap]; show (Lib.join ws [c]).length ≤ _; omega)
    rw [hmap, hlen] at this
    exact this

/-- The answer of Join, as the call hands it back. -/
def joinV (ls : List (List (List UInt8))) : Value := .tuple #[.string (bs (joinR ls).1), .int .i64 ((joinR ls).2 : Int)]
theorem joinV_of {ls : List (List (List UInt8))} {t : (List UInt8)} {e : Nat} (h : joinR ls = (t, e)) : joinV ls = .tuple #[.string (bs t), .int .i64 (e : Int)] := by rw [joinV, h]
theorem join_bad {ls : List (List (List UInt8))} (h : ls.all lineL = false) : joinR ls = ([], 1) := by rw [joinR, if_pos h]
theorem join_long {ls : List (List (List UInt8))} (h : ls.all lineL = true) (hl : 32768 < (joinT ls).length) : joinR ls = ([], 2) := by rw [joinR, if_neg (by simp [h]), if_pos hl]
theorem join_good {ls : List (List (List UInt8))} (h : ls.all lineL = true) (hl : ¬ 32768 < (joinT ls).length) : joinR ls = (joinT ls, 0) := by rw [joinR, if_neg (by simp [h]), if_neg hl]
theorem line_ne {l : List (List UInt8)} (h : lineL l = true) : l ≠ [] := by
  simp only [lineL, Bool.and_eq_true, decide_eq_true_eq] at h
  exact h.1

/-- What holds at the head of the second loop. -/
def JRel (ls : List (List (List UInt8))) (w : World) (vi : Value) (wr : World) : Prop :=
  ∃ k : Nat, vi = .int .i64 k ∧ k ≤ ls.length ∧ (joinT (ls.take k)).length ≤ 32768 ∧ IsBuilder 52 5 w.heap.size w.heap.size (byteCells (joinT (ls.take k))) wr ∧ Below w.heap.size w wr

set_option maxRecDepth 100000 in
set_option maxHeartbeats 1600000 in
theorem join_any {v : Value} {ls : List (List (List UInt8))} {w : World} (h : Lns (fun b => b < w.heap.size) w v ls) (hT : (joinT ls).length ≤ 1000000000000) :
    Calls Tryd.prog 16 #[v] w fun e w' => e = .returned (joinV ls) ∧ Below w.heap.size w w' := by
  obtain ⟨a, cap, rfl, hm, _, _, hc⟩ := h.shape
  have HC := Lib.hid hc
  have HT := Lib.hid hT
  obtain ⟨A, hA⟩ : ∃ A, ls.all lineL = A := ⟨_, rfl⟩
  have HA := Lib.hid hA
  clear h hc hA hT
  go_enter Tryd.func16, Tryd.ntmps16
  go_wp2_with fail
  go_loopw [11] (fun vi wr => ∃ k : Nat, vi = .int .i64 k ∧ k ≤ ls.length ∧ (ls.drop k).all lineL = A ∧ Below w.heap.size w wr) (fun vi _ => ls.length - (RowKit.intOf vi).toNat)
  case atStart => exact ⟨0, rfl, Nat.zero_le _, HA.out, Below.refl _ _⟩
  case round =>
    obtain ⟨k, rfl, hk, hr, hbel⟩ := hrel
    have HR := Lib.hid hr
    have HB := Lib.hid hbel
    clear hr hbel
    by_cases hlt : k < ls.length
    · obtain ⟨l, hl⟩ := at_lt hlt
      obtain ⟨b, off, x, rfl, hb, hcell, hx⟩ := HC.out k l hl
      have g1 := (HB.out.cell hb).trans hcell
      have HW := Lib.hid (line_any (hx.keep (keep_below HB.out HB.out.size)))
      rw [drop_cons hl, List.all_cons] at HR
      clear hl hcell hb hx
      rcases Bool.eq_false_or_eq_true (lineL l) with h1 | h1
      · rw [h1] at HW HR
        go_wp2_with fail
        refine HW.out.mono ?_
        rintro e w1 ⟨rfl, hb1⟩
        have HB1 := Lib.hid (HB.out.trans (hb1.mono HB.out.size))
        clear hb1
        go_wp2_with fail
        go_roundw
        case rel => exact ⟨k + 1, by simp, by omega, by have := HR.out; rwa [Bool.true_and] at this, HB1.out⟩
        case measure => simp [RowKit.intOf]; omega
      · rw [h1] at HW HR
        have HF := Lib.hid (show A = false by have := HR.out; rwa [Bool.false_and, eq_comm] at this)
        have HG := Lib.hid (joinV_of (join_bad (HA.out.trans HF.out)))
        go_wp2_with fail
        refine HW.out.mono ?_
        rintro e w1 ⟨rfl, hb1⟩
        have HB1 := Lib.hid (HB.out.trans (hb1.mono HB.out.size))
        clear hb1
        go_wp2_with fail
        go_ret2
        exact ⟨by rw [HG.out]; rfl, HB1.out⟩
    · have hAt : A = true := by
        have := HR.out
        rw [List.drop_eq_nil_of_le (by omega)] at this
        exact this.symm
      have HAL := Lib.hid (HA.out.trans hAt)
      obtain ⟨W1, rfl⟩ : ∃ g, g = wr := ⟨_, rfl⟩
      have HF := Lib.hid (fresh_isBuilder 52 5 W1)
      have HFB := Lib.hid ((Below.refl W1.heap.size W1).alloc (Nat.le_refl _) (.cells #[.pointer none, .slice none 0 0] 52))
      clear hAt
      obtain rfl : k = ls.length := by omega
      clear hk hlt
      go_wp2_with fail
      go_loopw [21] (fun vi wr => JRel ls W1 vi wr) (fun vi _ => ls.length - (RowKit.intOf vi).toNat)
      case atStart => exact ⟨0, rfl, Nat.zero_le _, by simp [joinT], HF.out, HFB.out⟩
      case round =>
        obtain ⟨q, rfl, hq, hql, hqb, hqB⟩ := hrel
        have HQB := Lib.hid hqb
        have HQ := Lib.hid hqB
        have hsz0 : W1.heap.size ≤ wr.heap.size := hqB.size
        clear hqb hqB
        by_cases hlt2 : q < ls.length
        · obtain ⟨l, hl⟩ := at_lt hlt2
          obtain ⟨b, off, x, rfl, hb, hcell, hx⟩ := HC.out q l hl
          have HBQ := Lib.hid (HB.out.trans (HQ.out.mono HB.out.size))
          have g1 := (HBQ.out.cell hb).trans hcell
          have hll := line_le (List.mem_of_getElem? hl)
          have hlineL : lineL l = true := List.all_eq_true.1 HAL.out l (List.mem_of_getElem? hl)
          have HJ := Lib.hid (joins_any 32 (hx.keep (keep_below HBQ.out HBQ.out.size)) (line_ne hlineL) (by have := HT.out; omega))
          have HAdd := Lib.hid (fun w => add_bs (P := Tryd.prog) (Lib.join l [32]) [10] (by have := HT.out; simp; omega) w)
          have hadd : ∀ w, (Op.stringOp .add (bs (Lib.join l [32])) ⟨#[10]⟩).run Tryd.prog w = .ok (.string (bs (Lib.join l [32] ++ [10]))) w := HAdd.out
          have HTK := Lib.hid (take_at hl)
          have hmono := take_le ls (q + 1)
          obtain ⟨L, hL⟩ : ∃ L, Lib.join l [32] ++ [10] = L := ⟨_, rfl⟩
          have hlt' : lineT l = L := hL
          have hLlen : L.length ≤ 1000000000000 := by
            have := HT.out
            rw [← hL, List.length_append]
            simp
            omega
          rw [hL] at hadd
          rw [hlt'] at HTK
          have HLL := Lib.hid hLlen
          have hTL : (joinT (ls.take (q + 1))).length = (joinT (ls.take q)).length + L.length := by rw [HTK.out, List.length_append]
          clear hl hcell hb hx hlineL hL hlt' HAdd
          go_wp2_with fail
          refine HJ.out.mono ?_
          rintro e w3 ⟨rfl, hb3⟩
          have HB3 := Lib.hid hb3
          have HQ3 := Lib.hid (HQ.out.trans (hb3.mono hsz0))
          have HF3 := Lib.hid (builder_below HQB.out hb3)
          clear hb3
          go_wp2_with fail
          refine (write_any _ _ _ (bs L) _ HF3.out (by rw [bs_size]; simp [byteCells]; have := HLL.out; omega) HQ3.out.size).mono ?_
          rintro e w4 ⟨rfl, F, hb4⟩
          have HB4 := Lib.hid (HQ3.out.trans hb4)
          rw [strCells_bs, ← byteCells_append, ← HTK.out] at F
          have HF4 := Lib.hid F
          clear F hb4
          go_wp2_with fail
          refine (Tryd.Builder_Len _ _ _ _ HF4.out).mono ?_
          rintro e w4 ⟨rfl, rfl⟩
          rw [show (byteCells (joinT (ls.take (q + 1)))).length = (joinT (ls.take (q + 1))).length by simp [byteCells]]
          have HTL := Lib.hid hTL
          clear hTL
          obtain ⟨N, hN⟩ : ∃ N, (joinT (ls.take (q + 1))).length = N := ⟨_, rfl⟩
          rw [hN] at hmono ⊢
          have HN := Lib.hid hN
          clear hN
          by_cases hov : 32768 < N
          · have HG := Lib.hid (joinV_of (join_long HAL.out (show 32768 < (joinT ls).length by omega)))
            go_wp2_with fail
            go_ret2
            exact ⟨by rw [HG.out]; rfl, HB.out.trans (HB4.out.mono HB.out.size)⟩
          · go_wp2_with fail
            go_roundw
            case rel => exact ⟨q + 1, by simp, by omega, by rw [HN.out]; omega, HF4.out, HB4.out⟩
            case measure => simp [RowKit.intOf]; omega
        · have HTF := Lib.hid (take_full (ls := ls) hlt2)
          rw [HTF.out] at HQB hql
          have HG := Lib.hid (joinV_of (join_good HAL.out (show ¬ 32768 < (joinT ls).length by omega)))
          go_wp2_with fail
          refine (Tryd.Builder_String_any _ _ _ _ HQB.out hsz0).mono ?_
          rintro e w6 ⟨rfl, b6⟩
          have HB6 := Lib.hid (HQ.out.trans b6)
          clear b6
          go_wp2_with fail
          go_ret2
          exact ⟨by rw [HG.out]; rfl, HB.out.trans (HB6.out.mono HB.out.size)⟩

end Go.Proofs.YtnechpciaidkmaaDoor.Joinw
