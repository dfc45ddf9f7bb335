/- Texts of this proof, merged: Rjoinw. -/
import Derived.Test.YtfdipcphohhlgaaGreatDoorG12

/- Join of the reference, and the statements' bound on lists. -/
namespace Go.Proofs.YtfdipcphohhlgaaGreatDoor.Rjoinw
open Go.RowKit Go.Lib Go.Proofs.YtfdipcphohhlgaaGreatDoor.Text Go.Proofs.YtfdipcphohhlgaaGreatDoor.Kind Go.Proofs.YtfdipcphohhlgaaGreatDoor.Word Go.Proofs.YtfdipcphohhlgaaGreatDoor.Rword Go.Proofs.YtfdipcphohhlgaaGreatDoor.Reads Go.Proofs.YtfdipcphohhlgaaGreatDoor.Rows2 Go.Proofs.YtfdipcphohhlgaaGreatDoor.Samew Go.Proofs.YtfdipcphohhlgaaGreatDoor.Debw Go.Proofs.YtfdipcphohhlgaaGreatDoor.Ownl Go.Proofs.YtfdipcphohhlgaaGreatDoor.Linw Go.Proofs.YtfdipcphohhlgaaGreatDoor.Joinw Go.Proofs.YtfdipcphohhlgaaGreatDoor.Fmtw

theorem join_snoc (c : UInt8) {ps : List (List UInt8)} (p : (List UInt8)) (h : ps ≠ []) : Lib.join (ps ++ [p]) [c] = Lib.join ps [c] ++ c :: p := by
  cases ps with
  | nil => exact absurd rfl h
  | cons q qs =>
    rw [List.cons_append, join_tail, join_tail]
    simp [tailL]
theorem take_snoc {α : Type} {l : List α} {q : Nat} {p : α} (h : l[q]? = some p) : l.take (q + 1) = l.take q ++ [p] := by
  rw [List.take_add_one, h]
  rfl
theorem tail_take_le (c : UInt8) (ps : List (List UInt8)) (q : Nat) : (tailL c (ps.take q)).length ≤ (tailL c ps).length := by
  induction ps generalizing q with
  | nil => simp
  | cons p ps ih =>
    cases q with
    | zero => simp [tailL]
    | succ q =>
      have := ih q
      simp only [tailL, List.take_succ_cons, List.map_cons, List.flatten_cons, List.length_append] at this ⊢
      omega
theorem join_take_le (c : UInt8) (ps : List (List UInt8)) (q : Nat) : (Lib.join (ps.take q) [c]).length ≤ (Lib.join ps [c]).length := by
  cases ps with
  | nil => simp
  | cons p ps =>
    cases q with
    | zero => simp [join_nil]
    | succ q =>
      rw [List.take_succ_cons, join_tail, join_tail, List.length_append, List.length_append]
      have := tail_take_le c ps q
      omega
theorem line_bound {ls : List (List (List UInt8))} {k : Nat} {l : List (List UInt8)} (h : ls[k]? = some l) (hT : (joinT ls).length ≤ 1000000000000) (q : Nat) : (joinT (ls.take k)).length + (Lib.join (l.take q) [32]).length + 1 ≤ 1000000000000 := by
  have h1 := take_at h
  have h2 := take_le ls (k + 1)
  have h3 := join_take_le 32 l q
  have h4 : (lineT l).length = (Lib.join l [32]).length + 1 := by simp [lineT]
  rw [h1, List.length_append] at h2
  omega
theorem line_of {l : List (List UInt8)} (h : l ≠ []) : lineL l = l.all wordL := by
  rw [lineL, decide_eq_true h, Bool.true_and]
theorem bad_rest {ls : List (List (List UInt8))} {k : Nat} {l : List (List UInt8)} {A : Bool} (hl : ls[k]? = some l) (hr : (ls.drop k).all lineL = A) (hb : lineL l = false) : A = false := by
  rw [← hr, drop_cons hl, List.all_cons, hb, Bool.false_and]

set_option maxRecDepth 100000 in
set_option maxHeartbeats 3200000 in
theorem rjoin_any {v : Value} {ls : List (List (List UInt8))} {w : World} (h : Lns (fun b => b < w.heap.size) w v ls) (hT : (joinT ls).length ≤ 1000000000000) :
    Calls Tryz.prog 16 #[v] w fun e w' => e = .returned (joinV ls) ∧ Below w.heap.size w w' := by
  obtain ⟨a, cap, rfl, hm, _, _, hc⟩ := h.shape
  have HC := Lib.hid hc
  have HT := Lib.hid hT
  obtain ⟨A, hA⟩ : ∃ A, ls.all lineL = A := ⟨_, rfl⟩
  have HA := Lib.hid hA
  clear h hc hA hT
  go_enter Tryz.func16, Tryz.ntmps16
  go_wp2_with fail
  go_loopw [4, 5] (fun vs vi wr => ∃ k : Nat, vs = .string (bs (joinT (ls.take k))) ∧ vi = .int .i64 k ∧ k ≤ ls.length ∧ (ls.drop k).all lineL = A ∧ wr = w) (fun _ vi _ => ls.length - (RowKit.intOf vi).toNat)
  case atStart => exact ⟨0, rfl, rfl, Nat.zero_le _, HA.out, rfl⟩
  case round =>
    obtain ⟨k, rfl, rfl, hk, hr, rfl⟩ := hrel
    have HR := Lib.hid hr
    clear hr
    by_cases hlt : k < ls.length
    · obtain ⟨l, hl⟩ := at_lt hlt
      obtain ⟨b, off, x, rfl, hb, hcell, hx⟩ := HC.out k l hl
      obtain ⟨al, cl, rfl, hlm, _, _, hlc⟩ := hx.shape
      have HLC := Lib.hid hlc
      have HLB := Lib.hid (line_bound hl HT.out)
      have HL := Lib.hid hl
      clear hb hx hlc hl
      by_cases hne : l = []
      · subst hne
        have HG := Lib.hid (joinV_of (join_bad (HA.out.trans (bad_rest HL.out HR.out rfl))))
        go_wp2_with fail
        go_ret2
        exact ⟨by rw [HG.out]; rfl, Below.refl _ _⟩
      · have hl0 : ((l.length : Int) == 0) = false := by
          have := List.length_pos_iff.2 hne
          rw [beq_eq_false_iff_ne]; omega
        have HLE := Lib.hid (line_of hne)
        clear hne
        go_wp2_with fail
        clear hl0
        obtain ⟨W0, rfl⟩ : ∃ g, g = wr := ⟨_, rfl⟩
        go_loopw [4, 6] (fun vs vq wr => ∃ q : Nat, vs = .string (bs (joinT (ls.take k) ++ Lib.join (l.take q) [32])) ∧ vq = .int .i64 q ∧ q ≤ l.length ∧ (l.drop q).all wordL = lineL l ∧ wr = W0) (fun _ vq _ => l.length - (RowKit.intOf vq).toNat)
        case atStart => exact ⟨0, by simp [join_nil], rfl, Nat.zero_le _, HLE.out.symm, rfl⟩
        case round =>
          obtain ⟨q, rfl, rfl, hq, hrq, rfl⟩ := hrel
          have HRQ := Lib.hid hrq
          clear hrq
          by_cases hltq : q < l.length
          · obtain ⟨p, hp⟩ := at_lt hltq
            obtain ⟨hps, b2, off2, rfl, hb2, hcell2⟩ := HLC.out q p hp
            have HP := Lib.hid hp
            have HW := Lib.hid (fun w => rword_any (bs p) w (by rw [bs_size]; unfold maxLen at hps; omega))
            rw [bs_list] at HW
            have HLq := HLB.out (q + 1)
            clear hp hb2
            rcases Bool.eq_false_or_eq_true (wordL p) with h1 | h1
            · rw [h1] at HW
              have HN := Lib.hid (show (l.drop (q + 1)).all wordL = lineL l by
                have := HRQ.out
                rwa [drop_cons HP.out, List.all_cons, h1, Bool.true_and] at this)
              clear h1
              by_cases hq0 : q = 0
              · subst hq0
                have hj : Lib.join (l.take 1) [32] = p := by rw [take_snoc HP.out]; exact join_one _ _
                rw [hj] at HLq
                have hadd : ∀ w, (Op.stringOp .add (bs (joinT (ls.take k) ++ Lib.join (l.take 0) [32])) (bs p)).run Tryz.prog w = .ok (.string (bs (joinT (ls.take k) ++ Lib.join (l.take 1) [32]))) w := by
                  intro w
                  rw [add_bs _ _ (by rw [List.take_zero, join_nil, List.append_nil]; omega), hj, List.take_zero, join_nil, List.append_nil]
                have hc0 : wr.cell? ⟨b2, off2, none⟩ = some (.string (bs p)) := hcell2
                obtain ⟨X, hX⟩ : ∃ X, joinT (ls.take k) ++ Lib.join (l.take 0) [32] = X := ⟨_, rfl⟩
                obtain ⟨Z, hZ⟩ : ∃ Z, joinT (ls.take k) ++ Lib.join (l.take 1) [32] = Z := ⟨_, rfl⟩
                have HZ := Lib.hid hZ
                rw [hX, hZ] at hadd
                rw [hX]
                clear hj HLq hX hZ hcell2
                go_wp2_with fail
                refine (HW.out _).mono ?_
                rintro e wr ⟨rfl, rfl⟩
                go_wp2_with fail
                go_roundw
                case rel => exact ⟨1, by rw [HZ.out], rfl, by omega, HN.out, by simp⟩
                case measure => simp [RowKit.intOf]; omega
              · have hj : Lib.join (l.take (q + 1)) [32] = Lib.join (l.take q) [32] ++ 32 :: p := by
                  rw [take_snoc HP.out]
                  exact join_snoc 32 p (by
                    intro e
                    have := congrArg List.length e
                    rw [List.length_take, List.length_nil] at this
                    omega)
                rw [hj] at HLq
                have hadd1 : ∀ w, (Op.stringOp .add (bs (joinT (ls.take k) ++ Lib.join (l.take q) [32])) ⟨#[32]⟩).run Tryz.prog w = .ok (.string (bs (joinT (ls.take k) ++ Lib.join (l.take q) [32] ++ [32]))) w := fun w =>
                  add_bs (P := Tryz.prog) _ [32] (by simp at HLq ⊢; omega) w
                have hadd2 : ∀ w, (Op.stringOp .add (bs (joinT (ls.take k) ++ Lib.join (l.take q) [32] ++ [32])) (bs p)).run Tryz.prog w = .ok (.string (bs (joinT (ls.take k) ++ Lib.join (l.take (q + 1)) [32]))) w := by
                  intro w
                  rw [add_bs _ _ (by simp at HLq ⊢; omega), hj]
                  simp
                have hpos : (0 : Int) < q := by omega
                obtain ⟨X, hX⟩ : ∃ X, joinT (ls.take k) ++ Lib.join (l.take q) [32] = X := ⟨_, rfl⟩
                obtain ⟨Z, hZ⟩ : ∃ Z, joinT (ls.take k) ++ Lib.join (l.take (q + 1)) [32] = Z := ⟨_, rfl⟩
                have HZ := Lib.hid hZ
                rw [hX] at hadd1 hadd2
                rw [hZ] at hadd2
                obtain ⟨Y, hY⟩ : ∃ Y, X ++ [32] = Y := ⟨_, rfl⟩
                rw [hY] at hadd1 hadd2
                rw [hX]
                clear hj HLq hX hZ hY
                go_wp2_with fail
                refine (HW.out _).mono ?_
                rintro e wr ⟨rfl, rfl⟩
                go_wp2_with fail
                go_roundw
                case rel => exact ⟨q + 1, by rw [HZ.out], by simp, by omega, HN.out, by simp⟩
                case measure => simp [RowKit.intOf]; omega
            · rw [h1] at HW
              have HN := Lib.hid (show lineL l = false by
                have := HRQ.out
                rwa [drop_cons HP.out, List.all_cons, h1, Bool.false_and, eq_comm] at this)
              have HG := Lib.hid (joinV_of (join_bad (HA.out.trans (bad_rest HL.out HR.out HN.out))))
              clear h1
              go_wp2_with fail
              refine (HW.out _).mono ?_
              rintro e wr ⟨rfl, rfl⟩
              go_wp2_with fail
              go_ret2
              exact ⟨by rw [HG.out]; rfl, Below.refl _ _⟩
          · have hfull := take_full (ls := l) hltq
            rw [hfull]
            have HLq := HLB.out l.length
            rw [List.take_length] at HLq
            have HN := Lib.hid (show lineL l = true by rw [← HRQ.out, List.drop_eq_nil_of_le (by omega)]; rfl)
            have hadd : ∀ w, (Op.stringOp .add (bs (joinT (ls.take k) ++ Lib.join l [32])) ⟨#[10]⟩).run Tryz.prog w = .ok (.string (bs (joinT (ls.take (k + 1))))) w := by
              intro w
              have := add_bs (P := Tryz.prog) (joinT (ls.take k) ++ Lib.join l [32]) [10] (by simp; omega) w
              rw [take_at HL.out, lineT, ← List.append_assoc]
              exact this
            have HNN := Lib.hid (show (ls.drop (k + 1)).all lineL = A by
              have := HR.out
              rwa [drop_cons HL.out, List.all_cons, HN.out, Bool.true_and] at this)
            obtain ⟨X, hX⟩ : ∃ X, joinT (ls.take k) ++ Lib.join l [32] = X := ⟨_, rfl⟩
            obtain ⟨Z, hZ⟩ : ∃ Z, joinT (ls.take (k + 1)) = Z := ⟨_, rfl⟩
            have HZ := Lib.hid hZ
            rw [hX, hZ] at hadd
            rw [hX]
            clear HLq hfull hX hZ
            go_wp2_with fail
            go_roundw
            case rel => exact ⟨k + 1, by rw [HZ.out], by simp, by omega, HNN.out, by simp⟩
            case measure => simp [RowKit.intOf]; omega
    · have HTF := take_full (ls := ls) hlt
      rw [HTF]
      have HAL := Lib.hid (show ls.all lineL = true by rw [HA.out, ← HR.out, List.drop_eq_nil_of_le (by omega)]; rfl)
      have hbs : (bs (joinT ls)).size = (joinT ls).length := bs_size _
      by_cases hov : 32768 < (joinT ls).length
      · have HG := Lib.hid (joinV_of (join_long HAL.out hov))
        clear HTF
        go_wp2_with fail
        go_ret2
        exact ⟨by rw [HG.out]; rfl, Below.refl _ _⟩
      · have HG := Lib.hid (joinV_of (join_good HAL.out hov))
        clear HTF
        go_wp2_with fail
        go_ret2
        exact ⟨by rw [HG.out]; rfl, Below.refl _ _⟩

end Go.Proofs.YtfdipcphohhlgaaGreatDoor.Rjoinw
