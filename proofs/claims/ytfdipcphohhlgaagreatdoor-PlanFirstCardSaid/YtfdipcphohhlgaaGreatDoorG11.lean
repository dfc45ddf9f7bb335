/- Texts of this proof, merged: Pfew, Intw, Fmtw, Ownl, Linw, Owns. -/
import Derived.Test.YtfdipcphohhlgaaGreatDoorG01
import Derived.Test.YtfdipcphohhlgaaGreatDoorG09
import Derived.Test.YtfdipcphohhlgaaGreatDoorG03
import Derived.Laws.Concat
import Derived.Lib.AppendIntMem
import Derived.Test.YtfdipcphohhlgaaGreatDoorG04
import Derived.Maps.AppendAt

/- The call of the statements' few for layouts as text. -/
namespace Go.Proofs.YtfdipcphohhlgaaGreatDoor.Pfew
open Go.RowKit Go.Lib Go.Proofs.YtfdipcphohhlgaaGreatDoor.Text Go.Proofs.YtfdipcphohhlgaaGreatDoor.Reads Go.Proofs.YtfdipcphohhlgaaGreatDoor.Rows2 Go.Proofs.YtfdipcphohhlgaaGreatDoor.Lay Go.Proofs.YtfdipcphohhlgaaGreatDoor.Ldup Go.Proofs.YtfdipcphohhlgaaGreatDoor.Few0

set_option maxRecDepth 100000 in
set_option maxHeartbeats 1600000 in
theorem few8_any (L : Lay) {vs ve vj vg vb : Value} (w : World) (h : LayAt (In w) w L vs ve vj vg vb) :
    Calls Tryz.prog 7 #[layV L vs ve vj vg vb] w (BoolOut (fewB L) w) := by
  obtain ⟨a1, c1, rfl, _, _⟩ := h.sn
  obtain ⟨a2, c2, rfl, _, _⟩ := h.el
  obtain ⟨a3, c3, rfl, _, _⟩ := h.jt
  obtain ⟨a4, c4, rfl, _, _⟩ := h.sg
  obtain ⟨a5, c5, rfl, _, _⟩ := h.bl
  have B0 := Lib.hid ((Below.refl w.heap.size w).alloc (Nat.le_refl _) (.cells #[.string (bs L.name), .slice a1 L.secs.length c1, .slice a2 L.els.length c2, .slice a3 L.joints.length c3, .slice a4 L.sigs.length c4, .slice a5 L.bals.length c5] 28))
  clear h
  obtain ⟨r, hr⟩ : ∃ r, fewB L = r := ⟨_, rfl⟩
  unfold fewB at hr
  rw [show fewB L = r from hr]
  have HR := Lib.hid hr
  clear hr
  unfold layV
  have fin : ∀ (b : Bool) (w' : World), Below w.heap.size w w' → b = decide (L.secs.length ≤ 60 ∧ L.els.length ≤ 60 ∧ L.joints.length ≤ 100 ∧ L.sigs.length ≤ 60 ∧ L.bals.length ≤ 60) → BoolOut r w (.returned (.bool b)) w' := fun b w' hb hx => ⟨by rw [hx, HR.out], hb⟩
  have FIN := Lib.hid fin
  clear fin
  go_enter Tryz.func7, Tryz.ntmps7
  go_wp2_with fail
  all_goals
    go_ret
    refine FIN.out _ _ B0.out ?_
    symm
    first
      | exact decide_eq_true (by omega)
      | exact decide_eq_false (by omega)
      | (rw [Bool.eq_iff_iff]
         simp only [decide_eq_true_eq]
         omega)

end Go.Proofs.YtfdipcphohhlgaaGreatDoor.Pfew

/- Int: words' and the reference's. -/
namespace Go.Proofs.YtfdipcphohhlgaaGreatDoor.Intw
open Go.RowKit Go.Lib Go.Proofs.YtfdipcphohhlgaaGreatDoor.Text Go.Proofs.YtfdipcphohhlgaaGreatDoor.Numt Go.Proofs.YtfdipcphohhlgaaGreatDoor.Kind Go.Proofs.YtfdipcphohhlgaaGreatDoor.Word Go.Proofs.YtfdipcphohhlgaaGreatDoor.Rword Go.Proofs.YtfdipcphohhlgaaGreatDoor.Debw

/-- The answer of Int, as the call hands it back. -/
def intV (l : (List UInt8)) : Value := .tuple #[.int .i64 (intR l).1, .int .i64 ((intR l).2 : Int)]
theorem intV_of {l : (List UInt8)} {n : Int} {e : Nat} (h : intR l = (n, e)) : intV l = .tuple #[.int .i64 n, .int .i64 (e : Int)] := by rw [intV, h]

theorem int_syntax {l : (List UInt8)} (h : decL l = false) : intR l = (0, 4) := by rw [intR, h, if_pos rfl]
theorem dec_neg (r : (List UInt8)) : decL (45 :: r) = (digsL r && !decide (r = [48])) := by
  rw [decL, strip_neg]
  have : negL (45 :: r) = true := rfl
  rw [this, Bool.true_and]
theorem dec_pos {l : (List UInt8)} (h : l.head? ≠ some 45) : decL l = digsL l := by
  rw [decL, strip_pos h]
  have : negL l = false := by simp [negL, h]
  rw [this, Bool.false_and, Bool.not_false, Bool.and_true]
theorem int_neg {r : (List UInt8)} (h : decL (45 :: r) = true) : intR (45 :: r) = if 9223372036854775808 < val 0 r then (0, 17) else (-(val 0 r : Int), 0) := by
  have hn : negL (45 :: r) = true := rfl
  rw [intR, h, if_neg (by decide), hn, if_pos rfl, strip_neg]
theorem int_pos {l : (List UInt8)} (h : decL l = true) (hh : l.head? ≠ some 45) : intR l = if 9223372036854775808 ≤ val 0 l then (0, 17) else ((val 0 l : Int), 0) := by
  have hn : negL l = false := by simp [negL, hh]
  rw [intR, h, if_neg (by decide), hn, if_neg (by decide), strip_pos hh]
theorem digs_all {l : (List UInt8)} (h : digsL l = true) : l.all isDig = true := by
  unfold digsL at h
  rw [Bool.and_eq_true] at h
  exact h.1
theorem tail_of {s : ByteArray} {b : UInt8} {r : (List UInt8)} (h : s.data.toList = b :: r) : (s.extract 1 s.size).data.toList = r := by
  have hs : s.size = r.length + 1 := by rw [Lib.size_eq, h]; rfl
  rw [Lib.extract_data, h, hs]
  simp

set_option maxRecDepth 100000 in
theorem int_any (s : ByteArray) (w : World) (hs : s.size ≤ 100000) (hdeb : Deb w) :
    Calls Tryz.prog 125 #[.string s] w fun e w' => e = .returned (intV s.data.toList) ∧ Below w.heap.size w w' := by
  have HDg := Lib.hid (fun w => dec_any s w)
  have HDB := Lib.hid hdeb
  clear hdeb
  cases hD : decL s.data.toList with
  | false =>
    rw [hD] at HDg
    have HF := Lib.hid (intV_of (int_syntax hD))
    clear hD
    go_enter Tryz.func125, Tryz.ntmps125
    go_wp2_with fail
    refine (HDg.out _).mono ?_
    rintro e w' ⟨rfl, hb⟩
    have HB := Lib.hid hb
    clear hb
    go_wp2_with fail
    go_ret2
    exact ⟨by rw [HF.out]; rfl, HB.out⟩
  | true =>
    rw [hD] at HDg
    rcases atoi_dec hD with ⟨v, ha, hi⟩ | ⟨ha, hi⟩
    · have HA := Lib.hid (fun w => Tryz.strconv_Atoi_ok s (by omega) v ha w)
      have HF := Lib.hid (intV_of hi)
      clear hD ha hi
      go_enter Tryz.func125, Tryz.ntmps125
      go_wp2_with fail
      refine (HDg.out _).mono ?_
      rintro e w1 ⟨rfl, hb⟩
      have HB := Lib.hid hb
      clear hb
      go_wp2_with fail
      refine (HA.out _).mono ?_
      rintro e w2 ⟨rfl, hb⟩
      have HB2 := Lib.hid (show Below w1.heap.size w1 w2 by
        rcases hb with rfl | ⟨t, rfl⟩
        · exact Below.refl _ _
        · exact Lib.bytesWorld_below _ _ _)
      clear hb
      go_wp2_with fail
      go_ret2
      exact ⟨by rw [HF.out]; rfl, bel_next HB.out HB2.out⟩
    · have HF := Lib.hid (intV_of hi)
      have hA : ∀ w, Deb w → Calls Tryz.prog 145 #[.string s] w fun e w' => ∃ a N, e = .returned (.tuple #[.int .i64 a, .iface 170 (.pointer (some ⟨N, 0, none⟩))]) ∧ Below w.heap.size w w' := by
        intro w hd
        obtain ⟨_, _, ev, hv, hev⟩ := hd
        exact (Tryz.strconv_Atoi_range s (by omega) ha ev w hv hev).mono fun e w' ⟨N, h1, _, _, h4⟩ => ⟨_, N, h1, h4⟩
      have HA := Lib.hid hA
      clear hA
      clear hD ha hi
      go_enter Tryz.func125, Tryz.ntmps125
      go_wp2_with fail
      refine (HDg.out _).mono ?_
      rintro e w1 ⟨rfl, hb⟩
      have HB := Lib.hid hb
      clear hb
      go_wp2_with fail
      refine (HA.out _ (deb_next HDB.out HB.out)).mono ?_
      rintro e w2 ⟨a, N, rfl, hb⟩
      have HB2 := Lib.hid hb
      clear hb
      go_wp2_with fail
      go_ret2
      exact ⟨by rw [HF.out]; rfl, bel_next HB.out HB2.out⟩

end Go.Proofs.YtfdipcphohhlgaaGreatDoor.Intw

/- Format: words' and the reference's. -/
namespace Go.Proofs.YtfdipcphohhlgaaGreatDoor.Fmtw
open Go.RowKit Go.Lib Go.Proofs.YtfdipcphohhlgaaGreatDoor.Text Go.Proofs.YtfdipcphohhlgaaGreatDoor.Numt Go.Proofs.YtfdipcphohhlgaaGreatDoor.Kind Go.Proofs.YtfdipcphohhlgaaGreatDoor.Word Go.Proofs.YtfdipcphohhlgaaGreatDoor.Rword Go.Proofs.YtfdipcphohhlgaaGreatDoor.Debw Go.Proofs.YtfdipcphohhlgaaGreatDoor.Intw

theorem format_any (n : Int) (w : World) (h0 : -9223372036854775808 ≤ n) (h1 : n ≤ 9223372036854775807) (hdeb : Deb w) :
    Calls Tryz.prog 53 #[.int .i64 n] w fun e w' => e = .returned (.string (bs (itoa n))) ∧ Below w.heap.size w w' := by
  have HI := Lib.hid (fun w h => Tryz.strconv_Itoa n h0 h1 w h)
  have HT := Lib.hid hdeb.2.1
  clear hdeb h0 h1
  go_enter Tryz.func53, Tryz.ntmps53
  go_wp2_with fail
  refine (HI.out _ HT.out).mono ?_
  rintro e w' ⟨rfl, k, os, rfl⟩
  go_wp2_with fail
  go_ret
  exact ⟨rfl, Lib.below_grow _ _ (Nat.le_refl _) _ _⟩

theorem add_bs {P : Program} (a b : (List UInt8)) (h : a.length + b.length ≤ 9223372036854775807) (w : World) : (Op.stringOp .add (bs a) (bs b)).run P w = .ok (.string (bs (a ++ b))) w := by
  rw [run_string_add_sum w _ _ (by rw [bs_size, bs_size]; exact h), bs_append]

def ten : ByteArray := ⟨#[48, 49, 50, 51, 52, 53, 54, 55, 56, 57]⟩
theorem ten_fin : ∀ d : Fin 10, (ten.extract d.val (d.val + 1)).data.toList = [UInt8.ofNat (48 + d.val)] := by decide +kernel
theorem ten_at {d : Nat} (h : d < 10) : ten.extract d (d + 1) = bs [UInt8.ofNat (48 + d)] := by
  apply ByteArray.ext
  apply Array.toList_inj.1
  rw [ten_fin ⟨d, h⟩]
  rfl

theorem ten_slice {d : Nat} (h : d < 10) (w : World) : (Instr.slice 9 (.string ⟨#[48, 49, 50, 51, 52, 53, 54, 55, 56, 57]⟩) (some (.int .i64 (d : Int))) (some (.int .i64 ((d : Int) + 1))) none).run Tryz.prog w = .ok (.string (bs [UInt8.ofNat (48 + d)])) w := by
  rw [run_slice_string w _ _ _ _ _ _ Tryz.underlying9 (by omega) (by omega) (show ((d : Int) + 1) ≤ (10 : Nat) by omega)]
  rw [← ten_at h]
  rfl

/-- The digits that are laid, and what is left. -/
def FRel (u a : Nat) (l : (List UInt8)) : Prop := a ≤ u ∧ (l = [] ∧ a = u ∨ l ≠ [] ∧ decDigits u = (if a = 0 then [] else decDigits a) ++ l)
theorem frel_start (u : Nat) : FRel u u [] := ⟨Nat.le_refl _, .inl ⟨rfl, rfl⟩⟩
theorem frel_more {u a : Nat} {l : (List UInt8)} (h : FRel u a l) (hc : a ≠ 0 ∨ l = []) : FRel u (a / 10) (UInt8.ofNat (48 + a % 10) :: l) := by
  obtain ⟨h1, h2⟩ := h
  refine ⟨by omega, .inr ⟨by simp, ?_⟩⟩
  have e : decDigits u = decDigits a ++ l := by
    rcases h2 with ⟨rfl, rfl⟩ | ⟨h3, h4⟩
    · simp
    · rcases hc with hc | hc
      · rw [h4, if_neg hc]
      · exact absurd hc h3
  rw [e]
  by_cases h : a < 10
  · rw [decDigits, dif_pos h, if_pos (by omega), Nat.mod_eq_of_lt h]
    rfl
  · rw [decDigits, dif_neg h, if_neg (by omega)]
    simp
theorem frel_end {u : Nat} {l : (List UInt8)} (h : FRel u 0 l) (hl : l ≠ []) : decDigits u = l := by
  obtain ⟨_, h2⟩ := h
  rcases h2 with ⟨rfl, _⟩ | ⟨_, h4⟩
  · exact absurd rfl hl
  · rw [h4, if_pos rfl]; rfl
theorem frel_len {u a : Nat} {l : (List UInt8)} (h : FRel u a l) (hu : u ≤ 9223372036854775808) : l.length ≤ 20 := by
  obtain ⟨_, h2⟩ := h
  rcases h2 with ⟨rfl, _⟩ | ⟨_, h4⟩
  · simp
  · have h5 := nDigits_le20 u (by omega)
    rw [← decDigits_length, h4, List.length_append] at h5
    omega
theorem empty_eq {l : (List UInt8)} (h : l = []) : (bs l).toList.isEmpty = true := by rw [ByteArray.toList_eq, bs_list, h]; rfl
theorem empty_ne {l : (List UInt8)} (h : l ≠ []) : (bs l).toList.isEmpty = false := by rw [ByteArray.toList_eq, bs_list]; simpa using h

/-- A measure: the number that is left, and whether nothing is laid yet. -/
def emp (s : Value) : Nat := match s with | .string x => (if x.data.toList = [] then 1 else 0) | _ => 0
def meas (s m : Value) : Nat := (RowKit.intOf m).natAbs + emp s
theorem meas_cons (c : UInt8) (l : (List UInt8)) (m : Int) : meas (.string (bs (c :: l))) (.int .i64 m) = m.natAbs := by simp [meas, emp, RowKit.intOf, bs_list]
theorem meas_nil (m : Int) : meas (.string (bs [])) (.int .i64 m) = m.natAbs + 1 := by simp [meas, emp, RowKit.intOf, bs_list]
theorem meas_le (l : (List UInt8)) (m : Int) : m.natAbs ≤ meas (.string (bs l)) (.int .i64 m) := by simp [meas, RowKit.intOf]
theorem frel_zero {u : Nat} (h : FRel u 0 []) : FRel u 0 [48] := frel_more h (.inr rfl)

set_option maxHeartbeats 800000 in
set_option maxRecDepth 100000 in
theorem rformat_pos (u : Nat) (w : World) (hu : u ≤ 9223372036854775807) :
    Calls Tryz.prog 22 #[.int .i64 (u : Int)] w fun e w' => e = .returned (.string (bs (decDigits u))) ∧ w' = w := by
  go_enter Tryz.func22, Tryz.ntmps22
  go_wp2_with fail
  go_loop [3, 4] (fun s m => ∃ (a : Nat) (l : (List UInt8)), s = .string (bs l) ∧ m = .int .i64 (a : Int) ∧ FRel u a l) (fun s m => meas s m)
  case atStart => exact ⟨u, [], rfl, rfl, frel_start u⟩
  case round =>
    obtain ⟨a, l, rfl, rfl, hr⟩ := hrel
    have HL := Lib.hid (frel_len hr (by omega))
    have hau : a ≤ u := hr.1
    have HR := Lib.hid hr
    clear hr
    by_cases ha : a = 0
    · subst ha
      by_cases hl : l = []
      · subst hl
        have HN := Lib.hid (frel_zero HR.out)
        have hten := ten_at (d := 0) (by decide)
        unfold ten at hten
        have hadd := fun w => add_bs (P := Tryz.prog) [48] [] (by decide) w
        have hq := empty_eq (l := []) rfl
        rw [List.append_nil] at hadd
        go_wp2_with fail
        go_round
        case rel => exact ⟨0, [48], rfl, rfl, HN.out⟩
        case measure =>
          have h1 := meas_cons 48 [] 0
          have h2 := meas_nil 0
          have h3 : (0 : Int).natAbs = 0 := rfl
          rw [h3] at h1 h2
          show meas (.string (bs [48])) (.int .i64 0) < meas (.string (bs [])) (.int .i64 0)
          rw [h1, h2]
          exact Nat.zero_lt_one
      · have hq := empty_ne hl
        have HE := Lib.hid (frel_end HR.out hl)
        go_wp2_with fail
        go_ret
        exact ⟨by rw [HE.out]; rfl, rfl⟩
    · have HN := Lib.hid (frel_more HR.out (.inl ha))
      have hd10 : a % 10 < 10 := Nat.mod_lt _ (by decide)
      have hten := fun w => ten_slice hd10 w
      have hadd := fun w => add_bs (P := Tryz.prog) [UInt8.ofNat (48 + a % 10)] l (by have := HL.out; simp; omega) w
      obtain ⟨c, hc⟩ : ∃ c, UInt8.ofNat (48 + a % 10) = c := ⟨_, rfl⟩
      rw [hc] at HN hten
      rw [hc, List.singleton_append] at hadd
      have hn : ((a : Int) != 0) = true := by simp; omega
      have hem : (a : Int) % 10 = ((a % 10 : Nat) : Int) := by omega
      obtain ⟨d, hd⟩ : ∃ d, a % 10 = d := ⟨_, rfl⟩
      rw [hd] at hten hem hd10
      clear hc hd
      go_wp2_with fail
      go_round
      case rel => exact ⟨_, _, rfl, rfl, HN.out⟩
      case measure => 
        rw [meas_cons]
        have := meas_le l a
        omega

theorem tdiv_neg (a : Nat) : (-(a : Int)).tdiv 10 = -((a / 10 : Nat) : Int) := by
  rw [Int.neg_tdiv, Int.tdiv_eq_ediv_of_nonneg (by omega)]
  omega
theorem tmod_neg (a : Nat) : (-(a : Int)).tmod 10 = -((a % 10 : Nat) : Int) := by
  rw [Int.neg_tmod, Int.tmod_eq_emod_of_nonneg (by omega)]
  omega

set_option maxHeartbeats 800000 in
set_option maxRecDepth 100000 in
theorem rformat_neg (u : Nat) (w : World) (h1 : 1 ≤ u) (hu : u ≤ 9223372036854775808) :
    Calls Tryz.prog 22 #[.int .i64 (-(u : Int))] w fun e w' => e = .returned (.string (bs (45 :: decDigits u))) ∧ w' = w := by
  go_enter Tryz.func22, Tryz.ntmps22
  go_wp2_with fail
  go_loop [3, 4] (fun s m => ∃ (a : Nat) (l : (List UInt8)), s = .string (bs l) ∧ m = .int .i64 (-(a : Int)) ∧ FRel u a l) (fun s m => meas s m)
  case atStart => exact ⟨u, [], rfl, rfl, frel_start u⟩
  case round =>
    obtain ⟨a, l, rfl, rfl, hr⟩ := hrel
    have HL := Lib.hid (frel_len hr (by omega))
    have hau : a ≤ u := hr.1
    have HR := Lib.hid hr
    clear hr
    by_cases ha : a = 0
    · subst ha
      by_cases hl : l = []
      · exfalso
        subst hl
        obtain ⟨_, h | h⟩ := HR.out
        · omega
        · exact h.1 rfl
      · have hq := empty_ne hl
        have HE := Lib.hid (frel_end HR.out hl)
        have hadd := fun w => add_bs (P := Tryz.prog) [45] l (by have := HL.out; simp; omega) w
        rw [List.singleton_append] at hadd
        have hadd' : ∀ w, (Op.stringOp .add ⟨#[45]⟩ (bs l)).run Tryz.prog w = .ok (.string (bs (45 :: l))) w := hadd
        have hn : -(u : Int) < 0 := by omega
        clear hadd
        go_wp2_with fail
        go_ret
        exact ⟨by rw [HE.out]; rfl, rfl⟩
    · have HN := Lib.hid (frel_more HR.out (.inl ha))
      have hd10 : a % 10 < 10 := Nat.mod_lt _ (by decide)
      have hten := fun w => ten_slice hd10 w
      have hadd := fun w => add_bs (P := Tryz.prog) [UInt8.ofNat (48 + a % 10)] l (by have := HL.out; simp; omega) w
      obtain ⟨c, hc⟩ : ∃ c, UInt8.ofNat (48 + a % 10) = c := ⟨_, rfl⟩
      rw [hc] at HN hten
      rw [hc, List.singleton_append] at hadd
      have hn : (-(a : Int) != 0) = true := by simp; omega
      have hem := tmod_neg a
      have hdv := tdiv_neg a
      obtain ⟨d, hd⟩ : ∃ d, a % 10 = d := ⟨_, rfl⟩
      obtain ⟨q, hq⟩ : ∃ q, a / 10 = q := ⟨_, rfl⟩
      rw [hd] at hten hem hd10
      rw [hq] at hdv HN
      have hqa : q < a := by omega
      clear hc hd hq
      by_cases h0 : d = 0
      · subst h0
        have hem0 : (-(a : Int)).tmod 10 = 0 := hem
        have hten0 : ∀ w, (Instr.slice 9 (.string ⟨#[48, 49, 50, 51, 52, 53, 54, 55, 56, 57]⟩) (some (.int .i64 0)) (some (.int .i64 1)) none).run Tryz.prog w = .ok (.string (bs [c])) w := hten
        clear hem hten
        go_wp2_with fail
        refine ⟨⟨q, c :: l, rfl, rfl, HN.out⟩, ?_⟩
        rw [meas_cons]
        have := meas_le l (-(a : Int))
        omega
      · have hneg : -(d : Int) < 0 := by omega
        have hpos : 0 < d := by omega
        have hposi : (0 : Int) < d := by omega
        go_wp2_with fail
        refine ⟨⟨q, c :: l, rfl, rfl, HN.out⟩, ?_⟩
        rw [meas_cons]
        have := meas_le l (-(a : Int))
        omega

theorem rformat_any (n : Int) (w : World) (h0 : -9223372036854775808 ≤ n) (h1 : n ≤ 9223372036854775807) :
    Calls Tryz.prog 22 #[.int .i64 n] w fun e w' => e = .returned (.string (bs (itoa n))) ∧ w' = w := by
  by_cases h : n < 0
  · have := rformat_neg n.natAbs w (by omega) (by omega)
    rw [show -(n.natAbs : Int) = n by omega] at this
    rw [itoa, if_pos h]
    exact this
  · have := rformat_pos n.toNat w (by omega)
    rw [show (n.toNat : Int) = n by omega] at this
    rw [itoa, if_neg h]
    exact this

end Go.Proofs.YtfdipcphohhlgaaGreatDoor.Fmtw

/- Lists of lines that a call builds: what it owns, and what its lines are read from. -/
namespace Go.Proofs.YtfdipcphohhlgaaGreatDoor.Ownl
open Go.RowKit Go.Lib Go.Proofs.YtfdipcphohhlgaaGreatDoor.Text Go.Proofs.YtfdipcphohhlgaaGreatDoor.Reads Go.Proofs.YtfdipcphohhlgaaGreatDoor.Rows2 Go.Proofs.YtfdipcphohhlgaaGreatDoor.Debw

theorem infoS : (Tryz.prog.info? 9).map (fun i => (i.zero, i.size, i.bytes)) = some (some (.string ByteArray.empty), 1, 16) := by kernel_rfl
theorem infoL : (Tryz.prog.info? 22).map (fun i => (i.zero, i.size, i.bytes)) = some (some (.slice none 0 0), 1, 24) := by kernel_rfl
theorem infoI : (Tryz.prog.info? 3).map (fun i => (i.zero, i.size, i.bytes)) = some (some (.int .i64 0), 1, 8) := by kernel_rfl

theorem grown_of_below {w w' : World} (h : Below w.heap.size w w') (row : Option Nat) : w.grownBy w' row := ⟨h.os, h.tape, h.output, h.size, fun k hk _ => h.block k hk⟩

/-- The slice v of the call's own holds lists that read as ls, none of them from v's own block nor from block no. -/
def OwnL (B : Nat) (w : World) (v : Value) (ls : List (List (List UInt8))) (no : Option Nat) : Prop :=
  ∃ xs : List Value, w.ownsRow B 22 1 v ls.length xs ∧ (v.ownBlock = none ∨ v.ownBlock ≠ no) ∧
    ∀ (j : Nat) (x : Value) (l : List (List UInt8)), xs[j]? = some x → ls[j]? = some l → Strs (fun b => b < w.heap.size ∧ some b ≠ v.ownBlock ∧ some b ≠ no) w x l

theorem ownL_nil (B : Nat) (w : World) (no : Option Nat) : OwnL B w (.slice none 0 0) [] no := ⟨[], World.ownsRow_nil _ _ _ _, .inl rfl, fun j x l hx _ => by simp at hx⟩
theorem OwnL.other {B : Nat} {w w' : World} {v : Value} {ls : List (List (List UInt8))} {no no' : Option Nat} (h : OwnL B w v ls no) (hg : w.grownBy w' no) (hn : no' = no ∨ no' = none ∨ ∃ k, no' = some k ∧ w.heap.size ≤ k) : OwnL B w' v ls no' := by
  obtain ⟨xs, h1, h2, h3⟩ := h
  refine ⟨xs, h1.kept hg h2, ?_, fun j x l hx hl => (h3 j x l hx hl).keep fun b ⟨hb1, hb2, hb3⟩ => ⟨⟨Nat.lt_of_lt_of_le hb1 hg.size, hb2, ?_⟩, hg.block b hb1 hb3⟩⟩
  · cases hv : v.ownBlock with
    | none => exact .inl rfl
    | some g =>
      right
      have hlt := (h1.lt g hv).2
      rcases hn with rfl | rfl | ⟨k, rfl, hk⟩
      · rw [hv] at h2
        rcases h2 with h2 | h2
        · cases h2
        · exact h2
      · simp
      · simp; omega
  · rcases hn with rfl | rfl | ⟨k, rfl, hk⟩
    · exact hb3
    · simp
    · simp; omega
theorem OwnL.next {B : Nat} {w w' : World} {v : Value} {ls : List (List (List UInt8))} {no : Option Nat} (h : OwnL B w v ls no) (hb : Below w.heap.size w w') : OwnL B w' v ls no := h.other (grown_of_below hb no) (.inl rfl)
theorem ownL_push {B : Nat} {wr w1 : World} {v v1 x : Value} {ls : List (List (List UInt8))} {l : List (List UInt8)} {no : Option Nat} {T : TypeId} (hx : Strs (fun b => b < wr.heap.size ∧ some b ≠ v.ownBlock) wr x l)
    {xs : List Value} (h1 : w1.ownsRow B 22 1 v1 (ls.length + 1) (xs ++ [x])) (hxs : ∀ (j : Nat) (x : Value) (l : List (List UInt8)), xs[j]? = some x → ls[j]? = some l → Strs (fun b => b < wr.heap.size ∧ some b ≠ v.ownBlock ∧ some b ≠ no) wr x l)
    (hg : (wr.alloc (.cells #[x] T)).grownBy w1 v.ownBlock) (hblk : v1.ownBlock = v.ownBlock ∨ v1.ownBlock = some (wr.alloc (.cells #[x] T)).heap.size) : OwnL B w1 v1 (ls ++ [l]) none := by
  have hal : ∀ b, b < wr.heap.size → some b ≠ v.ownBlock → (b < w1.heap.size ∧ some b ≠ v1.ownBlock ∧ some b ≠ none) ∧ w1.heap[b]? = wr.heap[b]? := by
    intro b hb hne
    have hs : (wr.alloc (.cells #[x] T)).heap.size = wr.heap.size + 1 := by simp
    have hsz := hg.size
    refine ⟨⟨by omega, ?_, by simp⟩, ?_⟩
    · rcases hblk with e | e
      · rw [e]; exact hne
      · rw [e, hs]; simp; omega
    · rw [hg.block b (by omega) hne]
      exact (((Below.refl _ wr).alloc (Nat.le_refl _) (.cells #[x] T)).block b hb)
  have hlen : xs.length = ls.length := by
    have := h1.1
    simp at this
    omega
  refine ⟨xs ++ [x], by rw [List.length_append]; exact h1, ?_, fun j y m hy hm => ?_⟩
  · cases v1.ownBlock with
    | none => exact .inl rfl
    | some g => exact .inr (by simp)
  · by_cases hj : j < xs.length
    · rw [List.getElem?_append_left hj] at hy
      rw [List.getElem?_append_left (by omega)] at hm
      exact (hxs j y m hy hm).keep fun b ⟨hb1, hb2, _⟩ => hal b hb1 hb2
    · rw [List.getElem?_append_right (by omega)] at hy hm
      have h0 : j = xs.length := by
        rcases Nat.lt_or_eq_of_le (Nat.le_of_not_lt hj) with h | h
        · rw [List.getElem?_eq_none (by simp; omega)] at hy
          cases hy
        · exact h.symm
      subst h0
      rw [← hlen] at hm
      simp at hy hm
      subst hy hm
      exact hx.keep fun b ⟨hb1, hb2⟩ => hal b hb1 hb2
theorem OwnL.lns {B : Nat} {w : World} {v : Value} {ls : List (List (List UInt8))} {no : Option Nat} (h : OwnL B w v ls no) : Lns (fun b => b < w.heap.size) w v ls := by
  obtain ⟨xs, h1, _, h3⟩ := h
  have hlen : xs.length = ls.length := by
    have := h1.1
    simp at this
    omega
  rw [← hlen] at h1
  exact ⟨xs, row_own h1 (fun g _ hg => hg), hlen, fun j x l hx hl => (h3 j x l hx hl).keep fun b hb => ⟨hb.1, rfl⟩⟩

/-! The library's Cut and Split at one byte. -/
theorem cut_any (c : UInt8) (l : (List UInt8)) (w : World) (hl : l.length ≤ 1000000) (hdeb : Deb w) :
    Calls Tryz.prog 42 #[.string (bs l), .string ⟨#[c]⟩] w fun e w' => e = .returned (.tuple #[.string (bs (Lib.cut l [c]).1), .string (bs (Lib.cut l [c]).2.1), .bool (Lib.cut l [c]).2.2]) ∧ Below w.heap.size w w' := by
  obtain ⟨⟨m, hm⟩, _⟩ := hdeb
  refine (Tryz.strings_Cut (bs l) ⟨#[c]⟩ m w (by rw [bs_size]; omega) hm).mono ?_
  rintro e w' ⟨rfl, n, rfl⟩
  exact ⟨rfl, below_drewN (Below.refl _ _) _⟩
/-- What Split hands back: the parts, in a block of its own. -/
def SplitOut (c : UInt8) (l : (List UInt8)) (w : World) (e : Ending) (w' : World) : Prop :=
  ∃ v, e = .returned v ∧ Strs (fun b => w.heap.size ≤ b ∧ b < w'.heap.size) w' v (parts c [] l) ∧ Below w.heap.size w w'
theorem split_any (c : UInt8) (l : (List UInt8)) (w : World) (hl : l.length ≤ 1000000) (hdeb : Deb w) :
    Calls Tryz.prog 43 #[.string (bs l), .string ⟨#[c]⟩] w (SplitOut c l w) := by
  obtain ⟨⟨m, hm⟩, _⟩ := hdeb
  refine (Tryz.strings_Split (bs l) ⟨#[c]⟩ m w (by rw [bs_size]; omega) hm (Nat.le_refl 1)).mono ?_
  rintro e w' ⟨rfl, rfl⟩
  have hp := parts_length c l []
  refine ⟨_, rfl, ?_, (Below.refl _ _).alloc (Nat.le_refl _) _⟩
  have hs := strs_fresh (parts c [] l) (T := 9) (w := w) (cs := ((splitB ⟨#[c]⟩ 0 (countB (bs l) ⟨#[c]⟩) (bs l)).map Value.string).toArray) (n := countB (bs l) ⟨#[c]⟩ + 1) (by rw [split_parts, List.map_map]; rfl) (split_count c l) (by rw [split_count]; unfold maxLen; omega)
    (fun s hs => by have := parts_mem c l [] s hs; simp at this; unfold maxLen; omega)
  obtain ⟨⟨a, cap, h1, h2, h3, h4⟩, h5⟩ := hs
  refine ⟨⟨a, cap, h1, h2, h3, h4.imp id fun ⟨b, off, e, hb, hc⟩ => ⟨b, off, e, ⟨?_, hb⟩, hc⟩⟩, h5⟩
  rw [e] at h1
  simp only [Value.slice.injEq, Option.some.injEq] at h1
  have hb1 : w.heap.size = b := congrArg Addr.block h1.1
  rw [hb1]
  exact Nat.le_refl _

end Go.Proofs.YtfdipcphohhlgaaGreatDoor.Ownl

/- Lines of words. -/
namespace Go.Proofs.YtfdipcphohhlgaaGreatDoor.Linw
open Go.RowKit Go.Lib Go.Proofs.YtfdipcphohhlgaaGreatDoor.Text Go.Proofs.YtfdipcphohhlgaaGreatDoor.Kind Go.Proofs.YtfdipcphohhlgaaGreatDoor.Reads Go.Proofs.YtfdipcphohhlgaaGreatDoor.Rows2 Go.Proofs.YtfdipcphohhlgaaGreatDoor.Samew Go.Proofs.YtfdipcphohhlgaaGreatDoor.Debw Go.Proofs.YtfdipcphohhlgaaGreatDoor.Ownl

/-- What a call of Lines gives. -/
def LinesOut (r : List (List (List UInt8)) × Nat × Nat) (w : World) (e : Ending) (w' : World) : Prop :=
  ∃ v, e = .returned (.tuple #[v, .int .i64 (r.2.1 : Int), .int .i64 (r.2.2 : Int)]) ∧ Lns (fun b => b < w'.heap.size) w' v r.1 ∧ Below w.heap.size w w'
theorem lines_bad {r : List (List (List UInt8)) × Nat × Nat} {n e : Nat} {w w' : World} {x : Ending} (h : r = ([], n, e)) (hx : x = .returned (.tuple #[.slice none 0 0, .int .i64 (n : Int), .int .i64 (e : Int)])) (hb : Below w.heap.size w w') : LinesOut r w x w' := by
  subst h hx
  exact ⟨_, rfl, lns_nil _ _, hb⟩
theorem lines_ok {r : List (List (List UInt8)) × Nat × Nat} {ls : List (List (List UInt8))} {v : Value} {w w' : World} {x : Ending} (h : r = (ls, 0, 0)) (hx : x = .returned (.tuple #[v, .int .i64 0, .int .i64 0])) (hr : Lns (fun b => b < w'.heap.size) w' v ls) (hb : Below w.heap.size w w') : LinesOut r w x w' := by
  subst h hx
  exact ⟨_, rfl, hr, hb⟩

theorem lines_long {l : (List UInt8)} (h : 32768 < l.length) : linesR l = ([], 0, 2) := by rw [linesR, if_pos h]
theorem lines_short {l : (List UInt8)} (h : ¬ 32768 < l.length) : linesR l = endL [] (scan 0 [] [] l) := by rw [linesR, if_neg h]
theorem end_bad {outs : List (List (List UInt8))} {k : Nat} : endL outs (.error (k + 1)) = ([], k + 1, 4) := rfl
theorem end_map {outs : List (List (List UInt8))} {x : List (List UInt8)} {y : Except Nat (List (List (List UInt8)))} : endL outs (y.map (x :: ·)) = endL (outs ++ [x]) y := by
  cases y with
  | error k => rfl
  | ok ls => simp [Except.map, endL]
theorem scan_nil (k : Nat) : scan k [] [] [] = .ok [] := rfl
theorem end_done {outs : List (List (List UInt8))} : endL outs (.ok []) = (outs, 0, 0) := by simp [endL]
theorem line_parts (c : UInt8) (l : (List UInt8)) : lineL (parts c [] l) = (parts c [] l).all wordL := by
  rw [lineL]
  have : decide (parts c [] l ≠ []) = true := decide_eq_true (parts_ne c l [])
  rw [this, Bool.true_and]

/-- What holds at the head of the loop. -/
def LRel (R : List (List (List UInt8)) × Nat × Nat) (w : World) (vs vl : Value) (wr : World) : Prop :=
  ∃ (r : (List UInt8)) (outs : List (List (List UInt8))), vs = .string (bs r) ∧ endL outs (scan outs.length [] [] r) = R ∧ outs.length + r.length ≤ 32768 ∧ OwnL w.heap.size wr vl outs none ∧ Below w.heap.size w wr
def slen (v : Value) : Nat := match v with | .string x => x.size | _ => 0
theorem slen_bs (l : (List UInt8)) : slen (.string (bs l)) = l.length := rfl
theorem own_shape {w : World} {B n : Nat} {e : TypeId} {v : Value} {xs : List Value} (h : w.ownsRow B e 1 v n xs) : ∃ a c, v = .slice a n c := by
  rcases h.2 with ⟨hv, h0⟩ | ⟨g, cap, cur, hv, _⟩
  · subst h0
    exact ⟨_, _, hv⟩
  · exact ⟨_, _, hv⟩
theorem ownL_shape {B : Nat} {w : World} {v : Value} {ls : List (List (List UInt8))} {no : Option Nat} (h : OwnL B w v ls no) : ∃ a c, v = .slice a ls.length c := by
  obtain ⟨xs, h1, _⟩ := h
  exact own_shape h1

theorem own_lt {B : Nat} {w : World} {v : Value} {ls : List (List (List UInt8))} {no : Option Nat} (h : OwnL B w v ls no) : ∀ g, v.ownBlock = some g → B ≤ g ∧ g < w.heap.size := by
  obtain ⟨xs, h1, _⟩ := h
  exact h1.lt
theorem strs_off {w' : World} {x : Value} {l : List (List UInt8)} {v : Value} {C : Nat} (ho : ∀ g, v.ownBlock = some g → g < C) (h : Strs (fun b => C ≤ b ∧ b < w'.heap.size) w' x l) : Strs (fun b => b < w'.heap.size ∧ some b ≠ v.ownBlock) w' x l := by
  refine h.keep fun b hb => ⟨⟨hb.2, ?_⟩, rfl⟩
  cases hv : v.ownBlock with
  | none => simp
  | some g =>
    have := ho g hv
    have hb1 := hb.1
    simp
    omega
theorem grown_end {w w3 w4 : World} {v : Value} {o : Obj} (hb : Below w.heap.size w w3) (ho : ∀ g, v.ownBlock = some g → w.heap.size ≤ g) (hg : (w3.alloc o).grownBy w4 v.ownBlock) : Below w.heap.size w w4 :=
  (hb.alloc hb.size _).grown hg (by have := hb.size; simp; omega) ho

set_option maxRecDepth 100000 in
set_option maxHeartbeats 1600000 in
theorem lines_any (s : ByteArray) (w : World) (hs : s.size ≤ 9223372036854775807) (hdeb : Deb w) :
    Calls Tryz.prog 14 #[.string s] w (LinesOut (linesR s.data.toList) w) := by
  have hsz : s.size = s.data.toList.length := Lib.size_eq s
  by_cases hlong : 32768 < s.size
  · have HR := Lib.hid (lines_long (l := s.data.toList) (by omega))
    clear hsz
    go_enter Tryz.func14, Tryz.ntmps14
    go_wp2_with fail
    go_ret3
    exact lines_bad HR.out rfl (Below.refl _ _)
  · have hR := lines_short (l := s.data.toList) (by omega)
    have hl : s.data.toList.length ≤ 32768 := by omega
    obtain ⟨R, hRR⟩ : ∃ R, linesR s.data.toList = R := ⟨_, rfl⟩
    rw [hRR] at hR ⊢
    have HR := Lib.hid hR.symm
    have HL := Lib.hid hl
    have HD := Lib.hid hdeb
    obtain ⟨i0, hi, hz0, hz1, hz2⟩ := info_parts infoL
    have HI := Lib.hid hi
    have HZ0 := Lib.hid hz0
    have HZ1 := Lib.hid hz1
    have HZ2 := Lib.hid hz2
    clear hi hz0 hz1 hz2 hR hRR hl hsz hdeb
    go_enter Tryz.func14, Tryz.ntmps14
    go_wp2_with fail
    go_loopw [0, 5] (fun vs vl wr => LRel R w vs vl wr) (fun vs _ _ => slen vs)
    case atStart => exact ⟨s.data.toList, [], rfl, HR.out, by simpa using HL.out, ownL_nil _ _ _, Below.refl _ _⟩
    case round =>
      obtain ⟨r, outs, rfl, hr, hlen, ho, hb⟩ := hrel
      obtain ⟨ao, co, rfl⟩ := ownL_shape ho
      have HRR := Lib.hid hr
      have HO := Lib.hid ho
      have HB := Lib.hid hb
      have HDr := Lib.hid (deb_next HD.out hb)
      clear hr ho hb
      by_cases h0 : r = []
      · subst h0
        have hq : (bs []).toList.isEmpty = true := by rw [ByteArray.toList_eq]; rfl
        have HE := Lib.hid (show R = (outs, 0, 0) by rw [← HRR.out, scan_nil, end_done])
        go_wp2_with fail
        go_ret3
        exact lines_ok HE.out rfl HO.out.lns HB.out
      · have hq : (bs r).toList.isEmpty = false := by rw [ByteArray.toList_eq, bs_list]; simpa using h0
        have hrl : r.length ≤ 1000000 := by omega
        have HCut := Lib.hid (cut_any 10 r wr hrl HDr.out)
        rcases first_of 10 r with hmiss | ⟨l, r2, rfl, hnl⟩
        · have HE := Lib.hid (show R = ([], outs.length + 1, 4) by rw [← HRR.out, scan_end _ _ _ _ hmiss (.inl h0)]; rfl)
          rw [cut_miss 10 r hmiss] at HCut
          have HSp := Lib.hid (fun w h => split_any 32 r w hrl h)
          clear hmiss h0
          go_wp2_with fail
          refine HCut.out.mono ?_
          rintro e w1 ⟨rfl, hb1⟩
          have HB1 := Lib.hid hb1
          clear hb1
          go_wp2_with fail
          refine (HSp.out _ (deb_next HDr.out HB1.out)).mono ?_
          rintro e w2 ⟨v, rfl, _, hb2⟩
          have HB2 := Lib.hid (bel_next HB.out (bel_next HB1.out hb2))
          clear hb2
          go_wp2_with fail
          go_ret3
          exact lines_bad HE.out (by simp) HB2.out
        · rw [cut_hit 10 l r2 hnl] at HCut
          rw [scan_line _ _ _ _ _ hnl] at HRR
          have hll : l.length ≤ 1000000 := by simp at hrl; omega
          have HSp := Lib.hid (fun w h => split_any 32 l w hll h)
          have hplen := parts_length 32 l []
          obtain ⟨ps, hps⟩ : ∃ ps, parts 32 [] l = ps := ⟨_, rfl⟩
          have HLi := Lib.hid (fun (w : World) (v : Value) (h : Strs (fun b => b < w.heap.size) w v ps) => line_any h)
          have hlp : lineL ps = ps.all wordL := by rw [← hps]; exact line_parts 32 l
          rw [hps] at HRR hplen
          rw [hlp] at HLi
          unfold SplitOut at HSp
          rw [hps] at HSp
          have hlen2 : outs.length + l.length + 1 + r2.length ≤ 32768 := by simp at hlen; omega
          clear hps hlp hnl h0 hlen
          rcases Bool.eq_false_or_eq_true (ps.all wordL) with hA | hA
          · rw [hA] at HRR HLi
            have HE := Lib.hid (show endL (outs ++ [ps]) (scan (outs ++ [ps]).length [] [] r2) = R by
              rw [← HRR.out, if_pos rfl, end_map, List.nil_append, List.length_append]; rfl)
            clear hA
            go_wp2_with fail
            refine HCut.out.mono ?_
            rintro e w1 ⟨rfl, hb1⟩
            have HB1 := Lib.hid hb1
            clear hb1
            go_wp2_with fail
            refine (HSp.out _ (deb_next HDr.out HB1.out)).mono ?_
            rintro e w2 ⟨v, rfl, hv, hb2⟩
            obtain ⟨av, cv, rfl, _⟩ := hv.shape
            have HV := Lib.hid hv
            have HV2 := Lib.hid (hv.keep (ok' := fun b => b < w2.heap.size) (w' := w2) fun b hb => ⟨hb.2, rfl⟩)
            have HB2 := Lib.hid hb2
            clear hv hb2
            go_wp2_with fail
            refine (HLi.out _ _ HV2.out).mono ?_
            rintro e w3 ⟨rfl, hb3⟩
            have HB3 := Lib.hid hb3
            clear hb3
            have HBall := Lib.hid (bel_next HB1.out (bel_next HB2.out HB3.out))
            have HO3 := Lib.hid (HO.out.next HBall.out)
            obtain ⟨xs, hxs1, hxs2, hxs3⟩ := HO3.out
            have HX1 := Lib.hid hxs1
            have HX3 := Lib.hid hxs3
            have HVr := Lib.hid (HV.out.keep (ok' := fun b => wr.heap.size ≤ b ∧ b < w3.heap.size) (w' := w3) fun b hb => ⟨⟨Nat.le_trans HB1.out.size hb.1, Nat.lt_of_lt_of_le hb.2 HB3.out.size⟩, HB3.out.block b hb.2⟩)
            have hw0 : w.heap.size ≤ w3.heap.size := Nat.le_trans HB.out.size HBall.out.size
            clear hxs1 hxs2 hxs3
            go_wp2_with (at_builtin; refine wpList_append_own_at _ rfl (.tmp 33) (.tmp 35) 39 rfl w.heap.size 22 i0 (.slice none 0 0) 1 24 Tryz.underlying39 HI.out HZ0.out HZ1.out HZ2.out rfl (by decide) _ _ _ rfl (HX1.out.alloc _) ⟨w3.heap.size, 0, none⟩ 1 1 [.slice av ps.length cv] rfl rfl (cell_one_new _ _ _) (by intro u hu; simp at hu; subst hu; rfl) (by unfold maxLen; omega) (by omega) (by simp; omega) ?_; intro v1 w4 h1own hg1 _ hblk; have R1 := Lib.hid h1own; have R2 := Lib.hid hg1; have R3 := Lib.hid hblk; clear h1own hg1 hblk)
            go_roundw
            case rel => exact ⟨r2, outs ++ [ps], rfl, HE.out, by simp; omega, ownL_push (strs_off (fun g hg => (own_lt HO.out g hg).2) HVr.out) R1.out HX3.out R2.out R3.out, grown_end (bel_next HB.out HBall.out) (fun g hg => (own_lt HO.out g hg).1) R2.out⟩
            case measure => rw [slen_bs, slen_bs]; simp; omega
          · rw [hA] at HRR HLi
            have HE := Lib.hid (show R = ([], outs.length + 1, 4) by rw [← HRR.out]; rfl)
            clear hA
            go_wp2_with fail
            refine HCut.out.mono ?_
            rintro e w1 ⟨rfl, hb1⟩
            have HB1 := Lib.hid hb1
            clear hb1
            go_wp2_with fail
            refine (HSp.out _ (deb_next HDr.out HB1.out)).mono ?_
            rintro e w2 ⟨v, rfl, hv, hb2⟩
            have HV2 := Lib.hid (hv.keep (ok' := fun b => b < w2.heap.size) (w' := w2) fun b hb => ⟨hb.2, rfl⟩)
            have HB2 := Lib.hid hb2
            clear hv hb2
            go_wp2_with fail
            refine (HLi.out _ _ HV2.out).mono ?_
            rintro e w3 ⟨rfl, hb3⟩
            have HB3 := Lib.hid (bel_next HB.out (bel_next HB1.out (bel_next HB2.out hb3)))
            clear hb3
            go_wp2_with fail
            go_ret3
            exact lines_bad HE.out (by simp) HB3.out

end Go.Proofs.YtfdipcphohhlgaaGreatDoor.Linw

/- The words of a line that a call builds. -/
namespace Go.Proofs.YtfdipcphohhlgaaGreatDoor.Owns
open Go.RowKit Go.Lib Go.Proofs.YtfdipcphohhlgaaGreatDoor.Text Go.Proofs.YtfdipcphohhlgaaGreatDoor.Kind Go.Proofs.YtfdipcphohhlgaaGreatDoor.Word Go.Proofs.YtfdipcphohhlgaaGreatDoor.Rword Go.Proofs.YtfdipcphohhlgaaGreatDoor.Reads Go.Proofs.YtfdipcphohhlgaaGreatDoor.Rows2 Go.Proofs.YtfdipcphohhlgaaGreatDoor.Samew Go.Proofs.YtfdipcphohhlgaaGreatDoor.Debw Go.Proofs.YtfdipcphohhlgaaGreatDoor.Ownl Go.Proofs.YtfdipcphohhlgaaGreatDoor.Linw

/-- The words of a line that is being read, of the call's own. -/
def OwnS (B : Nat) (w : World) (v : Value) (ss : List (List UInt8)) : Prop := w.ownsRow B 9 1 v ss.length (strV ss) ∧ ∀ s ∈ ss, s.length ≤ maxLen
theorem strV_snoc (ss : List (List UInt8)) (s : (List UInt8)) : strV (ss ++ [s]) = strV ss ++ [.string (bs s)] := by simp [strV]
/-- A word more on the line. -/
theorem own_word {B : Nat} {w wr w1 : World} {vline v1 vout : Value} {line : List (List UInt8)} {c : (List UInt8)} {outs : List (List (List UInt8))} {T : TypeId} (hl : OwnS B wr vline line) (hc : c.length ≤ maxLen) (ho : OwnL B wr vout outs vline.ownBlock) (hB : B = w.heap.size) (hb : Below B w wr)
    (h1 : w1.ownsRow B 9 1 v1 (line.length + 1) (strV line ++ [.string (bs c)])) (hg : (wr.alloc (.cells #[.string (bs c)] T)).grownBy w1 vline.ownBlock) (hblk : v1.ownBlock = vline.ownBlock ∨ v1.ownBlock = some (wr.alloc (.cells #[.string (bs c)] T)).heap.size) :
    OwnS B w1 v1 (line ++ [c]) ∧ OwnL B w1 vout outs v1.ownBlock ∧ Below B w w1 := by
  subst hB
  refine ⟨⟨by rw [strV_snoc, List.length_append]; exact h1, fun s hs => ?_⟩, ?_, ?_⟩
  · rcases List.mem_append.1 hs with hs | hs
    · exact hl.2 s hs
    · rw [List.mem_singleton.1 hs]; exact hc
  · have h2 := ho.next ((Below.refl _ wr).alloc (Nat.le_refl _) (.cells #[.string (bs c)] T))
    refine h2.other hg ?_
    rcases hblk with e | e
    · exact .inl e
    · exact .inr (.inr ⟨_, e, Nat.le_refl _⟩)
  · exact grown_end hb (fun g hg => (hl.1.lt g hg).1) hg
/-- The line's words, to be laid among the lines. -/
theorem strs_line {B : Nat} {w : World} {vline vout : Value} {line : List (List UInt8)} {outs : List (List (List UInt8))} (hl : OwnS B w vline line) (ho : OwnL B w vout outs vline.ownBlock) : Strs (fun b => b < w.heap.size ∧ some b ≠ vout.ownBlock) w vline line := by
  obtain ⟨xs, h1, h2, _⟩ := ho
  have hl1 := hl.1
  rw [← strV_len line] at hl1
  refine ⟨row_own hl1 fun g hg hlt => ⟨hlt, ?_⟩, hl.2⟩
  rcases h2 with h2 | h2
  · rw [h2]; simp
  · rw [hg] at h2
    exact fun e => h2 e.symm

end Go.Proofs.YtfdipcphohhlgaaGreatDoor.Owns
