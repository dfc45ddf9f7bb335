/- Format: words' and the reference's. -/
import Derived.Test.YtnechpciaidkmaaDoorIntw
import Derived.Laws.Concat
import Derived.Lib.AppendIntMem
namespace Go.Proofs.YtnechpciaidkmaaDoor.Fmtw
open Go.RowKit Go.Lib Go.Proofs.YtnechpciaidkmaaDoor.Text Go.Proofs.YtnechpciaidkmaaDoor.Numt Go.Proofs.YtnechpciaidkmaaDoor.Kind Go.Proofs.YtnechpciaidkmaaDoor.Word Go.Proofs.YtnechpciaidkmaaDoor.Rword Go.Proofs.YtnechpciaidkmaaDoor.Debw Go.Proofs.YtnechpciaidkmaaDoor.Intw

theorem format_any (n : Int) (w : World) (h0 : -9223372036854775808 ≤ n) (h1 : n ≤ 9223372036854775807) (hdeb : Deb w) :
    Calls Tryd.prog 20 #[.int .i64 n] w fun e w' => e = .returned (.string (bs (itoa n))) ∧ Below w.heap.size w w' := by
  have HI := Lib.hid (fun w h => Tryd.strconv_Itoa n h0 h1 w h)
  have HT := Lib.hid hdeb.2.1
  clear hdeb h0 h1
  go_enter Tryd.func20, Tryd.ntmps20
  go_wp2_with fail
  refine (HI.out _ HT.out).mono ?_
  rintro e w' ⟨rfl, k, os, rfl⟩
  go_wp2_with fail
  go_ret
  exact ⟨rfl, Lib.below_grow _ _ (Nat.le_refl _) _ _⟩

theorem add_bs {P : Program} (a b : (List UInt8)) (h : a.length + b.length ≤ 9223372036854775807) (w : World) : (Op.stringOp .add (bs a) (bs b)).run P w = .ok (.string (bs (a ++ b))) w := by
  rw [run_string_add_sum w _ _ (by rw [bs_size, bs_size]; exact h), bs_append]

def ten : ByteArray := ⟨#[48, 49, 50, 51, 52, 53, 54, 55, 56, 57]⟩
theorem ten_fin : ∀ d : Fin 10, (ten.extract d.val (d.val + 1)).data.toList = [UInt8.ofNat (48 + d.val)] := by decide +kernel
theorem ten_at {d : Nat} (h : d < 10) : ten.extract d (d + 1) = bs [UInt8.ofNat (48 + d)] := by
  apply ByteArray.ext
  apply Array.toList_inj.1
  rw [ten_fin ⟨d, h⟩]
  rfl

theorem ten_slice {d : Nat} (h : d < 10) (w : World) : (Instr.slice 9 (.string ⟨#[48, 49, 50, 51, 52, 53, 54, 55, 56, 57]⟩) (some (.int .i64 (d : Int))) (some (.int .i64 ((d : Int) + 1))) none).run Tryd.prog w = .ok (.string (bs [UInt8.ofNat (48 + d)])) w := by
  rw [run_slice_string w _ _ _ _ _ _ Tryd.underlying9 (by omega) (by omega) (show ((d : Int) + 1) ≤ (10 : Nat) by omega)]
  rw [← ten_at h]
  rfl

/-- The digits that are laid, and what is left. -/
def FRel (u a : Nat) (l : (List UInt8)) : Prop := a ≤ u ∧ (l = [] ∧ a = u ∨ l ≠ [] ∧ decDigits u = (if a = 0 then [] else decDigits a) ++ l)
theorem frel_start (u : Nat) : FRel u u [] := ⟨Nat.le_refl _, .inl ⟨rfl, rfl⟩⟩
theorem frel_more {u a : Nat} {l : (List UInt8)} (h : FRel u a l) (hc : a ≠ 0 ∨ l = []) : FRel u (a / 10) (UInt8.ofNat (48 + a % 10) :: l) := by
  obtain ⟨h1, h2⟩ := h
  refine ⟨by omega, .inr ⟨by simp, ?_⟩⟩
  have e : decDigits u = decDigits a ++ l := by
    rcases h2 with ⟨rfl, rfl⟩ | ⟨h3, h4⟩
    · simp
    · rcases hc with hc | hc
      · rw [h4, if_neg hc]
      · exact absurd hc h3
  rw [e]
  by_cases h : a < 10
  · rw [decDigits, dif_pos h, if_pos (by omega), Nat.mod_eq_of_lt h]
    rfl
  · rw [decDigits, dif_neg h, if_neg (by omega)]
    simp
theorem frel_end {u : Nat} {l : (List UInt8)} (h : FRel u 0 l) (hl : l ≠ []) : decDigits u = l := by
  obtain ⟨_, h2⟩ := h
  rcases h2 with ⟨rfl, _⟩ | ⟨_, h4⟩
  · exact absurd rfl hl
  · rw [h4, if_pos rfl]; rfl
theorem frel_len {u a : Nat} {l : (List UInt8)} (h : FRel u a l) (hu : u ≤ 9223372036854775808) : l.length ≤ 20 := by
  obtain ⟨_, h2⟩ := h
  rcases h2 with ⟨rfl, _⟩ | ⟨_, h4⟩
  · simp
  · have h5 := nDigits_le20 u (by omega)
    rw [← decDigits_length, h4, List.length_append] at h5
    omega
theorem empty_eq {l : (List UInt8)} (h : l = []) : (bs l).toList.isEmpty = true := by rw [ByteArray.toList_eq, bs_list, h]; rfl
theorem empty_ne {l : (List UInt8)} (h : l ≠ []) : (bs l).toList.isEmpty = false := by rw [ByteArray.toList_eq, bs_list]; simpa using h

/-- A measure: the number that is left, and whether nothing is laid yet. -/
def emp (s : Value) : Nat := match s with | .string x => (if x.data.toList = [] then 1 else 0) | _ => 0
def meas (s m : Value) : Nat := (RowKit.intOf m).natAbs + emp s
theorem meas_cons (c : UInt8) (l : (List UInt8)) (m : Int) : meas (.string (bs (c :: l))) (.int .i64 m) = m.natAbs := by simp [meas, emp, RowKit.intOf, bs_list]
theorem meas_nil (m : Int) : meas (.string (bs [])) (.int .i64 m) = m.natAbs + 1 := by simp [meas, emp, RowKit.intOf, bs_list]
theorem meas_le (l : (List UInt8)) (m : Int) : m.natAbs ≤ meas (.string (bs l)) (.int .i64 m) := by simp [meas, RowKit.intOf]
theorem frel_zero {u : Nat} (h : FRel u 0 []) : FRel u 0 [48] := frel_more h (.inr rfl)

set_option maxHeartbeats 800000 in
set_option maxRecDepth 100000 in
theorem rformat_pos (u : Nat) (w : World) (hu : u ≤ 9223372036854775807) :
    Calls Tryd.prog 21 #[.int .i64 (u : Int)] w fun e w' => e = .returned (.string (bs (decDigits u))) ∧ w' = w := by
  go_enter Tryd.func21, Tryd.ntmps21
  go_wp2_with fail
  go_loop [3, 4] (fun s m => ∃ (a : Nat) (l : (List UInt8)), s = .string (bs l) ∧ m = .int .i64 (a : Int) ∧ FRel u a l) (fun s m => meas s m)
  case atStart => exact ⟨u, [], rfl, rfl, frel_start u⟩
  case round =>
    obtain ⟨a, l, rfl, rfl, hr⟩ := hrel
    have HL := Lib.hid (frel_len hr (by omega))
    have hau : a ≤ u := hr.1
    have HR := Lib.hid hr
    clear hr
    by_cases ha : a = 0
    · subst ha
      by_cases hl : l = []
      · subst hl
        have HN := Lib.hid (frel_zero HR.out)
        have hten := ten_at (d := 0) (by decide)
        unfold ten at hten
        have hadd := fun w => add_bs (P := Tryd.prog) [48] [] (by decide) w
        have hq := empty_eq (l := []) rfl
        rw [List.append_nil] at hadd
        go_wp2_with fail
        go_round
        case rel => exact ⟨0, [48], rfl, rfl, HN.out⟩
        case measure =>
          have h1 := meas_cons 48 [] 0
          have h2 := meas_nil 0
          have h3 : (0 : Int).natAbs = 0 := rfl
          rw [h3] at h1 h2
          show meas (.string (bs [48])) (.int .i64 0) < meas (.string (bs [])) (.int .i64 0)
          rw [h1, h2]
          exact Nat.zero_lt_one
      · have hq := empty_ne hl
        have HE := Lib.hid (frel_end HR.out hl)
        go_wp2_with fail
        go_ret
        exact ⟨by rw [HE.out]; rfl, rfl⟩
    · have HN := Lib.hid (frel_more HR.out (.inl ha))
      have hd10 : a % 10 < 10 := Nat.mod_lt _ (by decide)
      have hten := fun w => ten_slice hd10 w
      have hadd := fun w => add_bs (P := Tryd.prog) [UInt8.ofNat (48 + a % 10)] l (by have := HL.out; simp; omega) w
      obtain ⟨c, hc⟩ : ∃ c, UInt8.ofNat (48 + a % 10) = c := ⟨_, rfl⟩
      rw [hc] at HN hten
      rw [hc, List.singleton_append] at hadd
      have hn : ((a : Int) != 0) = true := by simp; omega
      have hem : (a : Int) % 10 = ((a % 10 : Nat) : Int) := by omega
      obtain ⟨d, hd⟩ : ∃ d, a % 10 = d := ⟨_, rfl⟩
      rw [hd] at hten hem hd10
      clear hc hd
      go_wp2_with fail
      go_round
      case rel => exact ⟨_, _, rfl, rfl, HN.out⟩
      case measure => 
        rw [meas_cons]
        have := meas_le l a
        omega

theorem tdiv_neg (a : Nat) : (-(a : Int)).tdiv 10 = -((a / 10 : Nat) : Int) := by
  rw [Int.neg_tdiv, Int.tdiv_eq_ediv_of_nonneg (by omega)]
  omega
theorem tmod_neg (a : Nat) : (-(a : Int)).tmod 10 = -((a % 10 : Nat) : Int) := by
  rw [Int.neg_tmod, Int.tmod_eq_emod_of_nonneg (by omega)]
  omega

set_option maxHeartbeats 800000 in
set_option maxRecDepth 100000 in
theorem rformat_neg (u : Nat) (w : World) (h1 : 1 ≤ u) (hu : u ≤ 9223372036854775808) :
    Calls Tryd.prog 21 #[.int .i64 (-(u : Int))] w fun e w' => e = .returned (.string (bs (45 :: decDigits u))) ∧ w' = w := by
  go_enter Tryd.func21, Tryd.ntmps21
  go_wp2_with fail
  go_loop [3, 4] (fun s m => ∃ (a : Nat) (l : (List UInt8)), s = .string (bs l) ∧ m = .int .i64 (-(a : Int)) ∧ FRel u a l) (fun s m => meas s m)
  case atStart => exact ⟨u, [], rfl, rfl, frel_start u⟩
  case round =>
    obtain ⟨a, l, rfl, rfl, hr⟩ := hrel
    have HL := Lib.hid (frel_len hr (by omega))
    have hau : a ≤ u := hr.1
    have HR := Lib.hid hr
    clear hr
    by_cases ha : a = 0
    · subst ha
      by_cases hl : l = []
      · exfalso
        subst hl
        obtain ⟨_, h | h⟩ := HR.out
        · omega
        · exact h.1 rfl
      · have hq := empty_ne hl
        have HE := Lib.hid (frel_end HR.out hl)
        have hadd := fun w => add_bs (P := Tryd.prog) [45] l (by have := HL.out; simp; omega) w
        rw [List.singleton_append] at hadd
        have hadd' : ∀ w, (Op.stringOp .add ⟨#[45]⟩ (bs l)).run Tryd.prog w = .ok (.string (bs (45 :: l))) w := hadd
        have hn : -(u : Int) < 0 := by omega
        clear hadd
        go_wp2_with fail
        go_ret
        exact ⟨by rw [HE.out]; rfl, rfl⟩
    · have HN := Lib.hid (frel_more HR.out (.inl ha))
      have hd10 : a % 10 < 10 := Nat.mod_lt _ (by decide)
      have hten := fun w => ten_slice hd10 w
      have hadd := fun w => add_bs (P := Tryd.prog) [UInt8.ofNat (48 + a % 10)] l (by have := HL.out; simp; omega) w
      obtain ⟨c, hc⟩ : ∃ c, UInt8.ofNat (48 + a % 10) = c := ⟨_, rfl⟩
      rw [hc] at HN hten
      rw [hc, List.singleton_append] at hadd
      have hn : (-(a : Int) != 0) = true := by simp; omega
      have hem := tmod_neg a
      have hdv := tdiv_neg a
      obtain ⟨d, hd⟩ : ∃ d, a % 10 = d := ⟨_, rfl⟩
      obtain ⟨q, hq⟩ : ∃ q, a / 10 = q := ⟨_, rfl⟩
      rw [hd] at hten hem hd10
      rw [hq] at hdv HN
      have hqa : q < a := by omega
      clear hc hd hq
      by_cases h0 : d = 0
      · subst h0
        have hem0 : (-(a : Int)).tmod 10 = 0 := hem
        have hten0 : ∀ w, (Instr.slice 9 (.string ⟨#[48, 49, 50, 51, 52, 53, 54, 55, 56, 57]⟩) (some (.int .i64 0)) (some (.int .i64 1)) none).run Tryd.prog w = .ok (.string (bs [c])) w := hten
        clear hem hten
        go_wp2_with fail
        refine ⟨⟨q, c :: l, rfl, rfl, HN.out⟩, ?_⟩
        rw [meas_cons]
        have := meas_le l (-(a : Int))
        omega
      · have hneg : -(d : Int) < 0 := by omega
        have hpos : 0 < d := by omega
        have hposi : (0 : Int) < d := by omega
        go_wp2_with fail
        refine ⟨⟨q, c :: l, rfl, rfl, HN.out⟩, ?_⟩
        rw [meas_cons]
        have := meas_le l (-(a : Int))
        omega

theorem rformat_any (n : Int) (w : World) (h0 : -9223372036854775808 ≤ n) (h1 : n ≤ 9223372036854775807) :
    Calls Tryd.prog 21 #[.int .i64 n] w fun e w' => e = .returned (.string (bs (itoa n))) ∧ w' = w := by
  by_cases h : n < 0
  · have := rformat_neg n.natAbs w (by omega) (by omega)
    rw [show -(n.natAbs : Int) = n by omega] at this
    rw [itoa, if_pos h]
    exact this
  · have := rformat_pos n.toNat w (by omega)
    rw [show (n.toNat : Int) = n by omega] at this
    rw [itoa, if_neg h]
    exact this

end Go.Proofs.YtnechpciaidkmaaDoor.Fmtw
