/- Texts of this proof, merged: Prds, Pbas. -/
import Derived.Test.YtfdipcphohhlgaaGreatDoorG15
import Derived.Test.YtfdipcphohhlgaaGreatDoorG08
import Derived.Test.YtfdipcphohhlgaaGreatDoorG06

/- A line read word by word: plain mathematics, of no program. -/
namespace Go.Proofs.YtfdipcphohhlgaaGreatDoor.Prds
open Go.Lib Go.Proofs.YtfdipcphohhlgaaGreatDoor.Lay Go.Proofs.YtfdipcphohhlgaaGreatDoor.Layf Go.Proofs.YtfdipcphohhlgaaGreatDoor.Lcon Go.Proofs.YtfdipcphohhlgaaGreatDoor.Numt Go.Proofs.YtfdipcphohhlgaaGreatDoor.Plnf Go.Proofs.YtfdipcphohhlgaaGreatDoor.Pkin
open Go.Proofs.YtfdipcphohhlgaaGreatDoor.Text hiding lineL joinR

/-- The words still to be read, and what the words so far were. -/
structure Rs where
  ws : List (List UInt8)
  mal : Bool
  unk : Bool
def Rs.hd (s : Rs) : List UInt8 := s.ws.headD []
def Rs.word (s : Rs) : Rs := ⟨s.ws.tail, s.mal || s.ws.isEmpty, s.unk⟩
def Rs.num (s : Rs) : Rs := ⟨s.ws.tail, s.mal || !numB s.hd, s.unk⟩
def Rs.known (i : Int) (s : Rs) : Rs := ⟨s.ws, s.mal, s.unk || decide (i = -1)⟩
def Rs.el (L : Lay) (s : Rs) : Rs := s.word.known (elementF L s.hd)
def Rs.sec (L : Lay) (s : Rs) : Rs := s.word.known (secF L s.hd)
def Rs.endS (L : Lay) (s : Rs) : Rs := (s.el L).num
def endX (L : Lay) (s : Rs) : Int × Int := (elementF L s.hd, intN (s.el L).hd)
def Rs.five (L : Lay) (s : Rs) : Rs := (((s.word.sec L).num).num).num
def Rs.elemS (k : Int) (L : Lay) (s : Rs) : Rs := if k = 2 then (s.five L).num else s.five L
def elemX (k : Int) (L : Lay) (s : Rs) : Elem :=
  ⟨s.hd, k, intN (s.word.sec L).hd, intN (s.word.sec L).num.hd, intN (s.word.sec L).num.num.hd, if k = 2 then intN (s.five L).hd else 0, secF L s.word.hd⟩
/-- The error of a line that was read. -/
def finE (s : Rs) : Int := if (s.mal || !s.ws.isEmpty) = true then 4 else if s.unk = true then 9 else 0
/-- What a line in its place does. -/
def progL (L : Lay) (ws : List (List UInt8)) : Rs × Lay :=
  let s : Rs := ⟨ws.tail, false, false⟩
  let k := ws.headD []
  if placeF k = 1 then (s.word, { L with name := s.hd })
  else if placeF k = 2 then (s.word, { L with secs := L.secs ++ [s.hd] })
  else if placeF k = 3 then (s.elemS (kindOf k) L, { L with els := L.els ++ [elemX (kindOf k) L s] })
  else if placeF k = 4 then ((s.endS L).endS L, { L with joints := L.joints ++ [(endX L s, endX L (s.endS L))] })
  else if placeF k = 5 then ((s.word.endS L).num, { L with sigs := L.sigs ++ [⟨s.hd, endX L s.word, intN (s.word.endS L).hd⟩] })
  else if placeF k = 6 then ((s.num.el L).num, { L with bals := L.bals ++ [⟨intN s.hd, elementF L s.num.hd, intN (s.num.el L).hd⟩] })
  else (s, L)

theorem firstI_neg {α : Type} {p : α → Bool} : ∀ {l : List α} {i : Nat}, firstI p i l < 0 ↔ firstI p i l = -1
  | [], i => by simp [firstI]
  | x :: l, i => by
    cases h : p x with
    | true => rw [firstI_yes h]; omega
    | false => rw [firstI_no h]; exact firstI_neg
theorem el_neg (L : Lay) (n : List UInt8) : (elementF L n < 0) = (elementF L n = -1) := propext firstI_neg
theorem sec_neg (L : Lay) (n : List UInt8) : (secF L n < 0) = (secF L n = -1) := propext firstI_neg
theorem numB_nil : numB [] = false := by decide

theorem rank_cases {k : List UInt8} (h : rankL k ≠ none) : k = kLay ∨ k = kSec ∨ k = kTrk ∨ k = kPts ∨ k = kCrs ∨ k = kJnt ∨ k = kSig ∨ k = kBal := by
  unfold rankL at h
  by_cases h1 : k = kLay
  · exact .inl h1
  by_cases h2 : k = kSec
  · exact .inr (.inl h2)
  by_cases h3 : k = kTrk ∨ k = kPts ∨ k = kCrs
  · rcases h3 with h | h | h <;> simp [h]
  by_cases h4 : k = kJnt
  · simp [h4]
  by_cases h5 : k = kSig
  · simp [h5]
  by_cases h6 : k = kBal
  · simp [h6]
  · rw [if_neg h1, if_neg h2, if_neg h3, if_neg h4, if_neg h5, if_neg h6] at h
    exact absurd rfl h

/-- What a line in its place says is what it says as a whole. -/
theorem prog_read (L : Lay) (ws : List (List UInt8)) (h : rankL (ws.headD []) ≠ none) :
    (readL L ws).1 = finE (progL L ws).1 ∧ (finE (progL L ws).1 = 0 → (readL L ws).2 = (progL L ws).2) := by
  have hk := rank_cases h
  clear h
  rcases ws with _ | ⟨k, r⟩
  · exfalso
    rcases hk with h | h | h | h | h | h | h | h <;> exact absurd h (by decide)
  rw [List.headD_cons] at hk
  rcases hk with rfl | rfl | rfl | rfl | rfl | rfl | rfl | rfl
  · have e : placeF kLay = 1 := by decide
    rcases r with _ | ⟨a, _ | ⟨b, _ | ⟨c, _ | ⟨d, _ | ⟨u, _ | ⟨f, _ | ⟨g, r⟩⟩⟩⟩⟩⟩⟩ <;> simp [progL, readL, e, finE, Rs.word, Rs.hd, show ¬ kLay = kTrk by decide, show ¬ kLay = kCrs by decide, show ¬ kLay = kPts by decide, show ¬ kLay = kJnt by decide, show ¬ kLay = kSig by decide, show ¬ kLay = kBal by decide]
  · have e : placeF kSec = 2 := by decide
    rcases r with _ | ⟨a, _ | ⟨b, _ | ⟨c, _ | ⟨d, _ | ⟨u, _ | ⟨f, _ | ⟨g, r⟩⟩⟩⟩⟩⟩⟩ <;> simp [progL, readL, e, finE, Rs.word, Rs.hd, show ¬ kSec = kLay by decide, show ¬ kSec = kTrk by decide, show ¬ kSec = kCrs by decide, show ¬ kSec = kPts by decide, show ¬ kSec = kJnt by decide, show ¬ kSec = kSig by decide, show ¬ kSec = kBal by decide]
  · have e : placeF kTrk = 3 := by decide
    have e2 : kindOf kTrk = 1 := by decide
    rcases r with _ | ⟨a, _ | ⟨b, _ | ⟨c, _ | ⟨d, _ | ⟨f, _ | ⟨g, _ | ⟨i, r⟩⟩⟩⟩⟩⟩⟩ <;> simp [progL, readL, e, e2, finE, Rs.word, Rs.hd, Rs.num, Rs.known, Rs.sec, Rs.five, Rs.elemS, elemX, numB_nil, sec_neg, show ¬ kTrk = kLay by decide, show ¬ kTrk = kSec by decide, show ¬ kTrk = kCrs by decide, show ¬ kTrk = kPts by decide, show ¬ kTrk = kJnt by decide, show ¬ kTrk = kSig by decide, show ¬ kTrk = kBal by decide]
    cases numB c <;> cases numB d <;> cases numB f <;> by_cases hs : secF L b = -1 <;> simp [hs]
  · have e : placeF kPts = 3 := by decide
    have e2 : kindOf kPts = 2 := by decide
    rcases r with _ | ⟨a, _ | ⟨b, _ | ⟨c, _ | ⟨d, _ | ⟨f, _ | ⟨g, _ | ⟨i, r⟩⟩⟩⟩⟩⟩⟩ <;> simp [progL, readL, e, e2, finE, Rs.word, Rs.hd, Rs.num, Rs.known, Rs.sec, Rs.five, Rs.elemS, elemX, numB_nil, sec_neg, show ¬ kPts = kLay by decide, show ¬ kPts = kSec by decide, show ¬ kPts = kCrs by decide, show ¬ kPts = kTrk by decide, show ¬ kPts = kJnt by decide, show ¬ kPts = kSig by decide, show ¬ kPts = kBal by decide]
    cases numB c <;> cases numB d <;> cases numB f <;> cases numB g <;> by_cases hs : secF L b = -1 <;> simp [hs]
  · have e : placeF kCrs = 3 := by decide
    have e2 : kindOf kCrs = 3 := by decide
    rcases r with _ | ⟨a, _ | ⟨b, _ | ⟨c, _ | ⟨d, _ | ⟨f, _ | ⟨g, _ | ⟨i, r⟩⟩⟩⟩⟩⟩⟩ <;> simp [progL, readL, e, e2, finE, Rs.word, Rs.hd, Rs.num, Rs.known, Rs.sec, Rs.five, Rs.elemS, elemX, numB_nil, sec_neg, show ¬ kCrs = kLay by decide, show ¬ kCrs = kSec by decide, show ¬ kCrs = kTrk by decide, show ¬ kCrs = kPts by decide, show ¬ kCrs = kJnt by decide, show ¬ kCrs = kSig by decide, show ¬ kCrs = kBal by decide]
    cases numB c <;> cases numB d <;> cases numB f <;> by_cases hs : secF L b = -1 <;> simp [hs]
  · have e : placeF kJnt = 4 := by decide
    rcases r with _ | ⟨a, _ | ⟨b, _ | ⟨c, _ | ⟨d, _ | ⟨f, _ | ⟨g, _ | ⟨i, r⟩⟩⟩⟩⟩⟩⟩ <;> simp [progL, readL, e, finE, Rs.word, Rs.hd, Rs.num, Rs.known, Rs.el, Rs.endS, endX, numB_nil, el_neg, show ¬ kJnt = kLay by decide, show ¬ kJnt = kSec by decide, show ¬ kJnt = kTrk by decide, show ¬ kJnt = kPts by decide, show ¬ kJnt = kCrs by decide, show ¬ kJnt = kBal by decide]
    cases numB b <;> cases numB d <;> by_cases hs : elementF L a = -1 <;> by_cases hs2 : elementF L c = -1 <;> simp [hs, hs2]
  · have e : placeF kSig = 5 := by decide
    rcases r with _ | ⟨a, _ | ⟨b, _ | ⟨c, _ | ⟨d, _ | ⟨f, _ | ⟨g, _ | ⟨i, r⟩⟩⟩⟩⟩⟩⟩ <;> simp [progL, readL, e, finE, Rs.word, Rs.hd, Rs.num, Rs.known, Rs.el, Rs.endS, endX, numB_nil, el_neg, show ¬ kSig = kLay by decide, show ¬ kSig = kSec by decide, show ¬ kSig = kTrk by decide, show ¬ kSig = kPts by decide, show ¬ kSig = kCrs by decide, show ¬ kSig = kJnt by decide, show ¬ kSig = kBal by decide]
    cases numB c <;> cases numB d <;> by_cases hs : elementF L b = -1 <;> simp [hs]
  · have e : placeF kBal = 6 := by decide
    rcases r with _ | ⟨a, _ | ⟨b, _ | ⟨c, _ | ⟨d, _ | ⟨f, _ | ⟨g, _ | ⟨i, r⟩⟩⟩⟩⟩⟩⟩ <;> simp [progL, readL, e, finE, Rs.word, Rs.hd, Rs.num, Rs.known, Rs.el, numB_nil, el_neg, show ¬ kBal = kLay by decide, show ¬ kBal = kSec by decide, show ¬ kBal = kTrk by decide, show ¬ kBal = kPts by decide, show ¬ kBal = kCrs by decide, show ¬ kBal = kJnt by decide, show ¬ kBal = kSig by decide]
    cases numB a <;> cases numB c <;> by_cases hs : elementF L b = -1 <;> simp [hs]

end Go.Proofs.YtfdipcphohhlgaaGreatDoor.Prds

/- The program's small functions: between, isIndex, Sides, Section, exists. -/
namespace Go.Proofs.YtfdipcphohhlgaaGreatDoor.Pbas
open Go.RowKit Go.Lib Go.Proofs.YtfdipcphohhlgaaGreatDoor.Reads Go.Proofs.YtfdipcphohhlgaaGreatDoor.Rows2 Go.Proofs.YtfdipcphohhlgaaGreatDoor.Lay Go.Proofs.YtfdipcphohhlgaaGreatDoor.Layf Go.Proofs.YtfdipcphohhlgaaGreatDoor.Lcon Go.Proofs.YtfdipcphohhlgaaGreatDoor.Ldup Go.Proofs.YtfdipcphohhlgaaGreatDoor.Lext Go.Proofs.YtfdipcphohhlgaaGreatDoor.Lnmd Go.Proofs.YtfdipcphohhlgaaGreatDoor.Lsid
open Go.Proofs.YtfdipcphohhlgaaGreatDoor.Text hiding lineL joinR

theorem between_any (n lo hi : Int) (w : World) :
    Calls Tryz.prog 58 #[.int .i64 n, .int .i64 lo, .int .i64 hi] w fun e w' => e = .returned (.bool (decide (lo ≤ n ∧ n ≤ hi))) ∧ w' = w := by
  by_cases h1 : lo ≤ n
  · go_enter Tryz.func58, Tryz.ntmps58
    go_wp2
    go_ret
    refine ⟨?_, rfl⟩
    simp [h1]
  · have h2 : decide (lo ≤ n) = false := by simp; omega
    go_enter Tryz.func58, Tryz.ntmps58
    go_wp2
    go_ret
    exact ⟨rfl, rfl⟩
theorem index_any (i s : Int) (h0 : 0 ≤ s) (h1 : s ≤ 9223372036854775807) (w : World) :
    Calls Tryz.prog 68 #[.int .i64 i, .int .i64 s] w fun e w' => e = .returned (.bool (decide (0 ≤ i ∧ i < s))) ∧ w' = w := by
  have H := Lib.hid (fun w => between_any i 0 (s - 1) w)
  have h3 : (0 ≤ i ∧ i ≤ s - 1) ↔ (0 ≤ i ∧ i < s) := by omega
  rw [decide_eq_decide.2 h3] at H
  obtain ⟨q, hq⟩ : ∃ q, decide (0 ≤ i ∧ i < s) = q := ⟨_, rfl⟩
  rw [hq] at H ⊢
  clear h3 hq
  go_enter Tryz.func68, Tryz.ntmps68
  go_wp2_with fail
  refine (H.out _).mono ?_
  rintro e w' ⟨rfl, rfl⟩
  go_wp2_with fail
  go_ret
  exact ⟨rfl, rfl⟩
theorem sides_any (k : Int) (w : World) : Calls Tryz.prog 66 #[.int .i64 k] w fun e w' => e = .returned (.int .i64 (sidesN k)) ∧ w' = w := by
  rcases kinds k with rfl | rfl | rfl | ⟨h1, h2, h3⟩
  all_goals
    go_enter Tryz.func66, Tryz.ntmps66
    go_wp2_with fail
    go_ret
    first
      | exact ⟨rfl, rfl⟩
      | exact ⟨by simp [sidesN, h1, h2, h3], rfl⟩
theorem sides_le (k : Int) : 0 ≤ sidesN k ∧ sidesN k ≤ 4 := by
  unfold sidesN
  split
  · omega
  · split
    · omega
    · split <;> omega

set_option maxRecDepth 100000 in
set_option maxHeartbeats 800000 in
theorem section_any (L : Lay) (i : Int) {vs ve vj vg vb : Value} (w : World) (h : LayAt (In w) w L vs ve vj vg vb) :
    Calls Tryz.prog 76 #[layV L vs ve vj vg vb, .int .i64 i] w (NumOut (sectionF L i) w) := by
  obtain ⟨a, cap, rfl, hm, hel⟩ := h.el
  have HB := Lib.hid ((Below.refl w.heap.size w).alloc (Nat.le_refl _) (.cells #[.string (bs L.name), vs, .slice a L.els.length cap, vj, vg, vb] 28))
  have HE := Lib.hid (hel w (Below.refl _ _))
  have HI := Lib.hid (fun w => index_any i (L.els.length : Int) (by omega) hm w)
  clear h hel
  unfold layV
  by_cases h0 : 0 ≤ i ∧ i < (L.els.length : Int)
  · obtain ⟨j, rfl⟩ := Int.eq_ofNat_of_zero_le h0.1
    obtain ⟨x, hx⟩ := at_lt (l := L.els) (k := j) (by omega)
    obtain ⟨b, off, rfl, _, _, _, _, _, _, c6⟩ := HE.out j x hx
    have HV := Lib.hid (section_at hx)
    have hbl : b < w.heap.size := block_lt_of_cell c6
    rw [decide_eq_true h0] at HI
    obtain ⟨nm, kd, ln, gr, sp, sl, sc⟩ := x
    simp only at c6 HV
    have hlt := h0.2
    clear hx h0
    go_enter Tryz.func76, Tryz.ntmps76
    go_wp2_with fail
    refine (HI.out _).mono ?_
    rintro e w' ⟨rfl, rfl⟩
    go_wp2_with fail
    go_ret
    exact ⟨by rw [HV.out]; rfl, HB.out⟩
  · have HV := Lib.hid (show sectionF L i = -1 by unfold sectionF; rw [if_pos (by omega)])
    rw [decide_eq_false h0] at HI
    clear h0
    go_enter Tryz.func76, Tryz.ntmps76
    go_wp2_with fail
    refine (HI.out _).mono ?_
    rintro e w' ⟨rfl, rfl⟩
    go_wp2_with fail
    go_ret
    exact ⟨by rw [HV.out]; rfl, HB.out⟩

set_option maxRecDepth 100000 in
set_option maxHeartbeats 1600000 in
theorem exists_any (L : Lay) (p : Int × Int) {vs ve vj vg vb : Value} (w : World) (h : LayAt (In w) w L vs ve vj vg vb) :
    Calls Tryz.prog 72 #[layV L vs ve vj vg vb, pV p] w (BoolOut (existsB L.els p) w) := by
  obtain ⟨a, cap, rfl, hm, hel⟩ := h.el
  have HB := Lib.hid (((Below.refl w.heap.size w).alloc (Nat.le_refl _) (.cells #[.string (bs L.name), vs, .slice a L.els.length cap, vj, vg, vb] 28)).alloc (by simp) (.cells #[.int .i64 p.1, .int .i64 p.2] 47))
  have HE := Lib.hid (hel w (Below.refl _ _))
  clear h hel
  obtain ⟨p, q⟩ := p
  have HI := Lib.hid (fun w => index_any p (L.els.length : Int) (by omega) hm w)
  unfold layV pV
  simp only at HB ⊢
  by_cases h0 : 0 ≤ p ∧ p < (L.els.length : Int)
  · obtain ⟨i, rfl⟩ := Int.eq_ofNat_of_zero_le h0.1
    obtain ⟨x, hx⟩ := at_lt (l := L.els) (k := i) (by omega)
    obtain ⟨b, off, rfl, _, c1, _⟩ := HE.out i x hx
    have HS := Lib.hid (fun w => sides_any x.kind w)
    have HJ := Lib.hid (fun w => index_any q (sidesN x.kind) (sides_le _).1 (by have := (sides_le x.kind).2; omega) w)
    have HV : Hid (existsB L.els ((i : Int), q) = decide (0 ≤ q ∧ q < sidesN x.kind)) := by
      show existsB L.els ((i : Int), q) = _
      by_cases hq : 0 ≤ q
      · rw [exists_yes (p := ((i : Int), q)) (by simp) hq (by simpa using hx)]
        simp [hq]
      · rw [exists_neg (p := ((i : Int), q)) (.inr (.inr (by simpa using hq))), decide_eq_false (by omega)]
    obtain ⟨t, ht⟩ : ∃ t, decide (0 ≤ q ∧ q < sidesN x.kind) = t := ⟨_, rfl⟩
    rw [ht] at HJ HV
    obtain ⟨nm, kd, ln, gr, sp, sl, sc⟩ := x
    simp only at c1 HS HJ
    obtain ⟨s, hs⟩ : ∃ s, sidesN kd = s := ⟨_, rfl⟩
    rw [hs] at HS HJ
    rw [decide_eq_true h0] at HI
    have hbl : b < w.heap.size := block_lt_of_cell c1
    have hlt := h0.2
    clear hx hs h0 ht
    go_enter Tryz.func72, Tryz.ntmps72
    go_wp2_with fail
    go_quiet (first | (go_at_call 68; first | with_reducible exact Calls.quiet_of_same (HI.out _) | with_reducible exact Calls.quiet_of_same (HJ.out _)) | (go_at_call 66; exact Calls.quiet_of_same (HS.out _)))
    go_wp2_with fail
    go_ret
    exact ⟨by rw [HV.out]; rfl, below_drewN HB.out _⟩
  · have HV := Lib.hid (exists_neg (els := L.els) (p := (p, q)) (by simp only; omega))
    rw [decide_eq_false h0] at HI
    clear h0
    go_enter Tryz.func72, Tryz.ntmps72
    go_wp2_with fail
    go_quiet ((go_at_call 68; exact Calls.quiet_of_same (HI.out _)))
    go_wp2_with fail
    go_ret
    exact ⟨by rw [HV.out]; rfl, below_drewN HB.out _⟩

end Go.Proofs.YtfdipcphohhlgaaGreatDoor.Pbas
