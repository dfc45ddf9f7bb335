/- The call of words.Name alone (of XKind and XWord what it needs), for programs that hold no other function of words. -/
import Derived.Test.YtieoegodhhiiiaaKindn
import Derived.Shelf.Abstract
namespace Go.Proofs.Ytieoegodhhiiiaa.Namew
open Go.RowKit Go.Lib Go.Proofs.Ytieoegodhhiiiaa.Text Go.Proofs.Ytieoegodhhiiiaa.Numt Go.Proofs.Ytieoegodhhiiiaa.Kindn

theorem letter_eq (b : UInt8) : pLetter b.toNat = isLet b := by
  simp only [pLetter, isLet]
  congr 1
  · exact decide_eq_decide.2 (by omega)
  · exact decide_eq_decide.2 (by omega)
theorem all_name (l : (List UInt8)) : (l.all fun b => pName b.toNat) = l.all inName := by
  congr 1
  funext b
  have h1 := letter_eq b
  have h2 : pDigit b.toNat = isDig b := by
    simp only [pDigit, isDig]
    congr 1
    · exact decide_eq_decide.2 (by omega)
    · exact decide_eq_decide.2 (by omega)
  rw [pName, inName, h1, h2]
  congr 1
  exact decide_eq_decide.2 (by omega)

theorem name_split (l : (List UInt8)) : nameL l = (decide (l ≠ []) && decide (l.length ≤ 12) && (match l with | [] => false | b :: _ => isLet b) && l.all inName) := rfl
theorem eName : ∀ args w, Sem.run Try.prog (callFunc 76 args) w = .ok (.enter 76 args) w := enters_of Try.func76 (by kernel_rfl) rfl

theorem head_at {s : ByteArray} {b : UInt8} {r : (List UInt8)} (h : s.data.toList = b :: r) : ∃ h0 : 0 < s.size, s[0]'h0 = b := by
  have hs : s.size = s.data.toList.length := Lib.size_eq s
  have h0 : 0 < s.size := by rw [hs, h]; simp
  refine ⟨h0, ?_⟩
  have := drop_at s 0 h0
  rw [List.drop_zero, h] at this
  exact (List.cons.inj this).1.symm

set_option maxRecDepth 100000 in
theorem name_any (s : ByteArray) (w : World) : Calls Try.prog 48 #[.string s] w (BoolOut (nameL s.data.toList) w) := by
  have HC := Lib.hid (consists_any 76 pName eName inName_any pname_hi s)
  rw [all_name] at HC
  have hsz : s.size = s.data.toList.length := Lib.size_eq s
  have e : nameL s.data.toList = _ := name_split s.data.toList
  obtain ⟨W, hW⟩ : ∃ W, nameL s.data.toList = W := ⟨_, rfl⟩
  obtain ⟨A, hA⟩ : ∃ A, s.data.toList.all inName = A := ⟨_, rfl⟩
  rw [hA] at HC e
  rw [hW] at e ⊢
  by_cases h0 : s.data.toList = []
  · have hq : s.toList.isEmpty = true := by rw [ByteArray.toList_eq]; simpa using h0
    have HE := Lib.hid (show W = false by rw [e]; simp [h0])
    clear hA hW e h0
    go_enter Try.func48, Try.ntmps48
    go_wp2_with fail
    go_ret
    exact ⟨by rw [HE.out]; rfl, Below.refl _ _⟩
  · have hq : s.toList.isEmpty = false := by rw [ByteArray.toList_eq]; simpa using h0
    by_cases h12 : s.size ≤ 12
    · obtain ⟨b, r, hl⟩ : ∃ b r, s.data.toList = b :: r := by
        cases h : s.data.toList with
        | nil => exact absurd h h0
        | cons b r => exact ⟨b, r, rfl⟩
      obtain ⟨hpos, hget⟩ := head_at hl
      have HL := Lib.hid (fun w => isLetter_any b.toNat w)
      rw [letter_eq] at HL
      have e2 : W = (isLet b && A) := by
        rw [e]
        have h1 : decide (s.data.toList ≠ []) = true := by simp [h0]
        have h2 : decide (s.data.toList.length ≤ 12) = true := by rw [← hsz]; simp [h12]
        rw [h1, h2, hl]
        rfl
      have hb : b.toNat < 256 := b.toNat_lt
      clear hA hW e h0 hsz hl
      rcases Bool.eq_false_or_eq_true (isLet b) with hlb | hlb
      · rw [hlb] at HL e2
        have HE := Lib.hid (show W = A by rw [e2, Bool.true_and])
        clear hlb e2
        go_enter Try.func48, Try.ntmps48
        go_wp2_with fail
        refine (HL.out _).mono ?_
        rintro e w' ⟨rfl, rfl⟩
        go_wp2_with fail
        refine (HC.out _).mono ?_
        rintro e w' ⟨rfl, hb⟩
        have HB := Lib.hid hb
        clear hb
        cases A
        · go_wp2_with fail
          go_ret
          exact ⟨by rw [HE.out]; rfl, HB.out⟩
        · go_wp2_with fail
          go_ret
          exact ⟨by rw [HE.out]; rfl, HB.out⟩
      · rw [hlb] at HL e2
        have HE := Lib.hid (show W = false by rw [e2, Bool.false_and])
        clear hlb e2
        go_enter Try.func48, Try.ntmps48
        go_wp2_with fail
        refine (HL.out _).mono ?_
        rintro e w' ⟨rfl, rfl⟩
        go_wp2_with fail
        go_ret
        exact ⟨by rw [HE.out]; rfl, Below.refl _ _⟩
    · have HE := Lib.hid (show W = false by rw [e]; simp; omega)
      clear hA hW e h0 hsz
      go_enter Try.func48, Try.ntmps48
      go_wp2_with fail
      go_ret
      exact ⟨by rw [HE.out]; rfl, Below.refl _ _⟩

end Go.Proofs.Ytieoegodhhiiiaa.Namew
