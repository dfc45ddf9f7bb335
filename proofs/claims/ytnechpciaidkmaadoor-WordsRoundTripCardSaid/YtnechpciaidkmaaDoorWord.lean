/- Words, decimal forms and names: the calls of words and of the reference that tell them. -/
import Derived.Test.YtnechpciaidkmaaDoorKind
import Derived.Test.YtnechpciaidkmaaDoorShelf
namespace Go.Proofs.YtnechpciaidkmaaDoor.Word
open Go.RowKit Go.Lib Go.Proofs.YtnechpciaidkmaaDoor.Text Go.Proofs.YtnechpciaidkmaaDoor.Numt Go.Proofs.YtnechpciaidkmaaDoor.Kind

theorem all_word (l : (List UInt8)) : (l.all fun b => pWord b.toNat) = l.all inWord := by
  congr 1
  funext b
  simp only [pWord, inWord]
  congr 1
  · exact decide_eq_decide.2 (by omega)
  · exact decide_eq_decide.2 (by omega)
theorem all_digit (l : (List UInt8)) : (l.all fun b => pDigit b.toNat) = l.all isDig := by
  congr 1
  funext b
  simp only [pDigit, isDig]
  congr 1
  · exact decide_eq_decide.2 (by omega)
  · exact decide_eq_decide.2 (by omega)
theorem letter_eq (b : UInt8) : pLetter b.toNat = isLet b := by
  simp only [pLetter, isLet]
  congr 1
  · exact decide_eq_decide.2 (by omega)
  · exact decide_eq_decide.2 (by omega)
theorem all_name (l : (List UInt8)) : (l.all fun b => pName b.toNat) = l.all inName := by
  congr 1
  funext b
  have h1 := letter_eq b
  have h2 : pDigit b.toNat = isDig b := by
    simp only [pDigit, isDig]
    congr 1
    · exact decide_eq_decide.2 (by omega)
    · exact decide_eq_decide.2 (by omega)
  rw [pName, inName, h1, h2]
  congr 1
  exact decide_eq_decide.2 (by omega)

theorem eWord : ∀ args w, Sem.run Tryd.prog (callFunc 60 args) w = .ok (.enter 60 args) w := enters_of Tryd.func60 (by kernel_rfl) rfl

set_option maxRecDepth 100000 in
theorem word_any (s : ByteArray) (w : World) : Calls Tryd.prog 48 #[.string s] w (BoolOut (wordL s.data.toList) w) := by
  have HC := Lib.hid (consists_any 60 pWord eWord inWord_any pword_hi s)
  rw [all_word] at HC
  have hsz : s.size = s.data.toList.length := Lib.size_eq s
  have e : wordL s.data.toList = (decide (s.data.toList ≠ []) && decide (s.data.toList.length ≤ 64) && s.data.toList.all inWord) := rfl
  obtain ⟨W, hW⟩ : ∃ W, wordL s.data.toList = W := ⟨_, rfl⟩
  obtain ⟨A, hA⟩ : ∃ A, s.data.toList.all inWord = A := ⟨_, rfl⟩
  rw [hA] at HC e
  rw [hW] at e ⊢
  by_cases h0 : s.data.toList = []
  · have hq : s.toList.isEmpty = true := by rw [ByteArray.toList_eq]; simpa using h0
    have HE := Lib.hid (show W = false by rw [e]; simp [h0])
    clear hA hW e h0
    go_enter Tryd.func48, Tryd.ntmps48
    go_wp2_with fail
    go_ret
    exact ⟨by rw [HE.out]; rfl, Below.refl _ _⟩
  · have hq : s.toList.isEmpty = false := by rw [ByteArray.toList_eq]; simpa using h0
    by_cases h64 : s.size ≤ 64
    · have HE := Lib.hid (show W = A by rw [e]; simp [h0]; omega)
      clear hA hW e h0 hsz
      go_enter Tryd.func48, Tryd.ntmps48
      go_wp2_with fail
      refine (HC.out _).mono ?_
      rintro e w' ⟨rfl, hb⟩
      have HB := Lib.hid hb
      clear hb
      cases A
      · go_wp2_with fail
        go_ret
        exact ⟨by rw [HE.out]; rfl, HB.out⟩
      · go_wp2_with fail
        go_ret
        exact ⟨by rw [HE.out]; rfl, HB.out⟩
    · have HE := Lib.hid (show W = false by rw [e]; simp; omega)
      clear hA hW e h0 hsz
      go_enter Tryd.func48, Tryd.ntmps48
      go_wp2_with fail
      go_ret
      exact ⟨by rw [HE.out]; rfl, Below.refl _ _⟩

theorem name_split (l : (List UInt8)) : nameL l = (decide (l ≠ []) && decide (l.length ≤ 12) && (match l with | [] => false | b :: _ => isLet b) && l.all inName) := rfl
theorem eName : ∀ args w, Sem.run Tryd.prog (callFunc 45 args) w = .ok (.enter 45 args) w := enters_of Tryd.func45 (by kernel_rfl) rfl
theorem eDigit : ∀ args w, Sem.run Tryd.prog (callFunc 52 args) w = .ok (.enter 52 args) w := enters_of Tryd.func52 (by kernel_rfl) rfl

theorem head_at {s : ByteArray} {b : UInt8} {r : (List UInt8)} (h : s.data.toList = b :: r) : ∃ h0 : 0 < s.size, s[0]'h0 = b := by
  have hs : s.size = s.data.toList.length := Lib.size_eq s
  have h0 : 0 < s.size := by rw [hs, h]; simp
  refine ⟨h0, ?_⟩
  have := drop_at s 0 h0
  rw [List.drop_zero, h] at this
  exact (List.cons.inj this).1.symm

set_option maxRecDepth 100000 in
theorem name_any (s : ByteArray) (w : World) : Calls Tryd.prog 22 #[.string s] w (BoolOut (nameL s.data.toList) w) := by
  have HC := Lib.hid (consists_any 45 pName eName inName_any pname_hi s)
  rw [all_name] at HC
  have hsz : s.size = s.data.toList.length := Lib.size_eq s
  have e : nameL s.data.toList = _ := name_split s.data.toList
  obtain ⟨W, hW⟩ : ∃ W, nameL s.data.toList = W := ⟨_, rfl⟩
  obtain ⟨A, hA⟩ : ∃ A, s.data.toList.all inName = A := ⟨_, rfl⟩
  rw [hA] at HC e
  rw [hW] at e ⊢
  by_cases h0 : s.data.toList = []
  · have hq : s.toList.isEmpty = true := by rw [ByteArray.toList_eq]; simpa using h0
    have HE := Lib.hid (show W = false by rw [e]; simp [h0])
    clear hA hW e h0
    go_enter Tryd.func22, Tryd.ntmps22
    go_wp2_with fail
    go_ret
    exact ⟨by rw [HE.out]; rfl, Below.refl _ _⟩
  · have hq : s.toList.isEmpty = false := by rw [ByteArray.toList_eq]; simpa using h0
    by_cases h12 : s.size ≤ 12
    · obtain ⟨b, r, hl⟩ : ∃ b r, s.data.toList = b :: r := by
        cases h : s.data.toList with
        | nil => exact absurd h h0
        | cons b r => exact ⟨b, r, rfl⟩
      obtain ⟨hpos, hget⟩ := head_at hl
      have HL := Lib.hid (fun w => isLetter_any b.toNat w)
      rw [letter_eq] at HL
      have e2 : W = (isLet b && A) := by
        rw [e]
        have h1 : decide (s.data.toList ≠ []) = true := by simp [h0]
        have h2 : decide (s.data.toList.length ≤ 12) = true := by rw [← hsz]; simp [h12]
        rw [h1, h2, hl]
        rfl
      have hb : b.toNat < 256 := b.toNat_lt
      clear hA hW e h0 hsz hl
      rcases Bool.eq_false_or_eq_true (isLet b) with hlb | hlb
      · rw [hlb] at HL e2
        have HE := Lib.hid (show W = A by rw [e2, Bool.true_and])
        clear hlb e2
        go_enter Tryd.func22, Tryd.ntmps22
        go_wp2_with fail
        refine (HL.out _).mono ?_
        rintro e w' ⟨rfl, rfl⟩
        go_wp2_with fail
        refine (HC.out _).mono ?_
        rintro e w' ⟨rfl, hb⟩
        have HB := Lib.hid hb
        clear hb
        cases A
        · go_wp2_with fail
          go_ret
          exact ⟨by rw [HE.out]; rfl, HB.out⟩
        · go_wp2_with fail
          go_ret
          exact ⟨by rw [HE.out]; rfl, HB.out⟩
      · rw [hlb] at HL e2
        have HE := Lib.hid (show W = false by rw [e2, Bool.false_and])
        clear hlb e2
        go_enter Tryd.func22, Tryd.ntmps22
        go_wp2_with fail
        refine (HL.out _).mono ?_
        rintro e w' ⟨rfl, rfl⟩
        go_wp2_with fail
        go_ret
        exact ⟨by rw [HE.out]; rfl, Below.refl _ _⟩
    · have HE := Lib.hid (show W = false by rw [e]; simp; omega)
      clear hA hW e h0 hsz
      go_enter Tryd.func22, Tryd.ntmps22
      go_wp2_with fail
      go_ret
      exact ⟨by rw [HE.out]; rfl, Below.refl _ _⟩

set_option maxRecDepth 100000 in
theorem dec_any (s : ByteArray) (w : World) : Calls Tryd.prog 38 #[.string s] w (BoolOut (decL s.data.toList) w) := by
  have HT := Lib.hid (fun w => Tryd.strings_TrimPrefix s ⟨#[45]⟩ w)
  rw [show (⟨#[45]⟩ : ByteArray).data.toList = [45] from rfl, trim_strip] at HT
  have e : decL s.data.toList = _ := (dec_eq s.data.toList).symm
  unfold decP at e
  obtain ⟨d, hd⟩ : ∃ d, strip s.data.toList = d := ⟨_, rfl⟩
  rw [hd] at HT e
  have HC := Lib.hid (consists_any 52 pDigit eDigit isDigit_any pdigit_hi ⟨d.toArray⟩)
  rw [all_digit, show (⟨d.toArray⟩ : ByteArray).data.toList = d from rfl] at HC
  obtain ⟨W, hW⟩ : ∃ W, decL s.data.toList = W := ⟨_, rfl⟩
  obtain ⟨A, hA⟩ : ∃ A, d.all isDig = A := ⟨_, rfl⟩
  rw [hA] at HC e
  rw [hW] at e ⊢
  by_cases h48 : s.data.toList = [48]
  · have hq : s.toList = [48] := by rw [ByteArray.toList_eq]; exact h48
    have HE := Lib.hid (show W = true by rw [e]; simp [h48])
    clear hA hW e h48
    go_enter Tryd.func38, Tryd.ntmps38
    go_wp2_with fail
    refine (HT.out _).mono ?_
    rintro e w' ⟨rfl, rfl⟩
    go_wp2_with fail
    go_ret
    exact ⟨by rw [HE.out]; rfl, Below.refl _ _⟩
  · have hq : (s.toList == [48]) = false := by rw [ByteArray.toList_eq]; simpa using h48
    have e3 : W = (decide (d ≠ []) && decide (d.head? ≠ some 48) && A) := by rw [e, decide_eq_false h48, Bool.false_or]
    cases d with
    | nil =>
      have HE := Lib.hid (show W = false by rw [e3]; rfl)
      have hq2 : (⟨(List.toArray ([] : (List UInt8)))⟩ : ByteArray).toList.isEmpty = true := by rw [ByteArray.toList_eq]; rfl
      clear hA hW e e3 h48
      go_enter Tryd.func38, Tryd.ntmps38
      go_wp2_with fail
      refine (HT.out _).mono ?_
      rintro e w' ⟨rfl, rfl⟩
      go_wp2_with fail
      go_ret
      exact ⟨by rw [HE.out]; rfl, Below.refl _ _⟩
    | cons b r =>
      have hq2 : (⟨(List.toArray (b :: r))⟩ : ByteArray).toList.isEmpty = false := by rw [ByteArray.toList_eq]; rfl
      obtain ⟨t, ht⟩ : ∃ t : ByteArray, ⟨(b :: r).toArray⟩ = t := ⟨_, rfl⟩
      obtain ⟨hpos, hget⟩ := head_at (s := ⟨(b :: r).toArray⟩) rfl
      rw [ht] at hq2
      rw [ht] at HT HC
      have hgt : ∃ h0 : 0 < t.size, t[0]'h0 = b := by subst ht; exact ⟨hpos, hget⟩
      clear hpos hget ht
      obtain ⟨hpos, hget⟩ := hgt
      by_cases hb : b = 48
      · have HE := Lib.hid (show W = false by rw [e3, hb]; simp)
        have hbn : b.toNat = 48 := by rw [hb]; rfl
        clear hA hW e e3 h48 hb
        go_enter Tryd.func38, Tryd.ntmps38
        go_wp2_with fail
        refine (HT.out _).mono ?_
        rintro e w' ⟨rfl, rfl⟩
        go_wp2_with fail
        go_ret
        exact ⟨by rw [HE.out]; rfl, Below.refl _ _⟩
      · have HE := Lib.hid (show W = A by rw [e3]; simp [hb])
        have hbn : ((b.toNat : Int) != 48) = true := by
          have : ¬ b.toNat = 48 := fun h => hb (UInt8.toNat_inj.1 h)
          simp; omega
        clear hA hW e e3 h48 hb
        go_enter Tryd.func38, Tryd.ntmps38
        go_wp2_with fail
        refine (HT.out _).mono ?_
        rintro e w' ⟨rfl, rfl⟩
        go_wp2_with fail
        refine (HC.out _).mono ?_
        rintro e w' ⟨rfl, hb⟩
        have HB := Lib.hid hb
        clear hb
        cases A
        · go_wp2_with fail
          go_ret
          exact ⟨by rw [HE.out]; rfl, HB.out⟩
        · go_wp2_with fail
          go_ret
          exact ⟨by rw [HE.out]; rfl, HB.out⟩

end Go.Proofs.YtnechpciaidkmaaDoor.Word
