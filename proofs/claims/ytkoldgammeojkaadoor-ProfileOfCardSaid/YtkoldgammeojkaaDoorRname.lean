/- The call of the reference's Name alone (of XRword what it needs). -/
import Derived.Test.YtkoldgammeojkaaDoorNam0
namespace Go.Proofs.YtkoldgammeojkaaDoor.Rname
open Go.RowKit Go.Lib Go.Proofs.YtkoldgammeojkaaDoor.Text Go.Proofs.YtkoldgammeojkaaDoor.Numt Go.Proofs.YtkoldgammeojkaaDoor.Kindn Go.Proofs.YtkoldgammeojkaaDoor.Namew

theorem drop_end {s : ByteArray} {k : Nat} (h : ¬ k < s.size) : s.data.toList.drop k = [] := by
  have h2 : s.data.toList.length ≤ k := by rw [← Lib.size_eq]; omega
  exact List.drop_eq_nil_of_le h2
theorem all_step {p : UInt8 → Bool} {s : ByteArray} {k : Nat} (h : k < s.size) : (s.data.toList.drop k).all p = (p (s[k]'h) && (s.data.toList.drop (k + 1)).all p) := by
  rw [drop_at s k h, List.all_cons]
theorem isDig_of {b : UInt8} (h1 : ¬ b.toNat < 48) (h2 : ¬ 57 < b.toNat) : isDig b = true := by simp [isDig]; omega
theorem isDig_no {b : UInt8} (h : b.toNat < 48 ∨ 57 < b.toNat) : isDig b = false := by simp [isDig]; omega
theorem let_of {b : UInt8} (h1 : 97 ≤ b.toNat) (h2 : b.toNat ≤ 122) : isLet b = true := by simp [isLet]; omega
theorem let_no {b : UInt8} (h : ¬ (97 ≤ b.toNat ∧ b.toNat ≤ 122)) : isLet b = false := by simp [isLet]; omega
theorem name_let {b : UInt8} (h : isLet b = true) : inName b = true := by rw [inName, h, Bool.true_or, Bool.true_or]
theorem name_dig {b : UInt8} (h : 48 ≤ b.toNat ∧ b.toNat ≤ 57 ∨ b.toNat = 95) : inName b = true := by
  unfold inName isDig
  rcases h with h | h
  · simp [h.1, h.2]
  · simp [h]
theorem name_no {b : UInt8} (h1 : ¬ (97 ≤ b.toNat ∧ b.toNat ≤ 122)) (h2 : ¬ (48 ≤ b.toNat ∧ b.toNat ≤ 57)) (h3 : b.toNat ≠ 95) : inName b = false := by
  rw [inName, let_no h1]
  unfold isDig
  simp [h3]
  omega
/-- What is still to be looked at from place k on. -/
def restN (s : ByteArray) (k : Nat) : Bool := if k = 0 then (match s.data.toList with | [] => true | b :: r => isLet b && r.all inName) else (s.data.toList.drop k).all inName
theorem restN_end {s : ByteArray} {k : Nat} (h : ¬ k < s.size) : restN s k = true := by
  unfold restN
  split
  · rename_i h0
    have := drop_end h
    rw [h0, List.drop_zero] at this
    rw [this]
  · rw [drop_end h]; rfl
theorem restN_step {s : ByteArray} {k : Nat} (h : k < s.size) : restN s k = ((if k = 0 then isLet (s[k]'h) else inName (s[k]'h)) && restN s (k + 1)) := by
  unfold restN
  by_cases h0 : k = 0
  · subst h0
    have := drop_at s 0 h
    rw [List.drop_zero] at this
    rw [if_pos rfl, if_pos rfl, if_neg (by omega)]
    rw [this]
    rfl
  · rw [if_neg h0, if_neg h0, if_neg (by omega), all_step h]
theorem name_at (s : ByteArray) : nameL s.data.toList = (decide (1 ≤ s.size) && decide (s.size ≤ 12) && restN s 0) := by
  have hsz : s.size = s.data.toList.length := Lib.size_eq s
  rw [name_split, hsz]
  unfold restN
  rw [if_pos rfl]
  cases s.data.toList with
  | nil => rfl
  | cons b r =>
    simp only [List.all_cons, List.length_cons]
    have h1 : decide (b :: r ≠ []) = true := by simp
    have h2 : decide (1 ≤ r.length + 1) = true := by simp
    rw [h1, h2]
    cases hl : isLet b with
    | true => rw [name_let hl, Bool.true_and, Bool.true_and, Bool.and_true]
    | false => simp

set_option maxRecDepth 100000 in
set_option maxHeartbeats 800000 in
theorem rname_any (s : ByteArray) (w : World) (hs : s.size ≤ 9223372036854775807) :
    Calls Tryd.prog 26 #[.string s] w fun e w' => e = .returned (.bool (nameL s.data.toList)) ∧ w' = w := by
  have e := name_at s
  obtain ⟨W, hW⟩ : ∃ W, nameL s.data.toList = W := ⟨_, rfl⟩
  obtain ⟨A, hA⟩ : ∃ A, restN s 0 = A := ⟨_, rfl⟩
  rw [hA] at e
  rw [hW] at e ⊢
  have HA := Lib.hid hA
  have HE := Lib.hid e
  clear hA hW e
  go_enter Tryd.func26, Tryd.ntmps26
  go_wp2_with fail
  go_loop [3] (fun i => ∃ k : Nat, i = .int .i64 k ∧ k ≤ s.size ∧ restN s k = A) (fun i => s.size - (RowKit.intOf i).toNat)
  case atStart => exact ⟨0, rfl, Nat.zero_le _, HA.out⟩
  case round =>
    obtain ⟨k, rfl, hk, hr⟩ := hrel
    have HR := Lib.hid hr
    clear hr
    by_cases hlt : k < s.size
    · rw [restN_step hlt] at HR
      obtain ⟨b, hb⟩ : ∃ b, s[k]'hlt = b := ⟨_, rfl⟩
      rw [hb] at HR
      by_cases hl : 97 ≤ b.toNat ∧ b.toNat ≤ 122
      · have h1 := let_of hl.1 hl.2
        have hif : (if k = 0 then isLet b else inName b) = true := by
          split
          · exact h1
          · exact name_let h1
        obtain ⟨ha, hz⟩ := hl
        have c1 : (97 : Int) ≤ b.toNat := by omega
        have c2 : (b.toNat : Int) ≤ 122 := by omega
        have c3 : (48 : Int) ≤ b.toNat := by omega
        have c4 : ¬ (b.toNat : Int) ≤ 57 := by omega
        have g95 : ((b.toNat : Int) == 95) = false := by simp; omega
        have HF := Lib.hid (show restN s (k + 1) = A by rw [← HR.out, hif, Bool.true_and])
        go_wp2_with fail
        go_round
        case rel => exact ⟨k + 1, by simp, by omega, HF.out⟩
        case measure => simp [RowKit.intOf]; omega
      · by_cases hd : 48 ≤ b.toNat ∧ b.toNat ≤ 57 ∨ b.toNat = 95
        · by_cases hk0 : k = 0
          · have hif : (if k = 0 then isLet b else inName b) = false := by rw [if_pos hk0]; exact let_no hl
            subst hk0
            rcases hd with hd | hd
            · have hd1 := hd.1
              have hd2 := hd.2
              have c1 : ¬ (97 : Int) ≤ b.toNat := by omega
              have c3 : (48 : Int) ≤ b.toNat := by omega
              have c4 : (b.toNat : Int) ≤ 57 := by omega
              have HF := Lib.hid (show A = false by rw [← HR.out, hif, Bool.false_and])
              go_wp2_with fail
              go_ret
              exact ⟨by rw [HE.out, HF.out, Bool.and_false]; rfl, rfl⟩
            · have c1 : ¬ (97 : Int) ≤ b.toNat := by omega
              have c3 : (48 : Int) ≤ b.toNat := by omega
              have c4 : ¬ (b.toNat : Int) ≤ 57 := by omega
              have g95 : ((b.toNat : Int) == 95) = true := by simp; omega
              have HF := Lib.hid (show A = false by rw [← HR.out, hif, Bool.false_and])
              go_wp2_with fail
              go_ret
              exact ⟨by rw [HE.out, HF.out, Bool.and_false]; rfl, rfl⟩
          · have hif : (if k = 0 then isLet b else inName b) = true := by rw [if_neg hk0]; exact name_dig hd
            rcases hd with hd | hd
            · have hd1 := hd.1
              have hd2 := hd.2
              have c1 : ¬ (97 : Int) ≤ b.toNat := by omega
              have c3 : (48 : Int) ≤ b.toNat := by omega
              have c4 : (b.toNat : Int) ≤ 57 := by omega
              have gk : ((k : Int) == 0) = false := by simp; omega
              have HF := Lib.hid (show restN s (k + 1) = A by rw [← HR.out, hif, Bool.true_and])
              go_wp2_with fail
              go_round
              case rel => exact ⟨k + 1, by simp, by omega, HF.out⟩
              case measure => simp [RowKit.intOf]; omega
            · have c1 : ¬ (97 : Int) ≤ b.toNat := by omega
              have c3 : (48 : Int) ≤ b.toNat := by omega
              have c4 : ¬ (b.toNat : Int) ≤ 57 := by omega
              have g95 : ((b.toNat : Int) == 95) = true := by simp; omega
              have gk : ((k : Int) == 0) = false := by simp; omega
              have HF := Lib.hid (show restN s (k + 1) = A by rw [← HR.out, hif, Bool.true_and])
              go_wp2_with fail
              go_round
              case rel => exact ⟨k + 1, by simp, by omega, HF.out⟩
              case measure => simp [RowKit.intOf]; omega
        · have hif : (if k = 0 then isLet b else inName b) = false := by
            split
            · exact let_no hl
            · exact name_no hl (fun h => hd (.inl h)) (fun h => hd (.inr h))
          have n1 : ¬ (48 ≤ b.toNat ∧ b.toNat ≤ 57) := fun h => hd (.inl h)
          have n2 : b.toNat ≠ 95 := fun h => hd (.inr h)
          by_cases q1 : b.toNat < 48
          · have c1 : ¬ (97 : Int) ≤ b.toNat := by omega
            have c3 : ¬ (48 : Int) ≤ b.toNat := by omega
            have g95 : ((b.toNat : Int) == 95) = false := by simp; omega
            have HF := Lib.hid (show A = false by rw [← HR.out, hif, Bool.false_and])
            go_wp2_with fail
            go_ret
            exact ⟨by rw [HE.out, HF.out, Bool.and_false]; rfl, rfl⟩
          · by_cases q2 : b.toNat < 97
            · have c1 : ¬ (97 : Int) ≤ b.toNat := by omega
              have c3 : (48 : Int) ≤ b.toNat := by omega
              have c4 : ¬ (b.toNat : Int) ≤ 57 := by omega
              have g95 : ((b.toNat : Int) == 95) = false := by simp; omega
              have HF := Lib.hid (show A = false by rw [← HR.out, hif, Bool.false_and])
              go_wp2_with fail
              go_ret
              exact ⟨by rw [HE.out, HF.out, Bool.and_false]; rfl, rfl⟩
            · have c1 : (97 : Int) ≤ b.toNat := by omega
              have c2 : ¬ (b.toNat : Int) ≤ 122 := by omega
              have c3 : (48 : Int) ≤ b.toNat := by omega
              have c4 : ¬ (b.toNat : Int) ≤ 57 := by omega
              have g95 : ((b.toNat : Int) == 95) = false := by simp; omega
              have HF := Lib.hid (show A = false by rw [← HR.out, hif, Bool.false_and])
              go_wp2_with fail
              go_ret
              exact ⟨by rw [HE.out, HF.out, Bool.and_false]; rfl, rfl⟩
    · have HF := Lib.hid (show A = true by rw [← HR.out, restN_end hlt])
      by_cases h1 : 1 ≤ s.size
      · by_cases h12 : s.size ≤ 12
        · have h12' : decide ((s.size : Int) ≤ 12) = true := by simp; omega
          go_wp2_with fail
          go_ret
          exact ⟨by rw [HE.out, HF.out, decide_eq_true h1, decide_eq_true h12]; rfl, rfl⟩
        · have h12' : decide ((s.size : Int) ≤ 12) = false := by simp; omega
          go_wp2_with fail
          go_ret
          exact ⟨by rw [HE.out, decide_eq_false h12, Bool.and_false, Bool.false_and]; rfl, rfl⟩
      · go_wp2_with fail
        go_ret
        exact ⟨by rw [HE.out, decide_eq_false h1, Bool.false_and, Bool.false_and]; rfl, rfl⟩

end Go.Proofs.YtkoldgammeojkaaDoor.Rname
