/- The kinds of characters, and texts that consist of one kind. -/
import Derived.Test.YtieoegodhhiiiaaNumt
import Derived.Test.YtieoegodhhiiiaaProg
import Derived.WalkKit
import Derived.Below
import Derived.Laws.RangeAny
import Derived.Laws.IdiomStrings
import Derived.Outline
import Derived.Deep.DeepFit
import Derived.Lib.Hide
import Derived.Lib.Walk
import Derived.BigQuiet
import Derived.Deep.QuietTactic
namespace Go.Proofs.Ytieoegodhhiiiaa.Kindn
open Go.RowKit Go.Lib Go.Proofs.Ytieoegodhhiiiaa.Text Go.Proofs.Ytieoegodhhiiiaa.Numt

/-- The call answers a Bool and leaves the world as it was but for new memory. -/
def BoolOut (b : Bool) (w : World) (e : Ending) (w' : World) : Prop := e = .returned (.bool b) ∧ Below w.heap.size w w'

def pWord (c : Int) : Bool := decide (33 ≤ c) && decide (c ≤ 126)
def pDigit (c : Int) : Bool := decide (48 ≤ c) && decide (c ≤ 57)
def pLetter (c : Int) : Bool := decide (97 ≤ c) && decide (c ≤ 122)
def pName (c : Int) : Bool := (pLetter c || pDigit c) || decide (c = 95)

theorem isDigit_any (c : Int) (w : World) :
    Calls Try.prog 91 #[.int .i32 c] w fun e w' => e = .returned (.bool (pDigit c)) ∧ w' = w := by
  by_cases h1 : 48 ≤ c
  · go_enter Try.func91, Try.ntmps91
    go_wp2
    go_ret
    refine ⟨?_, rfl⟩
    simp [pDigit, h1]
  · go_enter Try.func91, Try.ntmps91
    go_wp2
    go_ret
    refine ⟨?_, rfl⟩
    simp [pDigit]
    omega
theorem isLetter_any (c : Int) (w : World) :
    Calls Try.prog 74 #[.int .i32 c] w fun e w' => e = .returned (.bool (pLetter c)) ∧ w' = w := by
  by_cases h1 : 97 ≤ c
  · go_enter Try.func74, Try.ntmps74
    go_wp2
    go_ret
    refine ⟨?_, rfl⟩
    simp [pLetter, h1]
  · go_enter Try.func74, Try.ntmps74
    go_wp2
    go_ret
    refine ⟨?_, rfl⟩
    simp [pLetter]
    omega
theorem inName_any (c : Int) (w : World) :
    Calls Try.prog 76 #[.int .i32 c] w fun e w' => e = .returned (.bool (pName c)) ∧ w' = w := by
  have H1 := Lib.hid (fun w => isLetter_any c w)
  have H2 := Lib.hid (fun w => isDigit_any c w)
  rcases Bool.eq_false_or_eq_true (pLetter c) with h1 | h1
  · rw [h1] at H1
    go_enter Try.func76, Try.ntmps76
    go_wp2_with fail
    refine (H1.out _).mono ?_
    rintro e w' ⟨rfl, rfl⟩
    go_wp2_with fail
    go_ret
    refine ⟨?_, rfl⟩
    simp [pName, h1]
  · rw [h1] at H1
    rcases Bool.eq_false_or_eq_true (pDigit c) with h2 | h2
    · rw [h2] at H2
      go_enter Try.func76, Try.ntmps76
      go_wp2_with fail
      refine (H1.out _).mono ?_
      rintro e w' ⟨rfl, rfl⟩
      go_wp2_with fail
      refine (H2.out _).mono ?_
      rintro e w' ⟨rfl, rfl⟩
      go_wp2_with fail
      go_ret
      refine ⟨?_, rfl⟩
      simp [pName, h1, h2]
    · rw [h2] at H2
      go_enter Try.func76, Try.ntmps76
      go_wp2_with fail
      refine (H1.out _).mono ?_
      rintro e w' ⟨rfl, rfl⟩
      go_wp2_with fail
      refine (H2.out _).mono ?_
      rintro e w' ⟨rfl, rfl⟩
      go_wp2_with fail
      go_ret
      refine ⟨?_, rfl⟩
      rw [pName, h1, h2, Bool.or_self, Bool.false_or]
      rfl

theorem drop_at (s : ByteArray) (pos : Nat) (h : pos < s.size) : s.data.toList.drop pos = s[pos]'h :: s.data.toList.drop (pos + 1) := by
  have h2 : pos < s.data.toList.length := by simpa using h
  rw [List.drop_eq_getElem_cons h2]
  rfl
theorem pword_hi (c : Int) (h : 128 ≤ c) : pWord c = false := by simp [pWord]; omega
theorem pdigit_hi (c : Int) (h : 128 ≤ c) : pDigit c = false := by simp [pDigit]; omega
theorem pletter_hi (c : Int) (h : 128 ≤ c) : pLetter c = false := by simp [pLetter]; omega
theorem pname_hi (c : Int) (h : 128 ≤ c) : pName c = false := by
  rw [pName, pletter_hi c h, pdigit_hi c h]
  simp; omega

theorem allL_nil (p : Int → Bool) (s : ByteArray) (pos : Nat) (h : ¬ pos < s.size) : (s.data.toList.drop pos).all (fun b => p b.toNat) = true := by
  have h2 : s.data.toList.length ≤ pos := by simp; omega
  rw [List.drop_eq_nil_of_le h2]
  rfl
theorem decode_p {p : Int → Bool} (hp : ∀ c, 128 ≤ c → p c = false) (s : ByteArray) (pos : Nat) (h : pos < s.size) :
    (p (Utf8.decode s pos).1 = true → (Utf8.decode s pos).2 = 1 ∧ (s.data.toList.drop pos).all (fun b => p b.toNat) = (s.data.toList.drop (pos + 1)).all (fun b => p b.toNat)) ∧
    (p (Utf8.decode s pos).1 = false → (s.data.toList.drop pos).all (fun b => p b.toNat) = false) := by
  rw [drop_at s pos h, List.all_cons]
  by_cases ha : (s[pos]'h).toNat < 128
  · rw [decode_ascii s pos h ha]
    refine ⟨fun h1 => ⟨rfl, ?_⟩, fun h1 => ?_⟩
    · simp only at h1
      rw [h1, Bool.true_and]
    · simp only at h1
      rw [h1, Bool.false_and]
  · have h1 := (decode_high s pos h (by omega)).1
    have h2 := hp (Utf8.decode s pos).1 (by omega)
    have h3 := hp (s[pos]'h).toNat (by omega)
    rw [h2, h3]
    exact ⟨fun h => (by cases h), fun _ => rfl⟩
theorem below_iter (w : World) (s : ByteArray) (pos : Nat) : Below w.heap.size w (w.iter s pos) := (Below.refl _ w).alloc (Nat.le_refl _) _

set_option maxRecDepth 1000000 in
theorem consists_any (K : FuncId) (p : Int → Bool) (hK : ∀ args w, Sem.run Try.prog (callFunc K args) w = .ok (.enter K args) w)
    (hc : ∀ c w, Calls Try.prog K #[.int .i32 c] w fun e w' => e = .returned (.bool (p c)) ∧ w' = w) (hp : ∀ c, 128 ≤ c → p c = false) (s : ByteArray) (w : World) :
    Calls Try.prog 75 #[.string s, .func (.func K) #[] #[]] w (BoolOut (s.data.toList.all fun b => p b.toNat) w) := by
  have HC := Lib.hid hc
  have HP := Lib.hid hp
  clear hc hp
  obtain ⟨A, hA⟩ : ∃ A, (s.data.toList.all fun b => p b.toNat) = A := ⟨_, rfl⟩
  have HA := Lib.hid hA
  rw [hA]
  clear hA
  go_enter Try.func75, Try.ntmps75
  go_wp2_with fail
  go_loopw [4] (fun _ wr => ∃ pos : Nat, wr = w.iter s pos ∧ (s.data.toList.drop pos).all (fun b => p b.toNat) = A) (fun _ wr => s.size - wr.iterPos w.heap.size)
  case atStart => exact ⟨0, rfl, HA.out⟩
  case round =>
    obtain ⟨pos, rfl, hr⟩ := hrel
    have HR := Lib.hid hr
    clear hr
    by_cases hp : pos < s.size
    · have hnx : ∀ ty, (Instr.next (.pointer (some ⟨w.heap.size, 0, none⟩)) true ty).run Try.prog (w.iter s pos) = _ := fun ty => run_next_any w s pos ty hp
      obtain ⟨hd1, hd2⟩ := decode_p HP.out s pos hp
      obtain ⟨c, hcd⟩ : ∃ c, (Utf8.decode s pos).1 = c := ⟨_, rfl⟩
      obtain ⟨n, hn⟩ : ∃ n, (Utf8.decode s pos).2 = n := ⟨_, rfl⟩
      rw [hcd, hn] at hnx hd1
      rw [hcd] at hd2
      have HD1 := Lib.hid hd1
      have HD2 := Lib.hid hd2
      clear hd1 hd2 hcd hn
      have HX := Lib.hid (fun w => HC.out c w)
      rcases Bool.eq_false_or_eq_true (p c) with h1 | h1
      · rw [h1] at HX
        obtain ⟨rfl, h2⟩ := HD1.out h1
        go_wp2_with fail
        refine (HX.out _).mono ?_
        rintro e w' ⟨rfl, rfl⟩
        go_wp2_with fail
        go_roundw
        case rel => exact ⟨pos + 1, rfl, by rw [← h2]; exact HR.out⟩
        case measure => simp; omega
      · rw [h1] at HX
        have h2 := HD2.out h1
        go_wp2_with fail
        refine (HX.out _).mono ?_
        rintro e w' ⟨rfl, rfl⟩
        go_wp2_with fail
        go_ret
        exact ⟨by rw [← HR.out, h2]; rfl, below_iter _ _ _⟩
    · have hnx : ∀ ty, (Instr.next (.pointer (some ⟨w.heap.size, 0, none⟩)) true ty).run Try.prog (w.iter s pos) = _ := fun ty => run_next_end w s pos ty hp
      have h2 := allL_nil p s pos hp
      go_wp2_with fail
      go_ret
      exact ⟨by rw [← HR.out, h2]; rfl, below_iter _ _ _⟩

end Go.Proofs.Ytieoegodhhiiiaa.Kindn
