/- Texts of this proof, merged: Laidw, Kindn, Namew, Rname. -/
import Derived.Test.YtfdipcphohhlgaaGreatDoorRows
import Derived.Test.YtfdipcphohhlgaaGreatDoorG03
import Derived.Test.YtfdipcphohhlgaaGreatDoorG04
import Derived.ProofKit
import Derived.HandedShaped
import Derived.LaidMore
import Derived.LaidHandle
import Derived.MakeChecks
import Derived.OpenShut
import Derived.Stop.Joined
import Derived.Stop.LaidErr
import Derived.Lay
import Derived.Test.YtfdipcphohhlgaaGreatDoorG01
import Derived.Test.YtfdipcphohhlgaaGreatDoorProg
import Derived.WalkKit
import Derived.Below
import Derived.Laws.RangeAny
import Derived.Laws.IdiomStrings
import Derived.Outline
import Derived.Deep.DeepFit
import Derived.Lib.Hide
import Derived.Lib.Walk
import Derived.BigQuiet
import Derived.Deep.QuietTactic
import Derived.Shelf.Abstract

/- What the listed package-level variables give; a world that holds them; and the wrap that keeps the world's shape. -/
namespace Go.Proofs.YtfdipcphohhlgaaGreatDoor.Laidw
open Go.ChangeShapes Go.WideShapes Go.ChangeAt
open Go.RowKit Go.Proofs.YtfdipcphohhlgaaGreatDoor.Debw

def laid7 : List (String × DataW Unit) := [("math/bits.deBruijn32tab", Rows.laid_math_bits_deBruijn32tab), ("math/bits.deBruijn64tab", Rows.laid_math_bits_deBruijn64tab), ("internal/strconv.uint64pow10", Rows.laid_internal_strconv_uint64pow10), ("unicode/utf8.acceptRanges", Rows.laid_unicode_utf8_acceptRanges), ("strconv.ErrRange", Rows.laid_strconv_ErrRange), ("strconv.ErrSyntax", Rows.laid_strconv_ErrSyntax), ("unicode/utf8.first", Rows.laid_unicode_utf8_first)]
theorem gPow : Tryz.prog.globalNamed "internal/strconv.uint64pow10" = some 3 := by kernel_rfl
theorem tPow : (Tryz.prog.globals[3]?).map (·.type) = some 178 := by kernel_rfl
theorem gErr : Tryz.prog.globalNamed "strconv.ErrRange" = some 5 := by kernel_rfl
theorem tErr : (Tryz.prog.globals[5]?).map (·.type) = some 84 := by kernel_rfl
theorem pow_data : (Rows.laid_internal_strconv_uint64pow10 : DataW Unit) = Lib.tabData .u64 Lib.pow10Tab := by kernel_rfl

theorem plain7 : (laid7.all fun x => x.2.handleName?.isNone) = true := by kernel_rfl
set_option maxRecDepth 1000000 in
/-- The world of the witness holds what is listed. -/
theorem laid_met (os : Os) (args : Array Value) : laidMetH Tryz.prog laid7 ((World.laidAll Tryz.prog os laid7).forCall (fun _ _ => 0) ⟨#[], args, []⟩).memory := by
  rw [MakeChecks.laidMetH_plain _ _ _ plain7]
  exact laidMet_laidAll args (by kernel_rfl) (by kernel_rfl)
set_option maxRecDepth 1000000 in
theorem laid_shaped (os : Os) (args : Array Value) : ((World.laidAll Tryz.prog os laid7).forCall (fun _ _ => 0) ⟨#[], args, []⟩).Shaped Tryz.prog :=
  World.shaped_of_ZipB (by kernel_rfl) (by kernel_rfl)

theorem err_star : "*" ++ "errors.errorString" = "*errors.errorString" := by decide
theorem err_row (u : TypeId) (h : Tryz.prog.typeName? 3 u = some "*errors.errorString") : u = 190 :=
  typeName_ptr_named (nm := "errors.errorString") (by rw [err_star]; kernel_rfl) (by kernel_rfl) (by decide) u (by rw [err_star]; exact h)

set_option maxRecDepth 100000 in
theorem of_laid {W : World} (h : laidMetH Tryz.prog laid7 W) (hsh : W.ShapedOpen Tryz.prog) : Deb W := by
  rw [MakeChecks.laidMetH_plain _ _ _ plain7] at h
  refine ⟨Tryz.laysM145.s1_3 W hsh, ?_, ?_⟩
  · have h3 := laidMet.tail (laidMet.tail h)
    rw [pow_data] at h3
    exact Lib.tabIs_of_head gPow tPow Tryz.underlying178 Tryz.underlying162 (by kernel_rfl) (by kernel_rfl) h3
  · have h5 := laidMet.tail (laidMet.tail (laidMet.tail (laidMet.tail h)))
    obtain ⟨a, s, hv, _⟩ := laid_sentinel h5 gErr tErr Tryz.underlying84 err_row Tryz.underlying190 Tryz.underlying192 rfl rfl Tryz.underlying9 (by kernel_rfl) (by kernel_rfl)
    exact ⟨_, by simpa using World.var?_cell gErr hv 0, .inr ⟨_, _, rfl⟩⟩

/-- The wrap of a row that lists variables, with the world's shape kept. -/
theorem returns_and_shaped {H : Type} {enc : TypeId × Value → H} {a : Assume} {C : Checked} {os : Os} {f : FuncId} {fn : Func} {s : ChangeSpec} {conds : List PathCond} {apart fresh handsOn again : Bool} {X : World → Array Value → Prop}
    (hX : ∀ (w w' : World) (args : Array Value), w.heap = w'.heap → X w args → X w' args)
    (own : ownKnob C.prog.godebug = none) (started : os.Started) (noInit : C.prog.inits.idxOf? f = none) (hfn : C.prog.funcs[f]? = some fn)
    (witness : ∃ (w : World) (tape : Tape) (i : Input), w.os = os ∧ (w.forCall tape i).Shaped C.prog ∧ i.vars = [] ∧ Input.okWide C.prog (w.forCall tape i) .any w.heap.size f i ∧
      ((s.pre enc C.prog fn conds apart (w.forCall tape i).memory i.args ∧ X (w.forCall tape i).memory i.args) ∧ sizedMet enc C.prog fn (OpenSpec.ofChange s) apart (w.forCall tape i).memory i.args) ∧ a.holds C.prog (lone (Frame.enter C.prog f i.args .normal) [] (w.forCall tape i)))
    (contract : ∀ (W : World) (base : Nat) (args : Array Value) (ds gs : List (DataW H)) (before : List MemPlace),
      (∀ (j : Nat) t v, fn.params[j]? = some t → args[j]? = some v → Value.okWide C.prog W .any base t v) →
      DataW.Whole enc C.prog fn.params.toList s.vars apart W args.toList ds gs before →
      conds.all (PathCond.test C.prog ⟨fn.params.toList, ds, s.plain.varTypes C.prog, gs⟩) = true →
      (DataW.weightsEach C.prog (fn.params.toList ++ s.plain.varTypes C.prog) (ds ++ gs)).all (· ≤ reachBytes) = true → X W args → W.ShapedOpen C.prog →
      Calls C.prog f args W fun e W' => ∃ v, e = .returned v ∧ s.post enc C.prog fn apart fresh handsOn again W args v W') :
    ReturnsInHanded a C os f .any (fun w args => (s.pre enc C.prog fn conds apart w args ∧ X w args) ∧ sizedMet enc C.prog fn (OpenSpec.ofChange s) apart w args) (s.post enc C.prog fn apart fresh handsOn again) := by
  refine returnsInHanded_of_calls own started noInit witness ?_
  intro w tape i _ hsh _ hok hpre _
  obtain ⟨_, _, _, fn', hfn', _, _, _, _, hval⟩ := hok
  have e : fn' = fn := Option.some.inj (hfn'.symm.trans hfn)
  subst e
  obtain ⟨⟨⟨ds, gs, before, hw, hc⟩, hx⟩, hz⟩ := hpre
  have hw' := DataW.Whole.of_heap (w' := w.forCall tape i) (by rfl) hw
  refine (contract (w.forCall tape i) w.heap.size i.args ds gs before hval hw' hc (hz.weights hw) (hX _ _ _ (by rfl) hx) hsh).mono fun e W' ⟨v, he, hp⟩ => ?_
  subst he
  exact ChangeSpec.post_blind hp

end Go.Proofs.YtfdipcphohhlgaaGreatDoor.Laidw

/- The kinds of characters, and texts that consist of one kind. -/
namespace Go.Proofs.YtfdipcphohhlgaaGreatDoor.Kindn
open Go.RowKit Go.Lib Go.Proofs.YtfdipcphohhlgaaGreatDoor.Text Go.Proofs.YtfdipcphohhlgaaGreatDoor.Numt

/-- The call answers a Bool and leaves the world as it was but for new memory. -/
def BoolOut (b : Bool) (w : World) (e : Ending) (w' : World) : Prop := e = .returned (.bool b) ∧ Below w.heap.size w w'

def pWord (c : Int) : Bool := decide (33 ≤ c) && decide (c ≤ 126)
def pDigit (c : Int) : Bool := decide (48 ≤ c) && decide (c ≤ 57)
def pLetter (c : Int) : Bool := decide (97 ≤ c) && decide (c ≤ 122)
def pName (c : Int) : Bool := (pLetter c || pDigit c) || decide (c = 95)

theorem isDigit_any (c : Int) (w : World) :
    Calls Tryz.prog 137 #[.int .i32 c] w fun e w' => e = .returned (.bool (pDigit c)) ∧ w' = w := by
  by_cases h1 : 48 ≤ c
  · go_enter Tryz.func137, Tryz.ntmps137
    go_wp2
    go_ret
    refine ⟨?_, rfl⟩
    simp [pDigit, h1]
  · go_enter Tryz.func137, Tryz.ntmps137
    go_wp2
    go_ret
    refine ⟨?_, rfl⟩
    simp [pDigit]
    omega
theorem isLetter_any (c : Int) (w : World) :
    Calls Tryz.prog 105 #[.int .i32 c] w fun e w' => e = .returned (.bool (pLetter c)) ∧ w' = w := by
  by_cases h1 : 97 ≤ c
  · go_enter Tryz.func105, Tryz.ntmps105
    go_wp2
    go_ret
    refine ⟨?_, rfl⟩
    simp [pLetter, h1]
  · go_enter Tryz.func105, Tryz.ntmps105
    go_wp2
    go_ret
    refine ⟨?_, rfl⟩
    simp [pLetter]
    omega
theorem inName_any (c : Int) (w : World) :
    Calls Tryz.prog 107 #[.int .i32 c] w fun e w' => e = .returned (.bool (pName c)) ∧ w' = w := by
  have H1 := Lib.hid (fun w => isLetter_any c w)
  have H2 := Lib.hid (fun w => isDigit_any c w)
  rcases Bool.eq_false_or_eq_true (pLetter c) with h1 | h1
  · rw [h1] at H1
    go_enter Tryz.func107, Tryz.ntmps107
    go_wp2_with fail
    refine (H1.out _).mono ?_
    rintro e w' ⟨rfl, rfl⟩
    go_wp2_with fail
    go_ret
    refine ⟨?_, rfl⟩
    simp [pName, h1]
  · rw [h1] at H1
    rcases Bool.eq_false_or_eq_true (pDigit c) with h2 | h2
    · rw [h2] at H2
      go_enter Tryz.func107, Tryz.ntmps107
      go_wp2_with fail
      refine (H1.out _).mono ?_
      rintro e w' ⟨rfl, rfl⟩
      go_wp2_with fail
      refine (H2.out _).mono ?_
      rintro e w' ⟨rfl, rfl⟩
      go_wp2_with fail
      go_ret
      refine ⟨?_, rfl⟩
      simp [pName, h1, h2]
    · rw [h2] at H2
      go_enter Tryz.func107, Tryz.ntmps107
      go_wp2_with fail
      refine (H1.out _).mono ?_
      rintro e w' ⟨rfl, rfl⟩
      go_wp2_with fail
      refine (H2.out _).mono ?_
      rintro e w' ⟨rfl, rfl⟩
      go_wp2_with fail
      go_ret
      refine ⟨?_, rfl⟩
      rw [pName, h1, h2, Bool.or_self, Bool.false_or]
      rfl

theorem drop_at (s : ByteArray) (pos : Nat) (h : pos < s.size) : s.data.toList.drop pos = s[pos]'h :: s.data.toList.drop (pos + 1) := by
  have h2 : pos < s.data.toList.length := by simpa using h
  rw [List.drop_eq_getElem_cons h2]
  rfl
theorem pword_hi (c : Int) (h : 128 ≤ c) : pWord c = false := by simp [pWord]; omega
theorem pdigit_hi (c : Int) (h : 128 ≤ c) : pDigit c = false := by simp [pDigit]; omega
theorem pletter_hi (c : Int) (h : 128 ≤ c) : pLetter c = false := by simp [pLetter]; omega
theorem pname_hi (c : Int) (h : 128 ≤ c) : pName c = false := by
  rw [pName, pletter_hi c h, pdigit_hi c h]
  simp; omega

theorem allL_nil (p : Int → Bool) (s : ByteArray) (pos : Nat) (h : ¬ pos < s.size) : (s.data.toList.drop pos).all (fun b => p b.toNat) = true := by
  have h2 : s.data.toList.length ≤ pos := by simp; omega
  rw [List.drop_eq_nil_of_le h2]
  rfl
theorem decode_p {p : Int → Bool} (hp : ∀ c, 128 ≤ c → p c = false) (s : ByteArray) (pos : Nat) (h : pos < s.size) :
    (p (Utf8.decode s pos).1 = true → (Utf8.decode s pos).2 = 1 ∧ (s.data.toList.drop pos).all (fun b => p b.toNat) = (s.data.toList.drop (pos + 1)).all (fun b => p b.toNat)) ∧
    (p (Utf8.decode s pos).1 = false → (s.data.toList.drop pos).all (fun b => p b.toNat) = false) := by
  rw [drop_at s pos h, List.all_cons]
  by_cases ha : (s[pos]'h).toNat < 128
  · rw [decode_ascii s pos h ha]
    refine ⟨fun h1 => ⟨rfl, ?_⟩, fun h1 => ?_⟩
    · simp only at h1
      rw [h1, Bool.true_and]
    · simp only at h1
      rw [h1, Bool.false_and]
  · have h1 := (decode_high s pos h (by omega)).1
    have h2 := hp (Utf8.decode s pos).1 (by omega)
    have h3 := hp (s[pos]'h).toNat (by omega)
    rw [h2, h3]
    exact ⟨fun h => (by cases h), fun _ => rfl⟩
theorem below_iter (w : World) (s : ByteArray) (pos : Nat) : Below w.heap.size w (w.iter s pos) := (Below.refl _ w).alloc (Nat.le_refl _) _

set_option maxRecDepth 1000000 in
theorem consists_any (K : FuncId) (p : Int → Bool) (hK : ∀ args w, Sem.run Tryz.prog (callFunc K args) w = .ok (.enter K args) w)
    (hc : ∀ c w, Calls Tryz.prog K #[.int .i32 c] w fun e w' => e = .returned (.bool (p c)) ∧ w' = w) (hp : ∀ c, 128 ≤ c → p c = false) (s : ByteArray) (w : World) :
    Calls Tryz.prog 106 #[.string s, .func (.func K) #[] #[]] w (BoolOut (s.data.toList.all fun b => p b.toNat) w) := by
  have HC := Lib.hid hc
  have HP := Lib.hid hp
  clear hc hp
  obtain ⟨A, hA⟩ : ∃ A, (s.data.toList.all fun b => p b.toNat) = A := ⟨_, rfl⟩
  have HA := Lib.hid hA
  rw [hA]
  clear hA
  go_enter Tryz.func106, Tryz.ntmps106
  go_wp2_with fail
  go_loopw [4] (fun _ wr => ∃ pos : Nat, wr = w.iter s pos ∧ (s.data.toList.drop pos).all (fun b => p b.toNat) = A) (fun _ wr => s.size - wr.iterPos w.heap.size)
  case atStart => exact ⟨0, rfl, HA.out⟩
  case round =>
    obtain ⟨pos, rfl, hr⟩ := hrel
    have HR := Lib.hid hr
    clear hr
    by_cases hp : pos < s.size
    · have hnx : ∀ ty, (Instr.next (.pointer (some ⟨w.heap.size, 0, none⟩)) true ty).run Tryz.prog (w.iter s pos) = _ := fun ty => run_next_any w s pos ty hp
      obtain ⟨hd1, hd2⟩ := decode_p HP.out s pos hp
      obtain ⟨c, hcd⟩ : ∃ c, (Utf8.decode s pos).1 = c := ⟨_, rfl⟩
      obtain ⟨n, hn⟩ : ∃ n, (Utf8.decode s pos).2 = n := ⟨_, rfl⟩
      rw [hcd, hn] at hnx hd1
      rw [hcd] at hd2
      have HD1 := Lib.hid hd1
      have HD2 := Lib.hid hd2
      clear hd1 hd2 hcd hn
      have HX := Lib.hid (fun w => HC.out c w)
      rcases Bool.eq_false_or_eq_true (p c) with h1 | h1
      · rw [h1] at HX
        obtain ⟨rfl, h2⟩ := HD1.out h1
        go_wp2_with fail
        refine (HX.out _).mono ?_
        rintro e w' ⟨rfl, rfl⟩
        go_wp2_with fail
        go_roundw
        case rel => exact ⟨pos + 1, rfl, by rw [← h2]; exact HR.out⟩
        case measure => simp; omega
      · rw [h1] at HX
        have h2 := HD2.out h1
        go_wp2_with fail
        refine (HX.out _).mono ?_
        rintro e w' ⟨rfl, rfl⟩
        go_wp2_with fail
        go_ret
        exact ⟨by rw [← HR.out, h2]; rfl, below_iter _ _ _⟩
    · have hnx : ∀ ty, (Instr.next (.pointer (some ⟨w.heap.size, 0, none⟩)) true ty).run Tryz.prog (w.iter s pos) = _ := fun ty => run_next_end w s pos ty hp
      have h2 := allL_nil p s pos hp
      go_wp2_with fail
      go_ret
      exact ⟨by rw [← HR.out, h2]; rfl, below_iter _ _ _⟩

end Go.Proofs.YtfdipcphohhlgaaGreatDoor.Kindn

/- The call of words.Name alone (of XKind and XWord what it needs), for programs that hold no other function of words. -/
namespace Go.Proofs.YtfdipcphohhlgaaGreatDoor.Namew
open Go.RowKit Go.Lib Go.Proofs.YtfdipcphohhlgaaGreatDoor.Text Go.Proofs.YtfdipcphohhlgaaGreatDoor.Numt Go.Proofs.YtfdipcphohhlgaaGreatDoor.Kindn

theorem letter_eq (b : UInt8) : pLetter b.toNat = isLet b := by
  simp only [pLetter, isLet]
  congr 1
  · exact decide_eq_decide.2 (by omega)
  · exact decide_eq_decide.2 (by omega)
theorem all_name (l : (List UInt8)) : (l.all fun b => pName b.toNat) = l.all inName := by
  congr 1
  funext b
  have h1 := letter_eq b
  have h2 : pDigit b.toNat = isDig b := by
    simp only [pDigit, isDig]
    congr 1
    · exact decide_eq_decide.2 (by omega)
    · exact decide_eq_decide.2 (by omega)
  rw [pName, inName, h1, h2]
  congr 1
  exact decide_eq_decide.2 (by omega)

theorem name_split (l : (List UInt8)) : nameL l = (decide (l ≠ []) && decide (l.length ≤ 12) && (match l with | [] => false | b :: _ => isLet b) && l.all inName) := rfl
theorem eName : ∀ args w, Sem.run Tryz.prog (callFunc 107 args) w = .ok (.enter 107 args) w := enters_of Tryz.func107 (by kernel_rfl) rfl

theorem head_at {s : ByteArray} {b : UInt8} {r : (List UInt8)} (h : s.data.toList = b :: r) : ∃ h0 : 0 < s.size, s[0]'h0 = b := by
  have hs : s.size = s.data.toList.length := Lib.size_eq s
  have h0 : 0 < s.size := by rw [hs, h]; simp
  refine ⟨h0, ?_⟩
  have := drop_at s 0 h0
  rw [List.drop_zero, h] at this
  exact (List.cons.inj this).1.symm

set_option maxRecDepth 100000 in
theorem name_any (s : ByteArray) (w : World) : Calls Tryz.prog 59 #[.string s] w (BoolOut (nameL s.data.toList) w) := by
  have HC := Lib.hid (consists_any 107 pName eName inName_any pname_hi s)
  rw [all_name] at HC
  have hsz : s.size = s.data.toList.length := Lib.size_eq s
  have e : nameL s.data.toList = _ := name_split s.data.toList
  obtain ⟨W, hW⟩ : ∃ W, nameL s.data.toList = W := ⟨_, rfl⟩
  obtain ⟨A, hA⟩ : ∃ A, s.data.toList.all inName = A := ⟨_, rfl⟩
  rw [hA] at HC e
  rw [hW] at e ⊢
  by_cases h0 : s.data.toList = []
  · have hq : s.toList.isEmpty = true := by rw [ByteArray.toList_eq]; simpa using h0
    have HE := Lib.hid (show W = false by rw [e]; simp [h0])
    clear hA hW e h0
    go_enter Tryz.func59, Tryz.ntmps59
    go_wp2_with fail
    go_ret
    exact ⟨by rw [HE.out]; rfl, Below.refl _ _⟩
  · have hq : s.toList.isEmpty = false := by rw [ByteArray.toList_eq]; simpa using h0
    by_cases h12 : s.size ≤ 12
    · obtain ⟨b, r, hl⟩ : ∃ b r, s.data.toList = b :: r := by
        cases h : s.data.toList with
        | nil => exact absurd h h0
        | cons b r => exact ⟨b, r, rfl⟩
      obtain ⟨hpos, hget⟩ := head_at hl
      have HL := Lib.hid (fun w => isLetter_any b.toNat w)
      rw [letter_eq] at HL
      have e2 : W = (isLet b && A) := by
        rw [e]
        have h1 : decide (s.data.toList ≠ []) = true := by simp [h0]
        have h2 : decide (s.data.toList.length ≤ 12) = true := by rw [← hsz]; simp [h12]
        rw [h1, h2, hl]
        rfl
      have hb : b.toNat < 256 := b.toNat_lt
      clear hA hW e h0 hsz hl
      rcases Bool.eq_false_or_eq_true (isLet b) with hlb | hlb
      · rw [hlb] at HL e2
        have HE := Lib.hid (show W = A by rw [e2, Bool.true_and])
        clear hlb e2
        go_enter Tryz.func59, Tryz.ntmps59
        go_wp2_with fail
        refine (HL.out _).mono ?_
        rintro e w' ⟨rfl, rfl⟩
        go_wp2_with fail
        refine (HC.out _).mono ?_
        rintro e w' ⟨rfl, hb⟩
        have HB := Lib.hid hb
        clear hb
        cases A
        · go_wp2_with fail
          go_ret
          exact ⟨by rw [HE.out]; rfl, HB.out⟩
        · go_wp2_with fail
          go_ret
          exact ⟨by rw [HE.out]; rfl, HB.out⟩
      · rw [hlb] at HL e2
        have HE := Lib.hid (show W = false by rw [e2, Bool.false_and])
        clear hlb e2
        go_enter Tryz.func59, Tryz.ntmps59
        go_wp2_with fail
        refine (HL.out _).mono ?_
        rintro e w' ⟨rfl, rfl⟩
        go_wp2_with fail
        go_ret
        exact ⟨by rw [HE.out]; rfl, Below.refl _ _⟩
    · have HE := Lib.hid (show W = false by rw [e]; simp; omega)
      clear hA hW e h0 hsz
      go_enter Tryz.func59, Tryz.ntmps59
      go_wp2_with fail
      go_ret
      exact ⟨by rw [HE.out]; rfl, Below.refl _ _⟩

end Go.Proofs.YtfdipcphohhlgaaGreatDoor.Namew

/- The call of the reference's Name alone (of XRword what it needs). -/
namespace Go.Proofs.YtfdipcphohhlgaaGreatDoor.Rname
open Go.RowKit Go.Lib Go.Proofs.YtfdipcphohhlgaaGreatDoor.Text Go.Proofs.YtfdipcphohhlgaaGreatDoor.Numt Go.Proofs.YtfdipcphohhlgaaGreatDoor.Kindn Go.Proofs.YtfdipcphohhlgaaGreatDoor.Namew

theorem drop_end {s : ByteArray} {k : Nat} (h : ¬ k < s.size) : s.data.toList.drop k = [] := by
  have h2 : s.data.toList.length ≤ k := by rw [← Lib.size_eq]; omega
  exact List.drop_eq_nil_of_le h2
theorem all_step {p : UInt8 → Bool} {s : ByteArray} {k : Nat} (h : k < s.size) : (s.data.toList.drop k).all p = (p (s[k]'h) && (s.data.toList.drop (k + 1)).all p) := by
  rw [drop_at s k h, List.all_cons]
theorem isDig_of {b : UInt8} (h1 : ¬ b.toNat < 48) (h2 : ¬ 57 < b.toNat) : isDig b = true := by simp [isDig]; omega
theorem isDig_no {b : UInt8} (h : b.toNat < 48 ∨ 57 < b.toNat) : isDig b = false := by simp [isDig]; omega
theorem let_of {b : UInt8} (h1 : 97 ≤ b.toNat) (h2 : b.toNat ≤ 122) : isLet b = true := by simp [isLet]; omega
theorem let_no {b : UInt8} (h : ¬ (97 ≤ b.toNat ∧ b.toNat ≤ 122)) : isLet b = false := by simp [isLet]; omega
theorem name_let {b : UInt8} (h : isLet b = true) : inName b = true := by rw [inName, h, Bool.true_or, Bool.true_or]
theorem name_dig {b : UInt8} (h : 48 ≤ b.toNat ∧ b.toNat ≤ 57 ∨ b.toNat = 95) : inName b = true := by
  unfold inName isDig
  rcases h with h | h
  · simp [h.1, h.2]
  · simp [h]
theorem name_no {b : UInt8} (h1 : ¬ (97 ≤ b.toNat ∧ b.toNat ≤ 122)) (h2 : ¬ (48 ≤ b.toNat ∧ b.toNat ≤ 57)) (h3 : b.toNat ≠ 95) : inName b = false := by
  rw [inName, let_no h1]
  unfold isDig
  simp [h3]
  omega
/-- What is still to be looked at from place k on. -/
def restN (s : ByteArray) (k : Nat) : Bool := if k = 0 then (match s.data.toList with | [] => true | b :: r => isLet b && r.all inName) else (s.data.toList.drop k).all inName
theorem restN_end {s : ByteArray} {k : Nat} (h : ¬ k < s.size) : restN s k = true := by
  unfold restN
  split
  · rename_i h0
    have := drop_end h
    rw [h0, List.drop_zero] at this
    rw [this]
  · rw [drop_end h]; rfl
theorem restN_step {s : ByteArray} {k : Nat} (h : k < s.size) : restN s k = ((if k = 0 then isLet (s[k]'h) else inName (s[k]'h)) && restN s (k + 1)) := by
  unfold restN
  by_cases h0 : k = 0
  · subst h0
    have := drop_at s 0 h
    rw [List.drop_zero] at this
    rw [if_pos rfl, if_pos rfl, if_neg (by omega)]
    rw [this]
    rfl
  · rw [if_neg h0, if_neg h0, if_neg (by omega), all_step h]
theorem name_at (s : ByteArray) : nameL s.data.toList = (decide (1 ≤ s.size) && decide (s.size ≤ 12) && restN s 0) := by
  have hsz : s.size = s.data.toList.length := Lib.size_eq s
  rw [name_split, hsz]
  unfold restN
  rw [if_pos rfl]
  cases s.data.toList with
  | nil => rfl
  | cons b r =>
    simp only [List.all_cons, List.length_cons]
    have h1 : decide (b :: r ≠ []) = true := by simp
    have h2 : decide (1 ≤ r.length + 1) = true := by simp
    rw [h1, h2]
    cases hl : isLet b with
    | true => rw [name_let hl, Bool.true_and, Bool.true_and, Bool.and_true]
    | false => simp

set_option maxRecDepth 100000 in
set_option maxHeartbeats 800000 in
theorem rname_any (s : ByteArray) (w : World) (hs : s.size ≤ 9223372036854775807) :
    Calls Tryz.prog 97 #[.string s] w fun e w' => e = .returned (.bool (nameL s.data.toList)) ∧ w' = w := by
  have e := name_at s
  obtain ⟨W, hW⟩ : ∃ W, nameL s.data.toList = W := ⟨_, rfl⟩
  obtain ⟨A, hA⟩ : ∃ A, restN s 0 = A := ⟨_, rfl⟩
  rw [hA] at e
  rw [hW] at e ⊢
  have HA := Lib.hid hA
  have HE := Lib.hid e
  clear hA hW e
  go_enter Tryz.func97, Tryz.ntmps97
  go_wp2_with fail
  go_loop [3] (fun i => ∃ k : Nat, i = .int .i64 k ∧ k ≤ s.size ∧ restN s k = A) (fun i => s.size - (RowKit.intOf i).toNat)
  case atStart => exact ⟨0, rfl, Nat.zero_le _, HA.out⟩
  case round =>
    obtain ⟨k, rfl, hk, hr⟩ := hrel
    have HR := Lib.hid hr
    clear hr
    by_cases hlt : k < s.size
    · rw [restN_step hlt] at HR
      obtain ⟨b, hb⟩ : ∃ b, s[k]'hlt = b := ⟨_, rfl⟩
      rw [hb] at HR
      by_cases hl : 97 ≤ b.toNat ∧ b.toNat ≤ 122
      · have h1 := let_of hl.1 hl.2
        have hif : (if k = 0 then isLet b else inName b) = true := by
          split
          · exact h1
          · exact name_let h1
        obtain ⟨ha, hz⟩ := hl
        have c1 : (97 : Int) ≤ b.toNat := by omega
        have c2 : (b.toNat : Int) ≤ 122 := by omega
        have c3 : (48 : Int) ≤ b.toNat := by omega
        have c4 : ¬ (b.toNat : Int) ≤ 57 := by omega
        have g95 : ((b.toNat : Int) == 95) = false := by simp; omega
        have HF := Lib.hid (show restN s (k + 1) = A by rw [← HR.out, hif, Bool.true_and])
        go_wp2_with fail
        go_round
        case rel => exact ⟨k + 1, by simp, by omega, HF.out⟩
        case measure => simp [RowKit.intOf]; omega
      · by_cases hd : 48 ≤ b.toNat ∧ b.toNat ≤ 57 ∨ b.toNat = 95
        · by_cases hk0 : k = 0
          · have hif : (if k = 0 then isLet b else inName b) = false := by rw [if_pos hk0]; exact let_no hl
            subst hk0
            rcases hd with hd | hd
            · have hd1 := hd.1
              have hd2 := hd.2
              have c1 : ¬ (97 : Int) ≤ b.toNat := by omega
              have c3 : (48 : Int) ≤ b.toNat := by omega
              have c4 : (b.toNat : Int) ≤ 57 := by omega
              have HF := Lib.hid (show A = false by rw [← HR.out, hif, Bool.false_and])
              go_wp2_with fail
              go_ret
              exact ⟨by rw [HE.out, HF.out, Bool.and_false]; rfl, rfl⟩
            · have c1 : ¬ (97 : Int) ≤ b.toNat := by omega
              have c3 : (48 : Int) ≤ b.toNat := by omega
              have c4 : ¬ (b.toNat : Int) ≤ 57 := by omega
              have g95 : ((b.toNat : Int) == 95) = true := by simp; omega
              have HF := Lib.hid (show A = false by rw [← HR.out, hif, Bool.false_and])
              go_wp2_with fail
              go_ret
              exact ⟨by rw [HE.out, HF.out, Bool.and_false]; rfl, rfl⟩
          · have hif : (if k = 0 then isLet b else inName b) = true := by rw [if_neg hk0]; exact name_dig hd
            rcases hd with hd | hd
            · have hd1 := hd.1
              have hd2 := hd.2
              have c1 : ¬ (97 : Int) ≤ b.toNat := by omega
              have c3 : (48 : Int) ≤ b.toNat := by omega
              have c4 : (b.toNat : Int) ≤ 57 := by omega
              have gk : ((k : Int) == 0) = false := by simp; omega
              have HF := Lib.hid (show restN s (k + 1) = A by rw [← HR.out, hif, Bool.true_and])
              go_wp2_with fail
              go_round
              case rel => exact ⟨k + 1, by simp, by omega, HF.out⟩
              case measure => simp [RowKit.intOf]; omega
            · have c1 : ¬ (97 : Int) ≤ b.toNat := by omega
              have c3 : (48 : Int) ≤ b.toNat := by omega
              have c4 : ¬ (b.toNat : Int) ≤ 57 := by omega
              have g95 : ((b.toNat : Int) == 95) = true := by simp; omega
              have gk : ((k : Int) == 0) = false := by simp; omega
              have HF := Lib.hid (show restN s (k + 1) = A by rw [← HR.out, hif, Bool.true_and])
              go_wp2_with fail
              go_round
              case rel => exact ⟨k + 1, by simp, by omega, HF.out⟩
              case measure => simp [RowKit.intOf]; omega
        · have hif : (if k = 0 then isLet b else inName b) = false := by
            split
            · exact let_no hl
            · exact name_no hl (fun h => hd (.inl h)) (fun h => hd (.inr h))
          have n1 : ¬ (48 ≤ b.toNat ∧ b.toNat ≤ 57) := fun h => hd (.inl h)
          have n2 : b.toNat ≠ 95 := fun h => hd (.inr h)
          by_cases q1 : b.toNat < 48
          · have c1 : ¬ (97 : Int) ≤ b.toNat := by omega
            have c3 : ¬ (48 : Int) ≤ b.toNat := by omega
            have g95 : ((b.toNat : Int) == 95) = false := by simp; omega
            have HF := Lib.hid (show A = false by rw [← HR.out, hif, Bool.false_and])
            go_wp2_with fail
            go_ret
            exact ⟨by rw [HE.out, HF.out, Bool.and_false]; rfl, rfl⟩
          · by_cases q2 : b.toNat < 97
            · have c1 : ¬ (97 : Int) ≤ b.toNat := by omega
              have c3 : (48 : Int) ≤ b.toNat := by omega
              have c4 : ¬ (b.toNat : Int) ≤ 57 := by omega
              have g95 : ((b.toNat : Int) == 95) = false := by simp; omega
              have HF := Lib.hid (show A = false by rw [← HR.out, hif, Bool.false_and])
              go_wp2_with fail
              go_ret
              exact ⟨by rw [HE.out, HF.out, Bool.and_false]; rfl, rfl⟩
            · have c1 : (97 : Int) ≤ b.toNat := by omega
              have c2 : ¬ (b.toNat : Int) ≤ 122 := by omega
              have c3 : (48 : Int) ≤ b.toNat := by omega
              have c4 : ¬ (b.toNat : Int) ≤ 57 := by omega
              have g95 : ((b.toNat : Int) == 95) = false := by simp; omega
              have HF := Lib.hid (show A = false by rw [← HR.out, hif, Bool.false_and])
              go_wp2_with fail
              go_ret
              exact ⟨by rw [HE.out, HF.out, Bool.and_false]; rfl, rfl⟩
    · have HF := Lib.hid (show A = true by rw [← HR.out, restN_end hlt])
      by_cases h1 : 1 ≤ s.size
      · by_cases h12 : s.size ≤ 12
        · have h12' : decide ((s.size : Int) ≤ 12) = true := by simp; omega
          go_wp2_with fail
          go_ret
          exact ⟨by rw [HE.out, HF.out, decide_eq_true h1, decide_eq_true h12]; rfl, rfl⟩
        · have h12' : decide ((s.size : Int) ≤ 12) = false := by simp; omega
          go_wp2_with fail
          go_ret
          exact ⟨by rw [HE.out, decide_eq_false h12, Bool.and_false, Bool.false_and]; rfl, rfl⟩
      · go_wp2_with fail
        go_ret
        exact ⟨by rw [HE.out, decide_eq_false h1, Bool.false_and, Bool.false_and]; rfl, rfl⟩

end Go.Proofs.YtfdipcphohhlgaaGreatDoor.Rname
