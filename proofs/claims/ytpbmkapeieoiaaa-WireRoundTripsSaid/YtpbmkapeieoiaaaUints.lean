/- The calls of wire's and the reference's writers of numbers, Bools and texts. -/
import Derived.Test.YtpbmkapeieoiaaaVar
import Derived.Test.YtpbmkapeieoiaaaProg
import Derived.WalkKit
import Derived.Below
import Derived.Maps.AppendAt
import Derived.Lib.UnsafeStr
import Derived.Lib.VarintMem
import Derived.Laws.IdiomStrings
import Derived.Laws.Concat
import Derived.Outline
import Derived.Deep.DeepFit
import Derived.Lib.Hide
namespace Go.Proofs.Ytpbmkapeieoiaaa.Uints
open Go.RowKit Go.Lib Go.Proofs.Ytpbmkapeieoiaaa.Var

/-- The string of these bytes. -/
def str (l : List UInt8) : ByteArray := ⟨l.toArray⟩
def enc (n : Nat) : ByteArray := str (uvarint n)

/-- The slice v of the call's own holds these bytes. -/
def OwnB (B : Nat) (w : World) (v : Value) (l : List UInt8) : Prop := w.ownsRow B 5 1 v l.length (byteCells l)

theorem infoB : (Try.prog.info? 5).map (fun i => (i.zero, i.size, i.bytes)) = some (some (.int .u8 0), 1, 1) := by kernel_rfl

theorem own_snoc {B : Nat} {w : World} {v : Value} {l : List UInt8} {a : Nat} {X : Int} (h : w.ownsRow B 5 1 v (l.length + 1) (byteCells l ++ [.int .u8 X])) (hX : X = (a : Int)) (ha : a < 256) : OwnB B w v (l ++ [a.toUInt8]) := by
  unfold OwnB
  rw [byteCells_snoc l ha, ← hX, List.length_append]
  exact h
theorem own_ltB {B : Nat} {w : World} {v : Value} {l : List UInt8} (h : OwnB B w v l) : ∀ g, v.ownBlock = some g → B ≤ g := fun g hg => (h.lt g hg).1
theorem own_back {B : Nat} {w : World} {v : Value} {l : List UInt8} (h : OwnB B w v l) (h0 : l ≠ []) : ∃ g cap, v = .slice (some ⟨g, 0, none⟩) l.length cap ∧ ∀ j (hj : j < l.length), w.cell? ((⟨g, 0, none⟩ : Addr).add j) = some (.int .u8 (l[j].toNat : Int)) := by
  have hx := h
  obtain ⟨_, hor⟩ := hx
  rcases hor with ⟨rfl, hz⟩ | ⟨g, cap, cur, rfl, _⟩
  · exact absurd (List.length_eq_zero_iff.1 hz) h0
  · refine ⟨g, cap, rfl, fun j hj => ?_⟩
    exact World.ownsRow.cells (g := g) h rfl j _ (by simp [byteCells, List.getElem?_eq_getElem hj])

/-- What holds at the head of the loop that writes the groups. -/
def URel (n : Nat) (w : World) (vn vs : Value) (wr : World) : Prop :=
  ∃ (m : Nat) (l : List UInt8), vn = .int .u64 m ∧ m < 18446744073709551616 ∧ uvarint n = l ++ uvarint m ∧ OwnB w.heap.size wr vs l ∧ Below w.heap.size w wr

theorem uvarint_ne (n : Nat) : uvarint n ≠ [] := by
  have := uvarint_pos n
  intro h; rw [h] at this; simp at this
theorem own_len {n m : Nat} {l : List UInt8} (h : uvarint n = l ++ uvarint m) (hn : n < 18446744073709551616) : l.length + 1 ≤ 10 := by
  have h1 := uvarint_length64 hn
  rw [h, List.length_append] at h1
  have := uvarint_pos m
  omega

theorem urel_more {n m : Nat} {l : List UInt8} {w wr w1 : World} {vs v1 : Value} {X : Int} (hm : m < 18446744073709551616) (hb : 128 ≤ m) (hu : uvarint n = l ++ uvarint m) (ho : OwnB w.heap.size wr vs l) (hbel : Below w.heap.size w wr)
    (h1 : w1.ownsRow w.heap.size 5 1 v1 (l.length + 1) (byteCells l ++ [.int .u8 X])) (hX : X = ((m % 128 + 128 : Nat) : Int)) (hg : (wr.alloc (.cells #[.int .u8 X] 5)).grownBy w1 vs.ownBlock) : URel n w (.int .u64 ((m / 128 : Nat) : Int)) v1 w1 := by
  refine ⟨m / 128, l ++ [(m % 128 + 128).toUInt8], rfl, by omega, ?_, own_snoc h1 hX (by omega), ?_⟩
  · rw [hu, uvarint_big hb]; simp
  · exact (hbel.alloc hbel.size _).grown hg (by have := hbel.size; simp; omega) (own_ltB ho)

theorem own_done {n m : Nat} {l : List UInt8} {w wr w1 : World} {vs v1 : Value} {X : Int} (hm : m < 128) (hu : uvarint n = l ++ uvarint m) (ho : OwnB w.heap.size wr vs l) (hbel : Below w.heap.size w wr)
    (h1 : w1.ownsRow w.heap.size 5 1 v1 (l.length + 1) (byteCells l ++ [.int .u8 X])) (hX : X = (m : Int)) (hg : (wr.alloc (.cells #[.int .u8 X] 5)).grownBy w1 vs.ownBlock) : OwnB w.heap.size w1 v1 (uvarint n) ∧ Below w.heap.size w w1 := by
  refine ⟨?_, (hbel.alloc hbel.size _).grown hg (by have := hbel.size; simp; omega) (own_ltB ho)⟩
  rw [hu, uvarint_small hm]
  exact own_snoc h1 hX (by omega)

set_option maxHeartbeats 800000 in
set_option maxRecDepth 100000 in
theorem uint_any (n : Nat) (w : World) (hn : n < 18446744073709551616) :
    Calls Try.prog 12 #[.int .u64 (n : Int)] w fun e w' => e = .returned (.string (enc n)) ∧ Below w.heap.size w w' := by
  obtain ⟨i0, hi, hz0, hz1, hz2⟩ := info_parts infoB
  have HI := Lib.hid hi
  have HZ0 := Lib.hid hz0
  have HZ1 := Lib.hid hz1
  have HZ2 := Lib.hid hz2
  have HN := Lib.hid hn
  clear hi hz0 hz1 hz2 hn
  go_enter Try.func12, Try.ntmps12
  go_wp2_with fail
  go_loopw [0, 3] (fun x v wr => URel n w x v wr) (fun x _ _ => (intOf x).toNat)
  case atStart => exact ⟨n, [], rfl, HN.out, rfl, World.ownsRow_nil _ _ _ _, Below.refl _ _⟩
  case round =>
    obtain ⟨m, l, rfl, hm, hu, ho, hbel⟩ := hrel
    have HU := Lib.hid hu
    have HO := Lib.hid ho
    have HB := Lib.hid hbel
    have HS := Lib.hid hbel.size
    have hl := own_len hu HN.out
    have HM := Lib.hid hm
    clear hu ho hbel
    have hm' : (m : Int) ≤ 18446744073709551615 := by omega
    clear hm
    by_cases hb : 128 ≤ m
    · go_wp2_with (at_builtin; refine wpList_append_own_at _ rfl (.tmp 6) (.tmp 11) 52 rfl w.heap.size 5 i0 (.int .u8 0) 1 1 Try.underlying52 HI.out HZ0.out HZ1.out HZ2.out rfl (by decide) _ _ _ rfl (HO.out.alloc _) ⟨wr.heap.size, 0, none⟩ 1 1 [_] rfl rfl (cell_one_new _ _ _) (by intro u hu; simp at hu; subst hu; rfl) (by unfold maxLen; omega) (by omega) (by have := HS.out; simp; omega) ?_; intro v1 w1 h1own hg1 _ _; have R1 := Lib.hid h1own; have R2 := Lib.hid hg1; clear h1own hg1)
      go_roundw
      case rel => exact urel_more HM.out hb HU.out HO.out HB.out R1.out (by omega) R2.out
      case measure => simp [intOf]; omega
    · go_wp2_with (at_builtin; refine wpList_append_own_at _ rfl (.tmp 15) (.tmp 18) 52 rfl w.heap.size 5 i0 (.int .u8 0) 1 1 Try.underlying52 HI.out HZ0.out HZ1.out HZ2.out rfl (by decide) _ _ _ rfl (HO.out.alloc _) ⟨wr.heap.size, 0, none⟩ 1 1 [_] rfl rfl (cell_one_new _ _ _) (by intro u hu; simp at hu; subst hu; rfl) (by unfold maxLen; omega) (by omega) (by have := HS.out; simp; omega) ?_; intro v1 w1 h1own hg1 _ _; have D := Lib.hid (own_done (by omega) HU.out HO.out HB.out h1own (by rfl) hg1); clear h1own hg1; obtain ⟨g, cap, rfl, hc⟩ := own_back D.out.1 (uvarint_ne _); have hbk := run_convert_bytes_back (P := Try.prog) w1 52 9 5 ⟨g, 0, none⟩ cap (uvarint n) Try.underlying52 Try.underlying5 Try.underlying9 hc; clear hc)
      go_ret
      exact ⟨rfl, D.out.2⟩

set_option maxHeartbeats 800000 in
set_option maxRecDepth 100000 in
theorem ruint_any (n : Nat) (w : World) (hn : n < 18446744073709551616) :
    Calls Try.prog 13 #[.int .u64 (n : Int)] w fun e w' => e = .returned (.string (enc n)) ∧ Below w.heap.size w w' := by
  obtain ⟨i0, hi, hz0, hz1, hz2⟩ := info_parts infoB
  have HI := Lib.hid hi
  have HZ0 := Lib.hid hz0
  have HZ1 := Lib.hid hz1
  have HZ2 := Lib.hid hz2
  have HN := Lib.hid hn
  clear hi hz0 hz1 hz2 hn
  go_enter Try.func13, Try.ntmps13
  go_wp2_with fail
  go_loopw [0, 3] (fun x v wr => URel n w x v wr) (fun x _ _ => (intOf x).toNat)
  case atStart => exact ⟨n, [], rfl, HN.out, rfl, World.ownsRow_nil _ _ _ _, Below.refl _ _⟩
  case round =>
    obtain ⟨m, l, rfl, hm, hu, ho, hbel⟩ := hrel
    have HU := Lib.hid hu
    have HO := Lib.hid ho
    have HB := Lib.hid hbel
    have HS := Lib.hid hbel.size
    have hl := own_len hu HN.out
    have HM := Lib.hid hm
    clear hu ho hbel
    have hm' : (m : Int) ≤ 18446744073709551615 := by omega
    clear hm
    by_cases hb : 128 ≤ m
    · go_wp2_with (at_builtin; refine wpList_append_own_at _ rfl (.tmp 6) (.tmp 11) 52 rfl w.heap.size 5 i0 (.int .u8 0) 1 1 Try.underlying52 HI.out HZ0.out HZ1.out HZ2.out rfl (by decide) _ _ _ rfl (HO.out.alloc _) ⟨wr.heap.size, 0, none⟩ 1 1 [_] rfl rfl (cell_one_new _ _ _) (by intro u hu; simp at hu; subst hu; rfl) (by unfold maxLen; omega) (by omega) (by have := HS.out; simp; omega) ?_; intro v1 w1 h1own hg1 _ _; have R1 := Lib.hid h1own; have R2 := Lib.hid hg1; clear h1own hg1)
      go_roundw
      case rel => exact urel_more HM.out hb HU.out HO.out HB.out R1.out (by omega) R2.out
      case measure => simp [intOf]; omega
    · go_wp2_with (at_builtin; refine wpList_append_own_at _ rfl (.tmp 15) (.tmp 18) 52 rfl w.heap.size 5 i0 (.int .u8 0) 1 1 Try.underlying52 HI.out HZ0.out HZ1.out HZ2.out rfl (by decide) _ _ _ rfl (HO.out.alloc _) ⟨wr.heap.size, 0, none⟩ 1 1 [_] rfl rfl (cell_one_new _ _ _) (by intro u hu; simp at hu; subst hu; rfl) (by unfold maxLen; omega) (by omega) (by have := HS.out; simp; omega) ?_; intro v1 w1 h1own hg1 _ _; have D := Lib.hid (own_done (by omega) HU.out HO.out HB.out h1own (by rfl) hg1); clear h1own hg1; obtain ⟨g, cap, rfl, hc⟩ := own_back D.out.1 (uvarint_ne _); have hbk := run_convert_bytes_back (P := Try.prog) w1 52 9 5 ⟨g, 0, none⟩ cap (uvarint n) Try.underlying52 Try.underlying5 Try.underlying9 hc; clear hc)
      go_ret
      exact ⟨rfl, D.out.2⟩

/-! Numbers. -/
def intS (x : Int) : ByteArray := enc (zigzag x)
set_option maxRecDepth 100000 in
theorem int_any (x : Int) (w : World) (h0 : -9223372036854775808 ≤ x) (h1 : x ≤ 9223372036854775807) :
    Calls Try.prog 14 #[.int .i64 x] w fun e w' => e = .returned (.string (intS x)) ∧ Below w.heap.size w w' := by
  have H := Lib.hid (uint_any (zigzag x) w (zigzag_lt h0 h1))
  by_cases h : x < 0
  · have hz : ((zigzag x : Nat) : Int) = 2 * (-(x + 1)) + 1 := by unfold zigzag; rw [if_neg (by omega)]; omega
    rw [hz] at H
    have HZ := Lib.hid hz
    clear hz
    go_enter Try.func14, Try.ntmps14
    go_wp2_with fail
    refine H.out.mono ?_
    rintro e w' ⟨rfl, hb⟩
    go_wp2_with fail
    go_ret
    exact ⟨rfl, hb⟩
  · have hz : ((zigzag x : Nat) : Int) = 2 * x := by unfold zigzag; rw [if_pos (by omega)]; omega
    rw [hz] at H
    have HZ := Lib.hid hz
    clear hz
    have h' : 0 ≤ x := by omega
    go_enter Try.func14, Try.ntmps14
    go_wp2_with fail
    refine H.out.mono ?_
    rintro e w' ⟨rfl, hb⟩
    go_wp2_with fail
    go_ret
    exact ⟨rfl, hb⟩

def zigI (x : Int) : Int := (zigzag x : Int)
set_option maxRecDepth 100000 in
theorem zig_any (x : Int) (w : World) (h0 : -9223372036854775808 ≤ x) (h1 : x ≤ 9223372036854775807) :
    Calls Try.prog 36 #[.int .i64 x] w fun e w' => e = .returned (.int .u64 (zigI x)) ∧ w = w' := by
  by_cases h : x < 0
  · have HZ := Lib.hid (show zigI x = 2 * (-(x + 1)) + 1 by unfold zigI zigzag; rw [if_neg (by omega)]; omega)
    go_enter Try.func36, Try.ntmps36
    go_wp2_with fail
    go_ret
    exact ⟨by rw [HZ.out]; rfl, rfl⟩
  · have HZ := Lib.hid (show zigI x = 2 * x by unfold zigI zigzag; rw [if_pos (by omega)]; omega)
    have h' : 0 ≤ x := by omega
    go_enter Try.func36, Try.ntmps36
    go_wp2_with fail
    go_ret
    exact ⟨by rw [HZ.out]; rfl, rfl⟩
set_option maxRecDepth 100000 in
theorem rint_any (x : Int) (w : World) (h0 : -9223372036854775808 ≤ x) (h1 : x ≤ 9223372036854775807) :
    Calls Try.prog 15 #[.int .i64 x] w fun e w' => e = .returned (.string (intS x)) ∧ Below w.heap.size w w' := by
  have H := Lib.hid (ruint_any (zigzag x) w (zigzag_lt h0 h1))
  have H2 := Lib.hid (zig_any x w h0 h1)
  clear h0 h1
  go_enter Try.func15, Try.ntmps15
  go_wp2_with fail
  refine H2.out.mono ?_
  rintro e w' ⟨rfl, rfl⟩
  go_wp2_with fail
  refine H.out.mono ?_
  rintro e w' ⟨rfl, hb⟩
  go_wp2_with fail
  go_ret
  exact ⟨rfl, hb⟩

/-! Bools. -/
def boolS (b : Bool) : ByteArray := if b then ⟨#[1]⟩ else ⟨#[0]⟩
theorem bool_any (b : Bool) (w : World) :
    Calls Try.prog 16 #[.bool b] w fun e w' => e = .returned (.string (boolS b)) ∧ w = w' := by
  cases b
  all_goals
    go_enter Try.func16, Try.ntmps16
    go_wp2_with fail
    go_ret
    exact ⟨rfl, rfl⟩
theorem rbool_any (b : Bool) (w : World) :
    Calls Try.prog 17 #[.bool b] w fun e w' => e = .returned (.string (boolS b)) ∧ w = w' := by
  cases b
  all_goals
    go_enter Try.func17, Try.ntmps17
    go_wp2_with fail
    go_ret
    exact ⟨rfl, rfl⟩

/-! Texts. -/
def textS (s : ByteArray) : ByteArray := enc s.size ++ s
theorem enc_size {n : Nat} (h : n < 18446744073709551616) : (enc n).size ≤ 10 := by
  show (uvarint n).toArray.size ≤ 10
  simpa using uvarint_length64 h
theorem text_add {P : Program} (w : World) (s : ByteArray) (h : s.size ≤ 140737488351232) : (Op.stringOp .add (enc s.size) s).run P w = .ok (.string (textS s)) w :=
  run_string_add_sum w _ _ (by have := enc_size (n := s.size) (by omega); omega)
set_option maxRecDepth 100000 in
theorem text_any (s : ByteArray) (w : World) (h : s.size ≤ 140737488351232) :
    Calls Try.prog 18 #[.string s] w fun e w' => e = .returned (.string (textS s)) ∧ Below w.heap.size w w' := by
  have H := Lib.hid (uint_any s.size w (by omega))
  go_enter Try.func18, Try.ntmps18
  go_wp2_with fail
  refine H.out.mono ?_
  rintro e w' ⟨rfl, hb⟩
  have HB := Lib.hid hb
  clear hb
  have hadd := text_add (P := Try.prog) w' s h
  go_wp2_with fail
  go_ret
  exact ⟨rfl, HB.out⟩
set_option maxRecDepth 100000 in
theorem rtext_any (s : ByteArray) (w : World) (h : s.size ≤ 140737488351232) :
    Calls Try.prog 19 #[.string s] w fun e w' => e = .returned (.string (textS s)) ∧ Below w.heap.size w w' := by
  have H := Lib.hid (ruint_any s.size w (by omega))
  go_enter Try.func19, Try.ntmps19
  go_wp2_with fail
  refine H.out.mono ?_
  rintro e w' ⟨rfl, hb⟩
  have HB := Lib.hid hb
  clear hb
  have hadd := text_add (P := Try.prog) w' s h
  go_wp2_with fail
  go_ret
  exact ⟨rfl, HB.out⟩

end Go.Proofs.Ytpbmkapeieoiaaa.Uints
