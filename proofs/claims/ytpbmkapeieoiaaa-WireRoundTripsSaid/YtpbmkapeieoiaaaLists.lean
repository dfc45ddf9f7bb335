/- The calls of Ints, of wire and of the reference. -/
import Derived.Test.YtpbmkapeieoiaaaBuild
import Derived.Test.YtpbmkapeieoiaaaInts
namespace Go.Proofs.Ytpbmkapeieoiaaa.Build
open Go.RowKit Go.Lib Go.Proofs.Ytpbmkapeieoiaaa.Var Go.Proofs.Ytpbmkapeieoiaaa.Uints Go.Proofs.Ytpbmkapeieoiaaa.Reads Go.Proofs.Ytpbmkapeieoiaaa.Ints

/-- The bytes of a list. -/
def flat (l : List Int) : List UInt8 := l.flatMap fun x => uvarint (zigzag x)
def listB (l : List Int) : List UInt8 := uvarint l.length ++ flat l
def listS (l : List Int) : ByteArray := str (listB l)

theorem flat_snoc (l : List Int) (x : Int) : flat (l ++ [x]) = flat l ++ uvarint (zigzag x) := by simp [flat]
theorem flat_len : ∀ (l : List Int), (∀ x ∈ l, (Lit.int .i64 x).wf = true) → (flat l).length ≤ 10 * l.length
  | [], _ => by simp [flat]
  | x :: l, h => by
    have ih := flat_len l (fun y hy => h y (by simp [hy]))
    have hx := wf_bounds (h x (by simp))
    have := uvarint_length64 (zigzag_lt hx.1 hx.2)
    show (uvarint (zigzag x) ++ flat l).length ≤ _
    rw [List.length_append, List.length_cons]
    omega
theorem flat_mono {l : List Int} (k : Nat) (h : ∀ x ∈ l, (Lit.int .i64 x).wf = true) : (flat (l.take k)).length ≤ 10 * l.length := by
  have h1 := flat_len (l.take k) (fun x hx => h x (List.mem_of_mem_take hx))
  have : (l.take k).length ≤ l.length := by simp; omega
  omega

theorem builder_below {T e : TypeId} {B b : Nat} {bs : List Value} {w w' : World} (h : IsBuilder T e B b bs w) (hb : Below w.heap.size w w') : IsBuilder T e B b bs w' := by
  have key : ∀ p, BuilderAt T e B b p bs w → BuilderAt T e B b p bs w' := by
    intro p hp
    have hlt := hp.lt
    obtain ⟨h1, v, h2, h3, h4⟩ := hp
    exact ⟨h1, v, (hb.block b hlt).trans h2, h3.kept (row := none) ⟨hb.os, hb.tape, hb.output, hb.size, fun j hj _ => hb.block j hj⟩ (by cases hv : v.ownBlock <;> simp), h4⟩
  exact h.imp (key _) (key _)
theorem strCells_str (l : List UInt8) : strCells (str l) = byteCells l := by
  rw [strCells_eq]
  show byteCells l.toArray.toList = _
  simp
theorem str_size (l : List UInt8) : (str l).size = l.length := by
  show l.toArray.size = _
  simp

/-- What holds at the head of wire's loop. -/
def LRel (l : List Int) (w : World) (vi : Value) (wr : World) : Prop :=
  ∃ k : Nat, k ≤ l.length ∧ vi = .int .i64 (k : Int) ∧ IsBuilder 56 5 w.heap.size w.heap.size (byteCells (uvarint l.length ++ flat (l.take k))) wr ∧ Below w.heap.size w wr
theorem lrel_more {l : List Int} {k : Nat} {x : Int} {w w' : World} (hk : k < l.length) (hx : l.getD k 0 = x) (h : IsBuilder 56 5 w.heap.size w.heap.size (byteCells (uvarint l.length ++ flat (l.take k)) ++ strCells (intS x)) w') (hb : Below w.heap.size w w') :
    LRel l w (.int .i64 ((k : Int) + 1)) w' := by
  refine ⟨k + 1, hk, rfl, ?_, hb⟩
  rw [take_snoc hk, hx, flat_snoc, ← List.append_assoc, byteCells_append]
  rw [show strCells (intS x) = byteCells (uvarint (zigzag x)) from strCells_str _] at h
  exact h

set_option maxRecDepth 100000 in
set_option maxHeartbeats 800000 in
theorem ints_any {v : Value} {l : List Int} {w : World} (h : Reads w.heap.size w v l) (hl : l.length ≤ 100000) :
    Calls Try.prog 20 #[v] w fun e w' => e = .returned (.string (listS l)) ∧ Below w.heap.size w w' := by
  obtain ⟨a, cap, rfl, hm⟩ := rshape h
  have HC := Lib.hid (rcell h).2
  have HWF := Lib.hid h.wf
  have HFL := Lib.hid (fun k => flat_mono (l := l) k h.wf)
  have HU := Lib.hid (fun w => uint_any l.length w (by omega))
  have HF := Lib.hid (fresh_isBuilder 56 5 w)
  have HU1 := Lib.hid (uvarint_length64 (x := l.length) (by omega))
  clear h
  go_enter Try.func20, Try.ntmps20
  go_wp2_with fail
  refine (HU.out _).mono ?_
  rintro e w1 ⟨rfl, b⟩
  have B1 := Lib.hid (bel_alloc (Below.refl w.heap.size w) (.cells #[.pointer none, .slice none 0 0] 56))
  have B2 := Lib.hid (bel_next B1.out b)
  have F2 := Lib.hid (builder_below HF.out b)
  clear b B1
  go_wp2_with fail
  refine (write_any _ _ _ (enc l.length) _ F2.out (by have := HU1.out; rw [show (enc l.length).size = (uvarint l.length).length from str_size _]; simp; omega) B2.out.size).mono ?_
  rintro e w3 ⟨rfl, F, b⟩
  have B3 := Lib.hid (B2.out.trans b)
  rw [show strCells (enc l.length) = byteCells (uvarint l.length) from strCells_str _] at F
  have F3 := Lib.hid F
  clear b B2 F F2
  go_wp2_with fail
  go_loopw [13] (fun vi wr => LRel l w vi wr) (fun vi _ => l.length - (RowKit.intOf vi).toNat)
  case atStart => exact ⟨0, Nat.zero_le _, rfl, by have := F3.out; simpa [flat] using this, B3.out⟩
  case round =>
    obtain ⟨k, hk, rfl, hf, hb⟩ := hrel
    have FK := Lib.hid hf
    have BK := Lib.hid hb
    clear hf hb
    by_cases hlt : k < l.length
    · obtain ⟨b, off, rfl, hb0, hc0⟩ := HC.out k hlt
      obtain ⟨x, hx⟩ : ∃ x, l.getD k 0 = x := ⟨_, rfl⟩
      have g1 : wr.cell? ⟨b, off + k, none⟩ = some (.int .i64 x) := by rw [← hx]; exact (BK.out.cell hb0).trans hc0
      have HX := Lib.hid hx
      have hw := wf_bounds (HWF.out x (by rw [← hx]; exact getD_mem hlt))
      have HI := Lib.hid (fun w => int_any x w hw.1 hw.2)
      have HZ := Lib.hid (uvarint_length64 (zigzag_lt hw.1 hw.2))
      clear hx hc0 hb0 hw
      go_wp2_with fail
      refine (HI.out _).mono ?_
      rintro e w4 ⟨rfl, b4⟩
      have B4 := Lib.hid (bel_next BK.out b4)
      have F4 := Lib.hid (builder_below FK.out b4)
      clear b4
      go_wp2_with fail
      refine (write_any _ _ _ (intS x) _ F4.out (by have := HU1.out; have := HZ.out; have := HFL.out k; rw [show (intS x).size = (uvarint (zigzag x)).length from str_size _]; simp [byteCells]; omega) B4.out.size).mono ?_
      rintro e w5 ⟨rfl, F, b5⟩
      have B5 := Lib.hid (B4.out.trans b5)
      have F5 := Lib.hid F
      clear b5 B4 F F4
      go_wp2_with fail
      go_roundw
      case rel => exact lrel_more hlt HX.out F5.out B5.out
      case measure => simp [RowKit.intOf]; omega
    · obtain rfl : k = l.length := by omega
      have FE := Lib.hid (show IsBuilder 56 5 w.heap.size w.heap.size (byteCells (listB l)) wr by have := FK.out; rwa [take_all] at this)
      go_wp2_with fail
      refine (Try.Builder_String_any _ _ _ _ FE.out BK.out.size).mono ?_
      rintro e w6 ⟨rfl, b6⟩
      have B6 := Lib.hid (BK.out.trans b6)
      clear b6
      go_wp2_with fail
      go_ret
      exact ⟨rfl, B6.out⟩

theorem add_int {P : Program} (w : World) {l : List Int} {k : Nat} {x : Int} (hk : k < l.length) (hx : l.getD k 0 = x) (hl : (uvarint l.length).length ≤ 10) (hf : (flat (l.take k)).length ≤ 10 * l.length) (hz : (uvarint (zigzag x)).length ≤ 10) (hm : l.length ≤ 100000) :
    (Op.stringOp .add (str (uvarint l.length ++ flat (l.take k))) (intS x)).run P w = .ok (.string (str (uvarint l.length ++ flat (l.take (k + 1))))) w := by
  have e : str (uvarint l.length ++ flat (l.take k)) ++ intS x = str (uvarint l.length ++ flat (l.take (k + 1))) := by
    show ByteArray.mk _ ++ ByteArray.mk _ = ByteArray.mk _
    rw [ByteArray.mk_append_mk, take_snoc hk, hx, flat_snoc]
    simp
  rw [run_string_add_sum w _ _ (by rw [str_size, show (intS x).size = (uvarint (zigzag x)).length from str_size _, List.length_append]; omega), e]

set_option maxRecDepth 100000 in
set_option maxHeartbeats 800000 in
theorem rints_any {v : Value} {l : List Int} {w : World} (h : Reads w.heap.size w v l) (hl : l.length ≤ 100000) :
    Calls Try.prog 21 #[v] w fun e w' => e = .returned (.string (listS l)) ∧ Below w.heap.size w w' := by
  obtain ⟨a, cap, rfl, hm⟩ := rshape h
  have HC := Lib.hid (rcell h).2
  have HWF := Lib.hid h.wf
  have HFL := Lib.hid (fun k => flat_mono (l := l) k h.wf)
  have HU := Lib.hid (fun w => ruint_any l.length w (by omega))
  have HU1 := Lib.hid (uvarint_length64 (x := l.length) (by omega))
  clear h
  go_enter Try.func21, Try.ntmps21
  go_wp2_with fail
  refine (HU.out _).mono ?_
  rintro e w1 ⟨rfl, b⟩
  have B1 := Lib.hid b
  clear b
  go_wp2_with fail
  go_loopw [3, 4] (fun vs vi wr => ∃ k : Nat, k ≤ l.length ∧ vi = .int .i64 (k : Int) ∧ vs = .string (str (uvarint l.length ++ flat (l.take k))) ∧ Below w.heap.size w wr) (fun _ vi _ => l.length - (RowKit.intOf vi).toNat)
  case atStart => exact ⟨0, Nat.zero_le _, rfl, by simp [flat, enc], B1.out⟩
  case round =>
    obtain ⟨k, hk, rfl, rfl, hb⟩ := hrel
    have BK := Lib.hid hb
    clear hb
    by_cases hlt : k < l.length
    · obtain ⟨b, off, rfl, hb0, hc0⟩ := HC.out k hlt
      obtain ⟨x, hx⟩ : ∃ x, l.getD k 0 = x := ⟨_, rfl⟩
      have g1 : wr.cell? ⟨b, off + k, none⟩ = some (.int .i64 x) := by rw [← hx]; exact (BK.out.cell hb0).trans hc0
      have hw := wf_bounds (HWF.out x (by rw [← hx]; exact getD_mem hlt))
      have HI := Lib.hid (fun w => rint_any x w hw.1 hw.2)
      have hadd := fun w => add_int (P := Try.prog) w hlt hx HU1.out (HFL.out k) (uvarint_length64 (zigzag_lt hw.1 hw.2)) hl
      clear hx hc0 hb0 hw
      go_wp2_with fail
      refine (HI.out _).mono ?_
      rintro e w4 ⟨rfl, b4⟩
      have B4 := Lib.hid (bel_next BK.out b4)
      clear b4
      go_wp2_with fail
      go_roundw
      case rel => exact ⟨k + 1, hlt, by go_num, rfl, B4.out⟩
      case measure => simp [RowKit.intOf]; omega
    · obtain rfl : k = l.length := by omega
      rw [take_all]
      go_wp2_with fail
      go_ret
      exact ⟨rfl, BK.out⟩

end Go.Proofs.Ytpbmkapeieoiaaa.Build
