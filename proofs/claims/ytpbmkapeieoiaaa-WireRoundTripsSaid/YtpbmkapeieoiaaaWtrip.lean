/- The walk of WireRoundTrips. -/
import Derived.Test.YtpbmkapeieoiaaaWtripf
import Derived.Deep.DeepCutAuto
import Derived.Deep.RegionHeld3
namespace Go.Proofs.Ytpbmkapeieoiaaa.Values
open Go.RowKit hiding intOf
open Go.Lib Go.Sort Go.Proofs.Ytpbmkapeieoiaaa.Var Go.Proofs.Ytpbmkapeieoiaaa.Uints Go.Proofs.Ytpbmkapeieoiaaa.Takes Go.Proofs.Ytpbmkapeieoiaaa.Build Go.Proofs.Ytpbmkapeieoiaaa.Reads Go.Proofs.Ytpbmkapeieoiaaa.Ints Go.Proofs.Ytpbmkapeieoiaaa.Facts

/-- What the statement that decodes the list leaves. -/
def TripOut (l : List Int) (k : Int) (W : World) (v t e : Value) (wx : World) : Prop := t = .int .i64 k ∧ e = .int .i64 0 ∧ Reads wx.heap.size wx v l ∧ Below W.heap.size W wx

theorem bel_drew {W W' : World} (h : Below W.drew.heap.size W.drew W') : Below W.heap.size W W' := ⟨h.os, h.tape, h.output, h.size, h.block⟩

set_option maxRecDepth 100000 in
set_option maxHeartbeats 2000000 in
theorem trips_in {u : Nat} {n : Int} {b : Bool} {s p q : ByteArray} {v : Value} {l : List Int} {w : World} (h : Reads w.heap.size w v l) (hu : u < 18446744073709551616) (hn : (Lit.int .i64 n).wf = true) (hs : s.size ≤ 400) (hl : l.length ≤ 400) (hp : p.size ≤ 400) (hq : q.size ≤ 400) :
    Calls Try.prog 6 #[.agg #[.int .u64 (u : Int), .int .i64 n, .bool b, .string s, v], .string p, .string q] w fun e w' => e = .returned (.bool true) ∧ Below w.heap.size w w' := by
  have HR := Lib.hid (next_alloc h (.cells #[.int .u64 (u : Int), .int .i64 n, .bool b, .string s, v] 25))
  obtain ⟨a, cap, rfl, hm⟩ := rshape h
  have HSH := Lib.hid (short_any (u := (u : Int)) (n := n) (b := b) (s := s) HR.out (by unfold maxLen; omega))
  rw [show shortB s l = true by simp [shortB, hs, hl]] at HSH
  have HB := Lib.hid (bel_alloc (Below.refl w.heap.size w) (.cells #[.int .u64 (u : Int), .int .i64 n, .bool b, .string s, .slice a l.length cap] 25))
  have hnn := wf_bounds hn
  have HWF := Lib.hid h.wf
  have CU := Lib.hid (fun w => uint_any u w hu)
  have CI := Lib.hid (fun w => int_any n w hnn.1 hnn.2)
  have CB := Lib.hid (fun w => bool_any b w)
  have CT := Lib.hid (fun w => text_any s w (by omega))
  have TU := Lib.hid (fun w => trip_uint hp hq hu w)
  have TI := Lib.hid (fun w => trip_int hp hq hnn w)
  have TB := Lib.hid (fun w => trip_bool hp hq b w)
  have TT := Lib.hid (fun w => trip_text hp hq hs w)
  have TL := Lib.hid (fun w => trip_list hp hq hl HWF.out w)
  have z1 := (enc_len1 hu).2
  have z2 : (intS n).size ≤ 5000 := (enc_len1 (zigzag_lt hnn.1 hnn.2)).2
  have z3 := (text_len hs).2
  have z4 := (list_len hl HWF.out).2
  have z5 : (boolS b).size ≤ 5000 := by cases b <;> decide
  have a1 := fun w => add1 (P := Try.prog) w p (enc u) hp z1
  have b1 := fun w => add2 (P := Try.prog) w p (enc u) q hp z1 hq
  have a2 := fun w => add1 (P := Try.prog) w p (intS n) hp z2
  have b2 := fun w => add2 (P := Try.prog) w p (intS n) q hp z2 hq
  have a3 := fun w => add1 (P := Try.prog) w p (textS s) hp z3
  have b3 := fun w => add2 (P := Try.prog) w p (textS s) q hp z3 hq
  have a4 := fun w => add1 (P := Try.prog) w p (listS l) hp z4
  have b4 := fun w => add2 (P := Try.prog) w p (listS l) q hp z4 hq
  have a5 := fun w => add1 (P := Try.prog) w p (boolS b) hp z5
  have b5 := fun w => add2 (P := Try.prog) w p (boolS b) q hp z5 hq
  obtain ⟨E1, hE1⟩ : ∃ E, enc u = E := ⟨_, rfl⟩
  obtain ⟨E2, hE2⟩ : ∃ E, intS n = E := ⟨_, rfl⟩
  obtain ⟨E3, hE3⟩ : ∃ E, textS s = E := ⟨_, rfl⟩
  obtain ⟨E4, hE4⟩ : ∃ E, listS l = E := ⟨_, rfl⟩
  obtain ⟨E5, hE5⟩ : ∃ E, boolS b = E := ⟨_, rfl⟩
  rw [hE1] at CU TU z1 a1 b1
  rw [hE2] at CI TI z2 a2 b2
  rw [hE3] at CT TT z3 a3 b3
  rw [hE4] at TL z4 a4 b4
  rw [hE5] at CB TB z5 a5 b5
  have CL : Hid (∀ W, Reads W.heap.size W (.slice a l.length cap) l → Calls Try.prog 20 #[.slice a l.length cap] W fun e w' => e = .returned (.string E4) ∧ Below W.heap.size W w') := by
    intro W hr
    have := ints_any hr (by omega)
    rwa [hE4] at this
  clear h hu hn hnn hE1 hE2 hE3 hE4 hE5
  go_enter Try.func6, Try.ntmps6
  go_wp2_with fail
  refine HSH.out.mono ?_
  rintro e W ⟨rfl, bb⟩
  have R1 := Lib.hid (next HR.out bb)
  have B1 := Lib.hid (bel_next HB.out bb)
  have X1 := Lib.hid (show Boxed w.heap.size W (u : Int) n b s (.slice a l.length cap) from box_cells bb)
  clear bb HR HB
  obtain ⟨c0, -, -, -, -⟩ := X1.out
  go_wp2_with fail
  refine (CU.out _).mono ?_
  rintro e W2 ⟨rfl, bb⟩
  have R2 := Lib.hid (next R1.out bb)
  have B2 := Lib.hid (bel_next B1.out bb)
  have X2 := Lib.hid (X1.out.next bb)
  clear bb R1 B1 X1 c0
  go_wp2_with fail
  refine (TU.out _).mono ?_
  rintro e W3 ⟨rfl, bb⟩
  have R3 := Lib.hid (next R2.out bb)
  have B3 := Lib.hid (bel_next B2.out bb)
  have X3 := Lib.hid (X2.out.next bb)
  clear bb R2 B2 X2
  obtain ⟨-, c1, -, -, -⟩ := X3.out
  go_wp2_with fail
  refine (CI.out _).mono ?_
  rintro e W4 ⟨rfl, bb⟩
  have R4 := Lib.hid (next R3.out bb)
  have B4 := Lib.hid (bel_next B3.out bb)
  have X4 := Lib.hid (X3.out.next bb)
  clear bb R3 B3 X3 c1
  go_wp2_with fail
  refine (TI.out _).mono ?_
  rintro e W5 ⟨rfl, bb⟩
  have R5 := Lib.hid (next R4.out bb)
  have B5 := Lib.hid (bel_next B4.out bb)
  have X5 := Lib.hid (X4.out.next bb)
  clear bb R4 B4 X4
  obtain ⟨-, -, c2, -, -⟩ := X5.out
  go_wp2_with fail
  refine (CB.out _).mono ?_
  rintro e w' ⟨rfl, rfl⟩
  go_wp2_with fail
  refine (TB.out _).mono ?_
  rintro e w' ⟨rfl, rfl⟩
  clear c2
  obtain ⟨-, -, -, c3, -⟩ := X5.out
  go_wp2_with fail
  have k3 := cell_regrown c3
  have QT := Lib.hid (fun d os => Calls.regrown_of (w := W5) (d := d) (os := os) (CT.out _))
  have QX := Lib.hid (fun d os => Calls.regrown_of (w := W5) (d := d) (os := os) (TT.out _))
  refine wp_region_quiet_below (by kernel_rfl) (by kernel_rfl) ?_
  repeat (quiet_step (first | exact QT.out _ _ | exact QX.out _ _))
  refine wpQuiet_nil ?_
  intro _ hw'
  obtain ⟨⟨dq, osq⟩, hw''⟩ := hw'
  subst hw''
  have bb := below_regrown W5 dq osq
  have R6 := Lib.hid (next R5.out bb)
  have B6 := Lib.hid (bel_next B5.out bb)
  have X6 := Lib.hid (X5.out.next bb)
  obtain ⟨W6, hW6⟩ : ∃ W6, grow (redrawn W5 dq) osq = W6 := ⟨_, rfl⟩
  rw [hW6] at R6 B6 X6 ⊢
  clear bb R5 B5 X5 c3 k3 hW6 QT QX
  obtain ⟨-, -, -, -, c4⟩ := X6.out
  go_upto_region 8 with fail
  go_cut [20, 21, 22] (fun v t e wx => TripOut l ((p.size : Int) + (E4.size : Int)) W6 v t e wx)
  case first =>
    have R6d := Lib.hid (next R6.out ((Below.refl W6.heap.size W6).drew))
    go_region_held3 (fun w' => w'.cell? ⟨w.heap.size, 4, none⟩ = some (.slice a l.length cap)) (first | assumption | go_keep)
      (first
      | (go_at_call 20; refine (CL.out _ R6d.out).mono ?_; rintro e W7 ⟨rfl, b7⟩; obtain ⟨-, -, -, -, c5⟩ := X6.out.next (bel_drew b7); have B7 := Lib.hid (bel_drew b7); clear b7)
      | (go_at_call 32; refine (TL.out _).mono ?_; rintro e W8 ⟨v8, rfl, r8, b8⟩; obtain ⟨-, -, -, -, c5⟩ := (X6.out.next B7.out).next b8; have B8 := Lib.hid b8; have R8 := Lib.hid r8; clear b8 r8))
    go_wp2_with fail
    go_meet
    exact ⟨rfl, rfl, R8.out, B7.out.trans (B8.out.mono B7.out.size)⟩
  case rest =>
    obtain ⟨rfl, rfl, r8, b8⟩ := hcut
    have R8 := Lib.hid r8
    have R9 := Lib.hid (next R6.out b8)
    have B9 := Lib.hid (bel_next B6.out b8)
    have X9 := Lib.hid (X6.out.next b8)
    clear r8 b8 R6 B6 X6 c4
    obtain ⟨c0, c1, c2, c3, c4⟩ := X9.out
    obtain ⟨a8, k8, rfl, hm8⟩ := rshape R8.out
    go_wp2_with fail
    refine (same_any R8.out R9.out).mono ?_
    rintro e V1 ⟨rfl, bb⟩
    rw [show sameB l l = true by simp [sameB]]
    have R10 := Lib.hid (next R9.out bb)
    have B10 := Lib.hid (bel_next B9.out bb)
    have X10 := Lib.hid (X9.out.next bb)
    clear bb R8 R9 B9 X9 c0 c1 c2 c3 c4
    obtain ⟨c0, -, -, -, -⟩ := X10.out
    go_wp2_with fail
    refine (CU.out _).mono ?_
    rintro e V2 ⟨rfl, bb⟩
    have R11 := Lib.hid (next R10.out bb)
    have B11 := Lib.hid (bel_next B10.out bb)
    have X11 := Lib.hid (X10.out.next bb)
    clear bb R10 B10 X10 c0
    obtain ⟨-, c1, -, -, -⟩ := X11.out
    go_wp2_with fail
    refine (CI.out _).mono ?_
    rintro e V3 ⟨rfl, bb⟩
    have R12 := Lib.hid (next R11.out bb)
    have B12 := Lib.hid (bel_next B11.out bb)
    have X12 := Lib.hid (X11.out.next bb)
    clear bb R11 B11 X11 c1
    obtain ⟨-, -, -, c3, -⟩ := X12.out
    go_wp2_with fail
    refine (CT.out _).mono ?_
    rintro e V4 ⟨rfl, bb⟩
    have R13 := Lib.hid (next R12.out bb)
    have B13 := Lib.hid (bel_next B12.out bb)
    have X13 := Lib.hid (X12.out.next bb)
    clear bb R12 B12 X12 c3
    obtain ⟨-, -, -, -, c4⟩ := X13.out
    go_wp2_with fail
    refine (CL.out _ R13.out).mono ?_
    rintro e V5 ⟨rfl, bb⟩
    have B14 := Lib.hid (bel_next B13.out bb)
    clear bb R13 B13 X13 c4
    go_wp2_with fail
    refine (alive_any _).mono ?_
    rintro e V6 ⟨rfl, bb⟩
    have B15 := Lib.hid (bel_next B14.out bb)
    clear bb B14
    go_wp2_with fail
    go_ret
    exact ⟨rfl, B15.out⟩

end Go.Proofs.Ytpbmkapeieoiaaa.Values
