/- The walk of WireCuts. -/
import Derived.Test.YtpbmkapeieoiaaaShort
namespace Go.Proofs.Ytpbmkapeieoiaaa.Values
open Go.RowKit hiding intOf
open Go.Lib Go.Sort Go.Proofs.Ytpbmkapeieoiaaa.Var Go.Proofs.Ytpbmkapeieoiaaa.Uints Go.Proofs.Ytpbmkapeieoiaaa.Takes Go.Proofs.Ytpbmkapeieoiaaa.Build Go.Proofs.Ytpbmkapeieoiaaa.Reads Go.Proofs.Ytpbmkapeieoiaaa.Ints Go.Proofs.Ytpbmkapeieoiaaa.Facts

/-- The cells of a value that the call has boxed. -/
theorem box_cells {w W : World} {T : TypeId} {c0 c1 c2 c3 c4 : Value} (hb : Below (w.alloc (.cells #[c0, c1, c2, c3, c4] T)).heap.size (w.alloc (.cells #[c0, c1, c2, c3, c4] T)) W) :
    W.cell? ⟨w.heap.size, 0, none⟩ = some c0 ∧ W.cell? ⟨w.heap.size, 1, none⟩ = some c1 ∧ W.cell? ⟨w.heap.size, 2, none⟩ = some c2 ∧ W.cell? ⟨w.heap.size, 3, none⟩ = some c3 ∧ W.cell? ⟨w.heap.size, 4, none⟩ = some c4 := by
  have hl : w.heap.size < (w.alloc (.cells #[c0, c1, c2, c3, c4] T)).heap.size := by simp
  have key : ∀ (j : Nat), W.cell? ⟨w.heap.size, j, none⟩ = (#[c0, c1, c2, c3, c4] : Array Value)[j]? := by
    intro j
    rw [hb.cell (p := ⟨w.heap.size, j, none⟩) hl, World.cell?_alloc_at _ _ _ _ rfl]
  exact ⟨key 0, key 1, key 2, key 3, key 4⟩

theorem ext_take (B : List UInt8) (j : Nat) : (str B).extract 0 j = str (B.take j) := by
  apply ext_str
  unfold Takes.part
  rw [list_str]
  simp
theorem cut_uint (u j : Nat) (w : World) (hu : u < 18446744073709551616) (hj : j < (enc u).size) :
    Calls Try.prog 22 #[.string ((enc u).extract 0 j), .int .i64 0] w fun e w' => e = .returned (.tuple #[.int .u64 0, .int .i64 0, .int .i64 5]) ∧ Below w.heap.size w w' := by
  rw [enc_size'] at hj
  have hl := uvarint_length64 hu
  rw [show (enc u).extract 0 j = str ((uvarint u).take j) from ext_take _ _]
  have h := takeUint_any (str ((uvarint u).take j)) 0 w (by rw [str_size]; simp; omega)
  have e : tu (str ((uvarint u).take j)) 0 = (0, 0, 5) := tu_short [] hu hj
  rw [tuV_of e] at h
  exact h
theorem cut_int (n : Int) (j : Nat) (w : World) (hn : -9223372036854775808 ≤ n ∧ n ≤ 9223372036854775807) (hj : j < (intS n).size) :
    Calls Try.prog 24 #[.string ((intS n).extract 0 j), .int .i64 0] w fun e w' => e = .returned (.tuple #[.int .i64 0, .int .i64 0, .int .i64 5]) ∧ Below w.heap.size w w' := by
  have hz := zigzag_lt hn.1 hn.2
  unfold intS at hj ⊢
  rw [enc_size'] at hj
  have hl := uvarint_length64 hz
  rw [show (enc (zigzag n)).extract 0 j = str ((uvarint (zigzag n)).take j) from ext_take _ _]
  have h := takeInt_any (str ((uvarint (zigzag n)).take j)) 0 w (by rw [str_size]; simp; omega)
  have e : tu (str ((uvarint (zigzag n)).take j)) 0 = (0, 0, 5) := tu_short [] hz hj
  rw [tiV_of e] at h
  exact h
theorem text_size (s : ByteArray) : (textS s).size = (textB s).length := by rw [textS_str, str_size]
theorem text_len {s : ByteArray} (hs : s.size ≤ 400) : 1 ≤ (textS s).size ∧ (textS s).size ≤ 5000 := by
  rw [text_size]
  unfold textB
  rw [List.length_append, size_list]
  have := uvarint_length64 (show s.size < 18446744073709551616 by omega)
  have := uvarint_pos s.size
  omega
theorem list_len {l : List Int} (hl : l.length ≤ 400) (hw : ∀ x ∈ l, (Lit.int .i64 x).wf = true) : 1 ≤ (listS l).size ∧ (listS l).size ≤ 5000 := by
  have h1 := flat_len l hw
  have := uvarint_length64 (show l.length < 18446744073709551616 by omega)
  have := uvarint_pos l.length
  rw [show (listS l).size = (listB l).length from str_size _]
  unfold listB
  rw [List.length_append]
  omega
theorem enc_len1 {u : Nat} (hu : u < 18446744073709551616) : 1 ≤ (enc u).size ∧ (enc u).size ≤ 5000 := by
  rw [enc_size']
  have := uvarint_length64 hu
  have := uvarint_pos u
  omega
theorem cut_text (s : ByteArray) (j : Nat) (w : World) (hs : s.size ≤ 400) (hj : j < (textS s).size) :
    Calls Try.prog 28 #[.string ((textS s).extract 0 j), .int .i64 0, .int .i64 400] w fun e w' => e = .returned (.tuple #[.string ⟨#[]⟩, .int .i64 0, .int .i64 5]) ∧ Below w.heap.size w w' := by
  have hl := (text_len hs).2
  rw [text_size] at hj hl
  rw [textS_str, ext_take]
  have h := takeText_any (str ((textB s).take j)) 0 400 w (by rw [str_size]; simp; omega) (by decide)
  have e : ttV (str ((textB s).take j)) 0 400 = .tuple #[.string ⟨#[]⟩, .int .i64 0, .int .i64 5] := by
    simp [ttV, tc_text_short s hs hj]
  rw [e] at h
  exact h
def CutList (w : World) (e : Ending) (w' : World) : Prop := ∃ v, e = .returned (.tuple #[v, .int .i64 0, .int .i64 5]) ∧ Below w.heap.size w w'
theorem cut_list (l : List Int) (j : Nat) (w : World) (hl : l.length ≤ 400) (hw : ∀ x ∈ l, (Lit.int .i64 x).wf = true) (hj : j < (listS l).size) :
    Calls Try.prog 32 #[.string ((listS l).extract 0 j), .int .i64 0, .int .i64 400] w (CutList w) := by
  have h5 := (list_len hl hw).2
  rw [show (listS l).size = (listB l).length from str_size _] at hj h5
  rw [show (listS l).extract 0 j = str ((listB l).take j) from ext_take _ _]
  have h := takeInts_any (str ((listB l).take j)) 0 400 w (by rw [str_size]; simp; omega) (by decide)
  rw [tl_short l hw hl hj] at h
  exact h.mono fun e w' ⟨v, he, _, hb⟩ => ⟨v, he, hb⟩
theorem max_cut {z : Nat} {c : Int} (h1 : 1 ≤ z) (hc : 1 ≤ c) : ∃ j : Nat, j < z ∧ max 0 ((z : Int) - c) = (j : Int) := ⟨(max 0 ((z : Int) - c)).toNat, by omega, by omega⟩

set_option maxRecDepth 100000 in
set_option maxHeartbeats 1000000 in
theorem cuts_in {u : Nat} {n : Int} {b : Bool} {s : ByteArray} {v : Value} {l : List Int} {c : Int} {w : World} (h : Reads w.heap.size w v l) (hu : u < 18446744073709551616) (hn : (Lit.int .i64 n).wf = true) (hs : s.size ≤ 400) (hl : l.length ≤ 400) (hc : 1 ≤ c) (hc2 : c ≤ 9223372036854775807) :
    Calls Try.prog 8 #[.agg #[.int .u64 (u : Int), .int .i64 n, .bool b, .string s, v], .int .i64 c] w fun e w' => e = .returned (.bool true) ∧ Below w.heap.size w w' := by
  have HR := Lib.hid (next_alloc h (.cells #[.int .u64 (u : Int), .int .i64 n, .bool b, .string s, v] 25))
  obtain ⟨a, cap, rfl, hm⟩ := rshape h
  have HSH := Lib.hid (short_any (u := (u : Int)) (n := n) (b := b) (s := s) HR.out (by unfold maxLen; omega))
  rw [show shortB s l = true by simp [shortB, hs, hl]] at HSH
  have HB := Lib.hid (bel_alloc (Below.refl w.heap.size w) (.cells #[.int .u64 (u : Int), .int .i64 n, .bool b, .string s, .slice a l.length cap] 25))
  clear h
  go_enter Try.func8, Try.ntmps8
  go_wp2_with fail
  refine HSH.out.mono ?_
  rintro e W ⟨rfl, bb⟩
  have HR1 := Lib.hid (next HR.out bb)
  have HB1 := Lib.hid (bel_next HB.out bb)
  obtain ⟨c0, c1, c2, c3, c4⟩ := box_cells bb
  clear bb HR HB
  go_wp2_with fail
  have hnn := wf_bounds hn
  have k0 := cell_regrown c0
  have k1 := cell_regrown c1
  have k3 := cell_regrown c3
  have k4 := cell_regrown c4
  have CU := Lib.hid (fun d os => Calls.regrown_of (w := W) (d := d) (os := os) (uint_any u _ hu))
  have CI := Lib.hid (fun d os => Calls.regrown_of (w := W) (d := d) (os := os) (int_any n _ hnn.1 hnn.2))
  have CT := Lib.hid (fun d os => Calls.regrown_of (w := W) (d := d) (os := os) (text_any s _ (by omega)))
  have CL := Lib.hid (fun d os => Calls.regrown_of (w := W) (d := d) (os := os) (ints_any (next HR1.out (below_regrown W d os)) (by omega)))
  have HU := Lib.hid hu
  have HW := Lib.hid HR1.out.wf
  clear hu
  refine wp_region_quiet_below (by kernel_rfl) (by kernel_rfl) ?_
  repeat (quiet_step (first | exact CU.out _ _ | exact CI.out _ _ | exact CT.out _ _ | exact CL.out _ _))
  refine wpQuiet_nil ?_
  intro _ hw'
  obtain ⟨⟨dq, osq⟩, hw''⟩ := hw'
  subst hw''
  have HB2 := Lib.hid (bel_next HB1.out (below_regrown W dq osq))
  obtain ⟨W2, hW2⟩ : ∃ W2, grow (redrawn W dq) osq = W2 := ⟨_, rfl⟩
  rw [hW2] at HB2 ⊢
  clear hW2 c0 c1 c2 c3 c4 k0 k1 k3 k4 HB1 HR1
  obtain ⟨z1, z1'⟩ := enc_len1 HU.out
  obtain ⟨z2, z2'⟩ : 1 ≤ (intS n).size ∧ (intS n).size ≤ 5000 := enc_len1 (zigzag_lt hnn.1 hnn.2)
  obtain ⟨z3, z3'⟩ := text_len hs
  obtain ⟨z4, z4'⟩ := list_len hl HW.out
  obtain ⟨j1, j1', m1⟩ := max_cut z1 hc
  obtain ⟨j2, j2', m2⟩ := max_cut z2 hc
  obtain ⟨j3, j3', m3⟩ := max_cut z3 hc
  obtain ⟨j4, j4', m4⟩ := max_cut z4 hc
  have K1 := Lib.hid (fun w => cut_uint u j1 w HU.out j1')
  have K2 := Lib.hid (fun w => cut_int n j2 w hnn j2')
  have K3 := Lib.hid (fun w => cut_text s j3 w hs j3')
  have K4 := Lib.hid (fun w => cut_list l j4 w hl HW.out j4')
  clear hnn hs hl hm CU CI CT CL
  obtain ⟨E1, hE1⟩ : ∃ E, enc u = E := ⟨_, rfl⟩
  obtain ⟨E2, hE2⟩ : ∃ E, intS n = E := ⟨_, rfl⟩
  obtain ⟨E3, hE3⟩ : ∃ E, textS s = E := ⟨_, rfl⟩
  obtain ⟨E4, hE4⟩ : ∃ E, listS l = E := ⟨_, rfl⟩
  rw [hE1] at K1 z1' j1' m1 ⊢
  rw [hE2] at K2 z2' j2' m2 ⊢
  rw [hE3] at K3 z3' j3' m3 ⊢
  rw [hE4] at K4 z4' j4' m4 ⊢
  clear hE1 hE2 hE3 hE4 z1 z2 z3 z4
  go_wp2_with fail
  refine (K1.out _).mono ?_
  rintro e W3 ⟨rfl, bb⟩
  have HB3 := Lib.hid (bel_next HB2.out bb)
  clear bb HB2
  go_wp2_with fail
  refine (K2.out _).mono ?_
  rintro e W4 ⟨rfl, bb⟩
  have HB4 := Lib.hid (bel_next HB3.out bb)
  clear bb HB3
  go_wp2_with fail
  refine (K3.out _).mono ?_
  rintro e W5 ⟨rfl, bb⟩
  have HB5 := Lib.hid (bel_next HB4.out bb)
  clear bb HB4
  go_wp2_with fail
  refine (K4.out _).mono ?_
  rintro e W6 ⟨v4, rfl, bb⟩
  have HB6 := Lib.hid (bel_next HB5.out bb)
  clear bb HB5
  go_wp2_with fail
  refine (alive_any _).mono ?_
  rintro e W7 ⟨rfl, bb⟩
  have HB7 := Lib.hid (bel_next HB6.out bb)
  clear bb HB6
  go_wp2_with fail
  go_ret
  exact ⟨rfl, HB7.out⟩

set_option maxRecDepth 100000 in
theorem cuts_out {u n : Int} {b : Bool} {s : ByteArray} {v : Value} {l : List Int} {c : Int} {w : World} (h : Reads w.heap.size w v l) (hs : s.size ≤ maxLen) (ho : shortB s l = false ∨ c < 1) :
    Calls Try.prog 8 #[.agg #[.int .u64 u, .int .i64 n, .bool b, .string s, v], .int .i64 c] w fun e w' => e = .returned (.bool true) ∧ Below w.heap.size w w' := by
  have HR := Lib.hid (next_alloc h (.cells #[.int .u64 u, .int .i64 n, .bool b, .string s, v] 25))
  obtain ⟨a, cap, rfl, hm⟩ := rshape h
  have HSH := Lib.hid (short_any (u := u) (n := n) (b := b) (s := s) HR.out hs)
  have HB := Lib.hid (bel_alloc (Below.refl w.heap.size w) (.cells #[.int .u64 u, .int .i64 n, .bool b, .string s, .slice a l.length cap] 25))
  clear h hs
  obtain ⟨q, hq⟩ : ∃ q, shortB s l = q := ⟨_, rfl⟩
  rw [hq] at HSH ho
  have HA := Lib.hid alive_any
  clear hq
  cases q with
  | false =>
    clear ho
    go_enter Try.func8, Try.ntmps8
    go_wp2_with fail
    refine HSH.out.mono ?_
    rintro e W ⟨rfl, bb⟩
    have HB1 := Lib.hid (bel_next HB.out bb)
    clear bb HB
    go_wp2_with fail
    refine (HA.out _).mono ?_
    rintro e W2 ⟨rfl, bb⟩
    have HB2 := Lib.hid (bel_next HB1.out bb)
    clear bb HB1
    go_wp2_with fail
    go_ret
    exact ⟨rfl, HB2.out⟩
  | true =>
    have hc : c < 1 := by simpa using ho
    have hc' : decide (c < 1) = true := by simpa using hc
    clear ho
    go_enter Try.func8, Try.ntmps8
    go_wp2_with fail
    refine HSH.out.mono ?_
    rintro e W ⟨rfl, bb⟩
    have HB1 := Lib.hid (bel_next HB.out bb)
    clear bb HB
    go_wp2_with fail
    refine (HA.out _).mono ?_
    rintro e W2 ⟨rfl, bb⟩
    have HB2 := Lib.hid (bel_next HB1.out bb)
    clear bb HB1
    go_wp2_with fail
    go_ret
    exact ⟨rfl, HB2.out⟩

end Go.Proofs.Ytpbmkapeieoiaaa.Values
