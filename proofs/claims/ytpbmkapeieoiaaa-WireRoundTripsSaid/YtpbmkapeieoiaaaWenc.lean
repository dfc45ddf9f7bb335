/- The walk of WireEncodes. -/
import Derived.Test.YtpbmkapeieoiaaaWcuts
namespace Go.Proofs.Ytpbmkapeieoiaaa.Values
open Go.RowKit hiding intOf
open Go.Lib Go.Sort Go.Proofs.Ytpbmkapeieoiaaa.Var Go.Proofs.Ytpbmkapeieoiaaa.Uints Go.Proofs.Ytpbmkapeieoiaaa.Takes Go.Proofs.Ytpbmkapeieoiaaa.Build Go.Proofs.Ytpbmkapeieoiaaa.Reads Go.Proofs.Ytpbmkapeieoiaaa.Ints Go.Proofs.Ytpbmkapeieoiaaa.Facts

theorem same_regrown {P : Program} {f : FuncId} {args : Array Value} {w : World} {d : Nat} {os : Array Obj} {v : Value} (h : Calls P f args (grow (redrawn w d) os) fun e w' => e = .returned v ∧ grow (redrawn w d) os = w') :
    Calls P f args (grow (redrawn w d) os) fun e w'' => e = .returned v ∧ ∃ p : Regrown, w'' = grow (redrawn w p.d) p.os :=
  h.mono fun _ _ ⟨he, hw⟩ => ⟨he, ⟨d, os⟩, hw.symm⟩

set_option maxRecDepth 100000 in
set_option maxHeartbeats 2000000 in
theorem encodes_in {u : Nat} {n : Int} {b : Bool} {s : ByteArray} {v : Value} {l : List Int} {w : World} (h : Reads w.heap.size w v l) (hu : u < 18446744073709551616) (hn : (Lit.int .i64 n).wf = true) (hs : s.size ≤ 400) (hl : l.length ≤ 400) :
    Calls Try.prog 3 #[.agg #[.int .u64 (u : Int), .int .i64 n, .bool b, .string s, v]] w fun e w' => e = .returned (.bool true) ∧ Below w.heap.size w w' := by
  have HR := Lib.hid (next_alloc h (.cells #[.int .u64 (u : Int), .int .i64 n, .bool b, .string s, v] 25))
  obtain ⟨a, cap, rfl, hm⟩ := rshape h
  have HSH := Lib.hid (short_any (u := (u : Int)) (n := n) (b := b) (s := s) HR.out (by unfold maxLen; omega))
  rw [show shortB s l = true by simp [shortB, hs, hl]] at HSH
  have HB := Lib.hid (bel_alloc (Below.refl w.heap.size w) (.cells #[.int .u64 (u : Int), .int .i64 n, .bool b, .string s, .slice a l.length cap] 25))
  clear h
  go_enter Try.func3, Try.ntmps3
  go_wp2_with fail
  refine HSH.out.mono ?_
  rintro e W ⟨rfl, bb⟩
  have HR1 := Lib.hid (next HR.out bb)
  have HB1 := Lib.hid (bel_next HB.out bb)
  obtain ⟨c0, c1, c2, c3, c4⟩ := box_cells bb
  clear bb HR HB
  go_wp2_with fail
  have hnn := wf_bounds hn
  have k0 := cell_regrown c0
  have k1 := cell_regrown c1
  have k2 := cell_regrown c2
  have k3 := cell_regrown c3
  have k4 := cell_regrown c4
  have CU := Lib.hid (fun d os => Calls.regrown_of (w := W) (d := d) (os := os) (uint_any u _ hu))
  have CI := Lib.hid (fun d os => Calls.regrown_of (w := W) (d := d) (os := os) (int_any n _ hnn.1 hnn.2))
  have CB := Lib.hid (fun d os => same_regrown (w := W) (d := d) (os := os) (bool_any b _))
  have CT := Lib.hid (fun d os => Calls.regrown_of (w := W) (d := d) (os := os) (text_any s _ (by omega)))
  have CL := Lib.hid (fun d os => Calls.regrown_of (w := W) (d := d) (os := os) (ints_any (next HR1.out (below_regrown W d os)) (by omega)))
  have DU := Lib.hid (fun d os => Calls.regrown_of (w := W) (d := d) (os := os) (ruint_any u _ hu))
  have DI := Lib.hid (fun d os => Calls.regrown_of (w := W) (d := d) (os := os) (rint_any n _ hnn.1 hnn.2))
  have DB := Lib.hid (fun d os => same_regrown (w := W) (d := d) (os := os) (rbool_any b _))
  have DT := Lib.hid (fun d os => Calls.regrown_of (w := W) (d := d) (os := os) (rtext_any s _ (by omega)))
  have DL := Lib.hid (fun d os => Calls.regrown_of (w := W) (d := d) (os := os) (rints_any (next HR1.out (below_regrown W d os)) (by omega)))
  have CA := Lib.hid (fun d os => Calls.regrown_of (w := W) (d := d) (os := os) (alive_any _))
  obtain ⟨E1, hE1⟩ : ∃ E, enc u = E := ⟨_, rfl⟩
  obtain ⟨E2, hE2⟩ : ∃ E, intS n = E := ⟨_, rfl⟩
  obtain ⟨E3, hE3⟩ : ∃ E, textS s = E := ⟨_, rfl⟩
  obtain ⟨E4, hE4⟩ : ∃ E, listS l = E := ⟨_, rfl⟩
  obtain ⟨E5, hE5⟩ : ∃ E, boolS b = E := ⟨_, rfl⟩
  rw [hE1] at CU DU
  rw [hE2] at CI DI
  rw [hE3] at CT DT
  rw [hE4] at CL DL
  rw [hE5] at CB DB
  clear hnn hu hn hs hl hm hE1 hE2 hE3 hE4 hE5
  refine wp_region_quiet_below (by kernel_rfl) (by kernel_rfl) ?_
  repeat (quiet_step (first | exact CU.out _ _ | exact CI.out _ _ | exact CB.out _ _ | exact CT.out _ _ | exact CL.out _ _ | exact DU.out _ _ | exact DI.out _ _ | exact DB.out _ _ | exact DT.out _ _ | exact DL.out _ _ | exact CA.out _ _))
  refine wpQuiet_nil ?_
  intro _ hw'
  obtain ⟨⟨dq, osq⟩, hw''⟩ := hw'
  subst hw''
  have HB2 := Lib.hid (bel_next HB1.out (below_regrown W dq osq))
  go_wp2_with fail
  go_ret
  exact ⟨rfl, HB2.out⟩

set_option maxRecDepth 100000 in
theorem encodes_out {u n : Int} {b : Bool} {s : ByteArray} {v : Value} {l : List Int} {w : World} (h : Reads w.heap.size w v l) (hs : s.size ≤ maxLen) (ho : shortB s l = false) :
    Calls Try.prog 3 #[.agg #[.int .u64 u, .int .i64 n, .bool b, .string s, v]] w fun e w' => e = .returned (.bool true) ∧ Below w.heap.size w w' := by
  have HR := Lib.hid (next_alloc h (.cells #[.int .u64 u, .int .i64 n, .bool b, .string s, v] 25))
  obtain ⟨a, cap, rfl, hm⟩ := rshape h
  have HSH := Lib.hid (short_any (u := u) (n := n) (b := b) (s := s) HR.out hs)
  rw [ho] at HSH
  have HB := Lib.hid (bel_alloc (Below.refl w.heap.size w) (.cells #[.int .u64 u, .int .i64 n, .bool b, .string s, .slice a l.length cap] 25))
  have HA := Lib.hid alive_any
  clear h hs ho
  go_enter Try.func3, Try.ntmps3
  go_wp2_with fail
  refine HSH.out.mono ?_
  rintro e W ⟨rfl, bb⟩
  have HB1 := Lib.hid (bel_next HB.out bb)
  clear bb HB
  go_wp2_with fail
  refine (HA.out _).mono ?_
  rintro e W2 ⟨rfl, bb⟩
  have HB2 := Lib.hid (bel_next HB1.out bb)
  clear bb HB1
  go_wp2_with fail
  go_ret
  exact ⟨rfl, HB2.out⟩

end Go.Proofs.Ytpbmkapeieoiaaa.Values
