/- slices.Concat of two lists of segments. -/
import Derived.Test.YtkoldgammeojkaaSegs
import Derived.Lib.AppendZerosOnto
namespace Go.Proofs.Ytkoldgammeojkaa.Pcc
open Go.RowKit Go.Lib Go.Proofs.Ytkoldgammeojkaa.Reads Go.Proofs.Ytkoldgammeojkaa.Rows2 Go.Proofs.Ytkoldgammeojkaa.Lay Go.Proofs.Ytkoldgammeojkaa.Segs

/-- The world with a new block. -/
def gw (w : World) (cs : Array Value) : World := w.drew.alloc (.cells cs 25)
theorem grow_run (n : Nat) (h1 : 1 ≤ n) (hn : n ≤ 100000) (w : World) : ∃ G cs, (∀ ty, (Builtin.append_ #[22, 3] ty #[.slice none 0 0, .int .i64 (n : Int)]).run Try.prog w = .ok (.slice (some ⟨w.heap.size, 0, none⟩) n G) (gw w cs)) ∧ n ≤ G ∧ G ≤ maxLen ∧ cs.size = G * 4 := by
  obtain ⟨i0, hi, hz0, hz1, hz2⟩ := info_parts infoS
  have h := fun ty => Lib.run_append_grow_zeros (P := Try.prog) w 22 3 ty 25 i0 _ .i64 .i64 Try.underlying22 Try.underlying3 hi hz0 none 0 0 [] (run_firstCells_none _ _ _ _ _) n (by omega) (by omega) (by omega) (by omega) (by rw [hz2]; omega) (growslice_fits (by omega) (by rw [hz2]; omega))
  simp only [Nat.zero_add] at h
  refine ⟨_, _, h, grownCap_ge _ _ _ _, grownCap_le_maxLen _ _ _ _ (by unfold maxLen; omega), ?_⟩
  have hg := grownCap_ge w n 0 25
  simp [Builtin.zeroCells, Value.cells]
  omega

/-- append of what is made, at the operation. -/
theorem step_make {P : Program} {ops : Array Oper} {rest : List Oper} {o : Oper} {a : Act} {w W : World} {Q : Exit → Act → World → Prop} (hg : o.guard = none) (s x : Operand) (t tn : TypeId) (hop : o.op = Op.call { callee := Callee.builtin Builtin.append, args := #[s, x], argTypes := #[t, tn] })
    {vs vx v : Value} (hs : a.eval s = vs) (hx : a.eval x = vx) (hr : ∀ ty, (Builtin.append_ #[t, tn] ty #[vs, vx]).run P w = .ok v W) (h : wpList P ops Q rest (a.put o.dst v) W) : wpList P ops Q (o :: rest) a w := by
  refine wpList_plain hg fun K' hK' => ?_
  unfold Oper.wp execOp
  simp only [hop, resolve, invoke, builtin, Sem.run_bind, Sem.run_pure, Result.andThen_ok, List.map_toArray, List.map_cons, List.map_nil, hs, hx, hr]
  exact hK' _ _ h

/-- What Grow gives: a slice without elements. -/
def GrowOut (w : World) (e : Ending) (w' : World) : Prop := ∃ v, e = .returned v ∧ (∃ a c, v = .slice a 0 c) ∧ w'.ownsRow w.heap.size 25 4 v 0 [] ∧ Below w.heap.size w w'

set_option maxRecDepth 100000 in
set_option maxHeartbeats 800000 in
theorem grow_any (n : Nat) (hn : n ≤ 100000) (w : World) : Calls Try.prog 39 #[.slice none 0 0, .int .i64 (n : Int)] w (GrowOut w) := by
  rcases n with _ | n
  · go_enter Try.func39, Try.ntmps39
    go_wp2_with fail
    go_ret
    exact ⟨_, rfl, ⟨_, _, rfl⟩, World.ownsRow_nil _ _ _ _, Below.refl _ _⟩
  obtain ⟨n, hn2, h1⟩ : ∃ m, n + 1 = m ∧ 1 ≤ m := ⟨_, rfl, by omega⟩
  rw [hn2] at hn ⊢
  clear hn2
  obtain ⟨G, cs, hr, hG, hm, hcs⟩ := grow_run n h1 hn w
  have q1 : ¬ ((n : Int) < 0) := by omega
  have q2 : IntKind.i64.wrap (n : Int) = (n : Int) := by rw [IntKind.wrap_i64]; omega
  have q3 : (0 : Int) < (n : Int) := by omega
  have HW : Hid (∀ W, gw w cs = W → W.ownsRow w.heap.size 25 4 (.slice (some ⟨w.heap.size, 0, none⟩) 0 G) 0 [] ∧ Below w.heap.size w W) := by
    rintro W rfl
    refine ⟨⟨rfl, .inr ⟨w.heap.size, G, cs, rfl, Nat.le_refl _, heap_alloc_new w.drew _, Nat.zero_le _, hm, by omega, by simp⟩⟩, ?_⟩
    exact ((Below.refl w.heap.size w).drew).alloc (Nat.le_refl _) _
  obtain ⟨W, hW⟩ : ∃ W, gw w cs = W := ⟨_, rfl⟩
  obtain ⟨o1, o2⟩ := HW.out W hW
  simp only [hW] at hr
  have O1 := Lib.hid o1
  have O2 := Lib.hid o2
  have hG2 : (n : Int) ≤ (G : Int) := by omega
  have hG3 : (G : Int) ≤ 9223372036854775807 := by unfold maxLen at hm; omega
  have HR := Lib.hid hr
  clear o1 o2 hW hcs hm HW hr
  go_enter Try.func39, Try.ntmps39
  go_wp2_with (at_builtin; refine step_make rfl (.tmp 20) (.tmp 21) 22 3 rfl rfl rfl HR.out ?_)
  go_ret
  exact ⟨_, rfl, ⟨_, _, rfl⟩, O1.out, O2.out⟩

set_option maxRecDepth 100000 in
set_option maxHeartbeats 1600000 in
theorem concat_any {va vb : Value} {a b : List Sg} {B : Nat} (w : World) (h0 : w.cell? ⟨B, 0, none⟩ = some va) (h1 : w.cell? ⟨B, 1, none⟩ = some vb) (ha : SegIn w va a) (hb : SegIn w vb b) (hn : a.length + b.length ≤ 1000) :
    Calls Try.prog 35 #[.slice (some ⟨B, 0, none⟩) 2 2] w (SegOut (a ++ b) w) := by
  obtain ⟨A1, C1, rfl, hm1, -, -, -⟩ := segs ha.1
  obtain ⟨A2, C2, rfl, hm2, -, -, -⟩ := segs hb.1
  have HA := Lib.hid ha
  have HB := Lib.hid hb
  obtain ⟨N1, e1⟩ : ∃ N, a.length = N := ⟨_, rfl⟩
  obtain ⟨N2, e2⟩ : ∃ N, b.length = N := ⟨_, rfl⟩
  rw [e1] at hm1 h0 hn HA
  rw [e2] at hm2 h1 hn HB
  have E1 := Lib.hid e1
  have E2 := Lib.hid e2
  have HG := Lib.hid (fun w' => grow_any (N1 + N2) (by omega) w')
  have hBl : B < w.heap.size := World.block_lt_of_cell? w _ h0
  have HH0 := Lib.hid h0
  have HH1 := Lib.hid h1
  have q1 : IntKind.i64.wrap ((N1 : Int) + (N2 : Int)) = (N1 : Int) + (N2 : Int) := by rw [IntKind.wrap_i64]; omega
  have q2 : IntKind.i64.wrap (N1 : Int) = (N1 : Int) := by rw [IntKind.wrap_i64]; omega
  have q3 : ¬ ((N1 : Int) + (N2 : Int) < 0) := by omega
  have q4 : ¬ ((N1 : Int) < 0) := by omega
  clear ha hb e1 e2
  go_enter Try.func35, Try.ntmps35
  go_wp2_with fail
  go_loopw [3, 11] (fun vn vi wr => w = wr ∧ ((vi = .int .i64 0 ∧ vn = .int .i64 0) ∨ (vi = .int .i64 1 ∧ vn = .int .i64 (N1 : Int)) ∨ (vi = .int .i64 2 ∧ vn = .int .i64 ((N1 : Int) + (N2 : Int))))) (fun _ vi _ => 2 - (RowKit.intOf vi).toNat)
  case atStart => exact ⟨rfl, .inl ⟨rfl, rfl⟩⟩
  case round =>
    obtain ⟨rfl, ⟨rfl, rfl⟩ | ⟨rfl, rfl⟩ | ⟨rfl, rfl⟩⟩ := hrel
    · go_wp2_with fail
      go_roundw
      case rel => exact ⟨by first | rfl | trivial, .inr (.inl ⟨rfl, rfl⟩)⟩
      case measure => simp [RowKit.intOf]
    · go_wp2_with fail
      go_roundw
      case rel => exact ⟨by first | rfl | trivial, .inr (.inr ⟨rfl, rfl⟩)⟩
      case measure => simp [RowKit.intOf]
    · go_wp2_with fail
      refine (HG.out _).mono ?_
      rintro e w1 ⟨v1, rfl, ⟨va, vc, rfl⟩, o1, b1⟩
      have O1 := Lib.hid o1
      have B1 := Lib.hid b1
      clear o1 b1
      go_wp2_with fail
      go_loopw [6, 27] (fun vo vi wx => Below w.heap.size w wx ∧ ((vi = .int .i64 0 ∧ wx.ownsRow w.heap.size 25 4 vo 0 []) ∨ (vi = .int .i64 1 ∧ wx.ownsRow w.heap.size 25 4 vo a.length (a.flatMap sgC)) ∨ (vi = .int .i64 2 ∧ wx.ownsRow w.heap.size 25 4 vo (a ++ b).length ((a ++ b).flatMap sgC)))) (fun _ vi _ => 2 - (RowKit.intOf vi).toNat)
      case atStart => exact ⟨B1.out, .inl ⟨rfl, O1.out⟩⟩
      case round =>
        obtain ⟨hbx, ⟨rfl, ho⟩ | ⟨rfl, ho⟩ | ⟨rfl, ho⟩⟩ := hrel
        · have HO := Lib.hid ho
          have HBX := Lib.hid hbx
          have c0 := (hbx.cell (p := ⟨B, 0, none⟩) hBl).trans HH0.out
          obtain ⟨A3, C3, rfl⟩ := own_shape ho
          clear ho hbx h0 h1
          go_wp2_with (at_builtin; refine wp_in rfl (.tmp 31) (.tmp 32) rfl w (l := []) (v := .slice A3 0 C3) (vx := .slice A1 N1 C1) a rfl rfl (HA.out.next HBX.out) HO.out HBX.out (by rw [E1.out, List.length_nil]; omega) ?_; rintro v4 w4 ⟨h4, b4, -, -⟩; have R4 := Lib.hid h4; have B4 := Lib.hid b4; clear h4 b4)
          go_roundw
          case rel => exact ⟨B4.out, .inr (.inl ⟨rfl, by simpa using R4.out⟩)⟩
          case measure => simp [RowKit.intOf]
        · have HO := Lib.hid ho
          have HBX := Lib.hid hbx
          have c1 := (hbx.cell (p := ⟨B, 1, none⟩) hBl).trans HH1.out
          obtain ⟨A3, C3, rfl⟩ := own_shape ho
          rw [E1.out]
          clear ho hbx h0 h1
          go_wp2_with (at_builtin; refine wp_in rfl (.tmp 31) (.tmp 32) rfl w (l := a) (v := .slice A3 a.length C3) (vx := .slice A2 N2 C2) b (by rw [E1.out]; rfl) rfl (HB.out.next HBX.out) HO.out HBX.out (by rw [E1.out, E2.out]; omega) ?_; rintro v4 w4 ⟨h4, b4, -, -⟩; have R4 := Lib.hid h4; have B4 := Lib.hid b4; clear h4 b4)
          go_roundw
          case rel => exact ⟨B4.out, .inr (.inr ⟨rfl, R4.out⟩)⟩
          case measure => simp [RowKit.intOf]
        · have HO := Lib.hid ho
          have HBX := Lib.hid hbx
          obtain ⟨A3, C3, rfl⟩ := own_shape ho
          obtain ⟨M, hM⟩ : ∃ M, (a ++ b).length = M := ⟨_, rfl⟩
          have HM := Lib.hid hM
          rw [hM]
          clear ho hbx h0 h1 hM
          go_wp2_with fail
          go_ret
          exact ⟨_, rfl, by have := HO.out; rw [HM.out] at this ⊢; exact this, HBX.out⟩

end Go.Proofs.Ytkoldgammeojkaa.Pcc
