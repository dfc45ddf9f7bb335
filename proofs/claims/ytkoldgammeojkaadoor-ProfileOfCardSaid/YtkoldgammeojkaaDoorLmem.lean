/- The call of the reference's Members. -/
import Derived.Test.YtkoldgammeojkaaDoorLayf
import Derived.Maps.AppendAt
namespace Go.Proofs.YtkoldgammeojkaaDoor.Lmem
open Go.RowKit Go.Lib Go.Proofs.YtkoldgammeojkaaDoor.Text Go.Proofs.YtkoldgammeojkaaDoor.Reads Go.Proofs.YtkoldgammeojkaaDoor.Rows2 Go.Proofs.YtkoldgammeojkaaDoor.Lay Go.Proofs.YtkoldgammeojkaaDoor.Layf

theorem infoI : (Tryd.prog.info? 3).map (fun i => (i.zero, i.size, i.bytes)) = some (some (.int .i64 0), 1, 8) := by kernel_rfl
/-- What a call gives that returns a list. -/
def ListOut (l : List Int) (w : World) (e : Ending) (w' : World) : Prop := ∃ v, e = .returned v ∧ Reads w'.heap.size w' v l ∧ Below w.heap.size w w'

/-- What holds at the head of a loop that picks indexes. -/
def PRel (p : Elem → Bool) (els : List Elem) (r : List Int) (w : World) (vout vj : Value) (wr : World) : Prop :=
  ∃ (j : Nat) (acc : List Int), j ≤ els.length ∧ vj = .int .i64 (j : Int) ∧ r = acc ++ pick p j (els.drop j) ∧ acc.length ≤ j ∧ (∀ x ∈ acc, (Lit.int .i64 x).wf = true) ∧ wr.ownsRow w.heap.size 3 1 vout acc.length (acc.map (Value.int .i64)) ∧ Below w.heap.size w wr

theorem pskip {p : Elem → Bool} {els : List Elem} {r : List Int} {j : Nat} {w wr : World} {o : Obj} {vout : Value} {acc : List Int} {x : Elem} (hx : els[j]? = some x) (hr : r = acc ++ pick p j (els.drop j)) (h : p x = false)
    (ha : acc.length ≤ j) (hw : ∀ x ∈ acc, (Lit.int .i64 x).wf = true) (ho : wr.ownsRow w.heap.size 3 1 vout acc.length (acc.map (Value.int .i64))) (hb : Below w.heap.size w wr) :
    PRel p els r w vout (.int .i64 ((j : Int) + 1)) (wr.alloc o) :=
  ⟨j + 1, acc, (List.getElem?_eq_some_iff.1 hx).1, by simp, by rw [hr, drop_at hx, pick_no h], by omega, hw, ho.alloc _, hb.alloc hb.size _⟩
theorem pmore {p : Elem → Bool} {els : List Elem} {r : List Int} {j : Nat} {w wr w1 : World} {o : Obj} {vout v1 : Value} {acc : List Int} {x : Elem} (hn : els.length ≤ 1000) (hx : els[j]? = some x) (hr : r = acc ++ pick p j (els.drop j)) (h : p x = true)
    (ha : acc.length ≤ j) (hw : ∀ x ∈ acc, (Lit.int .i64 x).wf = true) (ho : wr.ownsRow w.heap.size 3 1 vout acc.length (acc.map (Value.int .i64))) (hb : Below w.heap.size w wr)
    (h1 : w1.ownsRow w.heap.size 3 1 v1 (acc.length + 1) (acc.map (Value.int .i64) ++ [.int .i64 (j : Int)]))
    (hg : ((wr.alloc o).alloc (.cells #[.int .i64 (j : Int)] 3)).grownBy w1 vout.ownBlock) : PRel p els r w v1 (.int .i64 ((j : Int) + 1)) w1 := by
  have hj := (List.getElem?_eq_some_iff.1 hx).1
  refine ⟨j + 1, acc ++ [(j : Int)], hj, by simp, by rw [hr, drop_at hx, pick_yes h, List.append_assoc]; rfl, by simp; omega, ?_, by simpa using h1, ?_⟩
  · intro x hx
    rcases List.mem_append.1 hx with hx | hx
    · exact hw x hx
    · rw [List.mem_singleton.1 hx]; exact WalkArith.wf_i64 (by omega)
  · have h2 := (hb.alloc hb.size o).alloc (by have := hb.size; simp; omega) (.cells #[.int .i64 (j : Int)] 3)
    exact h2.grown hg (by have := hb.size; simp; omega) (fun g hg => (ho.lt g hg).1)

set_option maxRecDepth 100000 in
set_option maxHeartbeats 800000 in
theorem rmembers_any (L : Lay) (s : Int) {vs ve vj vg vb : Value} (w : World) (h : LayAt (In w) w L vs ve vj vg vb) (hn : L.els.length ≤ 1000) :
    Calls Tryd.prog 29 #[layV L vs ve vj vg vb, .int .i64 s] w (ListOut (membersF L s) w) := by
  obtain ⟨r, hr⟩ : ∃ r, membersF L s = r := ⟨_, rfl⟩
  rw [hr]
  have HR := Lib.hid hr
  clear hr
  obtain ⟨a, cap, rfl, hm, _⟩ := h.el
  obtain ⟨a2, cap2, rfl, hm2, _⟩ := h.sn
  have H0 := h.box (.cells #[.string (bs L.name), .slice a2 L.secs.length cap2, .slice a L.els.length cap, vj, vg, vb] 28)
  have X0 := lbox_new w 28 L (.slice a2 L.secs.length cap2) (.slice a L.els.length cap) vj vg vb
  have B0 := Lib.hid ((Below.refl w.heap.size w).alloc (Nat.le_refl _) (.cells #[.string (bs L.name), .slice a2 L.secs.length cap2, .slice a L.els.length cap, vj, vg, vb] 28))
  have G0 : w.heap.size < (w.alloc (.cells #[.string (bs L.name), .slice a2 L.secs.length cap2, .slice a L.els.length cap, vj, vg, vb] 28)).heap.size := by simp
  unfold layV
  go_enter Tryd.func29, Tryd.ntmps29
  go_wp2_with fail
  obtain ⟨W, hW⟩ : ∃ W, w.alloc (.cells #[.string (bs L.name), .slice a2 L.secs.length cap2, .slice a L.els.length cap, vj, vg, vb] 28) = W := ⟨_, rfl⟩
  rw [hW] at H0 X0 B0 G0 ⊢
  clear hW h
  obtain ⟨a', cap', he, _, hel⟩ := H0.el
  cases he
  have HE := Lib.hid hel
  have HX := Lib.hid X0
  have HG := Lib.hid G0
  clear hel X0 G0 H0
  obtain ⟨i0, hi, hz0, hz1, hz2⟩ := info_parts infoI
  have HI0 := Lib.hid hi
  have HZ0 := Lib.hid hz0
  have HZ1 := Lib.hid hz1
  have HZ2 := Lib.hid hz2
  clear hi hz0 hz1 hz2
  go_loopw [5, 11] (fun vout vj wr => PRel (isMember L.secs.length s) L.els r W vout vj wr) (fun _ vj _ => L.els.length - (intOf vj).toNat)
  case atStart => exact ⟨0, [], Nat.zero_le _, rfl, by rw [← HR.out]; rfl, Nat.le_refl _, by simp, World.ownsRow_nil _ _ _ _, Below.refl _ _⟩
  case round =>
    obtain ⟨j, acc, hj, rfl, hrj, ha, hw, ho, hb⟩ := hrel
    obtain ⟨_, x1, _⟩ := HX.out.next hb HG.out
    have hlt : w.heap.size < wr.heap.size := Nat.lt_of_lt_of_le HG.out hb.size
    have HB := Lib.hid hb
    have HS := Lib.hid hb.size
    have HJ := Lib.hid hrj
    have HA := Lib.hid ha
    have HW := Lib.hid hw
    have HO := Lib.hid ho
    clear hb hrj ha hw ho
    by_cases hl : j < L.els.length
    · obtain ⟨x, hx⟩ := at_lt hl
      obtain ⟨b, off, rfl, c0, c1, c2, c3, c4, c5, c6⟩ := HE.out wr HB.out j x hx
      have HXX := Lib.hid hx
      clear hx
      obtain ⟨nm, kd, ln, gr, sp, sl, sc⟩ := x
      simp only at c0 c1 c2 c3 c4 c5 c6
      by_cases hit : sc = s ∧ 0 ≤ s ∧ s < (L.secs.length : Int)
      · obtain ⟨rfl, h1, h2⟩ := hit
        have HP := Lib.hid (show isMember L.secs.length sc ⟨nm, kd, ln, gr, sp, sl, sc⟩ = true by simp [isMember, h1, h2])
        go_wp2_with (at_builtin; refine wpList_append_own_at _ rfl (.tmp 31) (.tmp 33) 60 rfl W.heap.size 3 i0 (.int .i64 0) 1 8 Tryd.underlying60 HI0.out HZ0.out HZ1.out HZ2.out rfl (by decide) _ _ _ rfl ((HO.out.alloc _).alloc _) ⟨wr.heap.size + 1, 0, none⟩ 1 1 [.int .i64 (j : Int)] rfl rfl (by simpa using cell_one_new (wr.alloc _) (.int .i64 (j : Int)) 3) (by intro u hu; simp at hu; subst hu; rfl) (by have := HA.out; unfold maxLen; omega) (by have := HA.out; omega) (by have := HS.out; simp; omega) ?_; intro v1 w1 h1own hg1 _ _; have R1 := Lib.hid h1own; have R2 := Lib.hid hg1; clear h1own hg1)
        go_roundw
        case rel => exact pmore hn HXX.out HJ.out HP.out HA.out HW.out HO.out HB.out R1.out R2.out
        case measure => simp [intOf]; omega
      · have HP := Lib.hid (show isMember L.secs.length s ⟨nm, kd, ln, gr, sp, sl, sc⟩ = false by
          rw [← Bool.not_eq_true]
          simpa [isMember] using hit)
        have hq : (sc == s) = false ∨ ((sc == s) = true ∧ decide (0 ≤ s) = false) ∨ ((sc == s) = true ∧ decide (0 ≤ s) = true ∧ decide (s < (L.secs.length : Int)) = false) := by
          simp only [beq_eq_false_iff_ne, beq_iff_eq, decide_eq_false_iff_not, decide_eq_true_eq]
          omega
        clear hit
        rcases hq with hq | ⟨hq, hq2⟩ | ⟨hq, hq2, hq3⟩
        all_goals
          go_wp2_with fail
          go_roundw
          case rel => exact pskip HXX.out HJ.out HP.out HA.out HW.out HO.out HB.out
          case measure => simp [intOf]; omega
    · have he : j = L.els.length := by omega
      subst he
      clear hl hj
      go_wp2_with fail
      go_ret
      have e : r = acc := by
        rw [HJ.out, List.drop_length]
        simp [pick]
      subst e
      exact ⟨_, rfl, reads_own HO.out HW.out (Nat.le_refl _), B0.out.trans (HB.out.mono B0.out.size)⟩

end Go.Proofs.YtkoldgammeojkaaDoor.Lmem
