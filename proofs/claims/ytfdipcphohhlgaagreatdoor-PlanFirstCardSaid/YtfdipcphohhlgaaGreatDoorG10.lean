/- Texts of this proof, merged: Rsam, Lown, Pali. -/
import Derived.Test.YtfdipcphohhlgaaGreatDoorG09
import Derived.Test.YtfdipcphohhlgaaGreatDoorG06
import Derived.Test.YtfdipcphohhlgaaGreatDoorG03

/- The call of the reference's Same for layouts that are read as one. -/
namespace Go.Proofs.YtfdipcphohhlgaaGreatDoor.Rsam
open Go.RowKit Go.Lib Go.Proofs.YtfdipcphohhlgaaGreatDoor.Reads Go.Proofs.YtfdipcphohhlgaaGreatDoor.Rows2 Go.Proofs.YtfdipcphohhlgaaGreatDoor.Lay Go.Proofs.YtfdipcphohhlgaaGreatDoor.Layf Go.Proofs.YtfdipcphohhlgaaGreatDoor.Ldup
open Go.Proofs.YtfdipcphohhlgaaGreatDoor.Text hiding lineL joinR

theorem sameNames {va vb : Value} {ws : List (List UInt8)} {w : World} (h : Strs (In w) w va ws) (h2 : Strs (In w) w vb ws) :
    Calls Tryz.prog 41 #[va, vb] w (BoolOut true w) := (Samew.sameLine_any h h2).mono fun _ _ h => h

set_option maxRecDepth 100000 in
set_option maxHeartbeats 3200000 in
theorem rsame_any (L : Lay) {vs ve vj vg vb us ue uj ug ub : Value} (w : World) (h : LayAt (In w) w L vs ve vj vg vb) (h2 : LayAt (In w) w L us ue uj ug ub) :
    Calls Tryz.prog 13 #[layV L vs ve vj vg vb, layV L us ue uj ug ub] w (BoolOut true w) := by
  obtain ⟨ea, ec, rfl, hem, -⟩ := h.el
  obtain ⟨ja, jc, rfl, hjm, -⟩ := h.jt
  obtain ⟨ga, gc, rfl, hgm, -⟩ := h.sg
  obtain ⟨ba, bc, rfl, hbm, -⟩ := h.bl
  obtain ⟨ea2, ec2, rfl, -, -⟩ := h2.el
  obtain ⟨ja2, jc2, rfl, -, -⟩ := h2.jt
  obtain ⟨ga2, gc2, rfl, -, -⟩ := h2.sg
  obtain ⟨ba2, bc2, rfl, -, -⟩ := h2.bl
  have b1 := (Below.refl w.heap.size w).alloc (Nat.le_refl _) (.cells #[.string (bs L.name), vs, .slice ea L.els.length ec, .slice ja L.joints.length jc, .slice ga L.sigs.length gc, .slice ba L.bals.length bc] 28)
  have b2 := b1.alloc b1.size (.cells #[.string (bs L.name), us, .slice ea2 L.els.length ec2, .slice ja2 L.joints.length jc2, .slice ga2 L.sigs.length gc2, .slice ba2 L.bals.length bc2] 28)
  have x1 := (lbox_new w 28 L vs (.slice ea L.els.length ec) (.slice ja L.joints.length jc) (.slice ga L.sigs.length gc) (.slice ba L.bals.length bc)).next ((Below.refl _ _).alloc (Nat.le_refl _) (.cells #[.string (bs L.name), us, .slice ea2 L.els.length ec2, .slice ja2 L.joints.length jc2, .slice ga2 L.sigs.length gc2, .slice ba2 L.bals.length bc2] 28)) (by simp)
  have x2 := lbox_new (w.alloc (.cells #[.string (bs L.name), vs, .slice ea L.els.length ec, .slice ja L.joints.length jc, .slice ga L.sigs.length gc, .slice ba L.bals.length bc] 28)) 28 L us (.slice ea2 L.els.length ec2) (.slice ja2 L.joints.length jc2) (.slice ga2 L.sigs.length gc2) (.slice ba2 L.bals.length bc2)
  have g1 : w.heap.size + 1 < ((w.alloc (.cells #[.string (bs L.name), vs, .slice ea L.els.length ec, .slice ja L.joints.length jc, .slice ga L.sigs.length gc, .slice ba L.bals.length bc] 28)).alloc (.cells #[.string (bs L.name), us, .slice ea2 L.els.length ec2, .slice ja2 L.joints.length jc2, .slice ga2 L.sigs.length gc2, .slice ba2 L.bals.length bc2] 28)).heap.size := by simp
  rw [show (w.alloc (.cells #[.string (bs L.name), vs, .slice ea L.els.length ec, .slice ja L.joints.length jc, .slice ga L.sigs.length gc, .slice ba L.bals.length bc] 28)).heap.size = w.heap.size + 1 by simp] at x2
  have hh := h.next b2
  have hh2 := h2.next b2
  unfold layV
  go_enter Tryz.func13, Tryz.ntmps13
  go_wp2_with fail
  obtain ⟨W, hW⟩ : ∃ W, (w.alloc (.cells #[.string (bs L.name), vs, .slice ea L.els.length ec, .slice ja L.joints.length jc, .slice ga L.sigs.length gc, .slice ba L.bals.length bc] 28)).alloc (.cells #[.string (bs L.name), us, .slice ea2 L.els.length ec2, .slice ja2 L.joints.length jc2, .slice ga2 L.sigs.length gc2, .slice ba2 L.bals.length bc2] 28) = W := ⟨_, rfl⟩
  rw [hW] at b2 x1 x2 g1 hh hh2 ⊢
  clear hW h h2 b1
  have HX1 := Lib.hid x1
  have HX2 := Lib.hid x2
  have B0 := Lib.hid b2
  have G1 := Lib.hid g1
  obtain ⟨_, _, e1, _, qe⟩ := hh.el
  cases e1
  obtain ⟨_, _, e1, _, qj⟩ := hh.jt
  cases e1
  obtain ⟨_, _, e1, _, qg⟩ := hh.sg
  cases e1
  obtain ⟨_, _, e1, _, qb⟩ := hh.bl
  cases e1
  obtain ⟨_, _, e1, _, re⟩ := hh2.el
  cases e1
  obtain ⟨_, _, e1, _, rj⟩ := hh2.jt
  cases e1
  obtain ⟨_, _, e1, _, rg⟩ := hh2.sg
  cases e1
  obtain ⟨_, _, e1, _, rb⟩ := hh2.bl
  cases e1
  have QE := Lib.hid qe
  have QJ := Lib.hid qj
  have QG := Lib.hid qg
  have QB := Lib.hid qb
  have RE := Lib.hid re
  have RJ := Lib.hid rj
  have RG := Lib.hid rg
  have RB := Lib.hid rb
  have HN := Lib.hid (sameNames hh.secs hh2.secs)
  clear qe qj qg qb re rj rg rb hh hh2 x1 x2 b2 g1
  refine HN.out.mono ?_
  rintro e w1 ⟨rfl, hb⟩
  have HB := Lib.hid hb
  clear hb
  obtain ⟨-, y1, y2, y3, y4, y5⟩ := HX1.out.next HB.out (by have := G1.out; omega)
  obtain ⟨-, z1, z2, z3, z4, z5⟩ := HX2.out.next HB.out G1.out
  go_wp2_with fail
  clear y1 y2 y3 y4 y5 z1 z2 z3 z4 z5
  go_loopw [5] (fun vi wr => ∃ i : Nat, vi = .int .i64 (i : Int) ∧ i ≤ L.els.length ∧ Below W.heap.size W wr) (fun vi _ => L.els.length - (RowKit.intOf vi).toNat)
  case atStart => exact ⟨0, rfl, Nat.zero_le _, HB.out⟩
  case round =>
    clear HB
    obtain ⟨i, rfl, hi, hb⟩ := hrel
    have HB := Lib.hid hb
    clear hb
    obtain ⟨-, y1, y2, y3, y4, y5⟩ := HX1.out.next HB.out (by have := G1.out; omega)
    obtain ⟨-, z1, z2, z3, z4, z5⟩ := HX2.out.next HB.out G1.out
    by_cases hl : i < L.els.length
    · obtain ⟨x, hx⟩ := at_lt hl
      obtain ⟨b, off, rfl, c0, c1, c2, c3, c4, c5, c6⟩ := QE.out wr HB.out i x hx
      obtain ⟨b', off', rfl, d0, d1, d2, d3, d4, d5, d6⟩ := RE.out wr HB.out i x hx
      have hlt : (i : Int) < (L.els.length : Int) := by omega
      obtain ⟨nm, kd, ln, gr, sp, sl, sc⟩ := x
      simp only at c0 c1 c2 c3 c4 c5 c6 d0 d1 d2 d3 d4 d5 d6
      clear hx
      go_wp2_with fail
      go_quiet (fail)
      go_wp2_with fail
      go_roundw
      case rel => exact ⟨i + 1, by simp, by omega, below_drewN HB.out _⟩
      case measure => simp [RowKit.intOf]; omega
    · have he : i = L.els.length := by omega
      subst he
      clear hl hi
      go_wp2_with fail
      go_loopw [6] (fun vi wr => ∃ i : Nat, vi = .int .i64 (i : Int) ∧ i ≤ L.joints.length ∧ Below W.heap.size W wr) (fun vi _ => L.joints.length - (RowKit.intOf vi).toNat)
      case atStart => exact ⟨0, rfl, Nat.zero_le _, HB.out⟩
      case round =>
        clear HB
        obtain ⟨i, rfl, hi, hb⟩ := hrel
        have HB := Lib.hid hb
        clear hb
        obtain ⟨-, y1, y2, y3, y4, y5⟩ := HX1.out.next HB.out (by have := G1.out; omega)
        obtain ⟨-, z1, z2, z3, z4, z5⟩ := HX2.out.next HB.out G1.out
        by_cases hl : i < L.joints.length
        · obtain ⟨x, hx⟩ := at_lt hl
          obtain ⟨b, off, rfl, c0, c1, c2, c3⟩ := QJ.out wr HB.out i x hx
          obtain ⟨b', off', rfl, d0, d1, d2, d3⟩ := RJ.out wr HB.out i x hx
          have hlt : (i : Int) < (L.joints.length : Int) := by omega
          obtain ⟨⟨u1, u2⟩, ⟨v1, v2⟩⟩ := x
          simp only at c0 c1 c2 c3 d0 d1 d2 d3
          clear hx
          go_wp2_with fail
          go_quiet (fail)
          go_wp2_with fail
          go_roundw
          case rel => exact ⟨i + 1, by simp, by omega, below_drewN HB.out _⟩
          case measure => simp [RowKit.intOf]; omega
        · have he : i = L.joints.length := by omega
          subst he
          clear hl hi
          go_wp2_with fail
          go_loopw [7] (fun vi wr => ∃ i : Nat, vi = .int .i64 (i : Int) ∧ i ≤ L.sigs.length ∧ Below W.heap.size W wr) (fun vi _ => L.sigs.length - (RowKit.intOf vi).toNat)
          case atStart => exact ⟨0, rfl, Nat.zero_le _, HB.out⟩
          case round =>
            clear HB
            obtain ⟨i, rfl, hi, hb⟩ := hrel
            have HB := Lib.hid hb
            clear hb
            obtain ⟨-, y1, y2, y3, y4, y5⟩ := HX1.out.next HB.out (by have := G1.out; omega)
            obtain ⟨-, z1, z2, z3, z4, z5⟩ := HX2.out.next HB.out G1.out
            by_cases hl : i < L.sigs.length
            · obtain ⟨x, hx⟩ := at_lt hl
              obtain ⟨b, off, rfl, c0, c1, c2, c3⟩ := QG.out wr HB.out i x hx
              obtain ⟨b', off', rfl, d0, d1, d2, d3⟩ := RG.out wr HB.out i x hx
              have hlt : (i : Int) < (L.sigs.length : Int) := by omega
              obtain ⟨nm, ⟨u1, u2⟩, ov⟩ := x
              simp only at c0 c1 c2 c3 d0 d1 d2 d3
              clear hx
              go_wp2_with fail
              go_quiet (fail)
              go_wp2_with fail
              go_roundw
              case rel => exact ⟨i + 1, by simp, by omega, below_drewN HB.out _⟩
              case measure => simp [RowKit.intOf]; omega
            · have he : i = L.sigs.length := by omega
              subst he
              clear hl hi
              go_wp2_with fail
              go_loopw [8] (fun vi wr => ∃ i : Nat, vi = .int .i64 (i : Int) ∧ i ≤ L.bals.length ∧ Below W.heap.size W wr) (fun vi _ => L.bals.length - (RowKit.intOf vi).toNat)
              case atStart => exact ⟨0, rfl, Nat.zero_le _, HB.out⟩
              case round =>
                clear HB
                obtain ⟨i, rfl, hi, hb⟩ := hrel
                have HB := Lib.hid hb
                clear hb
                obtain ⟨-, y1, y2, y3, y4, y5⟩ := HX1.out.next HB.out (by have := G1.out; omega)
                obtain ⟨-, z1, z2, z3, z4, z5⟩ := HX2.out.next HB.out G1.out
                by_cases hl : i < L.bals.length
                · obtain ⟨x, hx⟩ := at_lt hl
                  obtain ⟨b, off, rfl, c0, c1, c2⟩ := QB.out wr HB.out i x hx
                  obtain ⟨b', off', rfl, d0, d1, d2⟩ := RB.out wr HB.out i x hx
                  have hlt : (i : Int) < (L.bals.length : Int) := by omega
                  obtain ⟨bi, be, bo⟩ := x
                  simp only at c0 c1 c2 d0 d1 d2
                  clear hx
                  go_wp2_with fail
                  go_quiet (fail)
                  go_wp2_with fail
                  go_roundw
                  case rel => exact ⟨i + 1, by simp, by omega, below_drewN HB.out _⟩
                  case measure => simp [RowKit.intOf]; omega
                · have he : i = L.bals.length := by omega
                  subst he
                  clear hl hi
                  go_wp2_with fail
                  go_ret
                  exact ⟨rfl, bel_next B0.out HB.out⟩

end Go.Proofs.YtfdipcphohhlgaaGreatDoor.Rsam

/- Lists that a call builds, in blocks of its own; the shapes of a layout's slices. -/
namespace Go.Proofs.YtfdipcphohhlgaaGreatDoor.Lown
open Go.RowKit Go.Lib Go.Proofs.YtfdipcphohhlgaaGreatDoor.Text Go.Proofs.YtfdipcphohhlgaaGreatDoor.Reads Go.Proofs.YtfdipcphohhlgaaGreatDoor.Rows2 Go.Proofs.YtfdipcphohhlgaaGreatDoor.Lay Go.Proofs.YtfdipcphohhlgaaGreatDoor.Layf Go.Proofs.YtfdipcphohhlgaaGreatDoor.Ldup Go.Proofs.YtfdipcphohhlgaaGreatDoor.Lnam

theorem flat_of {α : Type} (f : α → List Value) (sz : Nat) (hlen : ∀ a, (f a).length = sz) : ∀ {l : List α} {i j : Nat} {r : List Value} {x : Value}, (l.map f)[i]? = some r → r[j]? = some x → (l.flatMap f)[i * sz + j]? = some x
  | [], i, j, r, x, h, _ => by simp at h
  | p :: l, i, j, r, x, h, hx => by
    rw [List.flatMap_cons]
    cases i with
    | zero =>
      simp only [List.map_cons, List.getElem?_cons_zero, Option.some.injEq] at h
      subst h
      have hj : j < (f p).length := (List.getElem?_eq_some_iff.1 hx).1
      rw [Nat.zero_mul, Nat.zero_add, List.getElem?_append_left hj]
      exact hx
    | succ i =>
      simp only [List.map_cons, List.getElem?_cons_succ] at h
      rw [List.getElem?_append_right (by rw [hlen, Nat.succ_mul]; omega)]
      rw [show (i + 1) * sz + j - (f p).length = i * sz + j by rw [hlen, Nat.succ_mul]; omega]
      exact flat_of f sz hlen h hx
/-- A slice of structures of the call's own. -/
theorem grid_of_own {α : Type} (f : α → List Value) {B sz : Nat} (hlen : ∀ a, (f a).length = sz) {w : World} {e : TypeId} {v : Value} {l : List α} (h : w.ownsRow B e sz v l.length (l.flatMap f)) : Grid (fun b => B ≤ b ∧ b < w.heap.size) w v sz (l.map f) := by
  have hx := h
  obtain ⟨_, hor⟩ := hx
  rcases hor with ⟨rfl, h0⟩ | ⟨g, cap, cur, rfl, hg, hh, hn, hcap, _, _⟩
  · have := List.length_eq_zero_iff.1 h0
    subst this
    exact grid_nil _ _ _
  · refine ⟨_, cap, by simp, by simpa using hn, hcap, .inr ⟨g, 0, rfl, ⟨(h.lt g rfl).1, (h.lt g rfl).2⟩, fun i r hr j x hx => ?_⟩⟩
    have := h.cells (g := g) rfl (i * sz + j) x (flat_of f sz hlen hr hx)
    rw [add_mk] at this
    rw [← this, Nat.add_assoc]
/-- The shapes of a layout's five slices. -/
theorem shapes {w : World} {L : Lay} {vs ve vj vg vb : Value} (h : LayAt (In w) w L vs ve vj vg vb) : ∃ a1 c1 a2 c2 a3 c3 a4 c4 a5 c5, vs = .slice a1 L.secs.length c1 ∧ ve = .slice a2 L.els.length c2 ∧ vj = .slice a3 L.joints.length c3 ∧ vg = .slice a4 L.sigs.length c4 ∧ vb = .slice a5 L.bals.length c5 := by
  obtain ⟨a1, c1, h1, _, _⟩ := h.sn
  obtain ⟨a2, c2, h2, _, _⟩ := h.el
  obtain ⟨a3, c3, h3, _, _⟩ := h.jt
  obtain ⟨a4, c4, h4, _, _⟩ := h.sg
  obtain ⟨a5, c5, h5, _, _⟩ := h.bl
  exact ⟨a1, c1, a2, c2, a3, c3, a4, c4, a5, c5, h1, h2, h3, h4, h5⟩

/-- What a call gives that returns a list of its own: in blocks that the call made. -/
def OwnOut (l : List Int) (w : World) (e : Ending) (w' : World) : Prop := ∃ v, e = .returned v ∧ Grid (fun b => w.heap.size ≤ b ∧ b < w'.heap.size) w' v 1 (l.map fun x => [.int .i64 x]) ∧ Below w.heap.size w w'

end Go.Proofs.YtfdipcphohhlgaaGreatDoor.Lown

/- The statements' alive for layouts as text, from what the program's Print and Parse are to give. -/
namespace Go.Proofs.YtfdipcphohhlgaaGreatDoor.Pali
open Go.RowKit Go.Lib Go.Proofs.YtfdipcphohhlgaaGreatDoor.Reads Go.Proofs.YtfdipcphohhlgaaGreatDoor.Rows2 Go.Proofs.YtfdipcphohhlgaaGreatDoor.Lay Go.Proofs.YtfdipcphohhlgaaGreatDoor.Layf Go.Proofs.YtfdipcphohhlgaaGreatDoor.Ldup Go.Proofs.YtfdipcphohhlgaaGreatDoor.Lext Go.Proofs.YtfdipcphohhlgaaGreatDoor.Plnf Go.Proofs.YtfdipcphohhlgaaGreatDoor.Plnx Go.Proofs.YtfdipcphohhlgaaGreatDoor.Ptwo Go.Proofs.YtfdipcphohhlgaaGreatDoor.Rsam
open Go.Proofs.YtfdipcphohhlgaaGreatDoor.Text hiding lineL joinR

theorem text_any (w : World) : Calls Tryz.prog 17 #[] w fun e w' => e = .returned (.string (bs textB)) ∧ w' = w := by
  go_enter Tryz.func17, Tryz.ntmps17
  go_wp2
  go_ret
  exact ⟨rfl, rfl⟩

theorem flat_cell {sz : Nat} : ∀ {rows : List (List Value)}, (∀ r ∈ rows, r.length = sz) → ∀ {i : Nat} {r : List Value}, rows[i]? = some r → ∀ {j : Nat} {x : Value}, r[j]? = some x → rows.flatten[i * sz + j]? = some x
  | [], _, i, r, hr, _, _, _ => by simp at hr
  | a :: l, hl, 0, r, hr, j, x, hx => by
    cases hr
    rw [List.flatten_cons, Nat.zero_mul, Nat.zero_add, List.getElem?_append_left (List.getElem?_eq_some_iff.1 hx).1]
    exact hx
  | a :: l, hl, i + 1, r, hr, j, x, hx => by
    have ha := hl a List.mem_cons_self
    rw [List.flatten_cons, List.getElem?_append_right (by rw [ha, Nat.add_mul]; omega), ha, show (i + 1) * sz + j - sz = i * sz + j by rw [Nat.add_mul]; omega]
    exact flat_cell (fun r hr => hl r (List.mem_cons_of_mem _ hr)) (by simpa using hr) hx
/-- Rows that a literal made. -/
theorem grid_fresh (w : World) (T : TypeId) {sz n : Nat} {rows : List (List Value)} {cs : Array Value} (hcs : cs = rows.flatten.toArray) (hl : ∀ r ∈ rows, r.length = sz) (hn : n = rows.length) (hm : n ≤ maxLen) : Grid (In (w.alloc (.cells cs T))) (w.alloc (.cells cs T)) (.slice (some ⟨w.heap.size, 0, none⟩) n n) sz rows := by
  subst hcs hn
  refine ⟨_, _, rfl, Nat.le_refl _, hm, .inr ⟨w.heap.size, 0, rfl, by simp [In], fun i r hr j x hx => ?_⟩⟩
  rw [World.cell?_alloc_at _ _ _ _ rfl]
  simpa using flat_cell hl hr hx
def secsO : Obj := .cells #[.string (bs [97]), .string (bs [98])] 9
def elsO : Obj := .cells #[.string (bs [97]), .int .i64 1, .int .i64 20000, .int .i64 0, .int .i64 1000, .int .i64 0, .int .i64 0, .string (bs [98]), .int .i64 1, .int .i64 20000, .int .i64 0, .int .i64 1000, .int .i64 0, .int .i64 1] 45
def jtsO : Obj := .cells #[.int .i64 0, .int .i64 1, .int .i64 1, .int .i64 0] 49
def sgsO : Obj := .cells #[.string (bs [115, 49]), .int .i64 0, .int .i64 1, .int .i64 0] 51
def sl (b n : Nat) : Value := .slice (some ⟨b, 0, none⟩) n n
def w4O (w : World) : World := (((w.alloc secsO).alloc elsO).alloc jtsO).alloc sgsO
def wantO (w : World) : World := (w4O w).alloc (.cells #[.string (bs wantL.name), sl w.heap.size 2, sl (w.heap.size + 1) 2, sl (w.heap.size + 1 + 1) 1, sl (w.heap.size + 1 + 1 + 1) 1, .slice none 0 0] 28)
theorem w4_size (w : World) : (w4O w).heap.size = w.heap.size + 1 + 1 + 1 + 1 := by simp [w4O]
theorem want_facts (w : World) : LayAt (In (wantO w)) (wantO w) wantL (sl w.heap.size 2) (sl (w.heap.size + 1) 2) (sl (w.heap.size + 1 + 1) 1) (sl (w.heap.size + 1 + 1 + 1) 1) (.slice none 0 0) ∧
    LBox (w.heap.size + 1 + 1 + 1 + 1) (wantO w) wantL (sl w.heap.size 2) (sl (w.heap.size + 1) 2) (sl (w.heap.size + 1 + 1) 1) (sl (w.heap.size + 1 + 1 + 1) 1) (.slice none 0 0) ∧ Below w.heap.size w (wantO w) ∧ w.heap.size + 1 + 1 + 1 + 1 < (wantO w).heap.size := by
  have b1 := (Below.refl w.heap.size w).alloc (Nat.le_refl _) secsO
  have b2 := b1.alloc b1.size elsO
  have b3 := b2.alloc b2.size jtsO
  have b4 := b3.alloc b3.size sgsO
  have b5 := b4.alloc b4.size (.cells #[.string (bs wantL.name), sl w.heap.size 2, sl (w.heap.size + 1) 2, sl (w.heap.size + 1 + 1) 1, sl (w.heap.size + 1 + 1 + 1) 1, .slice none 0 0] 28)
  have n1 : (w.alloc secsO).heap.size = w.heap.size + 1 := by simp
  have n2 : ((w.alloc secsO).alloc elsO).heap.size = w.heap.size + 1 + 1 := by simp
  have n3 : (((w.alloc secsO).alloc elsO).alloc jtsO).heap.size = w.heap.size + 1 + 1 + 1 := by simp
  have e1 : Below (w.alloc secsO).heap.size (w.alloc secsO) (wantO w) := (((((Below.refl _ _).alloc (Nat.le_refl _) elsO).alloc (by simp) jtsO).alloc (by simp <;> omega) sgsO).alloc (by simp <;> omega) _)
  have e2 : Below ((w.alloc secsO).alloc elsO).heap.size ((w.alloc secsO).alloc elsO) (wantO w) := ((((Below.refl _ _).alloc (Nat.le_refl _) jtsO).alloc (by simp) sgsO).alloc (by simp <;> omega) _)
  have e3 : Below (((w.alloc secsO).alloc elsO).alloc jtsO).heap.size (((w.alloc secsO).alloc elsO).alloc jtsO) (wantO w) := (((Below.refl _ _).alloc (Nat.le_refl _) sgsO).alloc (by simp) _)
  have e4 : Below (w4O w).heap.size (w4O w) (wantO w) := (Below.refl _ _).alloc (Nat.le_refl _) _
  have s1 : Strs (In (wantO w)) (wantO w) (sl w.heap.size 2) wantL.secs := (strs_fresh [[97], [98]] (T := 9) (w := w) (n := 2) rfl rfl (by unfold maxLen; omega) (fun s hs => by
    simp only [List.mem_cons, List.not_mem_nil, or_false] at hs
    rcases hs with rfl | rfl <;> (unfold maxLen; decide))).keep (keep_next e1)
  have s2 : Grid (In (wantO w)) (wantO w) (sl (w.heap.size + 1) 2) 7 (wantL.els.map Elem.cells) := by
    have := (grid_fresh (w.alloc secsO) 45 (sz := 7) (n := 2) (rows := wantL.els.map Elem.cells) (cs := #[.string (bs [97]), .int .i64 1, .int .i64 20000, .int .i64 0, .int .i64 1000, .int .i64 0, .int .i64 0, .string (bs [98]), .int .i64 1, .int .i64 20000, .int .i64 0, .int .i64 1000, .int .i64 0, .int .i64 1]) rfl (by
      intro r hr
      obtain ⟨x, _, rfl⟩ := List.mem_map.1 hr
      rfl) rfl (by unfold maxLen; omega)).keep (keep_next e2)
    rw [n1] at this
    exact this
  have s3 : Grid (In (wantO w)) (wantO w) (sl (w.heap.size + 1 + 1) 1) 4 (wantL.joints.map jCells) := by
    have := (grid_fresh ((w.alloc secsO).alloc elsO) 49 (sz := 4) (n := 1) (rows := wantL.joints.map jCells) (cs := #[.int .i64 0, .int .i64 1, .int .i64 1, .int .i64 0]) rfl (by
      intro r hr
      obtain ⟨x, _, rfl⟩ := List.mem_map.1 hr
      rfl) rfl (by unfold maxLen; omega)).keep (keep_next e3)
    rw [n2] at this
    exact this
  have s4 : Grid (In (wantO w)) (wantO w) (sl (w.heap.size + 1 + 1 + 1) 1) 4 (wantL.sigs.map Sig.cells) := by
    have := (grid_fresh (((w.alloc secsO).alloc elsO).alloc jtsO) 51 (sz := 4) (n := 1) (rows := wantL.sigs.map Sig.cells) (cs := #[.string (bs [115, 49]), .int .i64 0, .int .i64 1, .int .i64 0]) rfl (by
      intro r hr
      obtain ⟨x, _, rfl⟩ := List.mem_map.1 hr
      rfl) rfl (by unfold maxLen; omega)).keep (keep_next e4)
    rw [n3] at this
    exact this
  refine ⟨⟨s1, s2, s3, s4, grid_nil _ _ _, by unfold maxLen; decide, ?_, ?_, ?_, ?_, ?_, ?_, .inr ⟨_, _, _, rfl⟩⟩, ?_, b5, by show _ < ((w4O w).alloc _).heap.size; simp [w4_size]⟩
  · intro x hx
    simp only [wantL, List.mem_cons, List.not_mem_nil, or_false] at hx
    rcases hx with rfl | rfl <;> (unfold maxLen; decide)
  · intro x hx
    simp only [wantL, List.mem_cons, List.not_mem_nil, or_false] at hx
    subst hx
    unfold maxLen
    decide
  · intro x hx
    simp only [wantL, List.mem_cons, List.not_mem_nil, or_false] at hx
    rcases hx with rfl | rfl <;> (unfold Elem.Wf Lay.Wf; decide)
  · intro x hx
    simp only [wantL, List.mem_cons, List.not_mem_nil, or_false] at hx
    subst hx
    unfold jWf pWf Lay.Wf
    decide
  · intro x hx
    simp only [wantL, List.mem_cons, List.not_mem_nil, or_false] at hx
    subst hx
    unfold Sig.Wf pWf Lay.Wf
    decide
  · intro x hx
    simp [wantL] at hx
  · have := lbox_new (w4O w) 28 wantL (sl w.heap.size 2) (sl (w.heap.size + 1) 2) (sl (w.heap.size + 1 + 1) 1) (sl (w.heap.size + 1 + 1 + 1) 1) (.slice none 0 0)
    rw [w4_size] at this
    exact this

set_option maxRecDepth 100000 in
set_option maxHeartbeats 3200000 in
theorem alive_any {D : World → Prop} (T : Two D) (w : World) (hd : D w) : Calls Tryz.prog 8 #[] w (BoolOut true w) := by
  obtain ⟨hl, hx, hb, hs⟩ := want_facts w
  have HT := Lib.hid (fun w => text_any w)
  have d0 := T.keep _ _ hd hb
  have hP := T.prs textB (wantO w) (by decide) d0
  rw [text_parse] at hP
  have HP := Lib.hid hP
  have HQ := Lib.hid (fun w' (b : Below (wantO w).heap.size (wantO w) w') => T.prn wantL _ _ _ _ _ w' (hl.next b) (T.keep _ _ d0 b) (by decide))
  rw [want_print] at HQ
  have HP3 := Lib.hid (fun w' (b : Below (wantO w).heap.size (wantO w) w') => T.prs text3 w' (by decide) (T.keep _ _ d0 b))
  have HP4 := Lib.hid (fun w' (b : Below (wantO w).heap.size (wantO w) w') => T.prs text4 w' (by decide) (T.keep _ _ d0 b))
  obtain ⟨⟨M3, n3, e3⟩, h3⟩ : ∃ r, parseF text3 = r := ⟨_, rfl⟩
  have h33 := text3_parse
  rw [h3] at h33 HP3
  simp only [Prod.mk.injEq] at h33
  obtain ⟨rfl, rfl⟩ := h33
  obtain ⟨⟨M4, n4, e4⟩, h4⟩ : ∃ r, parseF text4 = r := ⟨_, rfl⟩
  have h44 := text4_parse
  rw [h4] at h44 HP4
  simp only [Prod.mk.injEq] at h44
  obtain ⟨rfl, rfl⟩ := h44
  have HL := Lib.hid hl
  have HX := Lib.hid hx
  have HB := Lib.hid hb
  have HS := Lib.hid hs
  clear hd hl hx hb hs d0 hP h3 h4
  go_enter Tryz.func8, Tryz.ntmps8
  go_wp2_with fail
  obtain ⟨W, hW⟩ : ∃ W, wantO w = W := ⟨_, rfl⟩
  change Calls _ _ _ (wantO w) _
  rw [hW] at HP HQ HP3 HP4 HL HX HB HS ⊢
  have HWW := Lib.hid hW
  clear hW
  refine (HT.out _).mono ?_
  rintro e w' ⟨rfl, rfl⟩
  go_wp2_with fail
  refine HP.out.mono ?_
  rintro e w1 ⟨vs, ve, vj, vg, vb, rfl, l1, b1⟩
  obtain ⟨sa, sc, ea, ec, ja, jc, ga, gc, ba, bc, rfl, rfl, rfl, rfl, rfl⟩ := Lown.shapes l1
  obtain ⟨x0, x1, x2, x3, x4, x5⟩ := HX.out.next b1 HS.out
  have B1 := Lib.hid b1
  have L1 := Lib.hid l1
  have hlt1 := Nat.lt_of_lt_of_le HS.out b1.size
  clear b1 l1
  unfold layV
  go_wp2_with fail
  have bw := (Below.refl w1.heap.size w1).alloc (Nat.le_refl _) (.cells #[.string (bs wantL.name), .slice sa wantL.secs.length sc, .slice ea wantL.els.length ec, .slice ja wantL.joints.length jc, .slice ga wantL.sigs.length gc, .slice ba wantL.bals.length bc] 28)
  have xa := lbox_new w1 28 wantL (.slice sa wantL.secs.length sc) (.slice ea wantL.els.length ec) (.slice ja wantL.joints.length jc) (.slice ga wantL.sigs.length gc) (.slice ba wantL.bals.length bc)
  have ga' : w1.heap.size < (w1.alloc (.cells #[.string (bs wantL.name), .slice sa wantL.secs.length sc, .slice ea wantL.els.length ec, .slice ja wantL.joints.length jc, .slice ga wantL.sigs.length gc, .slice ba wantL.bals.length bc] 28)).heap.size := by simp
  have la := L1.out.next bw
  obtain ⟨wA, hwA⟩ : ∃ wA, w1.alloc (.cells #[.string (bs wantL.name), .slice sa wantL.secs.length sc, .slice ea wantL.els.length ec, .slice ja wantL.joints.length jc, .slice ga wantL.sigs.length gc, .slice ba wantL.bals.length bc] 28) = wA := ⟨_, rfl⟩
  rw [hwA] at bw xa ga' la ⊢
  have BA := Lib.hid (bel_next B1.out bw)
  have XA := Lib.hid xa
  have GA := Lib.hid ga'
  have LA := Lib.hid la
  clear hwA bw xa ga' la hlt1 x0 x1 x2 x3 x4 x5
  refine (HQ.out _ BA.out).mono ?_
  rintro e w2 ⟨rfl, b2⟩
  have B2 := Lib.hid (bel_next BA.out b2)
  have A2 := Lib.hid b2
  clear b2
  go_wp2_with fail
  refine (HP3.out _ B2.out).mono ?_
  rintro e w3 ⟨vs, ve, vj, vg, vb, rfl, l3, b3⟩
  obtain ⟨sa3, sc3, ea3, ec3, ja3, jc3, ga3, gc3, ba3, bc3, rfl, rfl, rfl, rfl, rfl⟩ := Lown.shapes l3
  have B3 := Lib.hid (bel_next B2.out b3)
  have A3 := Lib.hid (bel_next A2.out b3)
  clear b3 l3
  unfold layV
  go_wp2_with fail
  have bw := (Below.refl w3.heap.size w3).alloc (Nat.le_refl _) (.cells #[.string (bs M3.name), .slice sa3 M3.secs.length sc3, .slice ea3 M3.els.length ec3, .slice ja3 M3.joints.length jc3, .slice ga3 M3.sigs.length gc3, .slice ba3 M3.bals.length bc3] 28)
  obtain ⟨wC, hwC⟩ : ∃ wC, w3.alloc (.cells #[.string (bs M3.name), .slice sa3 M3.secs.length sc3, .slice ea3 M3.els.length ec3, .slice ja3 M3.joints.length jc3, .slice ga3 M3.sigs.length gc3, .slice ba3 M3.bals.length bc3] 28) = wC := ⟨_, rfl⟩
  rw [hwC] at bw ⊢
  have BC := Lib.hid (bel_next B3.out bw)
  have AC := Lib.hid (bel_next A3.out bw)
  clear hwC bw
  refine (HP4.out _ BC.out).mono ?_
  rintro e w4 ⟨vs, ve, vj, vg, vb, rfl, l4, b4⟩
  obtain ⟨sa4, sc4, ea4, ec4, ja4, jc4, ga4, gc4, ba4, bc4, rfl, rfl, rfl, rfl, rfl⟩ := Lown.shapes l4
  have bw := (Below.refl w4.heap.size w4).alloc (Nat.le_refl _) (.cells #[.string (bs M4.name), .slice sa4 M4.secs.length sc4, .slice ea4 M4.els.length ec4, .slice ja4 M4.joints.length jc4, .slice ga4 M4.sigs.length gc4, .slice ba4 M4.bals.length bc4] 28)
  have BD := Lib.hid (bel_next (bel_next BC.out b4) bw)
  have AD := Lib.hid (bel_next (bel_next AC.out b4) bw)
  obtain ⟨x0, x1, x2, x3, x4, x5⟩ := HX.out.next (bel_next BC.out b4) HS.out
  obtain ⟨y0, y1, y2, y3, y4, y5⟩ := XA.out.next (bel_next AC.out b4) GA.out
  have q1 : w.heap.size + 1 + 1 + 1 + 1 < w4.heap.size := Nat.lt_of_lt_of_le HS.out (bel_next BC.out b4).size
  have q2 : w1.heap.size < w4.heap.size := Nat.lt_of_lt_of_le GA.out (bel_next AC.out b4).size
  clear b4 l4 bw
  unfold layV
  go_wp2_with fail
  have HSM := Lib.hid (rsame_any wantL _ (LA.out.next AD.out) (HL.out.next BD.out))
  unfold layV at HSM
  refine HSM.out.mono ?_
  rintro e w5 ⟨rfl, b5⟩
  have B5 := Lib.hid (bel_next BD.out b5)
  clear b5 x0 x1 x2 x3 x4 x5 y0 y1 y2 y3 y4 y5
  go_wp2_with fail
  refine (HT.out _).mono ?_
  rintro e w' ⟨rfl, rfl⟩
  go_wp2_with fail
  go_ret
  exact ⟨rfl, bel_next HB.out B5.out⟩

end Go.Proofs.YtfdipcphohhlgaaGreatDoor.Pali
