/- Texts of this proof, merged: Ljoi, Lnam, Lopen, Debw. -/
import Derived.Test.YtfdipcphohhlgaaGreatDoorG02
import Derived.Laws.ResultCell
import Derived.Maps.AppendAt
import Derived.ProofKit
import Derived.ChangeSlices
import Derived.Deep.Slices
import Derived.DataReads
import Derived.SizedLaws
import Derived.Test.YtfdipcphohhlgaaGreatDoorProg
import Derived.Below
import Derived.WalkKit
import Derived.Lib.LaidTab
import Derived.Lib.ItoaNum

/- The call of the reference's Joined. -/
namespace Go.Proofs.YtfdipcphohhlgaaGreatDoor.Ljoi
open Go.RowKit Go.Lib Go.Proofs.YtfdipcphohhlgaaGreatDoor.Text Go.Proofs.YtfdipcphohhlgaaGreatDoor.Reads Go.Proofs.YtfdipcphohhlgaaGreatDoor.Rows2 Go.Proofs.YtfdipcphohhlgaaGreatDoor.Lay Go.Proofs.YtfdipcphohhlgaaGreatDoor.Layf Go.Proofs.YtfdipcphohhlgaaGreatDoor.Ldup Go.Proofs.YtfdipcphohhlgaaGreatDoor.Lext

/-- What a call gives that returns an end and whether there is one. -/
def EndOut (r : (Int × Int) × Bool) (w : World) (e : Ending) (w' : World) : Prop := e = .returned (.tuple #[pV r.1, .bool r.2]) ∧ Below w.heap.size w w'
theorem ne_cases {x1 x2 y1 y2 : Int} (h : ¬ (x1, x2) = (y1, y2)) : (x1 == y1) = false ∨ ((x1 == y1) = true ∧ (x2 == y2) = false) := by
  simp only [beq_eq_false_iff_ne, beq_iff_eq]
  simp only [Prod.mk.injEq] at h
  omega

theorem box3 (w : World) (A B C : Array Value) (TA TB TC : TypeId) :
    (∀ j, (((w.alloc (.cells A TA)).alloc (.cells B TB)).alloc (.cells C TC)).cell? ⟨w.heap.size, j, none⟩ = A[j]?) ∧
    (∀ j, (((w.alloc (.cells A TA)).alloc (.cells B TB)).alloc (.cells C TC)).cell? ⟨w.heap.size + 1, j, none⟩ = B[j]?) ∧
    (((w.alloc (.cells A TA)).alloc (.cells B TB)).alloc (.cells C TC)).heap[w.heap.size + 1 + 1]? = some (.cells C TC (0, 0)) ∧
    (((w.alloc (.cells A TA)).alloc (.cells B TB)).alloc (.cells C TC)).heap.size = w.heap.size + 1 + 1 + 1 := by
  refine ⟨fun j => ?_, fun j => ?_, ?_, by simp⟩
  · rw [World.cell?_alloc_past _ _ _ (by simp; omega), World.cell?_alloc_past _ _ _ (by simp), World.cell?_alloc_at _ _ _ _ rfl]
  · rw [World.cell?_alloc_past _ _ _ (by simp), World.cell?_alloc_at _ _ _ _ (by simp)]
  · have := heap_alloc_new ((w.alloc (.cells A TA)).alloc (.cells B TB)) (.cells C TC)
    simpa using this

theorem jfin {w wr : World} {g : Nat} (hb : Below w.heap.size w wr) (hg : w.heap.size ≤ g) (o : Obj) (x y : Value) : Below w.heap.size w (((wr.setCell ⟨g, 0, none⟩ x).setCell ⟨g, 1, none⟩ y).alloc o) :=
  ((hb.setCell (p := ⟨g, 0, none⟩) hg _).setCell (p := ⟨g, 1, none⟩) hg _).alloc (by have := hb.size; simpa using this) o

set_option maxRecDepth 100000 in
set_option maxHeartbeats 1600000 in
theorem rjoined_any (L : Lay) (p : Int × Int) {vs ve vj vg vb : Value} (w : World) (h : LayAt (In w) w L vs ve vj vg vb) :
    Calls Tryz.prog 103 #[layV L vs ve vj vg vb, pV p] w (EndOut (joinedF L p) w) := by
  obtain ⟨r, hr⟩ : ∃ r, joinedF L p = r := ⟨_, rfl⟩
  rw [hr]
  have HR := Lib.hid hr
  clear hr
  obtain ⟨a, cap, rfl, hm, _⟩ := h.jt
  obtain ⟨e1, e2⟩ := p
  have b1 := (Below.refl w.heap.size w).alloc (Nat.le_refl _) (.cells #[.string (bs L.name), vs, ve, .slice a L.joints.length cap, vg, vb] 28)
  have b2 := b1.alloc b1.size (.cells #[.int .i64 e1, .int .i64 e2] 47)
  have b3 := b2.alloc b2.size (.cells #[.int .i64 0, .int .i64 0] 47)
  have H0 := h.next b3
  have X0 := box3 w #[.string (bs L.name), vs, ve, .slice a L.joints.length cap, vg, vb] #[.int .i64 e1, .int .i64 e2] #[.int .i64 0, .int .i64 0] 28 47 47
  clear b1 b2
  unfold layV pV
  go_enter Tryz.func103, Tryz.ntmps103
  go_wp2_with fail
  obtain ⟨W, hW⟩ : ∃ W, ((w.alloc (.cells #[.string (bs L.name), vs, ve, .slice a L.joints.length cap, vg, vb] 28)).alloc (.cells #[.int .i64 e1, .int .i64 e2] 47)).alloc (.cells #[.int .i64 0, .int .i64 0] 47) = W := ⟨_, rfl⟩
  rw [hW] at H0 X0 b3 ⊢
  clear hW h
  obtain ⟨x0, x1, x2, x3⟩ := X0
  have C1 := Lib.hid (x1 0)
  have C2 := Lib.hid (x1 1)
  have CR := Lib.hid x2
  have WS := Lib.hid x3
  have B0 := Lib.hid b3
  obtain ⟨a', cap', he, _, hel⟩ := H0.jt
  cases he
  have HE := Lib.hid hel
  clear hel H0 x0 x1 x2 x3 b3
  go_loopw [11] (fun vj wr => ∃ j : Nat, vj = .int .i64 (j : Int) ∧ j ≤ L.joints.length ∧ r = joinR (e1, e2) (L.joints.drop j) ∧ Below W.heap.size W wr) (fun vj _ => L.joints.length - (Go.RowKit.intOf vj).toNat)
  case atStart => exact ⟨0, rfl, Nat.zero_le _, by rw [← HR.out]; rfl, Below.refl _ _⟩
  case round =>
    obtain ⟨j, rfl, hj, hrj, hb⟩ := hrel
    have HB := Lib.hid hb
    have HJ := Lib.hid hrj
    have g1 := (hb.cell (p := ⟨w.heap.size + 1, 0, none⟩) (by rw [WS.out]; simp)).trans C1.out
    have g2 := (hb.cell (p := ⟨w.heap.size + 1, 1, none⟩) (by rw [WS.out]; simp)).trans C2.out
    have g3 := (hb.block (w.heap.size + 1 + 1) (by rw [WS.out]; omega)).trans CR.out
    have g4 := cell_of_row wr _ 0 _ _ _ g3
    have g5 := cell_of_row wr _ 1 _ _ _ g3
    have g6 := frozen_of_row wr _ 0 _ _ g3
    have g7 := frozen_of_row wr _ 1 _ _ g3
    have HG := Lib.hid g3
    have hlt : w.heap.size + 1 + 1 < wr.heap.size := Nat.lt_of_lt_of_le (by rw [WS.out]; omega) hb.size
    have hlt1 : w.heap.size + 1 < wr.heap.size := by omega
    simp at g1 g2 g4 g5
    clear hb hrj g3
    by_cases hl : j < L.joints.length
    · obtain ⟨x, hx⟩ := at_lt hl
      obtain ⟨b, off, rfl, c0, c1, c2, c3⟩ := HE.out wr HB.out j x hx
      obtain ⟨⟨u1, u2⟩, ⟨v1, v2⟩⟩ := x
      simp only at c0 c1 c2 c3
      have HD := Lib.hid (Go.Proofs.YtfdipcphohhlgaaGreatDoor.Layf.drop_at hx)
      clear hx
      by_cases ha : (u1, u2) = (e1, e2)
      · cases ha
        have HV := Lib.hid (show r = ((v1, v2), true) by rw [HJ.out, HD.out, joinR_a])
        go_wp2_with fail
        (try simp only [Exit.inBlock, Exit.then])
        refine bodyPost_ret (v := .tuple #[.agg #[.int .i64 v1, .int .i64 v2], .bool true]) ?_ rfl ⟨?_, ?_⟩
        · rw [results_cell_tmp rfl]
          go_simp
        · rw [HV.out]
          rfl
        · exact jfin (bel_next B0.out HB.out) (by omega) _ _ _
      · have hc := ne_cases ha
        by_cases hb : (v1, v2) = (e1, e2)
        · cases hb
          have HV := Lib.hid (show r = ((u1, u2), true) by rw [HJ.out, HD.out, joinR_b ha])
          clear ha
          rcases hc with hc | ⟨hc, hc2⟩
          all_goals
            go_wp2_with fail
            (try simp only [Exit.inBlock, Exit.then])
            refine bodyPost_ret (v := .tuple #[.agg #[.int .i64 u1, .int .i64 u2], .bool true]) ?_ rfl ⟨?_, ?_⟩
            · rw [results_cell_tmp rfl]
              go_simp
            · rw [HV.out]
              rfl
            · exact jfin (bel_next B0.out HB.out) (by omega) _ _ _
        · have HV := Lib.hid (show r = joinR (e1, e2) (L.joints.drop (j + 1)) by rw [HJ.out, HD.out, joinR_no ha hb])
          have hd := ne_cases hb
          clear ha hb
          rcases hc with hc | ⟨hc, hc2⟩
          all_goals
            rcases hd with hd | ⟨hd, hd2⟩
            all_goals
              go_wp2_with fail
              go_roundw
              case rel => exact ⟨j + 1, by simp, by omega, HV.out, HB.out.alloc HB.out.size _⟩
              case measure => simp [Go.RowKit.intOf]; omega
    · have he : j = L.joints.length := by omega
      subst he
      go_wp2_with fail
      (try simp only [Exit.inBlock, Exit.then])
      refine bodyPost_ret (v := .tuple #[.agg #[.int .i64 0, .int .i64 0], .bool false]) ?_ rfl ⟨?_, ?_⟩
      · rw [results_cell_tmp rfl]
        go_simp
      · rw [HJ.out, List.drop_length]
        rfl
      · exact ((bel_next B0.out HB.out).setCell (by simp; omega) _).setCell (by simp; omega) _

end Go.Proofs.YtfdipcphohhlgaaGreatDoor.Ljoi

/- The call of the reference's names. -/
namespace Go.Proofs.YtfdipcphohhlgaaGreatDoor.Lnam
open Go.RowKit Go.Lib Go.Proofs.YtfdipcphohhlgaaGreatDoor.Text Go.Proofs.YtfdipcphohhlgaaGreatDoor.Reads Go.Proofs.YtfdipcphohhlgaaGreatDoor.Rows2 Go.Proofs.YtfdipcphohhlgaaGreatDoor.Lay Go.Proofs.YtfdipcphohhlgaaGreatDoor.Layf Go.Proofs.YtfdipcphohhlgaaGreatDoor.Ldup Go.Proofs.YtfdipcphohhlgaaGreatDoor.Ljoi

theorem infoS : (Tryz.prog.info? 9).map (fun i => (i.zero, i.size, i.bytes)) = some (some (.string ByteArray.empty), 1, 16) := by kernel_rfl
/-- A slice value that is nil or has an address. -/
def Sn (v : Value) : Prop := v = .slice none 0 0 ∨ ∃ ad n c, v = .slice (some ad) n c
theorem sn_own {B : Nat} {w : World} {e : TypeId} {v : Value} {n : Nat} {xs : List Value} (h : w.ownsRow B e 1 v n xs) : Sn v := by
  obtain ⟨_, hor⟩ := h
  rcases hor with ⟨rfl, _⟩ | ⟨g, cap, cur, rfl, _⟩
  · exact .inl rfl
  · exact .inr ⟨_, _, _, rfl⟩
theorem own_slice {B : Nat} {w : World} {e : TypeId} {v : Value} {n : Nat} {xs : List Value} (h : w.ownsRow B e 1 v n xs) : ∃ a n c, v = .slice a n c := by
  rcases sn_own h with rfl | ⟨ad, n, c, rfl⟩
  · exact ⟨_, _, _, rfl⟩
  · exact ⟨_, _, _, rfl⟩
theorem strs_row {B : Nat} {w : World} {e : TypeId} {v : Value} {ss : List (List UInt8)} (h : w.ownsRow B e 1 v ss.length (strV ss)) (hs : ∀ s ∈ ss, s.length ≤ maxLen) : Strs (fun b => B ≤ b ∧ b < w.heap.size) w v ss := by
  rw [← strV_len ss] at h
  exact ⟨row_own h (fun g hg hlt => ⟨(h.lt g hg).1, hlt⟩), hs⟩
/-- What a call gives that returns the three lists of names. -/
def NamesOut (L : Lay) (w : World) (e : Ending) (w' : World) : Prop :=
  ∃ v0 v1 v2, e = .returned (.agg #[v0, v1, v2]) ∧ (Strs (In w') w' v0 L.secs ∧ Sn v0) ∧ (Strs (In w') w' v1 (L.els.map (·.name)) ∧ Sn v1) ∧ (Strs (In w') w' v2 (L.sigs.map (·.name)) ∧ Sn v2) ∧ Below w.heap.size w w'

/-- Behind the first append: the rows of the three boxes and of the list. -/
def Mid (L : Lay) (vs ve vj vg vb : Value) (w W : World) (v0 : Value) : Prop :=
  LBox w.heap.size W L vs ve vj vg vb ∧ W.heap[w.heap.size + 1 + 1]? = some (.cells #[v0, .slice none 0 0, .slice none 0 0] 124 (0, 0)) ∧ W.heap[w.heap.size + 1]? = some (.cells #[.slice none 0 0, .slice none 0 0, .slice none 0 0] 124 (0, 0)) ∧
  Strs (fun b => b < W.heap.size ∧ b ≠ w.heap.size + 1 + 1 ∧ b ≠ w.heap.size + 1) W v0 L.secs ∧ Sn v0 ∧ Below w.heap.size w W ∧ w.heap.size + 1 + 1 < W.heap.size

theorem strV_one (ss : List (List UInt8)) : ∀ u ∈ strV ss, u.oneCell' = true := by
  intro u hu
  obtain ⟨s, _, rfl⟩ := List.mem_map.1 hu
  rfl
def nil3 : Array Value := #[.slice none 0 0, .slice none 0 0, .slice none 0 0]
theorem add_mk (b off j : Nat) : (⟨b, off, none⟩ : Addr).add j = ⟨b, off + j, none⟩ := by
  unfold Addr.add
  by_cases h : j = 0
  · subst h; simp
  · simp [h]
/-- The world with the three boxes. -/
def W3 (w : World) (L : Lay) (vs ve vj vg vb : Value) : World := ((w.alloc (.cells #[.string (bs L.name), vs, ve, vj, vg, vb] 28)).alloc (.cells #[.slice none 0 0, .slice none 0 0, .slice none 0 0] 124)).alloc (.cells #[.slice none 0 0, .slice none 0 0, .slice none 0 0] 124)
theorem w3_size (w : World) (L : Lay) (vs ve vj vg vb : Value) : (W3 w L vs ve vj vg vb).heap.size = w.heap.size + 1 + 1 + 1 := by simp [W3]
theorem w3_below (w : World) (L : Lay) (vs ve vj vg vb : Value) : Below w.heap.size w (W3 w L vs ve vj vg vb) := by
  have b1 := (Below.refl w.heap.size w).alloc (Nat.le_refl _) (.cells #[.string (bs L.name), vs, ve, vj, vg, vb] 28)
  have b2 := b1.alloc b1.size (.cells #[.slice none 0 0, .slice none 0 0, .slice none 0 0] 124)
  exact b2.alloc b2.size _
theorem mid_of {L : Lay} {vs ve vj vg vb v0 : Value} {w w1 : World} {row : Option Nat} (hr : row = none) (hg : (W3 w L vs ve vj vg vb).grownBy w1 row) (ho : w1.ownsRow (w.heap.size + 1 + 1 + 1) 9 1 v0 (strV L.secs).length (strV L.secs)) (hs : ∀ s ∈ L.secs, s.length ≤ maxLen) :
    w1.cell? ⟨w.heap.size, 2, none⟩ = some ve ∧ w1.cell? ⟨w.heap.size + 1 + 1, 0, none⟩ = some (.slice none 0 0) ∧ w1.frozen? ⟨w.heap.size + 1 + 1, 0, none⟩ = false ∧ Mid L vs ve vj vg vb w (w1.setCell ⟨w.heap.size + 1 + 1, 0, none⟩ v0) v0 := by
  subst hr
  obtain ⟨x0, _, x2, x3⟩ := box3 w #[.string (bs L.name), vs, ve, vj, vg, vb] #[.slice none 0 0, .slice none 0 0, .slice none 0 0] #[.slice none 0 0, .slice none 0 0, .slice none 0 0] 28 124 124
  have hsz := w3_size w L vs ve vj vg vb
  have hblk : ∀ k, k < w.heap.size + 1 + 1 + 1 → w1.heap[k]? = (W3 w L vs ve vj vg vb).heap[k]? := fun k hk => hg.block k (by rw [hsz]; exact hk) (by intro e; cases e)
  have y0 : ∀ j, w1.cell? ⟨w.heap.size, j, none⟩ = #[.string (bs L.name), vs, ve, vj, vg, vb][j]? := fun j => (cell_same (hblk w.heap.size (by omega))).trans (x0 j)
  have y2 := (hblk (w.heap.size + 1 + 1) (by omega)).trans x2
  have y1 : w1.heap[w.heap.size + 1]? = some (.cells #[.slice none 0 0, .slice none 0 0, .slice none 0 0] 124 (0, 0)) := by
    refine (hblk (w.heap.size + 1) (by omega)).trans ?_
    have e := heap_alloc_new (w.alloc (.cells #[.string (bs L.name), vs, ve, vj, vg, vb] 28)) (.cells #[.slice none 0 0, .slice none 0 0, .slice none 0 0] 124)
    rw [show (w.alloc (.cells #[.string (bs L.name), vs, ve, vj, vg, vb] 28)).heap.size = w.heap.size + 1 by simp] at e
    exact (Below.heap_alloc _ _ _ (by simp)).trans e
  have hs1 : w.heap.size + 1 + 1 + 1 ≤ w1.heap.size := by have := hg.size; rw [hsz] at this; exact this
  have hlen : (strV L.secs).length = L.secs.length := strV_len _
  refine ⟨by simpa using y0 2, (cell_of_row _ _ 0 _ _ _ y2).trans rfl, frozen_of_row _ _ 0 _ _ y2, ?_, ?_, ?_, ?_, sn_own ho, ?_, ?_⟩
  · have z : ∀ j, (w1.setCell ⟨w.heap.size + 1 + 1, 0, none⟩ v0).cell? ⟨w.heap.size, j, none⟩ = w1.cell? ⟨w.heap.size, j, none⟩ := fun j => cell_same (heap_setCell_other w1 _ _ _ (by simp; omega))
    exact ⟨(z 0).trans (y0 0), (z 1).trans (y0 1), (z 2).trans (y0 2), (z 3).trans (y0 3), (z 4).trans (y0 4), (z 5).trans (y0 5)⟩
  · rw [heap_setCell_same _ _ 0 _ _ _ y2]
    rfl
  · rw [heap_setCell_other w1 _ _ _ (by simp)]
    exact y1
  · have hrow : Row (fun b => w.heap.size + 1 + 1 + 1 ≤ b ∧ b < w1.heap.size) w1 v0 (strV L.secs) := row_own ho (fun g hg' hlt => ⟨(ho.lt g hg').1, hlt⟩)
    refine ⟨hrow.keep fun b hb => ⟨⟨by simp [World.setCell]; exact hb.2, by omega, by omega⟩, heap_setCell_other w1 _ _ _ (by simp; omega)⟩, hs⟩
  · have := (w3_below w L vs ve vj vg vb).grown hg (by rw [hsz]; omega) (fun k e => by cases e)
    exact this.setCell (by simp; omega) _
  · simp [World.setCell]; omega

theorem box_step {g B k : Nat} {cs : Array Value} {T e : TypeId} {W wr w1 : World} {v1 v1' : Value} {acc : List (List UInt8)} {s : List UInt8} {o1 o2 : Obj} (hrow : wr.heap[g]? = some (.cells cs T (0, 0))) (hg : g < B) (ho : wr.ownsRow B e 1 v1 acc.length (strV acc)) (hb : But g B W wr) (hB : B ≤ W.heap.size)
    (h1 : w1.ownsRow B e 1 v1' (acc.length + 1) (strV acc ++ [.string (bs s)])) (hg1 : ((wr.alloc o1).alloc o2).grownBy w1 v1.ownBlock) :
    w1.heap[g]? = some (.cells cs T (0, 0)) ∧ (w1.setCell ⟨g, k, none⟩ v1').heap[g]? = some (.cells (cs.setIfInBounds k v1') T (0, 0)) ∧ But g B W w1 ∧ But g B W (w1.setCell ⟨g, k, none⟩ v1') ∧ (w1.setCell ⟨g, k, none⟩ v1').ownsRow B e 1 v1' (acc ++ [s]).length (strV (acc ++ [s])) := by
  have hw := hb.size
  have hne : ∀ x, v1.ownBlock = some x → B ≤ x ∨ x = g := fun x hx => .inl (ho.lt x hx).1
  have b2 := (hb.alloc (by omega) o1).alloc (by simp; omega) o2
  have b3 := b2.grown hg1 (by simp; omega) hne
  have r1 : w1.heap[g]? = some (.cells cs T (0, 0)) := by
    rw [hg1.block g (by simp; omega) (fun e => by have := (ho.lt g e.symm).1; omega), Below.heap_alloc _ _ _ (by simp; omega), Below.heap_alloc _ _ _ (by omega)]
    exact hrow
  refine ⟨r1, heap_setCell_same _ _ _ _ _ _ r1, b3, b3.setCell (.inl rfl) _, ?_⟩
  have := ownsRow_setCell_below h1 (a := ⟨g, k, none⟩) hg v1'
  simpa [strV] using this
/-- What holds at the head of a loop that fills cell k of the box g with names. -/
def NRel (g k n : Nat) (all : List (List UInt8)) (cs : Array Value) (T e : TypeId) (W : World) (vj : Value) (wr : World) : Prop :=
  ∃ (j : Nat) (v : Value), vj = .int .i64 (j : Int) ∧ j ≤ n ∧ wr.heap[g]? = some (.cells (cs.setIfInBounds k v) T (0, 0)) ∧ wr.ownsRow W.heap.size e 1 v (all.take j).length (strV (all.take j)) ∧ But g W.heap.size W wr
theorem take_next {all : List (List UInt8)} {j : Nat} {s : List UInt8} (h : all[j]? = some s) : all.take (j + 1) = all.take j ++ [s] := by
  obtain ⟨hj, rfl⟩ := List.getElem?_eq_some_iff.1 h
  exact List.take_succ_eq_append_getElem hj
theorem set_set (cs : Array Value) (k : Nat) (x y : Value) : (cs.setIfInBounds k x).setIfInBounds k y = cs.setIfInBounds k y := by
  simp
theorem nrel_next {g k n j : Nat} {all : List (List UInt8)} {s : List UInt8} {cs : Array Value} {T e : TypeId} {W wr w1 : World} {v v' : Value} {o1 o2 : Obj} (hs : all[j]? = some s) (hj : j < n) (hrow : wr.heap[g]? = some (.cells (cs.setIfInBounds k v) T (0, 0))) (hg : g < W.heap.size) (ho : wr.ownsRow W.heap.size e 1 v (all.take j).length (strV (all.take j))) (hb : But g W.heap.size W wr)
    (h1 : w1.ownsRow W.heap.size e 1 v' ((all.take j).length + 1) (strV (all.take j) ++ [.string (bs s)])) (hg1 : ((wr.alloc o1).alloc o2).grownBy w1 v.ownBlock) : NRel g k n all cs T e W (.int .i64 ((j : Int) + 1)) (w1.setCell ⟨g, k, none⟩ v') := by
  obtain ⟨_, r2, _, b2, o2⟩ := box_step (k := k) hrow hg ho hb (Nat.le_refl _) h1 hg1
  rw [set_set] at r2
  exact ⟨j + 1, v', by simp, hj, r2, by rw [take_next hs]; exact o2, b2⟩
theorem cells_at {wr : World} {g : Nat} {cs : Array Value} {T : TypeId} (h : wr.heap[g]? = some (.cells cs T (0, 0))) (j : Nat) : wr.cell? ⟨g, j, none⟩ = cs[j]? ∧ wr.frozen? ⟨g, j, none⟩ = false := ⟨cell_of_row _ _ _ _ _ _ h, frozen_of_row _ _ _ _ _ h⟩

theorem row3 {wr : World} {g : Nat} {x y z : Value} {T : TypeId} (h : wr.heap[g]? = some (.cells #[x, y, z] T (0, 0))) (a b c : Value) :
    (((wr.setCell ⟨g, 0, none⟩ a).setCell ⟨g, 1, none⟩ b).setCell ⟨g, 2, none⟩ c).heap[g]? = some (.cells #[a, b, c] T (0, 0)) := by
  have h1 := heap_setCell_same _ _ 0 _ _ a h
  have h2 := heap_setCell_same _ _ 1 _ _ b h1
  exact heap_setCell_same _ _ 2 _ _ c h2
theorem keep3 {wr : World} {g : Nat} (a b c : Value) : ∀ k, (k < wr.heap.size ∧ k ≠ g) → In (((wr.setCell ⟨g, 0, none⟩ a).setCell ⟨g, 1, none⟩ b).setCell ⟨g, 2, none⟩ c) k ∧ (((wr.setCell ⟨g, 0, none⟩ a).setCell ⟨g, 1, none⟩ b).setCell ⟨g, 2, none⟩ c).heap[k]? = wr.heap[k]? := by
  intro k hk
  refine ⟨by simpa [In, World.setCell] using hk.1, ?_⟩
  rw [heap_setCell_other _ _ _ _ hk.2, heap_setCell_other _ _ _ _ hk.2, heap_setCell_other _ _ _ _ hk.2]

theorem grown_self (w : World) : w.grownBy w none := ⟨rfl, rfl, rfl, Nat.le_refl _, fun _ _ _ => rfl⟩
theorem mid_nil {L : Lay} {vs ve vj vg vb : Value} (hn : L.secs = []) (w : World) : Mid L vs ve vj vg vb w (W3 w L vs ve vj vg vb) (.slice none 0 0) := by
  have e : (W3 w L vs ve vj vg vb).setCell ⟨w.heap.size + 1 + 1, 0, none⟩ (.slice none 0 0) = W3 w L vs ve vj vg vb := by
    unfold W3
    rw [World.setCell_alloc_at _ _ _ _ _ (by simp)]
    rfl
  have m := (mid_of (w := w) (L := L) (vs := vs) (ve := ve) (vj := vj) (vg := vg) (vb := vb) rfl (grown_self _) (by rw [hn]; exact World.ownsRow_nil _ _ _ _) (by rw [hn]; intro s hs; cases hs)).2.2.2
  rwa [e] at m

set_option maxRecDepth 100000 in
set_option maxHeartbeats 1600000 in
theorem rnames_some (L : Lay) {vs ve vj vg vb : Value} (w : World) (h : LayAt (In w) w L vs ve vj vg vb) (hn : L.secs.length ≤ 1000) (hn2 : L.els.length ≤ 1000) (hn3 : L.sigs.length ≤ 1000) {ad : Addr} {n c : Nat} (e : vs = .slice (some ad) n c) :
    Calls Tryz.prog 96 #[layV L vs ve vj vg vb] w (NamesOut L w) := by
  obtain ⟨a, cap, rfl, hm, hel⟩ := h.el
  obtain ⟨a3, cap3, rfl, hm3, hsg⟩ := h.sg
  obtain ⟨a2, cap2, rfl, hm2, hsn⟩ := h.sn
  obtain ⟨i0, hi, hz0, hz1, hz2⟩ := info_parts infoS
  have HI0 := Lib.hid hi
  have HZ0 := Lib.hid hz0
  have HZ1 := Lib.hid hz1
  have HZ2 := Lib.hid hz2
  have HSL := Lib.hid h.secs.2
  have HEN := Lib.hid h.elName
  have HSN := Lib.hid h.sigName
  clear hi hz0 hz1 hz2
  unfold layV
  cases e
  have HN : Hid (∀ j u, (strV L.secs)[j]? = some u → (W3 w L (.slice (some ad) L.secs.length c) (.slice a L.els.length cap) vj (.slice a3 L.sigs.length cap3) vb).cell? (ad.add j) = some u) := by
    intro j u hu
    obtain ⟨s, hs, rfl⟩ : ∃ s, L.secs[j]? = some s ∧ .string (bs s) = u := by simpa [strV] using hu
    obtain ⟨b, off, e, hc⟩ := hsn _ (w3_below w L (.slice (some ad) L.secs.length c) (.slice a L.els.length cap) vj (.slice a3 L.sigs.length cap3) vb) j s hs
    cases e
    rw [add_mk]
    exact hc
  clear hsn
  go_enter Tryz.func96, Tryz.ntmps96
  go_wp2_with (at_builtin; refine wpList_append_own_at _ rfl (.tmp 10) (.tmp 12) 22 rfl (w.heap.size + 1 + 1 + 1) 9 i0 (.string ByteArray.empty) 1 16 Tryz.underlying22 HI0.out HZ0.out HZ1.out HZ2.out rfl (by decide) _ _ _ rfl (World.ownsRow_nil _ _ _ _) ad L.secs.length c (strV L.secs) rfl (by simp [strV]) HN.out (strV_one _) (by unfold maxLen; omega) (by omega) (by simp) ?_; intro v0 w1 h1own hg1 _ _; obtain ⟨A0, n0, c0, rfl⟩ := own_slice h1own; obtain ⟨k0, k1, k2, k3⟩ := mid_of rfl hg1 (by simpa [strV] using h1own) HSL.out; have HMID := Lib.hid k3; clear h1own hg1 k3)
  obtain ⟨W, hW⟩ : ∃ W, w1.setCell ⟨w.heap.size + 1 + 1, 0, none⟩ (.slice A0 n0 c0) = W := ⟨_, rfl⟩
  rw [hW] at HMID ⊢
  clear hW k0 k1 k2 HN
  obtain ⟨m1, m2, m3, m4, m5, m6, m7⟩ := HMID.out
  have M1 := Lib.hid m1
  have M3 := Lib.hid m3
  have M4 := Lib.hid m4
  have M5 := Lib.hid m5
  have M6 := Lib.hid m6
  have M7 := Lib.hid m7
  have M2 := Lib.hid m2
  clear m1 m2 m3 m4 m5 m6 m7 HMID
  go_loopw [18] (fun vj wr => NRel (w.heap.size + 1 + 1) 1 L.els.length (L.els.map (·.name)) #[.slice A0 n0 c0, .slice none 0 0, .slice none 0 0] 124 9 W vj wr) (fun vj _ => L.els.length - (Go.RowKit.intOf vj).toNat)
  case atStart => exact ⟨0, .slice none 0 0, rfl, Nat.zero_le _, M2.out, World.ownsRow_nil _ _ _ _, But.refl _ _ _⟩
  case round =>
    obtain ⟨j, v1, rfl, hj, hrow, ho, hb⟩ := hrel
    obtain ⟨A1, n1, c1, rfl⟩ := own_slice ho
    have HB := Lib.hid hb
    have HS := Lib.hid hb.size
    have HR := Lib.hid hrow
    have HO := Lib.hid ho
    have HBW := Lib.hid (hb.below M6.out (by have := M6.out.size; omega) (by omega))
    obtain ⟨p1, f1⟩ := cells_at hrow 1
    simp at p1
    clear hb hrow ho
    by_cases hl : j < L.els.length
    · obtain ⟨x, hx⟩ := at_lt hl
      obtain ⟨b, off, rfl, d0, d1, d2, d3, d4, d5, d6⟩ := hel wr HBW.out j x hx
      have HX := Lib.hid (show (L.els.map (·.name))[j]? = some x.name by rw [List.getElem?_map, hx]; rfl)
      obtain ⟨nm, kd, ln, gr, sp, sl, sc⟩ := x
      simp only at d0 d1 d2 d3 d4 d5 d6 HX
      have hlt : w.heap.size + 1 + 1 < wr.heap.size := Nat.lt_of_lt_of_le M7.out HS.out
      have htl : (List.take j (L.els.map (·.name))).length ≤ 1000 := by simp; omega
      clear hx
      go_wp2_with (at_builtin; refine wpList_append_own_at _ rfl (.tmp 23) (.tmp 26) 22 rfl W.heap.size 9 i0 (.string ByteArray.empty) 1 16 Tryz.underlying22 HI0.out HZ0.out HZ1.out HZ2.out rfl (by decide) _ _ _ rfl ((HO.out.alloc _).alloc _) ⟨wr.heap.size + 1, 0, none⟩ 1 1 [.string (bs nm)] rfl rfl (by simpa using cell_one_new (wr.alloc _) (.string (bs nm)) 9) (by intro u hu; simp at hu; subst hu; rfl) (by unfold maxLen; omega) (by omega) (by have := HS.out; simp; omega) ?_; intro v2 w2 h1own hg1 _ _; obtain ⟨A2, n2, c2, rfl⟩ := own_slice h1own; obtain ⟨q1, _, _, _, _⟩ := box_step (k := 1) HR.out M7.out HO.out HB.out (Nat.le_refl _) h1own hg1; obtain ⟨q2, q3⟩ := cells_at q1 1; simp at q2; have R1 := Lib.hid h1own; have R2 := Lib.hid hg1; clear h1own hg1 q1)
      go_roundw
      case rel => exact nrel_next HX.out hl HR.out M7.out HO.out HB.out R1.out R2.out
      case measure => simp [Go.RowKit.intOf]; omega
    · have he : j = L.els.length := by omega
      subst he
      obtain ⟨W2, rfl⟩ : ∃ W2 : World, W2 = wr := ⟨_, rfl⟩
      have g4 := (HB.out.cell (p := ⟨w.heap.size, 4, none⟩) (by have := M7.out; simp; omega) (by simp; omega)).trans M1.out.2.2.2.2.1
      have hx0 := M4.out.keep (ok' := fun b => b < W2.heap.size ∧ b ≠ w.heap.size + 1 + 1 ∧ b ≠ w.heap.size + 1) fun b hb => ⟨⟨Nat.lt_of_lt_of_le hb.1 HS.out, hb.2⟩, HB.out.block b hb.1 hb.2.1⟩
      have hx1 := strs_row HO.out (fun s hs => by
        obtain ⟨x, hx, rfl⟩ := List.mem_map.1 (List.mem_of_mem_take hs)
        exact HEN.out x hx)
      rw [show (L.els.map (·.name)).take L.els.length = L.els.map (·.name) from List.take_of_length_le (by simp)] at hx1
      have N0 := Lib.hid hx0
      have N1 := Lib.hid (hx1.keep (ok' := fun b => b < W2.heap.size ∧ b ≠ w.heap.size + 1 + 1 ∧ b ≠ w.heap.size + 1) fun b hb => ⟨⟨hb.2, by have := M7.out; omega, by have := M7.out; omega⟩, rfl⟩)
      have S1 := Lib.hid (sn_own HO.out)
      have N7 := Lib.hid (Nat.lt_of_lt_of_le M7.out HS.out)
      have N3 := Lib.hid ((HB.out.block (w.heap.size + 1) (by have := M7.out; omega) (by omega)).trans M3.out)
      clear hx0 hx1 hel p1 f1
      go_wp2_with fail
      go_loopw [33] (fun vj wx => NRel (w.heap.size + 1 + 1) 2 L.sigs.length (L.sigs.map (·.name)) #[.slice A0 n0 c0, .slice A1 n1 c1, .slice none 0 0] 124 9 W2 vj wx) (fun vj _ => L.sigs.length - (Go.RowKit.intOf vj).toNat)
      case atStart => exact ⟨0, .slice none 0 0, rfl, Nat.zero_le _, HR.out, World.ownsRow_nil _ _ _ _, But.refl _ _ _⟩
      case round =>
        have HBW1 := Lib.hid HBW.out
        clear HBW
        obtain ⟨j, v2, rfl, hj, hrow, ho, hb⟩ := hrel
        obtain ⟨A2, n2, c2, rfl⟩ := own_slice ho
        have HB2 := Lib.hid hb
        have HS2 := Lib.hid hb.size
        have HR2 := Lib.hid hrow
        have HO2 := Lib.hid ho
        have HBW2 := Lib.hid (hb.below HBW1.out (by have := HBW1.out.size; omega) (by omega))
        obtain ⟨p2, f2⟩ := cells_at hrow 2
        have hlt : w.heap.size + 1 + 1 < wr.heap.size := Nat.lt_of_lt_of_le N7.out HS2.out
        simp at p2
        clear hb hrow ho
        by_cases hl : j < L.sigs.length
        · obtain ⟨x, hx⟩ := at_lt hl
          obtain ⟨b, off, rfl, d0, d1, d2, d3⟩ := hsg wr HBW2.out j x hx
          have HX := Lib.hid (show (L.sigs.map (·.name))[j]? = some x.name by rw [List.getElem?_map, hx]; rfl)
          obtain ⟨nm, sp, ov⟩ := x
          simp only at d0 d1 d2 d3 HX
          have htl : (List.take j (L.sigs.map (·.name))).length ≤ 1000 := by simp; omega
          clear hx
          go_wp2_with (at_builtin; refine wpList_append_own_at _ rfl (.tmp 38) (.tmp 41) 22 rfl W2.heap.size 9 i0 (.string ByteArray.empty) 1 16 Tryz.underlying22 HI0.out HZ0.out HZ1.out HZ2.out rfl (by decide) _ _ _ rfl ((HO2.out.alloc _).alloc _) ⟨wr.heap.size + 1, 0, none⟩ 1 1 [.string (bs nm)] rfl rfl (by simpa using cell_one_new (wr.alloc _) (.string (bs nm)) 9) (by intro u hu; simp at hu; subst hu; rfl) (by unfold maxLen; omega) (by omega) (by have := HS2.out; simp; omega) ?_; intro v3 w3 h1own hg1 _ _; obtain ⟨A3, n3, c3, rfl⟩ := own_slice h1own; obtain ⟨q1, _, _, _, _⟩ := box_step (k := 2) HR2.out N7.out HO2.out HB2.out (Nat.le_refl _) h1own hg1; obtain ⟨q2, q3⟩ := cells_at q1 2; simp at q2; have R1 := Lib.hid h1own; have R2 := Lib.hid hg1; clear h1own hg1 q1)
          go_roundw
          case rel => exact nrel_next HX.out hl HR2.out N7.out HO2.out HB2.out R1.out R2.out
          case measure => simp [Go.RowKit.intOf]; omega
        · have he : j = L.sigs.length := by omega
          subst he
          have hx2 := strs_row HO2.out (fun s hs => by
            obtain ⟨x, hx, rfl⟩ := List.mem_map.1 (List.mem_of_mem_take hs)
            exact HSN.out x hx)
          rw [show (L.sigs.map (·.name)).take L.sigs.length = L.sigs.map (·.name) from List.take_of_length_le (by simp)] at hx2
          have K0 := Lib.hid (N0.out.keep (ok' := fun b => b < wr.heap.size ∧ b ≠ w.heap.size + 1) fun b hb => ⟨⟨Nat.lt_of_lt_of_le hb.1 HS2.out, hb.2.2⟩, HB2.out.block b hb.1 hb.2.1⟩)
          have K1 := Lib.hid (N1.out.keep (ok' := fun b => b < wr.heap.size ∧ b ≠ w.heap.size + 1) fun b hb => ⟨⟨Nat.lt_of_lt_of_le hb.1 HS2.out, hb.2.2⟩, HB2.out.block b hb.1 hb.2.1⟩)
          have K2 := Lib.hid (hx2.keep (ok' := fun b => b < wr.heap.size ∧ b ≠ w.heap.size + 1) fun b hb => ⟨⟨hb.2, by have := N7.out; omega⟩, rfl⟩)
          have K3 := Lib.hid ((HB2.out.block (w.heap.size + 1) (by have := N7.out; omega) (by omega)).trans N3.out)
          have S2 := Lib.hid (sn_own HO2.out)
          obtain ⟨p0, _⟩ := cells_at HR2.out 0
          obtain ⟨p1, _⟩ := cells_at HR2.out 1
          obtain ⟨e0, r0⟩ := cells_at K3.out 0
          obtain ⟨e1, r1⟩ := cells_at K3.out 1
          obtain ⟨e2, r2⟩ := cells_at K3.out 2
          simp at p0 p1 e0 e1 e2
          clear hx2 hsg hj hl
          go_wp2_with fail
          (try simp only [Exit.inBlock, Exit.then])
          refine bodyPost_ret (v := .agg #[.slice A0 n0 c0, .slice A1 n1 c1, .slice A2 n2 c2]) ?_ rfl ?_
          · exact results_cell_row rfl _ _ (w.heap.size + 1) 124 _ (0, 0) _ rfl (row3 K3.out _ _ _) Tryz.underlying124 rfl (by kernel_rfl)
          · exact ⟨_, _, _, rfl, ⟨K0.out.keep (keep3 _ _ _), M5.out⟩, ⟨K1.out.keep (keep3 _ _ _), S1.out⟩, ⟨K2.out.keep (keep3 _ _ _), S2.out⟩, ((HBW2.out.setCell (by simp) _).setCell (by simp) _).setCell (by simp) _⟩

set_option maxRecDepth 100000 in
set_option maxHeartbeats 1600000 in
theorem rnames_nil (L : Lay) {vs ve vj vg vb : Value} (w : World) (h : LayAt (In w) w L vs ve vj vg vb) (_hn : L.secs.length ≤ 1000) (hn2 : L.els.length ≤ 1000) (hn3 : L.sigs.length ≤ 1000) (e : vs = .slice none 0 0) :
    Calls Tryz.prog 96 #[layV L vs ve vj vg vb] w (NamesOut L w) := by
  obtain ⟨a, cap, rfl, hm, hel⟩ := h.el
  obtain ⟨a3, cap3, rfl, hm3, hsg⟩ := h.sg
  obtain ⟨a2, cap2, rfl, hm2, hsn⟩ := h.sn
  obtain ⟨i0, hi, hz0, hz1, hz2⟩ := info_parts infoS
  have HI0 := Lib.hid hi
  have HZ0 := Lib.hid hz0
  have HZ1 := Lib.hid hz1
  have HZ2 := Lib.hid hz2
  have HSL := Lib.hid h.secs.2
  have HEN := Lib.hid h.elName
  have HSN := Lib.hid h.sigName
  clear hi hz0 hz1 hz2
  unfold layV
  simp only [Value.slice.injEq] at e
  obtain ⟨rfl, hl0, rfl⟩ := e
  have hnil := List.length_eq_zero_iff.1 hl0
  rw [hl0]
  have HMID := Lib.hid (mid_nil (vs := .slice none 0 0) (ve := .slice a L.els.length cap) (vj := vj) (vg := .slice a3 L.sigs.length cap3) (vb := vb) hnil w)
  have HW3 := box3 w #[.string (bs L.name), .slice none 0 0, .slice a L.els.length cap, vj, .slice a3 L.sigs.length cap3, vb] #[.slice none 0 0, .slice none 0 0, .slice none 0 0] #[.slice none 0 0, .slice none 0 0, .slice none 0 0] 28 124 124
  clear hsn hm2 hl0 hnil
  go_enter Tryz.func96, Tryz.ntmps96
  go_wp2_with fail
  obtain ⟨W, hW⟩ : ∃ W, W3 w L (.slice none 0 0) (.slice a L.els.length cap) vj (.slice a3 L.sigs.length cap3) vb = W := ⟨_, rfl⟩
  rw [hW] at HMID
  unfold W3 at hW
  rw [hW]
  clear hW HW3
  obtain ⟨m1, m2, m3, m4, m5, m6, m7⟩ := HMID.out
  have M1 := Lib.hid m1
  have M3 := Lib.hid m3
  have M4 := Lib.hid m4
  have M5 := Lib.hid m5
  have M6 := Lib.hid m6
  have M7 := Lib.hid m7
  have M2 := Lib.hid m2
  clear m1 m2 m3 m4 m5 m6 m7 HMID
  go_loopw [18] (fun vj wr => NRel (w.heap.size + 1 + 1) 1 L.els.length (L.els.map (·.name)) #[.slice none 0 0, .slice none 0 0, .slice none 0 0] 124 9 W vj wr) (fun vj _ => L.els.length - (Go.RowKit.intOf vj).toNat)
  case atStart => exact ⟨0, .slice none 0 0, rfl, Nat.zero_le _, M2.out, World.ownsRow_nil _ _ _ _, But.refl _ _ _⟩
  case round =>
    obtain ⟨j, v1, rfl, hj, hrow, ho, hb⟩ := hrel
    obtain ⟨A1, n1, c1, rfl⟩ := own_slice ho
    have HB := Lib.hid hb
    have HS := Lib.hid hb.size
    have HR := Lib.hid hrow
    have HO := Lib.hid ho
    have HBW := Lib.hid (hb.below M6.out (by have := M6.out.size; omega) (by omega))
    obtain ⟨p1, f1⟩ := cells_at hrow 1
    simp at p1
    clear hb hrow ho
    by_cases hl : j < L.els.length
    · obtain ⟨x, hx⟩ := at_lt hl
      obtain ⟨b, off, rfl, d0, d1, d2, d3, d4, d5, d6⟩ := hel wr HBW.out j x hx
      have HX := Lib.hid (show (L.els.map (·.name))[j]? = some x.name by rw [List.getElem?_map, hx]; rfl)
      obtain ⟨nm, kd, ln, gr, sp, sl, sc⟩ := x
      simp only at d0 d1 d2 d3 d4 d5 d6 HX
      have hlt : w.heap.size + 1 + 1 < wr.heap.size := Nat.lt_of_lt_of_le M7.out HS.out
      have htl : (List.take j (L.els.map (·.name))).length ≤ 1000 := by simp; omega
      clear hx
      go_wp2_with (at_builtin; refine wpList_append_own_at _ rfl (.tmp 23) (.tmp 26) 22 rfl W.heap.size 9 i0 (.string ByteArray.empty) 1 16 Tryz.underlying22 HI0.out HZ0.out HZ1.out HZ2.out rfl (by decide) _ _ _ rfl ((HO.out.alloc _).alloc _) ⟨wr.heap.size + 1, 0, none⟩ 1 1 [.string (bs nm)] rfl rfl (by simpa using cell_one_new (wr.alloc _) (.string (bs nm)) 9) (by intro u hu; simp at hu; subst hu; rfl) (by unfold maxLen; omega) (by omega) (by have := HS.out; simp; omega) ?_; intro v2 w2 h1own hg1 _ _; obtain ⟨A2, n2, c2, rfl⟩ := own_slice h1own; obtain ⟨q1, _, _, _, _⟩ := box_step (k := 1) HR.out M7.out HO.out HB.out (Nat.le_refl _) h1own hg1; obtain ⟨q2, q3⟩ := cells_at q1 1; simp at q2; have R1 := Lib.hid h1own; have R2 := Lib.hid hg1; clear h1own hg1 q1)
      go_roundw
      case rel => exact nrel_next HX.out hl HR.out M7.out HO.out HB.out R1.out R2.out
      case measure => simp [Go.RowKit.intOf]; omega
    · have he : j = L.els.length := by omega
      subst he
      obtain ⟨W2, rfl⟩ : ∃ W2 : World, W2 = wr := ⟨_, rfl⟩
      have g4 := (HB.out.cell (p := ⟨w.heap.size, 4, none⟩) (by have := M7.out; simp; omega) (by simp; omega)).trans M1.out.2.2.2.2.1
      have hx0 := M4.out.keep (ok' := fun b => b < W2.heap.size ∧ b ≠ w.heap.size + 1 + 1 ∧ b ≠ w.heap.size + 1) fun b hb => ⟨⟨Nat.lt_of_lt_of_le hb.1 HS.out, hb.2⟩, HB.out.block b hb.1 hb.2.1⟩
      have hx1 := strs_row HO.out (fun s hs => by
        obtain ⟨x, hx, rfl⟩ := List.mem_map.1 (List.mem_of_mem_take hs)
        exact HEN.out x hx)
      rw [show (L.els.map (·.name)).take L.els.length = L.els.map (·.name) from List.take_of_length_le (by simp)] at hx1
      have N0 := Lib.hid hx0
      have N1 := Lib.hid (hx1.keep (ok' := fun b => b < W2.heap.size ∧ b ≠ w.heap.size + 1 + 1 ∧ b ≠ w.heap.size + 1) fun b hb => ⟨⟨hb.2, by have := M7.out; omega, by have := M7.out; omega⟩, rfl⟩)
      have S1 := Lib.hid (sn_own HO.out)
      have N7 := Lib.hid (Nat.lt_of_lt_of_le M7.out HS.out)
      have N3 := Lib.hid ((HB.out.block (w.heap.size + 1) (by have := M7.out; omega) (by omega)).trans M3.out)
      clear hx0 hx1 hel p1 f1
      go_wp2_with fail
      go_loopw [33] (fun vj wx => NRel (w.heap.size + 1 + 1) 2 L.sigs.length (L.sigs.map (·.name)) #[.slice none 0 0, .slice A1 n1 c1, .slice none 0 0] 124 9 W2 vj wx) (fun vj _ => L.sigs.length - (Go.RowKit.intOf vj).toNat)
      case atStart => exact ⟨0, .slice none 0 0, rfl, Nat.zero_le _, HR.out, World.ownsRow_nil _ _ _ _, But.refl _ _ _⟩
      case round =>
        have HBW1 := Lib.hid HBW.out
        clear HBW
        obtain ⟨j, v2, rfl, hj, hrow, ho, hb⟩ := hrel
        obtain ⟨A2, n2, c2, rfl⟩ := own_slice ho
        have HB2 := Lib.hid hb
        have HS2 := Lib.hid hb.size
        have HR2 := Lib.hid hrow
        have HO2 := Lib.hid ho
        have HBW2 := Lib.hid (hb.below HBW1.out (by have := HBW1.out.size; omega) (by omega))
        obtain ⟨p2, f2⟩ := cells_at hrow 2
        have hlt : w.heap.size + 1 + 1 < wr.heap.size := Nat.lt_of_lt_of_le N7.out HS2.out
        simp at p2
        clear hb hrow ho
        by_cases hl : j < L.sigs.length
        · obtain ⟨x, hx⟩ := at_lt hl
          obtain ⟨b, off, rfl, d0, d1, d2, d3⟩ := hsg wr HBW2.out j x hx
          have HX := Lib.hid (show (L.sigs.map (·.name))[j]? = some x.name by rw [List.getElem?_map, hx]; rfl)
          obtain ⟨nm, sp, ov⟩ := x
          simp only at d0 d1 d2 d3 HX
          have htl : (List.take j (L.sigs.map (·.name))).length ≤ 1000 := by simp; omega
          clear hx
          go_wp2_with (at_builtin; refine wpList_append_own_at _ rfl (.tmp 38) (.tmp 41) 22 rfl W2.heap.size 9 i0 (.string ByteArray.empty) 1 16 Tryz.underlying22 HI0.out HZ0.out HZ1.out HZ2.out rfl (by decide) _ _ _ rfl ((HO2.out.alloc _).alloc _) ⟨wr.heap.size + 1, 0, none⟩ 1 1 [.string (bs nm)] rfl rfl (by simpa using cell_one_new (wr.alloc _) (.string (bs nm)) 9) (by intro u hu; simp at hu; subst hu; rfl) (by unfold maxLen; omega) (by omega) (by have := HS2.out; simp; omega) ?_; intro v3 w3 h1own hg1 _ _; obtain ⟨A3, n3, c3, rfl⟩ := own_slice h1own; obtain ⟨q1, _, _, _, _⟩ := box_step (k := 2) HR2.out N7.out HO2.out HB2.out (Nat.le_refl _) h1own hg1; obtain ⟨q2, q3⟩ := cells_at q1 2; simp at q2; have R1 := Lib.hid h1own; have R2 := Lib.hid hg1; clear h1own hg1 q1)
          go_roundw
          case rel => exact nrel_next HX.out hl HR2.out N7.out HO2.out HB2.out R1.out R2.out
          case measure => simp [Go.RowKit.intOf]; omega
        · have he : j = L.sigs.length := by omega
          subst he
          have hx2 := strs_row HO2.out (fun s hs => by
            obtain ⟨x, hx, rfl⟩ := List.mem_map.1 (List.mem_of_mem_take hs)
            exact HSN.out x hx)
          rw [show (L.sigs.map (·.name)).take L.sigs.length = L.sigs.map (·.name) from List.take_of_length_le (by simp)] at hx2
          have K0 := Lib.hid (N0.out.keep (ok' := fun b => b < wr.heap.size ∧ b ≠ w.heap.size + 1) fun b hb => ⟨⟨Nat.lt_of_lt_of_le hb.1 HS2.out, hb.2.2⟩, HB2.out.block b hb.1 hb.2.1⟩)
          have K1 := Lib.hid (N1.out.keep (ok' := fun b => b < wr.heap.size ∧ b ≠ w.heap.size + 1) fun b hb => ⟨⟨Nat.lt_of_lt_of_le hb.1 HS2.out, hb.2.2⟩, HB2.out.block b hb.1 hb.2.1⟩)
          have K2 := Lib.hid (hx2.keep (ok' := fun b => b < wr.heap.size ∧ b ≠ w.heap.size + 1) fun b hb => ⟨⟨hb.2, by have := N7.out; omega⟩, rfl⟩)
          have K3 := Lib.hid ((HB2.out.block (w.heap.size + 1) (by have := N7.out; omega) (by omega)).trans N3.out)
          have S2 := Lib.hid (sn_own HO2.out)
          obtain ⟨p0, _⟩ := cells_at HR2.out 0
          obtain ⟨p1, _⟩ := cells_at HR2.out 1
          obtain ⟨e0, r0⟩ := cells_at K3.out 0
          obtain ⟨e1, r1⟩ := cells_at K3.out 1
          obtain ⟨e2, r2⟩ := cells_at K3.out 2
          simp at p0 p1 e0 e1 e2
          clear hx2 hsg hj hl
          go_wp2_with fail
          (try simp only [Exit.inBlock, Exit.then])
          refine bodyPost_ret (v := .agg #[.slice none 0 0, .slice A1 n1 c1, .slice A2 n2 c2]) ?_ rfl ?_
          · exact results_cell_row rfl _ _ (w.heap.size + 1) 124 _ (0, 0) _ rfl (row3 K3.out _ _ _) Tryz.underlying124 rfl (by kernel_rfl)
          · exact ⟨_, _, _, rfl, ⟨K0.out.keep (keep3 _ _ _), M5.out⟩, ⟨K1.out.keep (keep3 _ _ _), S1.out⟩, ⟨K2.out.keep (keep3 _ _ _), S2.out⟩, ((HBW2.out.setCell (by simp) _).setCell (by simp) _).setCell (by simp) _⟩

theorem rnames_any (L : Lay) {vs ve vj vg vb : Value} (w : World) (h : LayAt (In w) w L vs ve vj vg vb) (hn : L.secs.length ≤ 1000) (hn2 : L.els.length ≤ 1000) (hn3 : L.sigs.length ≤ 1000) :
    Calls Tryz.prog 96 #[layV L vs ve vj vg vb] w (NamesOut L w) := by
  rcases h.some_ with e | ⟨ad, n, c, e⟩
  · exact rnames_nil L w h hn hn2 hn3 e
  · exact rnames_some L w h hn hn2 hn3 e

end Go.Proofs.YtfdipcphohhlgaaGreatDoor.Lnam

/- An argument opened: a layout by value. -/
namespace Go.Proofs.YtfdipcphohhlgaaGreatDoor.Lopen
open Go.ChangeShapes Go.WideShapes Go.Deep Go.Proofs.YtfdipcphohhlgaaGreatDoor.Text Go.Proofs.YtfdipcphohhlgaaGreatDoor.Rows2 Go.Proofs.YtfdipcphohhlgaaGreatDoor.Lay Go.Proofs.YtfdipcphohhlgaaGreatDoor.Lnam

section
variable {H : Type} {enc : TypeId × Value → H} {w : World} {base : Nat} {held : Bool}

/-- A slice whose elements are known by their cells. -/
theorem open_rows {P : Program} {α : Type} {t e : TypeId} {fuel sz : Nat} {c : Value} {x : DataW H × List MemPlace} (a0 : α) (cellsOf : α → List Value) (Q : α → Prop) (ht : P.underlying t = some (.slice e)) (hsz : P.cellsOf e = sz) (hpos : 0 < sz) (hlen : ∀ a, (cellsOf a).length = sz)
    (hel : ∀ (n : Nat) (cs : List Value) (y : DataW H × List MemPlace), DataW.trod enc P w base (fun _ => true) held n e cs = some y → ∃ a : α, cs = cellsOf a ∧ Q a)
    (h : DataW.trod enc P w base (fun _ => true) held fuel t [c] = some x) : ∃ l : List α, Grid (In w) w c sz (l.map cellsOf) ∧ (∀ a ∈ l, Q a) ∧ Sn c := by
  rcases open_slice ht h with ⟨h1, _⟩ | ⟨a, len, cap, m, n, D, Pl, h1, _, hl, hm, hmm, _, hi⟩
  · simp only [List.cons.injEq, and_true] at h1
    subst h1
    exact ⟨[], grid_nil _ _ _, by simp, .inl rfl⟩
  · simp only [List.cons.injEq, and_true] at h1
    subst h1
    have hlm : len ≤ m := by rw [hmm]; simp; exact hl
    haveI : Inhabited α := ⟨a0⟩
    obtain ⟨f, hf⟩ := choose_lt (α := α) (n := len) (p := fun i a' => w.cells? base (a.add (i * sz)) sz = some (cellsOf a') ∧ Q a') (fun i hlt => by
      obtain ⟨cs', hc, htr⟩ := hi i (by omega)
      rw [hsz] at hc
      obtain ⟨a', rfl, hq⟩ := hel _ _ _ htr
      exact ⟨a', hc, hq⟩)
    have hcell : ∀ i, i < len → ∀ j, j < sz → w.cell? ((a.add (i * sz)).add j) = (cellsOf (f i))[j]? := fun i hlt j hj => (World.cells?_some (hf i hlt).1).2.2 j hj
    refine ⟨(List.range len).map f, ?_, ?_, .inr ⟨_, _, _, rfl⟩⟩
    · have e1 : (((List.range len).map f).map cellsOf).length = len := by simp
      refine ⟨some a, cap, by rw [e1], by rw [e1]; exact hl, hm, ?_⟩
      by_cases h0 : len = 0
      · subst h0
        exact .inl rfl
      · right
        obtain ⟨b, off, spot⟩ := a
        have hc0 := hcell 0 (by omega) 0 hpos
        have hv : ∃ v, (cellsOf (f 0))[0]? = some v := ⟨_, List.getElem?_eq_getElem (by rw [hlen]; exact hpos)⟩
        obtain ⟨v, hv⟩ := hv
        rw [hv] at hc0
        have hspot : spot = none := by simpa [Addr.add] using World.cell?_spot hc0
        subst hspot
        have hb : b < w.heap.size := by
          have := World.block_lt_of_cell? w _ hc0
          simpa [Addr.add] using this
        refine ⟨b, off, rfl, hb, fun i r hr j y hy => ?_⟩
        have hi' : i < len := by
          have := (List.getElem?_eq_some_iff.1 hr).1
          rwa [e1] at this
        have hr2 : r = cellsOf (f i) := by
          rw [List.getElem?_map, List.getElem?_map, List.getElem?_range hi'] at hr
          exact (Option.some.inj hr).symm
        subst hr2
        have hj : j < sz := by
          have := (List.getElem?_eq_some_iff.1 hy).1
          rwa [hlen] at this
        have := hcell i hi' j hj
        rw [add_mk, add_mk] at this
        rw [this]
        exact hy
    · intro a' ha
      obtain ⟨i, hi', rfl⟩ := List.mem_map.1 ha
      exact (hf i (by simpa using hi')).2

theorem one_int {fuel : Nat} {l : List Value} {x : DataW H × List MemPlace} (h : DataW.trod enc Tryz.prog w base (fun _ => true) held fuel 3 l = some x) : ∃ z : Int, l = [.int .i64 z] ∧ Wf z := by
  obtain ⟨n, e1, _, hw⟩ := DataW.trod_int Tryz.underlying3 h
  exact ⟨n, e1, hw⟩
theorem one_str {fuel : Nat} {l : List Value} {x : DataW H × List MemPlace} (h : DataW.trod enc Tryz.prog w base (fun _ => true) held fuel 9 l = some x) : ∃ s : List UInt8, l = [.string (bs s)] ∧ s.length ≤ maxLen := by
  obtain ⟨s, e1, _, hb⟩ := DataW.trod_string Tryz.underlying9 h
  refine ⟨s.data.toList, by rw [bs_of]; exact e1, ?_⟩
  rw [← bs_size, bs_of]
  exact hb
theorem cI : Tryz.prog.cellsOf 3 = 1 := by kernel_rfl
theorem cS : Tryz.prog.cellsOf 9 = 1 := by kernel_rfl
theorem cE : Tryz.prog.cellsOf 47 = 2 := by kernel_rfl
theorem len2 {α : Type} {l : List α} (h : l.length = 2) : ∃ a b, l = [a, b] := by
  match l, h with
  | [a, b], _ => exact ⟨a, b, rfl⟩
theorem len3 {α : Type} {l : List α} (h : l.length = 3) : ∃ a b c, l = [a, b, c] := by
  match l, h with
  | [a, b, c], _ => exact ⟨a, b, c, rfl⟩
theorem len4 {α : Type} {l : List α} (h : l.length = 4) : ∃ a b c d, l = [a, b, c, d] := by
  match l, h with
  | [a, b, c, d], _ => exact ⟨a, b, c, d, rfl⟩
theorem len7 {α : Type} {l : List α} (h : l.length = 7) : ∃ a b c d e f g, l = [a, b, c, d, e, f, g] := by
  match l, h with
  | [a, b, c, d, e, f, g], _ => exact ⟨a, b, c, d, e, f, g, rfl⟩

theorem end_of {fuel : Nat} {l : List Value} {x : DataW H × List MemPlace} (h : DataW.trod enc Tryz.prog w base (fun _ => true) held fuel 47 l = some x) : ∃ p : Int × Int, l = pCells p ∧ pWf p := by
  obtain ⟨xs, n, _, _, hlen, hxl, hg⟩ := DataW.trod_struct Tryz.underlying47 h
  rw [cE] at hlen
  obtain ⟨v0, v1, rfl⟩ := len2 hlen
  obtain ⟨x0, x1, rfl⟩ := len2 (show xs.length = 2 from hxl)
  have g0 : DataW.trod enc Tryz.prog w base (fun _ => true) held n 3 (([v0, v1].drop 0).take (Tryz.prog.cellsOf 3)) = some x0 := hg 0 _ rfl
  have g1 : DataW.trod enc Tryz.prog w base (fun _ => true) held n 3 (([v0, v1].drop 1).take (Tryz.prog.cellsOf 3)) = some x1 := hg 1 _ rfl
  rw [cI] at g0 g1
  obtain ⟨a, ha, wha⟩ := one_int g0
  obtain ⟨b, hb, whb⟩ := one_int g1
  simp only [List.drop_zero, List.take_succ_cons, List.take_zero, List.drop_succ_cons, List.cons.injEq, and_true] at ha hb
  exact ⟨(a, b), by rw [ha, hb]; rfl, wha, whb⟩
theorem elem_of {fuel : Nat} {l : List Value} {x : DataW H × List MemPlace} (h : DataW.trod enc Tryz.prog w base (fun _ => true) held fuel 45 l = some x) : ∃ a : Elem, l = a.cells ∧ a.name.length ≤ maxLen ∧ a.Wf := by
  obtain ⟨xs, n, _, _, hlen, hxl, hg⟩ := DataW.trod_struct Tryz.underlying45 h
  rw [show Tryz.prog.cellsOf 45 = 7 by kernel_rfl] at hlen
  obtain ⟨v0, v1, v2, v3, v4, v5, v6, rfl⟩ := len7 hlen
  obtain ⟨x0, x1, x2, x3, x4, x5, x6, rfl⟩ := len7 (show xs.length = 7 from hxl)
  have g0 : DataW.trod enc Tryz.prog w base (fun _ => true) held n 9 (([v0, v1, v2, v3, v4, v5, v6].drop 0).take (Tryz.prog.cellsOf 9)) = some x0 := hg 0 _ rfl
  have g1 : DataW.trod enc Tryz.prog w base (fun _ => true) held n 3 (([v0, v1, v2, v3, v4, v5, v6].drop 1).take (Tryz.prog.cellsOf 3)) = some x1 := hg 1 _ rfl
  have g2 : DataW.trod enc Tryz.prog w base (fun _ => true) held n 3 (([v0, v1, v2, v3, v4, v5, v6].drop 2).take (Tryz.prog.cellsOf 3)) = some x2 := hg 2 _ rfl
  have g3 : DataW.trod enc Tryz.prog w base (fun _ => true) held n 3 (([v0, v1, v2, v3, v4, v5, v6].drop 3).take (Tryz.prog.cellsOf 3)) = some x3 := hg 3 _ rfl
  have g4 : DataW.trod enc Tryz.prog w base (fun _ => true) held n 3 (([v0, v1, v2, v3, v4, v5, v6].drop 4).take (Tryz.prog.cellsOf 3)) = some x4 := hg 4 _ rfl
  have g5 : DataW.trod enc Tryz.prog w base (fun _ => true) held n 3 (([v0, v1, v2, v3, v4, v5, v6].drop 5).take (Tryz.prog.cellsOf 3)) = some x5 := hg 5 _ rfl
  have g6 : DataW.trod enc Tryz.prog w base (fun _ => true) held n 3 (([v0, v1, v2, v3, v4, v5, v6].drop 6).take (Tryz.prog.cellsOf 3)) = some x6 := hg 6 _ rfl
  rw [cS] at g0
  rw [cI] at g1 g2 g3 g4 g5 g6
  obtain ⟨s, hs, hb⟩ := one_str g0
  obtain ⟨a1, h1, wh1⟩ := one_int g1
  obtain ⟨a2, h2, wh2⟩ := one_int g2
  obtain ⟨a3, h3, wh3⟩ := one_int g3
  obtain ⟨a4, h4, wh4⟩ := one_int g4
  obtain ⟨a5, h5, wh5⟩ := one_int g5
  obtain ⟨a6, h6, wh6⟩ := one_int g6
  simp only [List.drop_zero, List.take_succ_cons, List.take_zero, List.drop_succ_cons, List.cons.injEq, and_true] at hs h1 h2 h3 h4 h5 h6
  exact ⟨⟨s, a1, a2, a3, a4, a5, a6⟩, by rw [hs, h1, h2, h3, h4, h5, h6]; rfl, hb, wh1, wh2, wh3, wh4, wh5, wh6⟩
theorem joint_of {fuel : Nat} {l : List Value} {x : DataW H × List MemPlace} (h : DataW.trod enc Tryz.prog w base (fun _ => true) held fuel 49 l = some x) : ∃ j : (Int × Int) × (Int × Int), l = jCells j ∧ jWf j := by
  obtain ⟨xs, n, _, _, hlen, hxl, hg⟩ := DataW.trod_struct Tryz.underlying49 h
  rw [show Tryz.prog.cellsOf 49 = 4 by kernel_rfl] at hlen
  obtain ⟨v0, v1, v2, v3, rfl⟩ := len4 hlen
  obtain ⟨x0, x1, rfl⟩ := len2 (show xs.length = 2 from hxl)
  have g0 : DataW.trod enc Tryz.prog w base (fun _ => true) held n 47 (([v0, v1, v2, v3].drop 0).take (Tryz.prog.cellsOf 47)) = some x0 := hg 0 _ rfl
  have g1 : DataW.trod enc Tryz.prog w base (fun _ => true) held n 47 (([v0, v1, v2, v3].drop 2).take (Tryz.prog.cellsOf 47)) = some x1 := hg 1 _ rfl
  rw [cE] at g0 g1
  obtain ⟨p, hp, whp⟩ := end_of g0
  obtain ⟨q, hq, whq⟩ := end_of g1
  simp only [pCells, List.drop_zero, List.take_succ_cons, List.take_zero, List.drop_succ_cons, List.cons.injEq, and_true] at hp hq
  exact ⟨(p, q), by rw [hp.1, hp.2, hq.1, hq.2]; rfl, whp, whq⟩
theorem sig_of {fuel : Nat} {l : List Value} {x : DataW H × List MemPlace} (h : DataW.trod enc Tryz.prog w base (fun _ => true) held fuel 51 l = some x) : ∃ a : Sig, l = a.cells ∧ a.name.length ≤ maxLen ∧ a.Wf := by
  obtain ⟨xs, n, _, _, hlen, hxl, hg⟩ := DataW.trod_struct Tryz.underlying51 h
  rw [show Tryz.prog.cellsOf 51 = 4 by kernel_rfl] at hlen
  obtain ⟨v0, v1, v2, v3, rfl⟩ := len4 hlen
  obtain ⟨x0, x1, x2, rfl⟩ := len3 (show xs.length = 3 from hxl)
  have g0 : DataW.trod enc Tryz.prog w base (fun _ => true) held n 9 (([v0, v1, v2, v3].drop 0).take (Tryz.prog.cellsOf 9)) = some x0 := hg 0 _ rfl
  have g1 : DataW.trod enc Tryz.prog w base (fun _ => true) held n 47 (([v0, v1, v2, v3].drop 1).take (Tryz.prog.cellsOf 47)) = some x1 := hg 1 _ rfl
  have g2 : DataW.trod enc Tryz.prog w base (fun _ => true) held n 3 (([v0, v1, v2, v3].drop 3).take (Tryz.prog.cellsOf 3)) = some x2 := hg 2 _ rfl
  rw [cS] at g0
  rw [cE] at g1
  rw [cI] at g2
  obtain ⟨s, hs, hb⟩ := one_str g0
  obtain ⟨p, hp, whp⟩ := end_of g1
  obtain ⟨o, ho, who⟩ := one_int g2
  simp only [pCells, List.drop_zero, List.take_succ_cons, List.take_zero, List.drop_succ_cons, List.cons.injEq, and_true] at hs hp ho
  exact ⟨⟨s, p, o⟩, by rw [hs, hp.1, hp.2, ho]; rfl, hb, whp, who⟩
theorem bal_of {fuel : Nat} {l : List Value} {x : DataW H × List MemPlace} (h : DataW.trod enc Tryz.prog w base (fun _ => true) held fuel 59 l = some x) : ∃ a : Bal, l = a.cells ∧ a.Wf := by
  obtain ⟨xs, n, _, _, hlen, hxl, hg⟩ := DataW.trod_struct Tryz.underlying59 h
  rw [show Tryz.prog.cellsOf 59 = 3 by kernel_rfl] at hlen
  obtain ⟨v0, v1, v2, rfl⟩ := len3 hlen
  obtain ⟨x0, x1, x2, rfl⟩ := len3 (show xs.length = 3 from hxl)
  have g0 : DataW.trod enc Tryz.prog w base (fun _ => true) held n 3 (([v0, v1, v2].drop 0).take (Tryz.prog.cellsOf 3)) = some x0 := hg 0 _ rfl
  have g1 : DataW.trod enc Tryz.prog w base (fun _ => true) held n 3 (([v0, v1, v2].drop 1).take (Tryz.prog.cellsOf 3)) = some x1 := hg 1 _ rfl
  have g2 : DataW.trod enc Tryz.prog w base (fun _ => true) held n 3 (([v0, v1, v2].drop 2).take (Tryz.prog.cellsOf 3)) = some x2 := hg 2 _ rfl
  rw [cI] at g0 g1 g2
  obtain ⟨a, ha, wha⟩ := one_int g0
  obtain ⟨b, hb, whb⟩ := one_int g1
  obtain ⟨c, hc, whc⟩ := one_int g2
  simp only [List.drop_zero, List.take_succ_cons, List.take_zero, List.drop_succ_cons, List.cons.injEq, and_true] at ha hb hc
  exact ⟨⟨a, b, c⟩, by rw [ha, hb, hc]; rfl, wha, whb, whc⟩
/-- A slice of texts, by the same law. -/
theorem grid_strs {ok : Nat → Prop} {w : World} {v : Value} {ss : List (List UInt8)} (h : Grid ok w v 1 (ss.map fun s => [.string (bs s)])) (hs : ∀ s ∈ ss, s.length ≤ maxLen) : Strs ok w v ss := by
  obtain ⟨a, cap, h1, h2, h3, h4⟩ := h
  rw [List.length_map] at h1 h2
  refine ⟨⟨a, cap, by rw [strV_len]; exact h1, by rw [strV_len]; exact h2, h3, ?_⟩, hs⟩
  rcases h4 with h4 | ⟨b, off, e, hb, hc⟩
  · left
    have : ss = [] := by simpa using h4
    rw [this]
    rfl
  · refine .inr ⟨b, off, e, hb, fun j x hx => ?_⟩
    obtain ⟨s, hs', rfl⟩ : ∃ s, ss[j]? = some s ∧ .string (bs s) = x := by simpa [strV] using hx
    have := hc j [.string (bs s)] (by rw [List.getElem?_map, hs']; rfl) 0 _ rfl
    simpa using this

set_option maxRecDepth 100000 in
/-- The whole layout. -/
theorem open_layout {v : Value} {d : DataW H} {p : List MemPlace} {b0 : Nat} {r : Reach} (hv : Value.okWide Tryz.prog w r b0 28 v) (h : DataW.Trod enc Tryz.prog w base (fun _ => true) held 28 v d p) :
    ∃ (L : Lay) (vs ve vj vg vb : Value), v = layV L vs ve vj vg vb ∧ LayAt (In w) w L vs ve vj vg vb := by
  obtain ⟨⟨cs⟩, rfl, hsz⟩ := okWide_struct Tryz.underlying28 hv
  obtain ⟨fuel, hf⟩ := h
  obtain ⟨xs, n, _, _, hlen, hxl, hg⟩ := DataW.trod_struct Tryz.underlying28 hf
  have hc6 : Tryz.prog.cellsOf 28 = 6 := by kernel_rfl
  rw [hc6] at hlen
  have hl6 : cs.length = 6 := hlen
  match cs, hl6 with
  | [v0, v1, v2, v3, v4, v5], _ =>
    match xs, (show xs.length = 6 from hxl) with
    | [x0, x1, x2, x3, x4, x5], _ =>
      have g0 : DataW.trod enc Tryz.prog w base (fun _ => true) held n 9 (([v0, v1, v2, v3, v4, v5].drop 0).take (Tryz.prog.cellsOf 9)) = some x0 := hg 0 _ rfl
      have g1 : DataW.trod enc Tryz.prog w base (fun _ => true) held n 22 (([v0, v1, v2, v3, v4, v5].drop 1).take (Tryz.prog.cellsOf 22)) = some x1 := hg 1 _ rfl
      have g2 : DataW.trod enc Tryz.prog w base (fun _ => true) held n 23 (([v0, v1, v2, v3, v4, v5].drop 2).take (Tryz.prog.cellsOf 23)) = some x2 := hg 2 _ rfl
      have g3 : DataW.trod enc Tryz.prog w base (fun _ => true) held n 24 (([v0, v1, v2, v3, v4, v5].drop 3).take (Tryz.prog.cellsOf 24)) = some x3 := hg 3 _ rfl
      have g4 : DataW.trod enc Tryz.prog w base (fun _ => true) held n 25 (([v0, v1, v2, v3, v4, v5].drop 4).take (Tryz.prog.cellsOf 25)) = some x4 := hg 4 _ rfl
      have g5 : DataW.trod enc Tryz.prog w base (fun _ => true) held n 26 (([v0, v1, v2, v3, v4, v5].drop 5).take (Tryz.prog.cellsOf 26)) = some x5 := hg 5 _ rfl
      rw [cS] at g0
      rw [show Tryz.prog.cellsOf 22 = 1 by kernel_rfl] at g1
      rw [show Tryz.prog.cellsOf 23 = 1 by kernel_rfl] at g2
      rw [show Tryz.prog.cellsOf 24 = 1 by kernel_rfl] at g3
      rw [show Tryz.prog.cellsOf 25 = 1 by kernel_rfl] at g4
      rw [show Tryz.prog.cellsOf 26 = 1 by kernel_rfl] at g5
      obtain ⟨nm, hs, hb⟩ := one_str g0
      simp only [List.drop_zero, List.take_succ_cons, List.take_zero, List.drop_succ_cons, List.cons.injEq, and_true] at hs g1 g2 g3 g4 g5
      subst hs
      obtain ⟨l1, r1, q1, s1⟩ := open_rows [] (fun s : List UInt8 => [.string (bs s)]) (fun s => s.length ≤ maxLen) Tryz.underlying22 cS (by decide) (fun _ => rfl) (fun _ _ _ h => one_str h) g1
      obtain ⟨l2, r2, q2, _⟩ := open_rows ⟨[], 0, 0, 0, 0, 0, 0⟩ Elem.cells (fun s => s.name.length ≤ maxLen ∧ s.Wf) Tryz.underlying23 (by kernel_rfl) (by decide : 0 < 7) (fun _ => rfl) (fun _ _ _ h => elem_of h) g2
      obtain ⟨l3, r3, q3, _⟩ := open_rows ((0, 0), (0, 0)) jCells jWf Tryz.underlying24 (by kernel_rfl) (by decide : 0 < 4) (fun _ => rfl) (fun _ _ _ h => joint_of h) g3
      obtain ⟨l4, r4, q4, _⟩ := open_rows ⟨[], (0, 0), 0⟩ Sig.cells (fun s => s.name.length ≤ maxLen ∧ s.Wf) Tryz.underlying25 (by kernel_rfl) (by decide : 0 < 4) (fun _ => rfl) (fun _ _ _ h => sig_of h) g4
      obtain ⟨l5, r5, q5, _⟩ := open_rows ⟨0, 0, 0⟩ Bal.cells Bal.Wf Tryz.underlying26 (by kernel_rfl) (by decide : 0 < 3) (fun _ => rfl) (fun _ _ _ h => bal_of h) g5
      exact ⟨⟨nm, l1, l2, l3, l4, l5⟩, v1, v2, v3, v4, v5, rfl, grid_strs r1 q1, r2, r3, r4, r5, hb, fun x hx => (q2 x hx).1, fun x hx => (q4 x hx).1, fun x hx => (q2 x hx).2, q3, fun x hx => (q4 x hx).2, q5, s1⟩
end

end Go.Proofs.YtfdipcphohhlgaaGreatDoor.Lopen

/- What the calls want of the package-level variables, and how it is carried. -/
namespace Go.Proofs.YtfdipcphohhlgaaGreatDoor.Debw
open Go.RowKit

/-- The library's greatest length is some number; the table of powers of ten and the error of range are what they are. -/
def Deb (w : World) : Prop :=
  (∃ m, w.cell? ⟨0, 0, none⟩ = some (.int .i64 m)) ∧ Lib.TabIs Tryz.prog w "internal/strconv.uint64pow10" .u64 Lib.pow10Tab ∧
    ∃ ev, w.cell? ⟨5, 0, none⟩ = some ev ∧ (ev = .nilIface ∨ ∃ te pe, ev = .iface te pe)

theorem cell_next {w w' : World} {p : Addr} {v : Value} (h : w.cell? p = some v) (hb : Below w.heap.size w w') : w'.cell? p = some v :=
  (hb.cell (World.block_lt_of_cell? w p h)).trans h
theorem var_next {P : Program} {w w' : World} {name : String} {cs : Array Value} (h : w.var? P name = some cs) (hb : Below w.heap.size w w') : w'.var? P name = some cs := by
  unfold World.var? at h ⊢
  obtain ⟨g, hg, hm⟩ := Option.bind_eq_some_iff.1 h
  rw [hg]
  show (match w'.heap[g]? with | some (.cells cs _ _) => some cs | _ => none) = some cs
  have hlt : g < w.heap.size := by
    cases hx : w.heap[g]? with
    | none => rw [hx] at hm; cases hm
    | some o => exact (Array.getElem?_eq_some_iff.1 hx).1
  rw [hb.block g hlt]
  exact hm
theorem deb_next {w w' : World} (h : Deb w) (hb : Below w.heap.size w w') : Deb w' := by
  obtain ⟨⟨m, h1⟩, h2, ev, h3, h4⟩ := h
  exact ⟨⟨m, cell_next h1 hb⟩, var_next h2 hb, ev, cell_next h3 hb, h4⟩
theorem bel_next {w w1 w2 : World} (h : Below w.heap.size w w1) (k : Below w1.heap.size w1 w2) : Below w.heap.size w w2 := h.trans (k.mono h.size)

end Go.Proofs.YtfdipcphohhlgaaGreatDoor.Debw
