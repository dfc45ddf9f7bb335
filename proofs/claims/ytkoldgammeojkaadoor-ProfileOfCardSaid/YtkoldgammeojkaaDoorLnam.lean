/- The call of the reference's names. -/
import Derived.Test.YtkoldgammeojkaaDoorLjoi
import Derived.Maps.AppendAt
namespace Go.Proofs.YtkoldgammeojkaaDoor.Lnam
open Go.RowKit Go.Lib Go.Proofs.YtkoldgammeojkaaDoor.Text Go.Proofs.YtkoldgammeojkaaDoor.Reads Go.Proofs.YtkoldgammeojkaaDoor.Rows2 Go.Proofs.YtkoldgammeojkaaDoor.Lay Go.Proofs.YtkoldgammeojkaaDoor.Layf Go.Proofs.YtkoldgammeojkaaDoor.Ldup Go.Proofs.YtkoldgammeojkaaDoor.Ljoi

theorem infoS : (Tryd.prog.info? 9).map (fun i => (i.zero, i.size, i.bytes)) = some (some (.string ByteArray.empty), 1, 16) := by kernel_rfl
/-- A slice value that is nil or has an address. -/
def Sn (v : Value) : Prop := v = .slice none 0 0 ∨ ∃ ad n c, v = .slice (some ad) n c
theorem sn_own {B : Nat} {w : World} {e : TypeId} {v : Value} {n : Nat} {xs : List Value} (h : w.ownsRow B e 1 v n xs) : Sn v := by
  obtain ⟨_, hor⟩ := h
  rcases hor with ⟨rfl, _⟩ | ⟨g, cap, cur, rfl, _⟩
  · exact .inl rfl
  · exact .inr ⟨_, _, _, rfl⟩
theorem own_slice {B : Nat} {w : World} {e : TypeId} {v : Value} {n : Nat} {xs : List Value} (h : w.ownsRow B e 1 v n xs) : ∃ a n c, v = .slice a n c := by
  rcases sn_own h with rfl | ⟨ad, n, c, rfl⟩
  · exact ⟨_, _, _, rfl⟩
  · exact ⟨_, _, _, rfl⟩
theorem strs_row {B : Nat} {w : World} {e : TypeId} {v : Value} {ss : List (List UInt8)} (h : w.ownsRow B e 1 v ss.length (strV ss)) (hs : ∀ s ∈ ss, s.length ≤ maxLen) : Strs (fun b => B ≤ b ∧ b < w.heap.size) w v ss := by
  rw [← strV_len ss] at h
  exact ⟨row_own h (fun g hg hlt => ⟨(h.lt g hg).1, hlt⟩), hs⟩
/-- What a call gives that returns the three lists of names. -/
def NamesOut (L : Lay) (w : World) (e : Ending) (w' : World) : Prop :=
  ∃ v0 v1 v2, e = .returned (.agg #[v0, v1, v2]) ∧ (Strs (In w') w' v0 L.secs ∧ Sn v0) ∧ (Strs (In w') w' v1 (L.els.map (·.name)) ∧ Sn v1) ∧ (Strs (In w') w' v2 (L.sigs.map (·.name)) ∧ Sn v2) ∧ Below w.heap.size w w'

/-- Behind the first append: the rows of the three boxes and of the list. -/
def Mid (L : Lay) (vs ve vj vg vb : Value) (w W : World) (v0 : Value) : Prop :=
  LBox w.heap.size W L vs ve vj vg vb ∧ W.heap[w.heap.size + 1 + 1]? = some (.cells #[v0, .slice none 0 0, .slice none 0 0] 55 (0, 0)) ∧ W.heap[w.heap.size + 1]? = some (.cells #[.slice none 0 0, .slice none 0 0, .slice none 0 0] 55 (0, 0)) ∧
  Strs (fun b => b < W.heap.size ∧ b ≠ w.heap.size + 1 + 1 ∧ b ≠ w.heap.size + 1) W v0 L.secs ∧ Sn v0 ∧ Below w.heap.size w W ∧ w.heap.size + 1 + 1 < W.heap.size

theorem strV_one (ss : List (List UInt8)) : ∀ u ∈ strV ss, u.oneCell' = true := by
  intro u hu
  obtain ⟨s, _, rfl⟩ := List.mem_map.1 hu
  rfl
def nil3 : Array Value := #[.slice none 0 0, .slice none 0 0, .slice none 0 0]
theorem add_mk (b off j : Nat) : (⟨b, off, none⟩ : Addr).add j = ⟨b, off + j, none⟩ := by
  unfold Addr.add
  by_cases h : j = 0
  · subst h; simp
  · simp [h]
/-- The world with the three boxes. -/
def W3 (w : World) (L : Lay) (vs ve vj vg vb : Value) : World := ((w.alloc (.cells #[.string (bs L.name), vs, ve, vj, vg, vb] 28)).alloc (.cells #[.slice none 0 0, .slice none 0 0, .slice none 0 0] 55)).alloc (.cells #[.slice none 0 0, .slice none 0 0, .slice none 0 0] 55)
theorem w3_size (w : World) (L : Lay) (vs ve vj vg vb : Value) : (W3 w L vs ve vj vg vb).heap.size = w.heap.size + 1 + 1 + 1 := by simp [W3]
theorem w3_below (w : World) (L : Lay) (vs ve vj vg vb : Value) : Below w.heap.size w (W3 w L vs ve vj vg vb) := by
  have b1 := (Below.refl w.heap.size w).alloc (Nat.le_refl _) (.cells #[.string (bs L.name), vs, ve, vj, vg, vb] 28)
  have b2 := b1.alloc b1.size (.cells #[.slice none 0 0, .slice none 0 0, .slice none 0 0] 55)
  exact b2.alloc b2.size _
theorem mid_of {L : Lay} {vs ve vj vg vb v0 : Value} {w w1 : World} {row : Option Nat} (hr : row = none) (hg : (W3 w L vs ve vj vg vb).grownBy w1 row) (ho : w1.ownsRow (w.heap.size + 1 + 1 + 1) 9 1 v0 (strV L.secs).length (strV L.secs)) (hs : ∀ s ∈ L.secs, s.length ≤ maxLen) :
    w1.cell? ⟨w.heap.size, 2, none⟩ = some ve ∧ w1.cell? ⟨w.heap.size + 1 + 1, 0, none⟩ = some (.slice none 0 0) ∧ w1.frozen? ⟨w.heap.size + 1 + 1, 0, none⟩ = false ∧ Mid L vs ve vj vg vb w (w1.setCell ⟨w.heap.size + 1 + 1, 0, none⟩ v0) v0 := by
  subst hr
  obtain ⟨x0, _, x2, x3⟩ := box3 w #[.string (bs L.name), vs, ve, vj, vg, vb] #[.slice none 0 0, .slice none 0 0, .slice none 0 0] #[.slice none 0 0, .slice none 0 0, .slice none 0 0] 28 55 55
  have hsz := w3_size w L vs ve vj vg vb
  have hblk : ∀ k, k < w.heap.size + 1 + 1 + 1 → w1.heap[k]? = (W3 w L vs ve vj vg vb).heap[k]? := fun k hk => hg.block k (by rw [hsz]; exact hk) (by intro e; cases e)
  have y0 : ∀ j, w1.cell? ⟨w.heap.size, j, none⟩ = #[.string (bs L.name), vs, ve, vj, vg, vb][j]? := fun j => (cell_same (hblk w.heap.size (by omega))).trans (x0 j)
  have y2 := (hblk (w.heap.size + 1 + 1) (by omega)).trans x2
  have y1 : w1.heap[w.heap.size + 1]? = some (.cells #[.slice none 0 0, .slice none 0 0, .slice none 0 0] 55 (0, 0)) := by
    refine (hblk (w.heap.size + 1) (by omega)).trans ?_
    have e := heap_alloc_new (w.alloc (.cells #[.string (bs L.name), vs, ve, vj, vg, vb] 28)) (.cells #[.slice none 0 0, .slice none 0 0, .slice none 0 0] 55)
    rw [show (w.alloc (.cells #[.string (bs L.name), vs, ve, vj, vg, vb] 28)).heap.size = w.heap.size + 1 by simp] at e
    exact (Below.heap_alloc _ _ _ (by simp)).trans e
  have hs1 : w.heap.size + 1 + 1 + 1 ≤ w1.heap.size := by have := hg.size; rw [hsz] at this; exact this
  have hlen : (strV L.secs).length = L.secs.length := strV_len _
  refine ⟨by simpa using y0 2, (cell_of_row _ _ 0 _ _ _ y2).trans rfl, frozen_of_row _ _ 0 _ _ y2, ?_, ?_, ?_, ?_, sn_own ho, ?_, ?_⟩
  · have z : ∀ j, (w1.setCell ⟨w.heap.size + 1 + 1, 0, none⟩ v0).cell? ⟨w.heap.size, j, none⟩ = w1.cell? ⟨w.heap.size, j, none⟩ := fun j => cell_same (heap_setCell_other w1 _ _ _ (by simp; omega))
    exact ⟨(z 0).trans (y0 0), (z 1).trans (y0 1), (z 2).trans (y0 2), (z 3).trans (y0 3), (z 4).trans (y0 4), (z 5).trans (y0 5)⟩
  · rw [heap_setCell_same _ _ 0 _ _ _ y2]
    rfl
  · rw [heap_setCell_other w1 _ _ _ (by simp)]
    exact y1
  · have hrow : Row (fun b => w.heap.size + 1 + 1 + 1 ≤ b ∧ b < w1.heap.size) w1 v0 (strV L.secs) := row_own ho (fun g hg' hlt => ⟨(ho.lt g hg').1, hlt⟩)
    refine ⟨hrow.keep fun b hb => ⟨⟨by simp [World.setCell]; exact hb.2, by omega, by omega⟩, heap_setCell_other w1 _ _ _ (by simp; omega)⟩, hs⟩
  · have := (w3_below w L vs ve vj vg vb).grown hg (by rw [hsz]; omega) (fun k e => by cases e)
    exact this.setCell (by simp; omega) _
  · simp [World.setCell]; omega

theorem box_step {g B k : Nat} {cs : Array Value} {T e : TypeId} {W wr w1 : World} {v1 v1' : Value} {acc : List (List UInt8)} {s : List UInt8} {o1 o2 : Obj} (hrow : wr.heap[g]? = some (.cells cs T (0, 0))) (hg : g < B) (ho : wr.ownsRow B e 1 v1 acc.length (strV acc)) (hb : But g B W wr) (hB : B ≤ W.heap.size)
    (h1 : w1.ownsRow B e 1 v1' (acc.length + 1) (strV acc ++ [.string (bs s)])) (hg1 : ((wr.alloc o1).alloc o2).grownBy w1 v1.ownBlock) :
    w1.heap[g]? = some (.cells cs T (0, 0)) ∧ (w1.setCell ⟨g, k, none⟩ v1').heap[g]? = some (.cells (cs.setIfInBounds k v1') T (0, 0)) ∧ But g B W w1 ∧ But g B W (w1.setCell ⟨g, k, none⟩ v1') ∧ (w1.setCell ⟨g, k, none⟩ v1').ownsRow B e 1 v1' (acc ++ [s]).length (strV (acc ++ [s])) := by
  have hw := hb.size
  have hne : ∀ x, v1.ownBlock = some x → B ≤ x ∨ x = g := fun x hx => .inl (ho.lt x hx).1
  have b2 := (hb.alloc (by omega) o1).alloc (by simp; omega) o2
  have b3 := b2.grown hg1 (by simp; omega) hne
  have r1 : w1.heap[g]? = some (.cells cs T (0, 0)) := by
    rw [hg1.block g (by simp; omega) (fun e => by have := (ho.lt g e.symm).1; omega), Below.heap_alloc _ _ _ (by simp; omega), Below.heap_alloc _ _ _ (by omega)]
    exact hrow
  refine ⟨r1, heap_setCell_same _ _ _ _ _ _ r1, b3, b3.setCell (.inl rfl) _, ?_⟩
  have := ownsRow_setCell_below h1 (a := ⟨g, k, none⟩) hg v1'
  simpa [strV] using this
/-- What holds at the head of a loop that fills cell k of the box g with names. -/
def NRel (g k n : Nat) (all : List (List UInt8)) (cs : Array Value) (T e : TypeId) (W : World) (vj : Value) (wr : World) : Prop :=
  ∃ (j : Nat) (v : Value), vj = .int .i64 (j : Int) ∧ j ≤ n ∧ wr.heap[g]? = some (.cells (cs.setIfInBounds k v) T (0, 0)) ∧ wr.ownsRow W.heap.size e 1 v (all.take j).length (strV (all.take j)) ∧ But g W.heap.size W wr
theorem take_next {all : List (List UInt8)} {j : Nat} {s : List UInt8} (h : all[j]? = some s) : all.take (j + 1) = all.take j ++ [s] := by
  obtain ⟨hj, rfl⟩ := List.getElem?_eq_some_iff.1 h
  exact List.take_succ_eq_append_getElem hj
theorem set_set (cs : Array Value) (k : Nat) (x y : Value) : (cs.setIfInBounds k x).setIfInBounds k y = cs.setIfInBounds k y := by
  simp
theorem nrel_next {g k n j : Nat} {all : List (List UInt8)} {s : List UInt8} {cs : Array Value} {T e : TypeId} {W wr w1 : World} {v v' : Value} {o1 o2 : Obj} (hs : all[j]? = some s) (hj : j < n) (hrow : wr.heap[g]? = some (.cells (cs.setIfInBounds k v) T (0, 0))) (hg : g < W.heap.size) (ho : wr.ownsRow W.heap.size e 1 v (all.take j).length (strV (all.take j))) (hb : But g W.heap.size W wr)
    (h1 : w1.ownsRow W.heap.size e 1 v' ((all.take j).length + 1) (strV (all.take j) ++ [.string (bs s)])) (hg1 : ((wr.alloc o1).alloc o2).grownBy w1 v.ownBlock) : NRel g k n all cs T e W (.int .i64 ((j : Int) + 1)) (w1.setCell ⟨g, k, none⟩ v') := by
  obtain ⟨_, r2, _, b2, o2⟩ := box_step (k := k) hrow hg ho hb (Nat.le_refl _) h1 hg1
  rw [set_set] at r2
  exact ⟨j + 1, v', by simp, hj, r2, by rw [take_next hs]; exact o2, b2⟩
theorem cells_at {wr : World} {g : Nat} {cs : Array Value} {T : TypeId} (h : wr.heap[g]? = some (.cells cs T (0, 0))) (j : Nat) : wr.cell? ⟨g, j, none⟩ = cs[j]? ∧ wr.frozen? ⟨g, j, none⟩ = false := ⟨cell_of_row _ _ _ _ _ _ h, frozen_of_row _ _ _ _ _ h⟩

theorem row3 {wr : World} {g : Nat} {x y z : Value} {T : TypeId} (h : wr.heap[g]? = some (.cells #[x, y, z] T (0, 0))) (a b c : Value) :
    (((wr.setCell ⟨g, 0, none⟩ a).setCell ⟨g, 1, none⟩ b).setCell ⟨g, 2, none⟩ c).heap[g]? = some (.cells #[a, b, c] T (0, 0)) := by
  have h1 := heap_setCell_same _ _ 0 _ _ a h
  have h2 := heap_setCell_same _ _ 1 _ _ b h1
  exact heap_setCell_same _ _ 2 _ _ c h2
theorem keep3 {wr : World} {g : Nat} (a b c : Value) : ∀ k, (k < wr.heap.size ∧ k ≠ g) → In (((wr.setCell ⟨g, 0, none⟩ a).setCell ⟨g, 1, none⟩ b).setCell ⟨g, 2, none⟩ c) k ∧ (((wr.setCell ⟨g, 0, none⟩ a).setCell ⟨g, 1, none⟩ b).setCell ⟨g, 2, none⟩ c).heap[k]? = wr.heap[k]? := by
  intro k hk
  refine ⟨by simpa [In, World.setCell] using hk.1, ?_⟩
  rw [heap_setCell_other _ _ _ _ hk.2, heap_setCell_other _ _ _ _ hk.2, heap_setCell_other _ _ _ _ hk.2]

theorem grown_self (w : World) : w.grownBy w none := ⟨rfl, rfl, rfl, Nat.le_refl _, fun _ _ _ => rfl⟩
theorem mid_nil {L : Lay} {vs ve vj vg vb : Value} (hn : L.secs = []) (w : World) : Mid L vs ve vj vg vb w (W3 w L vs ve vj vg vb) (.slice none 0 0) := by
  have e : (W3 w L vs ve vj vg vb).setCell ⟨w.heap.size + 1 + 1, 0, none⟩ (.slice none 0 0) = W3 w L vs ve vj vg vb := by
    unfold W3
    rw [World.setCell_alloc_at _ _ _ _ _ (by simp)]
    rfl
  have m := (mid_of (w := w) (L := L) (vs := vs) (ve := ve) (vj := vj) (vg := vg) (vb := vb) rfl (grown_self _) (by rw [hn]; exact World.ownsRow_nil _ _ _ _) (by rw [hn]; intro s hs; cases hs)).2.2.2
  rwa [e] at m

set_option maxRecDepth 100000 in
set_option maxHeartbeats 1600000 in
theorem rnames_some (L : Lay) {vs ve vj vg vb : Value} (w : World) (h : LayAt (In w) w L vs ve vj vg vb) (hn : L.secs.length ≤ 1000) (hn2 : L.els.length ≤ 1000) (hn3 : L.sigs.length ≤ 1000) {ad : Addr} {n c : Nat} (e : vs = .slice (some ad) n c) :
    Calls Tryd.prog 25 #[layV L vs ve vj vg vb] w (NamesOut L w) := by
  obtain ⟨a, cap, rfl, hm, hel⟩ := h.el
  obtain ⟨a3, cap3, rfl, hm3, hsg⟩ := h.sg
  obtain ⟨a2, cap2, rfl, hm2, hsn⟩ := h.sn
  obtain ⟨i0, hi, hz0, hz1, hz2⟩ := info_parts infoS
  have HI0 := Lib.hid hi
  have HZ0 := Lib.hid hz0
  have HZ1 := Lib.hid hz1
  have HZ2 := Lib.hid hz2
  have HSL := Lib.hid h.secs.2
  have HEN := Lib.hid h.elName
  have HSN := Lib.hid h.sigName
  clear hi hz0 hz1 hz2
  unfold layV
  cases e
  have HN : Hid (∀ j u, (strV L.secs)[j]? = some u → (W3 w L (.slice (some ad) L.secs.length c) (.slice a L.els.length cap) vj (.slice a3 L.sigs.length cap3) vb).cell? (ad.add j) = some u) := by
    intro j u hu
    obtain ⟨s, hs, rfl⟩ : ∃ s, L.secs[j]? = some s ∧ .string (bs s) = u := by simpa [strV] using hu
    obtain ⟨b, off, e, hc⟩ := hsn _ (w3_below w L (.slice (some ad) L.secs.length c) (.slice a L.els.length cap) vj (.slice a3 L.sigs.length cap3) vb) j s hs
    cases e
    rw [add_mk]
    exact hc
  clear hsn
  go_enter Tryd.func25, Tryd.ntmps25
  go_wp2_with (at_builtin; refine wpList_append_own_at _ rfl (.tmp 10) (.tmp 12) 22 rfl (w.heap.size + 1 + 1 + 1) 9 i0 (.string ByteArray.empty) 1 16 Tryd.underlying22 HI0.out HZ0.out HZ1.out HZ2.out rfl (by decide) _ _ _ rfl (World.ownsRow_nil _ _ _ _) ad L.secs.length c (strV L.secs) rfl (by simp [strV]) HN.out (strV_one _) (by unfold maxLen; omega) (by omega) (by simp) ?_; intro v0 w1 h1own hg1 _ _; obtain ⟨A0, n0, c0, rfl⟩ := own_slice h1own; obtain ⟨k0, k1, k2, k3⟩ := mid_of rfl hg1 (by simpa [strV] using h1own) HSL.out; have HMID := Lib.hid k3; clear h1own hg1 k3)
  obtain ⟨W, hW⟩ : ∃ W, w1.setCell ⟨w.heap.size + 1 + 1, 0, none⟩ (.slice A0 n0 c0) = W := ⟨_, rfl⟩
  rw [hW] at HMID ⊢
  clear hW k0 k1 k2 HN
  obtain ⟨m1, m2, m3, m4, m5, m6, m7⟩ := HMID.out
  have M1 := Lib.hid m1
  have M3 := Lib.hid m3
  have M4 := Lib.hid m4
  have M5 := Lib.hid m5
  have M6 := Lib.hid m6
  have M7 := Lib.hid m7
  have M2 := Lib.hid m2
  clear m1 m2 m3 m4 m5 m6 m7 HMID
  go_loopw [18] (fun vj wr => NRel (w.heap.size + 1 + 1) 1 L.els.length (L.els.map (·.name)) #[.slice A0 n0 c0, .slice none 0 0, .slice none 0 0] 55 9 W vj wr) (fun vj _ => L.els.length - (intOf vj).toNat)
  case atStart => exact ⟨0, .slice none 0 0, rfl, Nat.zero_le _, M2.out, World.ownsRow_nil _ _ _ _, But.refl _ _ _⟩
  case round =>
    obtain ⟨j, v1, rfl, hj, hrow, ho, hb⟩ := hrel
    obtain ⟨A1, n1, c1, rfl⟩ := own_slice ho
    have HB := Lib.hid hb
    have HS := Lib.hid hb.size
    have HR := Lib.hid hrow
    have HO := Lib.hid ho
    have HBW := Lib.hid (hb.below M6.out (by have := M6.out.size; omega) (by omega))
    obtain ⟨p1, f1⟩ := cells_at hrow 1
    simp at p1
    clear hb hrow ho
    by_cases hl : j < L.els.length
    · obtain ⟨x, hx⟩ := at_lt hl
      obtain ⟨b, off, rfl, d0, d1, d2, d3, d4, d5, d6⟩ := hel wr HBW.out j x hx
      have HX := Lib.hid (show (L.els.map (·.name))[j]? = some x.name by rw [List.getElem?_map, hx]; rfl)
      obtain ⟨nm, kd, ln, gr, sp, sl, sc⟩ := x
      simp only at d0 d1 d2 d3 d4 d5 d6 HX
      have hlt : w.heap.size + 1 + 1 < wr.heap.size := Nat.lt_of_lt_of_le M7.out HS.out
      have htl : (List.take j (L.els.map (·.name))).length ≤ 1000 := by simp; omega
      clear hx
      go_wp2_with (at_builtin; refine wpList_append_own_at _ rfl (.tmp 23) (.tmp 26) 22 rfl W.heap.size 9 i0 (.string ByteArray.empty) 1 16 Tryd.underlying22 HI0.out HZ0.out HZ1.out HZ2.out rfl (by decide) _ _ _ rfl ((HO.out.alloc _).alloc _) ⟨wr.heap.size + 1, 0, none⟩ 1 1 [.string (bs nm)] rfl rfl (by simpa using cell_one_new (wr.alloc _) (.string (bs nm)) 9) (by intro u hu; simp at hu; subst hu; rfl) (by unfold maxLen; omega) (by omega) (by have := HS.out; simp; omega) ?_; intro v2 w2 h1own hg1 _ _; obtain ⟨A2, n2, c2, rfl⟩ := own_slice h1own; obtain ⟨q1, _, _, _, _⟩ := box_step (k := 1) HR.out M7.out HO.out HB.out (Nat.le_refl _) h1own hg1; obtain ⟨q2, q3⟩ := cells_at q1 1; simp at q2; have R1 := Lib.hid h1own; have R2 := Lib.hid hg1; clear h1own hg1 q1)
      go_roundw
      case rel => exact nrel_next HX.out hl HR.out M7.out HO.out HB.out R1.out R2.out
      case measure => simp [intOf]; omega
    · have he : j = L.els.length := by omega
      subst he
      obtain ⟨W2, rfl⟩ : ∃ W2 : World, W2 = wr := ⟨_, rfl⟩
      have g4 := (HB.out.cell (p := ⟨w.heap.size, 4, none⟩) (by have := M7.out; simp; omega) (by simp; omega)).trans M1.out.2.2.2.2.1
      have hx0 := M4.out.keep (ok' := fun b => b < W2.heap.size ∧ b ≠ w.heap.size + 1 + 1 ∧ b ≠ w.heap.size + 1) fun b hb => ⟨⟨Nat.lt_of_lt_of_le hb.1 HS.out, hb.2⟩, HB.out.block b hb.1 hb.2.1⟩
      have hx1 := strs_row HO.out (fun s hs => by
        obtain ⟨x, hx, rfl⟩ := List.mem_map.1 (List.mem_of_mem_take hs)
        exact HEN.out x hx)
      rw [show (L.els.map (·.name)).take L.els.length = L.els.map (·.name) from List.take_of_length_le (by simp)] at hx1
      have N0 := Lib.hid hx0
      have N1 := Lib.hid (hx1.keep (ok' := fun b => b < W2.heap.size ∧ b ≠ w.heap.size + 1 + 1 ∧ b ≠ w.heap.size + 1) fun b hb => ⟨⟨hb.2, by have := M7.out; omega, by have := M7.out; omega⟩, rfl⟩)
      have S1 := Lib.hid (sn_own HO.out)
      have N7 := Lib.hid (Nat.lt_of_lt_of_le M7.out HS.out)
      have N3 := Lib.hid ((HB.out.block (w.heap.size + 1) (by have := M7.out; omega) (by omega)).trans M3.out)
      clear hx0 hx1 hel p1 f1
      go_wp2_with fail
      go_loopw [33] (fun vj wx => NRel (w.heap.size + 1 + 1) 2 L.sigs.length (L.sigs.map (·.name)) #[.slice A0 n0 c0, .slice A1 n1 c1, .slice none 0 0] 55 9 W2 vj wx) (fun vj _ => L.sigs.length - (intOf vj).toNat)
      case atStart => exact ⟨0, .slice none 0 0, rfl, Nat.zero_le _, HR.out, World.ownsRow_nil _ _ _ _, But.refl _ _ _⟩
      case round =>
        have HBW1 := Lib.hid HBW.out
        clear HBW
        obtain ⟨j, v2, rfl, hj, hrow, ho, hb⟩ := hrel
        obtain ⟨A2, n2, c2, rfl⟩ := own_slice ho
        have HB2 := Lib.hid hb
        have HS2 := Lib.hid hb.size
        have HR2 := Lib.hid hrow
        have HO2 := Lib.hid ho
        have HBW2 := Lib.hid (hb.below HBW1.out (by have := HBW1.out.size; omega) (by omega))
        obtain ⟨p2, f2⟩ := cells_at hrow 2
        have hlt : w.heap.size + 1 + 1 < wr.heap.size := Nat.lt_of_lt_of_le N7.out HS2.out
        simp at p2
        clear hb hrow ho
        by_cases hl : j < L.sigs.length
        · obtain ⟨x, hx⟩ := at_lt hl
          obtain ⟨b, off, rfl, d0, d1, d2, d3⟩ := hsg wr HBW2.out j x hx
          have HX := Lib.hid (show (L.sigs.map (·.name))[j]? = some x.name by rw [List.getElem?_map, hx]; rfl)
          obtain ⟨nm, sp, ov⟩ := x
          simp only at d0 d1 d2 d3 HX
          have htl : (List.take j (L.sigs.map (·.name))).length ≤ 1000 := by simp; omega
          clear hx
          go_wp2_with (at_builtin; refine wpList_append_own_at _ rfl (.tmp 38) (.tmp 41) 22 rfl W2.heap.size 9 i0 (.string ByteArray.empty) 1 16 Tryd.underlying22 HI0.out HZ0.out HZ1.out HZ2.out rfl (by decide) _ _ _ rfl ((HO2.out.alloc _).alloc _) ⟨wr.heap.size + 1, 0, none⟩ 1 1 [.string (bs nm)] rfl rfl (by simpa using cell_one_new (wr.alloc _) (.string (bs nm)) 9) (by intro u hu; simp at hu; subst hu; rfl) (by unfold maxLen; omega) (by omega) (by have := HS2.out; simp; omega) ?_; intro v3 w3 h1own hg1 _ _; obtain ⟨A3, n3, c3, rfl⟩ := own_slice h1own; obtain ⟨q1, _, _, _, _⟩ := box_step (k := 2) HR2.out N7.out HO2.out HB2.out (Nat.le_refl _) h1own hg1; obtain ⟨q2, q3⟩ := cells_at q1 2; simp at q2; have R1 := Lib.hid h1own; have R2 := Lib.hid hg1; clear h1own hg1 q1)
          go_roundw
          case rel => exact nrel_next HX.out hl HR2.out N7.out HO2.out HB2.out R1.out R2.out
          case measure => simp [intOf]; omega
        · have he : j = L.sigs.length := by omega
          subst he
          have hx2 := strs_row HO2.out (fun s hs => by
            obtain ⟨x, hx, rfl⟩ := List.mem_map.1 (List.mem_of_mem_take hs)
            exact HSN.out x hx)
          rw [show (L.sigs.map (·.name)).take L.sigs.length = L.sigs.map (·.name) from List.take_of_length_le (by simp)] at hx2
          have K0 := Lib.hid (N0.out.keep (ok' := fun b => b < wr.heap.size ∧ b ≠ w.heap.size + 1) fun b hb => ⟨⟨Nat.lt_of_lt_of_le hb.1 HS2.out, hb.2.2⟩, HB2.out.block b hb.1 hb.2.1⟩)
          have K1 := Lib.hid (N1.out.keep (ok' := fun b => b < wr.heap.size ∧ b ≠ w.heap.size + 1) fun b hb => ⟨⟨Nat.lt_of_lt_of_le hb.1 HS2.out, hb.2.2⟩, HB2.out.block b hb.1 hb.2.1⟩)
          have K2 := Lib.hid (hx2.keep (ok' := fun b => b < wr.heap.size ∧ b ≠ w.heap.size + 1) fun b hb => ⟨⟨hb.2, by have := N7.out; omega⟩, rfl⟩)
          have K3 := Lib.hid ((HB2.out.block (w.heap.size + 1) (by have := N7.out; omega) (by omega)).trans N3.out)
          have S2 := Lib.hid (sn_own HO2.out)
          obtain ⟨p0, _⟩ := cells_at HR2.out 0
          obtain ⟨p1, _⟩ := cells_at HR2.out 1
          obtain ⟨e0, r0⟩ := cells_at K3.out 0
          obtain ⟨e1, r1⟩ := cells_at K3.out 1
          obtain ⟨e2, r2⟩ := cells_at K3.out 2
          simp at p0 p1 e0 e1 e2
          clear hx2 hsg hj hl
          go_wp2_with fail
          (try simp only [Exit.inBlock, Exit.then])
          refine bodyPost_ret (v := .agg #[.slice A0 n0 c0, .slice A1 n1 c1, .slice A2 n2 c2]) ?_ rfl ?_
          · exact results_cell_row rfl _ _ (w.heap.size + 1) 55 _ (0, 0) _ rfl (row3 K3.out _ _ _) Tryd.underlying55 rfl (by kernel_rfl)
          · exact ⟨_, _, _, rfl, ⟨K0.out.keep (keep3 _ _ _), M5.out⟩, ⟨K1.out.keep (keep3 _ _ _), S1.out⟩, ⟨K2.out.keep (keep3 _ _ _), S2.out⟩, ((HBW2.out.setCell (by simp) _).setCell (by simp) _).setCell (by simp) _⟩

set_option maxRecDepth 100000 in
set_option maxHeartbeats 1600000 in
theorem rnames_nil (L : Lay) {vs ve vj vg vb : Value} (w : World) (h : LayAt (In w) w L vs ve vj vg vb) (_hn : L.secs.length ≤ 1000) (hn2 : L.els.length ≤ 1000) (hn3 : L.sigs.length ≤ 1000) (e : vs = .slice none 0 0) :
    Calls Tryd.prog 25 #[layV L vs ve vj vg vb] w (NamesOut L w) := by
  obtain ⟨a, cap, rfl, hm, hel⟩ := h.el
  obtain ⟨a3, cap3, rfl, hm3, hsg⟩ := h.sg
  obtain ⟨a2, cap2, rfl, hm2, hsn⟩ := h.sn
  obtain ⟨i0, hi, hz0, hz1, hz2⟩ := info_parts infoS
  have HI0 := Lib.hid hi
  have HZ0 := Lib.hid hz0
  have HZ1 := Lib.hid hz1
  have HZ2 := Lib.hid hz2
  have HSL := Lib.hid h.secs.2
  have HEN := Lib.hid h.elName
  have HSN := Lib.hid h.sigName
  clear hi hz0 hz1 hz2
  unfold layV
  simp only [Value.slice.injEq] at e
  obtain ⟨rfl, hl0, rfl⟩ := e
  have hnil := List.length_eq_zero_iff.1 hl0
  rw [hl0]
  have HMID := Lib.hid (mid_nil (vs := .slice none 0 0) (ve := .slice a L.els.length cap) (vj := vj) (vg := .slice a3 L.sigs.length cap3) (vb := vb) hnil w)
  have HW3 := box3 w #[.string (bs L.name), .slice none 0 0, .slice a L.els.length cap, vj, .slice a3 L.sigs.length cap3, vb] #[.slice none 0 0, .slice none 0 0, .slice none 0 0] #[.slice none 0 0, .slice none 0 0, .slice none 0 0] 28 55 55
  clear hsn hm2 hl0 hnil
  go_enter Tryd.func25, Tryd.ntmps25
  go_wp2_with fail
  obtain ⟨W, hW⟩ : ∃ W, W3 w L (.slice none 0 0) (.slice a L.els.length cap) vj (.slice a3 L.sigs.length cap3) vb = W := ⟨_, rfl⟩
  rw [hW] at HMID
  unfold W3 at hW
  rw [hW]
  clear hW HW3
  obtain ⟨m1, m2, m3, m4, m5, m6, m7⟩ := HMID.out
  have M1 := Lib.hid m1
  have M3 := Lib.hid m3
  have M4 := Lib.hid m4
  have M5 := Lib.hid m5
  have M6 := Lib.hid m6
  have M7 := Lib.hid m7
  have M2 := Lib.hid m2
  clear m1 m2 m3 m4 m5 m6 m7 HMID
  go_loopw [18] (fun vj wr => NRel (w.heap.size + 1 + 1) 1 L.els.length (L.els.map (·.name)) #[.slice none 0 0, .slice none 0 0, .slice none 0 0] 55 9 W vj wr) (fun vj _ => L.els.length - (intOf vj).toNat)
  case atStart => exact ⟨0, .slice none 0 0, rfl, Nat.zero_le _, M2.out, World.ownsRow_nil _ _ _ _, But.refl _ _ _⟩
  case round =>
    obtain ⟨j, v1, rfl, hj, hrow, ho, hb⟩ := hrel
    obtain ⟨A1, n1, c1, rfl⟩ := own_slice ho
    have HB := Lib.hid hb
    have HS := Lib.hid hb.size
    have HR := Lib.hid hrow
    have HO := Lib.hid ho
    have HBW := Lib.hid (hb.below M6.out (by have := M6.out.size; omega) (by omega))
    obtain ⟨p1, f1⟩ := cells_at hrow 1
    simp at p1
    clear hb hrow ho
    by_cases hl : j < L.els.length
    · obtain ⟨x, hx⟩ := at_lt hl
      obtain ⟨b, off, rfl, d0, d1, d2, d3, d4, d5, d6⟩ := hel wr HBW.out j x hx
      have HX := Lib.hid (show (L.els.map (·.name))[j]? = some x.name by rw [List.getElem?_map, hx]; rfl)
      obtain ⟨nm, kd, ln, gr, sp, sl, sc⟩ := x
      simp only at d0 d1 d2 d3 d4 d5 d6 HX
      have hlt : w.heap.size + 1 + 1 < wr.heap.size := Nat.lt_of_lt_of_le M7.out HS.out
      have htl : (List.take j (L.els.map (·.name))).length ≤ 1000 := by simp; omega
      clear hx
      go_wp2_with (at_builtin; refine wpList_append_own_at _ rfl (.tmp 23) (.tmp 26) 22 rfl W.heap.size 9 i0 (.string ByteArray.empty) 1 16 Tryd.underlying22 HI0.out HZ0.out HZ1.out HZ2.out rfl (by decide) _ _ _ rfl ((HO.out.alloc _).alloc _) ⟨wr.heap.size + 1, 0, none⟩ 1 1 [.string (bs nm)] rfl rfl (by simpa using cell_one_new (wr.alloc _) (.string (bs nm)) 9) (by intro u hu; simp at hu; subst hu; rfl) (by unfold maxLen; omega) (by omega) (by have := HS.out; simp; omega) ?_; intro v2 w2 h1own hg1 _ _; obtain ⟨A2, n2, c2, rfl⟩ := own_slice h1own; obtain ⟨q1, _, _, _, _⟩ := box_step (k := 1) HR.out M7.out HO.out HB.out (Nat.le_refl _) h1own hg1; obtain ⟨q2, q3⟩ := cells_at q1 1; simp at q2; have R1 := Lib.hid h1own; have R2 := Lib.hid hg1; clear h1own hg1 q1)
      go_roundw
      case rel => exact nrel_next HX.out hl HR.out M7.out HO.out HB.out R1.out R2.out
      case measure => simp [intOf]; omega
    · have he : j = L.els.length := by omega
      subst he
      obtain ⟨W2, rfl⟩ : ∃ W2 : World, W2 = wr := ⟨_, rfl⟩
      have g4 := (HB.out.cell (p := ⟨w.heap.size, 4, none⟩) (by have := M7.out; simp; omega) (by simp; omega)).trans M1.out.2.2.2.2.1
      have hx0 := M4.out.keep (ok' := fun b => b < W2.heap.size ∧ b ≠ w.heap.size + 1 + 1 ∧ b ≠ w.heap.size + 1) fun b hb => ⟨⟨Nat.lt_of_lt_of_le hb.1 HS.out, hb.2⟩, HB.out.block b hb.1 hb.2.1⟩
      have hx1 := strs_row HO.out (fun s hs => by
        obtain ⟨x, hx, rfl⟩ := List.mem_map.1 (List.mem_of_mem_take hs)
        exact HEN.out x hx)
      rw [show (L.els.map (·.name)).take L.els.length = L.els.map (·.name) from List.take_of_length_le (by simp)] at hx1
      have N0 := Lib.hid hx0
      have N1 := Lib.hid (hx1.keep (ok' := fun b => b < W2.heap.size ∧ b ≠ w.heap.size + 1 + 1 ∧ b ≠ w.heap.size + 1) fun b hb => ⟨⟨hb.2, by have := M7.out; omega, by have := M7.out; omega⟩, rfl⟩)
      have S1 := Lib.hid (sn_own HO.out)
      have N7 := Lib.hid (Nat.lt_of_lt_of_le M7.out HS.out)
      have N3 := Lib.hid ((HB.out.block (w.heap.size + 1) (by have := M7.out; omega) (by omega)).trans M3.out)
      clear hx0 hx1 hel p1 f1
      go_wp2_with fail
      go_loopw [33] (fun vj wx => NRel (w.heap.size + 1 + 1) 2 L.sigs.length (L.sigs.map (·.name)) #[.slice none 0 0, .slice A1 n1 c1, .slice none 0 0] 55 9 W2 vj wx) (fun vj _ => L.sigs.length - (intOf vj).toNat)
      case atStart => exact ⟨0, .slice none 0 0, rfl, Nat.zero_le _, HR.out, World.ownsRow_nil _ _ _ _, But.refl _ _ _⟩
      case round =>
        have HBW1 := Lib.hid HBW.out
        clear HBW
        obtain ⟨j, v2, rfl, hj, hrow, ho, hb⟩ := hrel
        obtain ⟨A2, n2, c2, rfl⟩ := own_slice ho
        have HB2 := Lib.hid hb
        have HS2 := Lib.hid hb.size
        have HR2 := Lib.hid hrow
        have HO2 := Lib.hid ho
        have HBW2 := Lib.hid (hb.below HBW1.out (by have := HBW1.out.size; omega) (by omega))
        obtain ⟨p2, f2⟩ := cells_at hrow 2
        have hlt : w.heap.size + 1 + 1 < wr.heap.size := Nat.lt_of_lt_of_le N7.out HS2.out
        simp at p2
        clear hb hrow ho
        by_cases hl : j < L.sigs.length
        · obtain ⟨x, hx⟩ := at_lt hl
          obtain ⟨b, off, rfl, d0, d1, d2, d3⟩ := hsg wr HBW2.out j x hx
          have HX := Lib.hid (show (L.sigs.map (·.name))[j]? = some x.name by rw [List.getElem?_map, hx]; rfl)
          obtain ⟨nm, sp, ov⟩ := x
          simp only at d0 d1 d2 d3 HX
          have htl : (List.take j (L.sigs.map (·.name))).length ≤ 1000 := by simp; omega
          clear hx
          go_wp2_with (at_builtin; refine wpList_append_own_at _ rfl (.tmp 38) (.tmp 41) 22 rfl W2.heap.size 9 i0 (.string ByteArray.empty) 1 16 Tryd.underlying22 HI0.out HZ0.out HZ1.out HZ2.out rfl (by decide) _ _ _ rfl ((HO2.out.alloc _).alloc _) ⟨wr.heap.size + 1, 0, none⟩ 1 1 [.string (bs nm)] rfl rfl (by simpa using cell_one_new (wr.alloc _) (.string (bs nm)) 9) (by intro u hu; simp at hu; subst hu; rfl) (by unfold maxLen; omega) (by omega) (by have := HS2.out; simp; omega) ?_; intro v3 w3 h1own hg1 _ _; obtain ⟨A3, n3, c3, rfl⟩ := own_slice h1own; obtain ⟨q1, _, _, _, _⟩ := box_step (k := 2) HR2.out N7.out HO2.out HB2.out (Nat.le_refl _) h1own hg1; obtain ⟨q2, q3⟩ := cells_at q1 2; simp at q2; have R1 := Lib.hid h1own; have R2 := Lib.hid hg1; clear h1own hg1 q1)
          go_roundw
          case rel => exact nrel_next HX.out hl HR2.out N7.out HO2.out HB2.out R1.out R2.out
          case measure => simp [intOf]; omega
        · have he : j = L.sigs.length := by omega
          subst he
          have hx2 := strs_row HO2.out (fun s hs => by
            obtain ⟨x, hx, rfl⟩ := List.mem_map.1 (List.mem_of_mem_take hs)
            exact HSN.out x hx)
          rw [show (L.sigs.map (·.name)).take L.sigs.length = L.sigs.map (·.name) from List.take_of_length_le (by simp)] at hx2
          have K0 := Lib.hid (N0.out.keep (ok' := fun b => b < wr.heap.size ∧ b ≠ w.heap.size + 1) fun b hb => ⟨⟨Nat.lt_of_lt_of_le hb.1 HS2.out, hb.2.2⟩, HB2.out.block b hb.1 hb.2.1⟩)
          have K1 := Lib.hid (N1.out.keep (ok' := fun b => b < wr.heap.size ∧ b ≠ w.heap.size + 1) fun b hb => ⟨⟨Nat.lt_of_lt_of_le hb.1 HS2.out, hb.2.2⟩, HB2.out.block b hb.1 hb.2.1⟩)
          have K2 := Lib.hid (hx2.keep (ok' := fun b => b < wr.heap.size ∧ b ≠ w.heap.size + 1) fun b hb => ⟨⟨hb.2, by have := N7.out; omega⟩, rfl⟩)
          have K3 := Lib.hid ((HB2.out.block (w.heap.size + 1) (by have := N7.out; omega) (by omega)).trans N3.out)
          have S2 := Lib.hid (sn_own HO2.out)
          obtain ⟨p0, _⟩ := cells_at HR2.out 0
          obtain ⟨p1, _⟩ := cells_at HR2.out 1
          obtain ⟨e0, r0⟩ := cells_at K3.out 0
          obtain ⟨e1, r1⟩ := cells_at K3.out 1
          obtain ⟨e2, r2⟩ := cells_at K3.out 2
          simp at p0 p1 e0 e1 e2
          clear hx2 hsg hj hl
          go_wp2_with fail
          (try simp only [Exit.inBlock, Exit.then])
          refine bodyPost_ret (v := .agg #[.slice none 0 0, .slice A1 n1 c1, .slice A2 n2 c2]) ?_ rfl ?_
          · exact results_cell_row rfl _ _ (w.heap.size + 1) 55 _ (0, 0) _ rfl (row3 K3.out _ _ _) Tryd.underlying55 rfl (by kernel_rfl)
          · exact ⟨_, _, _, rfl, ⟨K0.out.keep (keep3 _ _ _), M5.out⟩, ⟨K1.out.keep (keep3 _ _ _), S1.out⟩, ⟨K2.out.keep (keep3 _ _ _), S2.out⟩, ((HBW2.out.setCell (by simp) _).setCell (by simp) _).setCell (by simp) _⟩

theorem rnames_any (L : Lay) {vs ve vj vg vb : Value} (w : World) (h : LayAt (In w) w L vs ve vj vg vb) (hn : L.secs.length ≤ 1000) (hn2 : L.els.length ≤ 1000) (hn3 : L.sigs.length ≤ 1000) :
    Calls Tryd.prog 25 #[layV L vs ve vj vg vb] w (NamesOut L w) := by
  rcases h.some_ with e | ⟨ad, n, c, e⟩
  · exact rnames_nil L w h hn hn2 hn3 e
  · exact rnames_some L w h hn hn2 hn3 e

end Go.Proofs.YtkoldgammeojkaaDoor.Lnam
