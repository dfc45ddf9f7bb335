/- Texts of this proof, merged: Rdo, Lapp, Rla, Rl1, Rl2. -/
import Derived.Test.YtfdipcphohhlgaaGreatDoorG19
import Derived.Test.YtfdipcphohhlgaaGreatDoorG06
import Derived.Test.YtfdipcphohhlgaaGreatDoorG01
import Derived.Deep.RegionLaw
import Derived.BigRegion

/- The program's reader: one row more at one of its slices. -/
namespace Go.Proofs.YtfdipcphohhlgaaGreatDoor.Rdo
open Go.RowKit Go.Lib Go.Proofs.YtfdipcphohhlgaaGreatDoor.Reads Go.Proofs.YtfdipcphohhlgaaGreatDoor.Rows2 Go.Proofs.YtfdipcphohhlgaaGreatDoor.Lay Go.Proofs.YtfdipcphohhlgaaGreatDoor.Layf Go.Proofs.YtfdipcphohhlgaaGreatDoor.Plnf Go.Proofs.YtfdipcphohhlgaaGreatDoor.Prds Go.Proofs.YtfdipcphohhlgaaGreatDoor.Rdr Go.Proofs.YtfdipcphohhlgaaGreatDoor.Rdn
open Go.Proofs.YtfdipcphohhlgaaGreatDoor.Text hiding lineL joinR

theorem off_self {f : Nat → Nat} {g c : Nat} {v : Value} (h0 : f g = 0) (hc : ∀ b, v.ownBlock = some b → f b = c) (h : c ≠ 0) : v.ownBlock ≠ some g := fun e => h ((hc g e).symm.trans h0)
theorem off_other {f : Nat → Nat} {k c : Nat} {u v : Value} (hu : ∀ b, u.ownBlock = some b → f b = k) (hv : ∀ b, v.ownBlock = some b → f b = c) (hk : k ≠ c) : u.ownBlock = none ∨ u.ownBlock ≠ v.ownBlock := by
  cases e : u.ownBlock with
  | none => exact .inl rfl
  | some b => exact .inr (fun e2 => hk ((hu b e).symm.trans (hv b e2.symm)))
theorem tag_old {f : Nat → Nat} {n k c : Nat} {u : Value} (hu : ∀ b, u.ownBlock = some b → f b = k) (hl : ∀ b, u.ownBlock = some b → b < n) : ∀ b, u.ownBlock = some b → (if b = n + 1 then c else f b) = k := fun b e => by
  rw [if_neg (by have := hl b e; omega)]
  exact hu b e
theorem tag_new {f : Nat → Nat} {n c : Nat} {v v' : Value} (hv : ∀ b, v.ownBlock = some b → f b = c) (hl : ∀ b, v.ownBlock = some b → b < n) (hb : v'.ownBlock = v.ownBlock ∨ v'.ownBlock = some (n + 1)) : ∀ b, v'.ownBlock = some b → (if b = n + 1 then c else f b) = c := fun b e => by
  rcases hb with e2 | e2
  · exact tag_old hv hl b (e2.symm.trans e)
  · rw [e] at e2
    rw [if_pos (by simpa using e2)]

theorem grow_s {W0 w w1 : World} {g : Nat} {L : Lay} {vs ve vj vg vb v' : Value} {pl : Int} {s : Rs} {o : Obj} (x : List UInt8) (h : RW W0 g w L vs ve vj vg vb pl s) (hx : x.length ≤ maxLen)
    (h1 : w1.ownsRow W0.heap.size 9 1 v' (L.secs.length + 1) (strV L.secs ++ [.string (bs x)])) (hg : (w.alloc o).grownBy w1 vs.ownBlock) (hb : v'.ownBlock = vs.ownBlock ∨ v'.ownBlock = some (w.heap.size + 1)) :
    (w1.cell? ⟨g, 1, none⟩ = some vs ∧ w1.frozen? ⟨g, 1, none⟩ = false ∧ g < w1.heap.size) ∧ RW W0 g (w1.setCell ⟨g, 1, none⟩ v') { L with secs := L.secs ++ [x] } v' ve vj vg vb pl s := by
  obtain ⟨vr, h2, h3⟩ := h.box
  obtain ⟨f, f0, f1, f2, f3, f4, f5⟩ := h.own.tag
  have hgl := h2.lt
  have al := (Below.refl w.heap.size w).alloc (Nat.le_refl _) o
  have ha := h.next al
  have hsz : (w.alloc o).heap.size = w.heap.size + 1 := by simp
  have off := off_self f0 f1 (by decide)
  have hbox : w1.heap[g]? = _ := (hg.block g (by omega) (fun e => off e.symm)).trans ((al.block g hgl).trans h2)
  have B1 : Below W0.heap.size W0 w1 := ha.bel.grown hg ha.bel.size (fun k hk => (h.own.os.lt k hk).1)
  have hs : w1.grownBy (w1.setCell ⟨g, 1, none⟩ v') (some g) := but_grown (set_but w1 1 v')
  have nv : v'.ownBlock = none ∨ v'.ownBlock ≠ some g := by
    rcases hb with e | e
    · rw [e]; exact .inr off
    · rw [e]; exact .inr (by simp; omega)
  refine ⟨⟨by rw [cell_of_row _ _ _ _ _ _ hbox]; rfl, frozen_of_row _ _ _ _ _ hbox, by have := hg.size; omega⟩, ⟨(set_but w1 1 v').below B1 B1.size h.hg, h.hg, ⟨vr, ?_, h3⟩, h.short, ?_⟩⟩
  · have := heap_setCell_same _ _ 1 _ _ v' hbox
    simpa [Box] using this
  · exact ⟨by
      have e := h1.kept hs nv
      show (w1.setCell ⟨g, 1, none⟩ v').ownsRow _ _ _ _ (L.secs ++ [x]).length (strV (L.secs ++ [x]))
      rw [List.length_append, show strV (L.secs ++ [x]) = strV L.secs ++ [.string (bs x)] by simp [strV]]
      exact e,
    ((h.own.oe.alloc o).kept hg (off_other f2 f1 (by decide))).kept hs (.inr (off_self f0 f2 (by decide))),
    ((h.own.oj.alloc o).kept hg (off_other f3 f1 (by decide))).kept hs (.inr (off_self f0 f3 (by decide))),
    ((h.own.og.alloc o).kept hg (off_other f4 f1 (by decide))).kept hs (.inr (off_self f0 f4 (by decide))),
    ((h.own.ob.alloc o).kept hg (off_other f5 f1 (by decide))).kept hs (.inr (off_self f0 f5 (by decide))),
    ⟨fun b => if b = w.heap.size + 1 then 1 else f b, (if_neg (by omega)).trans f0, tag_new f1 (fun b e => (h.own.os.lt b e).2) hb, tag_old f2 (fun b e => (h.own.oe.lt b e).2), tag_old f3 (fun b e => (h.own.oj.lt b e).2), tag_old f4 (fun b e => (h.own.og.lt b e).2), tag_old f5 (fun b e => (h.own.ob.lt b e).2)⟩,
    h.own.name, fun y hy => by
      rcases List.mem_append.1 hy with hy | hy
      · exact h.own.secName y hy
      · rw [List.mem_singleton.1 hy]; exact hx, h.own.elName, h.own.sigName, h.own.ewf, h.own.jwf, h.own.swf, h.own.bwf⟩

theorem grow_e {W0 w w1 : World} {g : Nat} {L : Lay} {vs ve vj vg vb v' : Value} {pl : Int} {s : Rs} {o : Obj} (x : Elem) (h : RW W0 g w L vs ve vj vg vb pl s) (hx : x.name.length ≤ maxLen ∧ x.Wf)
    (h1 : w1.ownsRow W0.heap.size 45 7 v' (L.els.length + 1) (L.els.flatMap Elem.cells ++ Elem.cells x)) (hg : (w.alloc o).grownBy w1 ve.ownBlock) (hb : v'.ownBlock = ve.ownBlock ∨ v'.ownBlock = some (w.heap.size + 1)) :
    (w1.cell? ⟨g, 2, none⟩ = some ve ∧ w1.frozen? ⟨g, 2, none⟩ = false ∧ g < w1.heap.size) ∧ RW W0 g (w1.setCell ⟨g, 2, none⟩ v') { L with els := L.els ++ [x] } vs v' vj vg vb pl s := by
  obtain ⟨vr, h2, h3⟩ := h.box
  obtain ⟨f, f0, f1, f2, f3, f4, f5⟩ := h.own.tag
  have hgl := h2.lt
  have al := (Below.refl w.heap.size w).alloc (Nat.le_refl _) o
  have ha := h.next al
  have hsz : (w.alloc o).heap.size = w.heap.size + 1 := by simp
  have off := off_self f0 f2 (by decide)
  have hbox : w1.heap[g]? = _ := (hg.block g (by omega) (fun e => off e.symm)).trans ((al.block g hgl).trans h2)
  have B1 : Below W0.heap.size W0 w1 := ha.bel.grown hg ha.bel.size (fun k hk => (h.own.oe.lt k hk).1)
  have hs : w1.grownBy (w1.setCell ⟨g, 2, none⟩ v') (some g) := but_grown (set_but w1 2 v')
  have nv : v'.ownBlock = none ∨ v'.ownBlock ≠ some g := by
    rcases hb with e | e
    · rw [e]; exact .inr off
    · rw [e]; exact .inr (by simp; omega)
  refine ⟨⟨by rw [cell_of_row _ _ _ _ _ _ hbox]; rfl, frozen_of_row _ _ _ _ _ hbox, by have := hg.size; omega⟩, ⟨(set_but w1 2 v').below B1 B1.size h.hg, h.hg, ⟨vr, ?_, h3⟩, h.short, ?_⟩⟩
  · have := heap_setCell_same _ _ 2 _ _ v' hbox
    simpa [Box] using this
  · exact ⟨((h.own.os.alloc o).kept hg (off_other f1 f2 (by decide))).kept hs (.inr (off_self f0 f1 (by decide))),
    by
      have e := h1.kept hs nv
      rw [show L.els.flatMap Elem.cells ++ Elem.cells x = (L.els ++ [x]).flatMap Elem.cells by simp, ← show (L.els ++ [x]).length = L.els.length + 1 by simp] at e
      exact e,
    ((h.own.oj.alloc o).kept hg (off_other f3 f2 (by decide))).kept hs (.inr (off_self f0 f3 (by decide))),
    ((h.own.og.alloc o).kept hg (off_other f4 f2 (by decide))).kept hs (.inr (off_self f0 f4 (by decide))),
    ((h.own.ob.alloc o).kept hg (off_other f5 f2 (by decide))).kept hs (.inr (off_self f0 f5 (by decide))),
    ⟨fun b => if b = w.heap.size + 1 then 2 else f b, (if_neg (by omega)).trans f0, tag_old f1 (fun b e => (h.own.os.lt b e).2), tag_new f2 (fun b e => (h.own.oe.lt b e).2) hb, tag_old f3 (fun b e => (h.own.oj.lt b e).2), tag_old f4 (fun b e => (h.own.og.lt b e).2), tag_old f5 (fun b e => (h.own.ob.lt b e).2)⟩,
    h.own.name, h.own.secName, fun y hy => by
      rcases List.mem_append.1 hy with hy | hy
      · exact h.own.elName y hy
      · rw [List.mem_singleton.1 hy]; exact hx.1, h.own.sigName, fun y hy => by
      rcases List.mem_append.1 hy with hy | hy
      · exact h.own.ewf y hy
      · rw [List.mem_singleton.1 hy]; exact hx.2, h.own.jwf, h.own.swf, h.own.bwf⟩

theorem grow_j {W0 w w1 : World} {g : Nat} {L : Lay} {vs ve vj vg vb v' : Value} {pl : Int} {s : Rs} {o : Obj} (x : (Int × Int) × (Int × Int)) (h : RW W0 g w L vs ve vj vg vb pl s) (hx : jWf x)
    (h1 : w1.ownsRow W0.heap.size 49 4 v' (L.joints.length + 1) (L.joints.flatMap jCells ++ jCells x)) (hg : (w.alloc o).grownBy w1 vj.ownBlock) (hb : v'.ownBlock = vj.ownBlock ∨ v'.ownBlock = some (w.heap.size + 1)) :
    (w1.cell? ⟨g, 3, none⟩ = some vj ∧ w1.frozen? ⟨g, 3, none⟩ = false ∧ g < w1.heap.size) ∧ RW W0 g (w1.setCell ⟨g, 3, none⟩ v') { L with joints := L.joints ++ [x] } vs ve v' vg vb pl s := by
  obtain ⟨vr, h2, h3⟩ := h.box
  obtain ⟨f, f0, f1, f2, f3, f4, f5⟩ := h.own.tag
  have hgl := h2.lt
  have al := (Below.refl w.heap.size w).alloc (Nat.le_refl _) o
  have ha := h.next al
  have hsz : (w.alloc o).heap.size = w.heap.size + 1 := by simp
  have off := off_self f0 f3 (by decide)
  have hbox : w1.heap[g]? = _ := (hg.block g (by omega) (fun e => off e.symm)).trans ((al.block g hgl).trans h2)
  have B1 : Below W0.heap.size W0 w1 := ha.bel.grown hg ha.bel.size (fun k hk => (h.own.oj.lt k hk).1)
  have hs : w1.grownBy (w1.setCell ⟨g, 3, none⟩ v') (some g) := but_grown (set_but w1 3 v')
  have nv : v'.ownBlock = none ∨ v'.ownBlock ≠ some g := by
    rcases hb with e | e
    · rw [e]; exact .inr off
    · rw [e]; exact .inr (by simp; omega)
  refine ⟨⟨by rw [cell_of_row _ _ _ _ _ _ hbox]; rfl, frozen_of_row _ _ _ _ _ hbox, by have := hg.size; omega⟩, ⟨(set_but w1 3 v').below B1 B1.size h.hg, h.hg, ⟨vr, ?_, h3⟩, h.short, ?_⟩⟩
  · have := heap_setCell_same _ _ 3 _ _ v' hbox
    simpa [Box] using this
  · exact ⟨((h.own.os.alloc o).kept hg (off_other f1 f3 (by decide))).kept hs (.inr (off_self f0 f1 (by decide))),
    ((h.own.oe.alloc o).kept hg (off_other f2 f3 (by decide))).kept hs (.inr (off_self f0 f2 (by decide))),
    by
      have e := h1.kept hs nv
      rw [show L.joints.flatMap jCells ++ jCells x = (L.joints ++ [x]).flatMap jCells by simp, ← show (L.joints ++ [x]).length = L.joints.length + 1 by simp] at e
      exact e,
    ((h.own.og.alloc o).kept hg (off_other f4 f3 (by decide))).kept hs (.inr (off_self f0 f4 (by decide))),
    ((h.own.ob.alloc o).kept hg (off_other f5 f3 (by decide))).kept hs (.inr (off_self f0 f5 (by decide))),
    ⟨fun b => if b = w.heap.size + 1 then 3 else f b, (if_neg (by omega)).trans f0, tag_old f1 (fun b e => (h.own.os.lt b e).2), tag_old f2 (fun b e => (h.own.oe.lt b e).2), tag_new f3 (fun b e => (h.own.oj.lt b e).2) hb, tag_old f4 (fun b e => (h.own.og.lt b e).2), tag_old f5 (fun b e => (h.own.ob.lt b e).2)⟩,
    h.own.name, h.own.secName, h.own.elName, h.own.sigName, h.own.ewf, fun y hy => by
      rcases List.mem_append.1 hy with hy | hy
      · exact h.own.jwf y hy
      · rw [List.mem_singleton.1 hy]; exact hx, h.own.swf, h.own.bwf⟩

theorem grow_g {W0 w w1 : World} {g : Nat} {L : Lay} {vs ve vj vg vb v' : Value} {pl : Int} {s : Rs} {o : Obj} (x : Sig) (h : RW W0 g w L vs ve vj vg vb pl s) (hx : x.name.length ≤ maxLen ∧ x.Wf)
    (h1 : w1.ownsRow W0.heap.size 51 4 v' (L.sigs.length + 1) (L.sigs.flatMap Sig.cells ++ Sig.cells x)) (hg : (w.alloc o).grownBy w1 vg.ownBlock) (hb : v'.ownBlock = vg.ownBlock ∨ v'.ownBlock = some (w.heap.size + 1)) :
    (w1.cell? ⟨g, 4, none⟩ = some vg ∧ w1.frozen? ⟨g, 4, none⟩ = false ∧ g < w1.heap.size) ∧ RW W0 g (w1.setCell ⟨g, 4, none⟩ v') { L with sigs := L.sigs ++ [x] } vs ve vj v' vb pl s := by
  obtain ⟨vr, h2, h3⟩ := h.box
  obtain ⟨f, f0, f1, f2, f3, f4, f5⟩ := h.own.tag
  have hgl := h2.lt
  have al := (Below.refl w.heap.size w).alloc (Nat.le_refl _) o
  have ha := h.next al
  have hsz : (w.alloc o).heap.size = w.heap.size + 1 := by simp
  have off := off_self f0 f4 (by decide)
  have hbox : w1.heap[g]? = _ := (hg.block g (by omega) (fun e => off e.symm)).trans ((al.block g hgl).trans h2)
  have B1 : Below W0.heap.size W0 w1 := ha.bel.grown hg ha.bel.size (fun k hk => (h.own.og.lt k hk).1)
  have hs : w1.grownBy (w1.setCell ⟨g, 4, none⟩ v') (some g) := but_grown (set_but w1 4 v')
  have nv : v'.ownBlock = none ∨ v'.ownBlock ≠ some g := by
    rcases hb with e | e
    · rw [e]; exact .inr off
    · rw [e]; exact .inr (by simp; omega)
  refine ⟨⟨by rw [cell_of_row _ _ _ _ _ _ hbox]; rfl, frozen_of_row _ _ _ _ _ hbox, by have := hg.size; omega⟩, ⟨(set_but w1 4 v').below B1 B1.size h.hg, h.hg, ⟨vr, ?_, h3⟩, h.short, ?_⟩⟩
  · have := heap_setCell_same _ _ 4 _ _ v' hbox
    simpa [Box] using this
  · exact ⟨((h.own.os.alloc o).kept hg (off_other f1 f4 (by decide))).kept hs (.inr (off_self f0 f1 (by decide))),
    ((h.own.oe.alloc o).kept hg (off_other f2 f4 (by decide))).kept hs (.inr (off_self f0 f2 (by decide))),
    ((h.own.oj.alloc o).kept hg (off_other f3 f4 (by decide))).kept hs (.inr (off_self f0 f3 (by decide))),
    by
      have e := h1.kept hs nv
      rw [show L.sigs.flatMap Sig.cells ++ Sig.cells x = (L.sigs ++ [x]).flatMap Sig.cells by simp, ← show (L.sigs ++ [x]).length = L.sigs.length + 1 by simp] at e
      exact e,
    ((h.own.ob.alloc o).kept hg (off_other f5 f4 (by decide))).kept hs (.inr (off_self f0 f5 (by decide))),
    ⟨fun b => if b = w.heap.size + 1 then 4 else f b, (if_neg (by omega)).trans f0, tag_old f1 (fun b e => (h.own.os.lt b e).2), tag_old f2 (fun b e => (h.own.oe.lt b e).2), tag_old f3 (fun b e => (h.own.oj.lt b e).2), tag_new f4 (fun b e => (h.own.og.lt b e).2) hb, tag_old f5 (fun b e => (h.own.ob.lt b e).2)⟩,
    h.own.name, h.own.secName, h.own.elName, fun y hy => by
      rcases List.mem_append.1 hy with hy | hy
      · exact h.own.sigName y hy
      · rw [List.mem_singleton.1 hy]; exact hx.1, h.own.ewf, h.own.jwf, fun y hy => by
      rcases List.mem_append.1 hy with hy | hy
      · exact h.own.swf y hy
      · rw [List.mem_singleton.1 hy]; exact hx.2, h.own.bwf⟩

theorem grow_b {W0 w w1 : World} {g : Nat} {L : Lay} {vs ve vj vg vb v' : Value} {pl : Int} {s : Rs} {o : Obj} (x : Bal) (h : RW W0 g w L vs ve vj vg vb pl s) (hx : x.Wf)
    (h1 : w1.ownsRow W0.heap.size 59 3 v' (L.bals.length + 1) (L.bals.flatMap Bal.cells ++ Bal.cells x)) (hg : (w.alloc o).grownBy w1 vb.ownBlock) (hb : v'.ownBlock = vb.ownBlock ∨ v'.ownBlock = some (w.heap.size + 1)) :
    (w1.cell? ⟨g, 5, none⟩ = some vb ∧ w1.frozen? ⟨g, 5, none⟩ = false ∧ g < w1.heap.size) ∧ RW W0 g (w1.setCell ⟨g, 5, none⟩ v') { L with bals := L.bals ++ [x] } vs ve vj vg v' pl s := by
  obtain ⟨vr, h2, h3⟩ := h.box
  obtain ⟨f, f0, f1, f2, f3, f4, f5⟩ := h.own.tag
  have hgl := h2.lt
  have al := (Below.refl w.heap.size w).alloc (Nat.le_refl _) o
  have ha := h.next al
  have hsz : (w.alloc o).heap.size = w.heap.size + 1 := by simp
  have off := off_self f0 f5 (by decide)
  have hbox : w1.heap[g]? = _ := (hg.block g (by omega) (fun e => off e.symm)).trans ((al.block g hgl).trans h2)
  have B1 : Below W0.heap.size W0 w1 := ha.bel.grown hg ha.bel.size (fun k hk => (h.own.ob.lt k hk).1)
  have hs : w1.grownBy (w1.setCell ⟨g, 5, none⟩ v') (some g) := but_grown (set_but w1 5 v')
  have nv : v'.ownBlock = none ∨ v'.ownBlock ≠ some g := by
    rcases hb with e | e
    · rw [e]; exact .inr off
    · rw [e]; exact .inr (by simp; omega)
  refine ⟨⟨by rw [cell_of_row _ _ _ _ _ _ hbox]; rfl, frozen_of_row _ _ _ _ _ hbox, by have := hg.size; omega⟩, ⟨(set_but w1 5 v').below B1 B1.size h.hg, h.hg, ⟨vr, ?_, h3⟩, h.short, ?_⟩⟩
  · have := heap_setCell_same _ _ 5 _ _ v' hbox
    simpa [Box] using this
  · exact ⟨((h.own.os.alloc o).kept hg (off_other f1 f5 (by decide))).kept hs (.inr (off_self f0 f1 (by decide))),
    ((h.own.oe.alloc o).kept hg (off_other f2 f5 (by decide))).kept hs (.inr (off_self f0 f2 (by decide))),
    ((h.own.oj.alloc o).kept hg (off_other f3 f5 (by decide))).kept hs (.inr (off_self f0 f3 (by decide))),
    ((h.own.og.alloc o).kept hg (off_other f4 f5 (by decide))).kept hs (.inr (off_self f0 f4 (by decide))),
    by
      have e := h1.kept hs nv
      rw [show L.bals.flatMap Bal.cells ++ Bal.cells x = (L.bals ++ [x]).flatMap Bal.cells by simp, ← show (L.bals ++ [x]).length = L.bals.length + 1 by simp] at e
      exact e,
    ⟨fun b => if b = w.heap.size + 1 then 5 else f b, (if_neg (by omega)).trans f0, tag_old f1 (fun b e => (h.own.os.lt b e).2), tag_old f2 (fun b e => (h.own.oe.lt b e).2), tag_old f3 (fun b e => (h.own.oj.lt b e).2), tag_old f4 (fun b e => (h.own.og.lt b e).2), tag_new f5 (fun b e => (h.own.ob.lt b e).2) hb⟩,
    h.own.name, h.own.secName, h.own.elName, h.own.sigName, h.own.ewf, h.own.jwf, h.own.swf, fun y hy => by
      rcases List.mem_append.1 hy with hy | hy
      · exact h.own.bwf y hy
      · rw [List.mem_singleton.1 hy]; exact hx⟩

end Go.Proofs.YtfdipcphohhlgaaGreatDoor.Rdo

/- append of rows of several cells in a region that draws its order. -/
namespace Go.Proofs.YtfdipcphohhlgaaGreatDoor.Lapp
open Go.RowKit Go.Lib Go.Proofs.YtfdipcphohhlgaaGreatDoor.Lay Go.Proofs.YtfdipcphohhlgaaGreatDoor.Rows2

theorem step_append_rows {P : Program} {ops : Array Oper} {o : Oper} {a : Act} {w : World} {K : Act → World → Prop} {Q : Exit → Act → World → Prop} {E : Prop}
    (hg : o.guard = none) (s x : Operand) (t : TypeId) (hop : o.op = Op.call { callee := Callee.builtin Builtin.append, args := #[s, x], argTypes := #[t, t] })
    (base : Nat) (e : TypeId) (i : TypeInfo) (z : Value) (size bytes : Nat) (ht : P.underlying t = some (.slice e)) (hi : P.info? e = some i) (hz : i.zero = some z)
    (hsize : i.size = size) (hby : i.bytes = bytes) (hzs : z.cells.size = size) (hsz : 0 < size)
    (v : Value) (n : Nat) (xs : List Value) (hs : a.eval s = v) (hown : w.ownsRow base e size v n xs)
    (ad : Addr) (m c : Nat) (news : List Value) (hx : a.eval x = .slice (some ad) m c) (hl : news.length = m * size) (hnews : ∀ j u, news[j]? = some u → w.cell? (ad.add j) = some u) (h1 : ∀ u ∈ news, u.oneCell' = true)
    (h63 : n + m ≤ maxLen) (hbytes : (n + m) * bytes ≤ 140737488355328) (hbase : base ≤ w.heap.size)
    (h : ∀ v' w', w'.ownsRow base e size v' (n + m) (xs ++ news) → w.grownBy w' v.ownBlock → K (a.put o.dst v') w') :
    if Region.wanted o (yielded ops a.tmps) = true then Oper.wp P o a w K Q else E := by
  have hw : Region.wanted o (yielded ops a.tmps) = true := by simp [Region.wanted, hg]
  rw [if_pos hw]
  obtain ⟨v', w', hr, h2, h3, _, _⟩ := run_append_own_at (P := P) w base t o.type e i z size bytes ht hi hz hsize hby hzs hsz v n xs hown ad m c news hl hnews h1 h63 hbytes hbase
  unfold Oper.wp execOp
  simp only [hop, resolve, invoke, builtin, Sem.run_bind, Sem.run_pure, Result.andThen_ok, List.map_toArray, List.map_cons, List.map_nil, hs, hx, hr]
  exact h v' w' h2 h3

/-- The cells of rows, one behind the other. -/
theorem rows_cells {w : World} {b sz : Nat} : ∀ {rows : List (List Value)} {off : Nat}, (∀ i r, rows[i]? = some r → ∀ j x, r[j]? = some x → w.cell? ⟨b, off + i * sz + j, none⟩ = some x) → (∀ r ∈ rows, r.length = sz) →
    ∀ j u, rows.flatten[j]? = some u → w.cell? ⟨b, off + j, none⟩ = some u
  | [], _, _, _, j, u, h => by simp at h
  | r :: rows, off, hc, hl, j, u, h => by
    rw [List.flatten_cons] at h
    have hr : r.length = sz := hl r List.mem_cons_self
    by_cases hj : j < r.length
    · rw [List.getElem?_append_left hj] at h
      have := hc 0 r rfl j u h
      rwa [Nat.zero_mul, Nat.add_zero] at this
    · rw [List.getElem?_append_right (by omega)] at h
      have := rows_cells (rows := rows) (off := off + sz) (fun i q hq j x hx => by
        have := hc (i + 1) q (by simpa using hq) j x hx
        rwa [Nat.succ_mul, show off + (i * sz + sz) + j = off + sz + i * sz + j by omega] at this) (fun q hq => hl q (List.mem_cons_of_mem _ hq)) (j - r.length) u h
      rwa [hr, show off + sz + (j - sz) = off + j by omega] at this
theorem rows_take {w : World} {b sz off k : Nat} {rows : List (List Value)} (hc : ∀ i r, rows[i]? = some r → ∀ j x, r[j]? = some x → w.cell? ⟨b, off + i * sz + j, none⟩ = some x) (hl : ∀ r ∈ rows, r.length = sz) :
    ∀ j u, (rows.take k).flatten[j]? = some u → w.cell? ⟨b, off + j, none⟩ = some u :=
  rows_cells (fun i r hr => hc i r (by
    rw [List.getElem?_take] at hr
    split at hr
    · exact hr
    · cases hr)) fun r hr => hl r (List.mem_of_mem_take hr)
theorem rows_drop {w : World} {b sz off k : Nat} {rows : List (List Value)} (hc : ∀ i r, rows[i]? = some r → ∀ j x, r[j]? = some x → w.cell? ⟨b, off + i * sz + j, none⟩ = some x) (hl : ∀ r ∈ rows, r.length = sz) :
    ∀ j u, (rows.drop k).flatten[j]? = some u → w.cell? ⟨b, off + k * sz + j, none⟩ = some u :=
  rows_cells (fun i r hr j x hx => by
    have := hc (k + i) r (by rwa [List.getElem?_drop] at hr) j x hx
    rwa [Nat.add_mul, show off + (k * sz + i * sz) + j = off + k * sz + i * sz + j by omega] at this) fun r hr => hl r (List.mem_of_mem_drop hr)
theorem rows_len {sz : Nat} : ∀ {rows : List (List Value)}, (∀ r ∈ rows, r.length = sz) → rows.flatten.length = rows.length * sz
  | [], _ => by simp
  | r :: rows, h => by
    rw [List.flatten_cons, List.length_append, rows_len fun q hq => h q (List.mem_cons_of_mem _ hq), h r List.mem_cons_self, List.length_cons, Nat.succ_mul]
    omega

end Go.Proofs.YtfdipcphohhlgaaGreatDoor.Lapp

/- The program's reader reads a line: what all forms use. -/
namespace Go.Proofs.YtfdipcphohhlgaaGreatDoor.Rla
open Go.RowKit Go.Lib Go.Proofs.YtfdipcphohhlgaaGreatDoor.Reads Go.Proofs.YtfdipcphohhlgaaGreatDoor.Rows2 Go.Proofs.YtfdipcphohhlgaaGreatDoor.Lay Go.Proofs.YtfdipcphohhlgaaGreatDoor.Layf Go.Proofs.YtfdipcphohhlgaaGreatDoor.Lcon Go.Proofs.YtfdipcphohhlgaaGreatDoor.Ldup Go.Proofs.YtfdipcphohhlgaaGreatDoor.Lext Go.Proofs.YtfdipcphohhlgaaGreatDoor.Lnmd Go.Proofs.YtfdipcphohhlgaaGreatDoor.Numt Go.Proofs.YtfdipcphohhlgaaGreatDoor.Plnf Go.Proofs.YtfdipcphohhlgaaGreatDoor.Pkin Go.Proofs.YtfdipcphohhlgaaGreatDoor.Prds Go.Proofs.YtfdipcphohhlgaaGreatDoor.Pelm Go.Proofs.YtfdipcphohhlgaaGreatDoor.Rdr Go.Proofs.YtfdipcphohhlgaaGreatDoor.Rdk Go.Proofs.YtfdipcphohhlgaaGreatDoor.Rdx Go.Proofs.YtfdipcphohhlgaaGreatDoor.Rdn Go.Proofs.YtfdipcphohhlgaaGreatDoor.Rde
open Go.Proofs.YtfdipcphohhlgaaGreatDoor.Debw (Deb)
open Go.Proofs.YtfdipcphohhlgaaGreatDoor.Text hiding lineL joinR

/-- What a call of read gives: the error, and, where there is none, a reader with what the line says. -/
def ReadOut (W0 : World) (g : Nat) (pl : Int) (L' : Lay) (s' : Rs) (r : Int) (e : Ending) (w' : World) : Prop :=
  e = .returned (.int .i64 r) ∧ Below W0.heap.size W0 w' ∧ (r = 0 → ∃ vs ve vj vg vb, RW W0 g w' L' vs ve vj vg vb pl s')
theorem ReadOut.of {W0 w' : World} {g : Nat} {pl : Int} {L' : Lay} {s' : Rs} {vs ve vj vg vb : Value} (h : RW W0 g w' L' vs ve vj vg vb pl s') : ReadOut W0 g pl L' s' (finE s') (.returned (.int .i64 (finE s'))) w' := ⟨rfl, h.bel, fun _ => ⟨_, _, _, _, _, h⟩⟩

/-- The head of a line. -/
theorem line_head {W0 : World} {lv : Value} {k : List UInt8} {r : List (List UInt8)} (h : Strs (In W0) W0 lv (k :: r)) :
    ∃ b off c, lv = .slice (some ⟨b, off, none⟩) (r.length + 1) c ∧ b < W0.heap.size ∧ (r.length + 1 : Int) ≤ 9223372036854775807 ∧ W0.cell? ⟨b, off, none⟩ = some (.string (bs k)) ∧
      ∃ ad c', (∀ w, (Instr.slice 22 (.slice (some ⟨b, off, none⟩) (r.length + 1) c) (some (.int .i64 1)) none none).run Tryz.prog w = .ok (.slice (some ad) r.length c') w) ∧ Strs (In W0) W0 (.slice (some ad) r.length c') r := by
  obtain ⟨a, c, he, hn, hc, hnc, hw⟩ := h.shape
  obtain ⟨hxs, b, off, rfl, hb, hx⟩ := hw 0 k rfl
  subst he
  exact ⟨b, off, c, rfl, hb, by simpa using hn, by simpa using hx, cut_tail (r := r) h⟩
/-- The reader at a line's beginning. -/
theorem line_start {W0 w : World} {g : Nat} {L : Lay} {vs ve vj vg vb v : Value} {pl p : Int} {ws0 r : List (List UInt8)} (h : RW W0 g w L vs ve vj vg vb pl ⟨ws0, false, false⟩) (hr : Strs (In W0) W0 v r) (hs : ∀ x ∈ r, x.length ≤ 40000) :
    RW W0 g (((w.setCell ⟨g, 6, none⟩ (.int .i64 p)).setCell ⟨g, 7, none⟩ v).drew) L vs ve vj vg vb p ⟨r, false, false⟩ := by
  obtain ⟨vr, h1, h2⟩ := h.box
  refine RW.drew (h.to (vr := v) (((But.refl g w.heap.size w).setCell (.inl rfl) _).setCell (.inl rfl) _) ?_ hr hs)
  have h6 := heap_setCell_same _ _ 6 _ _ (.int .i64 p) h1
  have h7 := heap_setCell_same _ _ 7 _ _ v h6
  simpa [Box] using h7
theorem set_name {W0 w : World} {g : Nat} {L : Lay} {vs ve vj vg vb : Value} {pl : Int} {s : Rs} (n : List UInt8) (h : RW W0 g w L vs ve vj vg vb pl s) (hn : n.length ≤ maxLen) :
    RW W0 g (w.setCell ⟨g, 0, none⟩ (.string (bs n))) { L with name := n } vs ve vj vg vb pl s := by
  obtain ⟨vr, h1, h2⟩ := h.box
  have hb := set_but (g := g) w 0 (.string (bs n))
  have o := h.own.but hb
  refine ⟨hb.below h.bel h.bel.size h.hg, h.hg, ⟨vr, ?_, h2⟩, h.short, ⟨o.os, o.oe, o.oj, o.og, o.ob, o.tag, hn, o.secName, o.elName, o.sigName, o.ewf, o.jwf, o.swf, o.bwf⟩⟩
  have h6 := heap_setCell_same _ _ 0 _ _ (.string (bs n)) h1
  simpa [Box] using h6

theorem infoSt : (Tryz.prog.info? 9).map (fun i => (i.zero, i.size, i.bytes)) = some (some (.string ByteArray.empty), 1, 16) := by kernel_rfl
theorem infoEl : (Tryz.prog.info? 45).map (fun i => (i.zero, i.size, i.bytes)) = some (some (.agg #[.string ByteArray.empty, .int .i64 0, .int .i64 0, .int .i64 0, .int .i64 0, .int .i64 0, .int .i64 0]), 7, 64) := by kernel_rfl
theorem infoBa : (Tryz.prog.info? 59).map (fun i => (i.zero, i.size, i.bytes)) = some (some (.agg #[.int .i64 0, .int .i64 0, .int .i64 0]), 3, 24) := by kernel_rfl
theorem infoSg : (Tryz.prog.info? 51).map (fun i => (i.zero, i.size, i.bytes)) = some (some (.agg #[.string ByteArray.empty, .int .i64 0, .int .i64 0, .int .i64 0]), 4, 40) := by kernel_rfl
theorem infoJt : (Tryz.prog.info? 49).map (fun i => (i.zero, i.size, i.bytes)) = some (some (.agg #[.int .i64 0, .int .i64 0, .int .i64 0, .int .i64 0]), 4, 32) := by kernel_rfl
theorem own_any {B n sz : Nat} {e : TypeId} {v : Value} {xs : List Value} {w : World} (h : w.ownsRow B e sz v n xs) : ∃ A C, v = .slice A n C := by
  obtain ⟨_, hor⟩ := h
  rcases hor with ⟨rfl, h0⟩ | ⟨g, cap, cur, rfl, _⟩
  · subst h0
    exact ⟨none, 0, rfl⟩
  · exact ⟨_, _, rfl⟩

theorem RW.glt {W0 w : World} {g : Nat} {L : Lay} {vs ve vj vg vb : Value} {pl : Int} {s : Rs} (h : RW W0 g w L vs ve vj vg vb pl s) : g < w.heap.size := by
  obtain ⟨vr, h1, _⟩ := h.box
  exact h1.lt

/-! What is read is well formed. -/
theorem int_wf {x : Int} (h0 : -9223372036854775808 ≤ x) (h1 : x ≤ 9223372036854775807) : Wf x := WalkArith.wf_i64 (by omega)
theorem intN_wf (n : List UInt8) : Wf (intN n) := by
  have := intR_range n
  exact int_wf this.1 this.2
theorem first_wf {α : Type} {p : α → Bool} {l : List α} (h : l.length ≤ 100000) : Wf (firstI p 0 l) := by
  have hb : ∀ (l : List α) (i : Nat), -1 ≤ firstI p i l ∧ firstI p i l ≤ ((i + l.length : Nat) : Int) := by
    intro l
    induction l with
    | nil => intro i; simp only [firstI, List.length_nil]; omega
    | cons x l ih =>
      intro i
      cases hp : p x with
      | true => rw [firstI_yes hp, List.length_cons]; omega
      | false =>
        rw [firstI_no hp, List.length_cons]
        have := ih (i + 1)
        omega
  have := hb l 0
  exact int_wf (by omega) (by omega)
theorem kind_wf (n : List UInt8) : Wf (kindOf n) := by
  unfold kindOf
  split
  · exact int_wf (by omega) (by omega)
  · split
    · exact int_wf (by omega) (by omega)
    · split
      · exact int_wf (by omega) (by omega)
      · exact int_wf (by omega) (by omega)
theorem end_wf {L : Lay} (s : Rs) (h : L.els.length ≤ 100000) : pWf (endX L s) := ⟨first_wf h, intN_wf _⟩
theorem elem_wf {L : Lay} (n : List UInt8) (s : Rs) (h : L.secs.length ≤ 100000) : (elemX (kindOf n) L s).Wf := by
  refine ⟨kind_wf n, intN_wf _, intN_wf _, intN_wf _, ?_, first_wf h⟩
  show Wf (if kindOf n = 2 then _ else 0)
  split
  · exact intN_wf _
  · exact int_wf (by omega) (by omega)
theorem tail_short {s : Rs} (h : ∀ x ∈ s.ws, x.length ≤ 40000) : ∀ x ∈ s.ws.tail, x.length ≤ 40000 := fun x hx => h x (List.mem_of_mem_tail hx)

/-- A row behind the others, in a region that draws its order. -/
theorem step_row {P : Program} {ops : Array Oper} {o : Oper} {a : Act} {w : World} {K : Act → World → Prop} {Q : Exit → Act → World → Prop} {E : Prop}
    (hg : o.guard = none) (s x : Operand) (t : TypeId) (hop : o.op = Op.call { callee := Callee.builtin Builtin.append, args := #[s, x], argTypes := #[t, t] })
    (base : Nat) (e : TypeId) (i : TypeInfo) (z : Value) (size bytes : Nat) (ht : P.underlying t = some (.slice e)) (hi : P.info? e = some i) (hz : i.zero = some z)
    (hsize : i.size = size) (hby : i.bytes = bytes) (hzs : z.cells.size = size) (hsz : 0 < size)
    (v : Value) (n : Nat) (xs : List Value) (hs : a.eval s = v) (hown : w.ownsRow base e size v n xs)
    (T : TypeId) (news : List Value) (hx : a.eval x = .slice (some ⟨w.heap.size, 0, none⟩) 1 1) (hl : news.length = size) (h1 : ∀ u ∈ news, u.oneCell' = true)
    (h63 : n + 1 ≤ maxLen) (hbytes : (n + 1) * bytes ≤ 140737488355328) (hbase : base ≤ w.heap.size)
    (h : ∀ v' w', w'.ownsRow base e size v' (n + 1) (xs ++ news) → (w.alloc (.cells news.toArray T)).grownBy w' v.ownBlock → (v'.ownBlock = v.ownBlock ∨ v'.ownBlock = some (w.heap.size + 1)) → K (a.put o.dst v') w') :
    if Region.wanted o (yielded ops a.tmps) = true then Oper.wp P o a (w.alloc (.cells news.toArray T)) K Q else E := by
  have hw : Region.wanted o (yielded ops a.tmps) = true := by simp [Region.wanted, hg]
  rw [if_pos hw]
  have hcells : ∀ j u, news[j]? = some u → (w.alloc (.cells news.toArray T)).cell? ((⟨w.heap.size, 0, none⟩ : Addr).add j) = some u := by
    intro j u hj
    rw [Lnam.add_mk, World.cell?_alloc_at _ _ _ _ rfl]
    simpa using hj
  obtain ⟨v', w', hr, h2, h3, _, h5⟩ := run_append_own_at (P := P) (w.alloc (.cells news.toArray T)) base t o.type e i z size bytes ht hi hz hsize hby hzs hsz v n xs (hown.alloc _) ⟨w.heap.size, 0, none⟩ 1 1 news (by omega) hcells h1 h63 hbytes (by simp; omega)
  unfold Oper.wp execOp
  simp only [hop, resolve, invoke, builtin, Sem.run_bind, Sem.run_pure, Result.andThen_ok, List.map_toArray, List.map_cons, List.map_nil, hs, hx, hr]
  exact h v' w' h2 h3 (by simpa using h5)

end Go.Proofs.YtfdipcphohhlgaaGreatDoor.Rla

/- The program's reader reads a line: the name of the layout. -/
namespace Go.Proofs.YtfdipcphohhlgaaGreatDoor.Rl1
open Go.RowKit Go.Lib Go.Proofs.YtfdipcphohhlgaaGreatDoor.Reads Go.Proofs.YtfdipcphohhlgaaGreatDoor.Rows2 Go.Proofs.YtfdipcphohhlgaaGreatDoor.Lay Go.Proofs.YtfdipcphohhlgaaGreatDoor.Layf Go.Proofs.YtfdipcphohhlgaaGreatDoor.Lcon Go.Proofs.YtfdipcphohhlgaaGreatDoor.Ldup Go.Proofs.YtfdipcphohhlgaaGreatDoor.Lext Go.Proofs.YtfdipcphohhlgaaGreatDoor.Lnmd Go.Proofs.YtfdipcphohhlgaaGreatDoor.Numt Go.Proofs.YtfdipcphohhlgaaGreatDoor.Plnf Go.Proofs.YtfdipcphohhlgaaGreatDoor.Pkin Go.Proofs.YtfdipcphohhlgaaGreatDoor.Prds Go.Proofs.YtfdipcphohhlgaaGreatDoor.Pelm Go.Proofs.YtfdipcphohhlgaaGreatDoor.Rdr Go.Proofs.YtfdipcphohhlgaaGreatDoor.Rdk Go.Proofs.YtfdipcphohhlgaaGreatDoor.Rdx Go.Proofs.YtfdipcphohhlgaaGreatDoor.Rdn Go.Proofs.YtfdipcphohhlgaaGreatDoor.Rde Go.Proofs.YtfdipcphohhlgaaGreatDoor.Rdo Go.Proofs.YtfdipcphohhlgaaGreatDoor.Rla
open Go.Proofs.YtfdipcphohhlgaaGreatDoor.Debw (Deb)
open Go.Proofs.YtfdipcphohhlgaaGreatDoor.Text hiding lineL joinR
set_option linter.unusedVariables false

set_option maxRecDepth 100000 in
set_option maxHeartbeats 3200000 in
theorem read_1 {W0 w : World} {g : Nat} {L : Lay} {vs ve vj vg vb lv : Value} {pl : Int} {ws0 : List (List UInt8)} {k : List UInt8} {r : List (List UInt8)} (hd : Deb W0) (h : RW W0 g w L vs ve vj vg vb pl ⟨ws0, false, false⟩) (hl : Strs (In W0) W0 lv (k :: r)) (hsh : ∀ x ∈ r, x.length ≤ 40000)
    (hns : L.secs.length ≤ 100000) (hne : L.els.length ≤ 100000) (hnj : L.joints.length ≤ 100000) (hng : L.sigs.length ≤ 100000) (hnb : L.bals.length ≤ 100000) (hc : canB pl (placeF k) = true) (hp : placeF k = 1) :
    Calls Tryz.prog 40 #[.pointer (some ⟨g, 0, none⟩), lv] w (ReadOut W0 g 1 (progL L (k :: r)).2 (progL L (k :: r)).1 (finE (progL L (k :: r)).1)) := by
  obtain ⟨b, off, c, rfl, hb, hn, hx, ad, c', hsl, hs2⟩ := line_head hl
  have x0 := (h.bel.cell (p := ⟨b, off, none⟩) hb).trans hx
  have H0 := Lib.hid h
  have HP := Lib.hid (fun w => place_any k w)
  have HC := Lib.hid (fun w' (q : RW W0 g w' L vs ve vj vg vb pl ⟨ws0, false, false⟩) => can_any 1 q)
  rw [hp] at HP hc
  rw [hc] at HC
  have HST := Lib.hid (fun w' (q : RW W0 g w' L vs ve vj vg vb pl ⟨ws0, false, false⟩) => line_start (p := 1) q hs2 hsh)
  have HL := Lib.hid (fun w' (q : RW W0 g w' L vs ve vj vg vb 1 ⟨r, false, false⟩) => word_any q)
  have HPR : Hid (progL L (k :: r) = (Rs.word ⟨r, false, false⟩, { L with name := Rs.hd ⟨r, false, false⟩ })) := by
    show _ = _
    simp [progL, hp]
  have HSH : Hid ((Rs.hd ⟨r, false, false⟩).length ≤ maxLen) := by
    have := hd_short (s := ⟨r, false, false⟩) hsh
    show _ ≤ _
    unfold maxLen
    omega
  obtain ⟨n, hn1⟩ : ∃ n, Rs.hd ⟨r, false, false⟩ = n := ⟨_, rfl⟩
  obtain ⟨s', hs'⟩ : ∃ n, Rs.word ⟨r, false, false⟩ = n := ⟨_, rfl⟩
  rw [hn1] at HL HPR HSH
  rw [hs'] at HL HPR
  have HE := Lib.hid (fun w' (q : RW W0 g w' { L with name := n } vs ve vj vg vb 1 s') => lerr_any q)
  obtain ⟨f, hf⟩ : ∃ n, finE s' = n := ⟨_, rfl⟩
  rw [hf] at HE
  have HF := Lib.hid hf
  clear hn1 hs' hf
  obtain ⟨N, hN⟩ : ∃ N, r.length + 1 = N := ⟨_, rfl⟩
  have hN2 : (N : Int) ≤ 9223372036854775807 := by omega
  rw [hN] at hsl
  have q3 : 0 < N := by omega
  have q4 : (0 : Int) < (N : Int) := by omega
  rw [hN]
  clear h hl hn hN hc hsh hs2
  go_enter Tryz.func40, Tryz.ntmps40
  go_wp2_with fail
  refine (HP.out _).mono ?_
  rintro e w1 ⟨rfl, b1⟩
  have R1 := Lib.hid (H0.out.next b1)
  clear b1 x0
  go_wp2_with fail
  refine (HC.out _ R1.out).mono ?_
  rintro e w2 ⟨rfl, rfl⟩
  obtain ⟨vr, hbx, hbr⟩ := R1.out.box
  obtain ⟨-, -, -, -, -, -, y6, y7, -, -⟩ := hbx.cells
  have z6 := hbx.frozen 6
  have z7 := hbx.frozen 7
  have hlt := hbx.lt
  clear hbx hbr
  go_wp2_with fail
  go_region
  have T4 := HST.out _ R1.out
  obtain ⟨W4, hW4⟩ : ∃ x, ((w2.setCell ⟨g, 6, none⟩ (.int .i64 1)).setCell ⟨g, 7, none⟩ (.slice (some ad) r.length c')).drew = x := ⟨_, rfl⟩
  rw [hW4] at T4 ⊢
  have R4 := Lib.hid T4
  clear T4 hW4 y6 y7 z6 z7 hlt
  go_wp2_with fail
  refine (HL.out _ R4.out).mono ?_
  rintro e w5 ⟨rfl, r5⟩
  have R5 := Lib.hid r5.rw
  have R6 := Lib.hid (set_name n r5.rw HSH.out)
  obtain ⟨vr, hbx, hbr⟩ := r5.rw.box
  obtain ⟨y0, -, -, -, -, -, -, -, -, -⟩ := hbx.cells
  have z0 := hbx.frozen 0
  have hlt := hbx.lt
  clear hbx hbr r5
  go_wp2_with fail
  refine (HE.out _ R6.out).mono ?_
  rintro e w7 ⟨rfl, rfl⟩
  go_wp2_with fail
  go_ret
  rw [HPR.out, HF.out]
  have := ReadOut.of R6.out
  rwa [HF.out] at this

end Go.Proofs.YtfdipcphohhlgaaGreatDoor.Rl1

/- The program's reader reads a line: a section. -/
namespace Go.Proofs.YtfdipcphohhlgaaGreatDoor.Rl2
open Go.RowKit Go.Lib Go.Proofs.YtfdipcphohhlgaaGreatDoor.Reads Go.Proofs.YtfdipcphohhlgaaGreatDoor.Rows2 Go.Proofs.YtfdipcphohhlgaaGreatDoor.Lay Go.Proofs.YtfdipcphohhlgaaGreatDoor.Layf Go.Proofs.YtfdipcphohhlgaaGreatDoor.Lcon Go.Proofs.YtfdipcphohhlgaaGreatDoor.Ldup Go.Proofs.YtfdipcphohhlgaaGreatDoor.Lext Go.Proofs.YtfdipcphohhlgaaGreatDoor.Lnmd Go.Proofs.YtfdipcphohhlgaaGreatDoor.Numt Go.Proofs.YtfdipcphohhlgaaGreatDoor.Plnf Go.Proofs.YtfdipcphohhlgaaGreatDoor.Pkin Go.Proofs.YtfdipcphohhlgaaGreatDoor.Prds Go.Proofs.YtfdipcphohhlgaaGreatDoor.Pelm Go.Proofs.YtfdipcphohhlgaaGreatDoor.Rdr Go.Proofs.YtfdipcphohhlgaaGreatDoor.Rdk Go.Proofs.YtfdipcphohhlgaaGreatDoor.Rdx Go.Proofs.YtfdipcphohhlgaaGreatDoor.Rdn Go.Proofs.YtfdipcphohhlgaaGreatDoor.Rde Go.Proofs.YtfdipcphohhlgaaGreatDoor.Rdo Go.Proofs.YtfdipcphohhlgaaGreatDoor.Rla
open Go.Proofs.YtfdipcphohhlgaaGreatDoor.Debw (Deb)
open Go.Proofs.YtfdipcphohhlgaaGreatDoor.Text hiding lineL joinR
set_option linter.unusedVariables false

set_option maxRecDepth 100000 in
set_option maxHeartbeats 3200000 in
theorem read_2 {W0 w : World} {g : Nat} {L : Lay} {vs ve vj vg vb lv : Value} {pl : Int} {ws0 : List (List UInt8)} {k : List UInt8} {r : List (List UInt8)} (hd : Deb W0) (h : RW W0 g w L vs ve vj vg vb pl ⟨ws0, false, false⟩) (hl : Strs (In W0) W0 lv (k :: r)) (hsh : ∀ x ∈ r, x.length ≤ 40000)
    (hns : L.secs.length ≤ 100000) (hne : L.els.length ≤ 100000) (hnj : L.joints.length ≤ 100000) (hng : L.sigs.length ≤ 100000) (hnb : L.bals.length ≤ 100000) (hc : canB pl (placeF k) = true) (hp : placeF k = 2) :
    Calls Tryz.prog 40 #[.pointer (some ⟨g, 0, none⟩), lv] w (ReadOut W0 g 2 (progL L (k :: r)).2 (progL L (k :: r)).1 (finE (progL L (k :: r)).1)) := by
  obtain ⟨b, off, c, rfl, hb, hn, hx, ad, c', hsl, hs2⟩ := line_head hl
  have x0 := (h.bel.cell (p := ⟨b, off, none⟩) hb).trans hx
  have H0 := Lib.hid h
  have HP := Lib.hid (fun w => place_any k w)
  have HC := Lib.hid (fun w' (q : RW W0 g w' L vs ve vj vg vb pl ⟨ws0, false, false⟩) => can_any 2 q)
  rw [hp] at HP hc
  rw [hc] at HC
  have HST := Lib.hid (fun w' (q : RW W0 g w' L vs ve vj vg vb pl ⟨ws0, false, false⟩) => line_start (p := 2) q hs2 hsh)
  have HL := Lib.hid (fun w' (q : RW W0 g w' L vs ve vj vg vb 2 ⟨r, false, false⟩) => word_any q)
  have HPR : Hid (progL L (k :: r) = (Rs.word ⟨r, false, false⟩, { L with secs := L.secs ++ [Rs.hd ⟨r, false, false⟩] })) := by
    show _ = _
    simp [progL, hp]
  have HSH : Hid ((Rs.hd ⟨r, false, false⟩).length ≤ maxLen) := by
    have := hd_short (s := ⟨r, false, false⟩) hsh
    show _ ≤ _
    unfold maxLen
    omega
  obtain ⟨n, hn1⟩ : ∃ n, Rs.hd ⟨r, false, false⟩ = n := ⟨_, rfl⟩
  obtain ⟨s', hs'⟩ : ∃ n, Rs.word ⟨r, false, false⟩ = n := ⟨_, rfl⟩
  rw [hn1] at HL HPR HSH
  rw [hs'] at HL HPR
  have HE := Lib.hid (fun w' vs' (q : RW W0 g w' { L with secs := L.secs ++ [n] } vs' ve vj vg vb 2 s') => lerr_any q)
  obtain ⟨f, hf⟩ : ∃ n, finE s' = n := ⟨_, rfl⟩
  rw [hf] at HE
  have HF := Lib.hid hf
  have HNL := Lib.hid hns
  obtain ⟨i0, hi, hz0, hz1, hz2⟩ := info_parts infoSt
  have HI0 := Lib.hid hi
  have HZ0 := Lib.hid hz0
  have HZ1 := Lib.hid hz1
  have HZ2 := Lib.hid hz2
  clear hn1 hs' hf hns hne hnj hng hnb hi hz0 hz1 hz2
  obtain ⟨N, hN⟩ : ∃ N, r.length + 1 = N := ⟨_, rfl⟩
  have hN2 : (N : Int) ≤ 9223372036854775807 := by omega
  rw [hN] at hsl
  have q3 : 0 < N := by omega
  have q4 : (0 : Int) < (N : Int) := by omega
  rw [hN]
  clear h hl hn hN hc hsh hs2
  go_enter Tryz.func40, Tryz.ntmps40
  go_wp2_with fail
  refine (HP.out _).mono ?_
  rintro e w1 ⟨rfl, b1⟩
  have R1 := Lib.hid (H0.out.next b1)
  clear b1 x0
  go_wp2_with fail
  refine (HC.out _ R1.out).mono ?_
  rintro e w2 ⟨rfl, rfl⟩
  obtain ⟨vr, hbx, hbr⟩ := R1.out.box
  obtain ⟨-, -, -, -, -, -, y6, y7, -, -⟩ := hbx.cells
  have z6 := hbx.frozen 6
  have z7 := hbx.frozen 7
  have hlt := hbx.lt
  clear hbx hbr
  go_wp2_with fail
  go_region
  have T4 := HST.out _ R1.out
  obtain ⟨W4, hW4⟩ : ∃ x, ((w2.setCell ⟨g, 6, none⟩ (.int .i64 2)).setCell ⟨g, 7, none⟩ (.slice (some ad) r.length c')).drew = x := ⟨_, rfl⟩
  rw [hW4] at T4 ⊢
  have R4 := Lib.hid T4
  clear T4 hW4 y6 y7 z6 z7 hlt
  obtain ⟨A3, C3, rfl⟩ := own_any R4.out.own.os
  have y3 := (RW.six R4.out).2.1
  go_wp2_with fail
  go_region_law (first
    | (go_simp; go_at_call 81; (with_reducible refine (HL.out _ R4.out.drew).mono ?_); rintro e w6 ⟨rfl, r6⟩; have R6 := Lib.hid r6.rw; have x6 := (RW.six r6.rw).2.1; have l6 := RW.glt r6.rw; clear r6)
    | (refine step_row rfl (.tmp 41) (.tmp 44) 22 rfl W0.heap.size 9 i0 _ 1 16 Tryz.underlying22 HI0.out HZ0.out HZ1.out HZ2.out rfl (by decide) _ _ _ rfl R6.out.own.os 9 [.string (bs n)] rfl rfl (fun u hu => by rw [List.mem_singleton.1 hu]; rfl) (by have := HNL.out; unfold maxLen; omega) (by have := HNL.out; omega) R6.out.bel.size ?_; intro v7 w7 k1 k2 k3; obtain ⟨⟨y7, z7, l7⟩, r8⟩ := grow_s n R6.out HSH.out k1 k2 k3; have R8 := Lib.hid r8; obtain ⟨A7, C7, rfl⟩ := own_any k1; clear k1 k2 k3 r8))
  all_goals
    go_wp2_with fail
    refine (HE.out _ _ R8.out).mono ?_
    rintro e w9 ⟨rfl, rfl⟩
    go_wp2_with fail
    go_ret
    rw [HPR.out, HF.out]
    have := ReadOut.of R8.out
    rwa [HF.out] at this

end Go.Proofs.YtfdipcphohhlgaaGreatDoor.Rl2
