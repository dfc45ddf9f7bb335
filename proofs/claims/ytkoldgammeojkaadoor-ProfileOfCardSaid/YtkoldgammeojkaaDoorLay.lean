/- Layouts as plain data, and how a value of the type reads as one. -/
import Derived.Test.YtkoldgammeojkaaDoorRows2
namespace Go.Proofs.YtkoldgammeojkaaDoor.Lay
open Go.RowKit Go.Lib Go.Proofs.YtkoldgammeojkaaDoor.Text Go.Proofs.YtkoldgammeojkaaDoor.Reads Go.Proofs.YtkoldgammeojkaaDoor.Rows2

structure Elem where
  name : List UInt8
  kind : Int
  len : Int
  grade : Int
  speed : Int
  slow : Int
  sec : Int
structure Sig where
  name : List UInt8
  spot : Int × Int
  over : Int
structure Bal where
  id : Int
  el : Int
  off : Int
structure Lay where
  name : List UInt8
  secs : List (List UInt8)
  els : List Elem
  joints : List ((Int × Int) × (Int × Int))
  sigs : List Sig
  bals : List Bal

def Elem.cells (e : Elem) : List Value := [.string (bs e.name), .int .i64 e.kind, .int .i64 e.len, .int .i64 e.grade, .int .i64 e.speed, .int .i64 e.slow, .int .i64 e.sec]
def jCells (j : (Int × Int) × (Int × Int)) : List Value := [.int .i64 j.1.1, .int .i64 j.1.2, .int .i64 j.2.1, .int .i64 j.2.2]
def Sig.cells (s : Sig) : List Value := [.string (bs s.name), .int .i64 s.spot.1, .int .i64 s.spot.2, .int .i64 s.over]
def Bal.cells (b : Bal) : List Value := [.int .i64 b.id, .int .i64 b.el, .int .i64 b.off]
def pCells (p : Int × Int) : List Value := [.int .i64 p.1, .int .i64 p.2]

/-- An int. -/
def Wf (x : Int) : Prop := (Lit.int .i64 x).wf = true
def pWf (p : Int × Int) : Prop := Wf p.1 ∧ Wf p.2
def Elem.Wf (x : Elem) : Prop := Lay.Wf x.kind ∧ Lay.Wf x.len ∧ Lay.Wf x.grade ∧ Lay.Wf x.speed ∧ Lay.Wf x.slow ∧ Lay.Wf x.sec
def jWf (j : (Int × Int) × (Int × Int)) : Prop := pWf j.1 ∧ pWf j.2
def Sig.Wf (s : Sig) : Prop := pWf s.spot ∧ Lay.Wf s.over
def Bal.Wf (b : Bal) : Prop := Lay.Wf b.id ∧ Lay.Wf b.el ∧ Lay.Wf b.off
/-- The slice v reads as these rows of sz cells each; what it is read from lies in blocks that are ok. -/
def Grid (ok : Nat → Prop) (w : World) (v : Value) (sz : Nat) (rows : List (List Value)) : Prop :=
  ∃ a cap, v = .slice a rows.length cap ∧ rows.length ≤ cap ∧ cap ≤ maxLen ∧
    (rows = [] ∨ ∃ b off, a = some ⟨b, off, none⟩ ∧ ok b ∧ ∀ i r, rows[i]? = some r → ∀ j x, r[j]? = some x → w.cell? ⟨b, off + i * sz + j, none⟩ = some x)
theorem Grid.keep {ok ok' : Nat → Prop} {w w' : World} {v : Value} {sz : Nat} {rows : List (List Value)} (h : Grid ok w v sz rows) (hk : ∀ b, ok b → ok' b ∧ w'.heap[b]? = w.heap[b]?) : Grid ok' w' v sz rows := by
  obtain ⟨a, cap, h1, h2, h3, h4⟩ := h
  refine ⟨a, cap, h1, h2, h3, h4.imp id fun ⟨b, off, e, hb, hc⟩ => ⟨b, off, e, (hk b hb).1, fun i r hr j x hx => ?_⟩⟩
  rw [cell_same (hk b hb).2]
  exact hc i r hr j x hx
theorem grid_nil (ok : Nat → Prop) (w : World) (sz : Nat) : Grid ok w (.slice none 0 0) sz [] := ⟨none, 0, rfl, Nat.le_refl _, Nat.zero_le _, .inl rfl⟩
theorem Grid.shape {ok : Nat → Prop} {w : World} {v : Value} {sz : Nat} {rows : List (List Value)} (h : Grid ok w v sz rows) :
    ∃ a cap, v = .slice a rows.length cap ∧ (rows.length : Int) ≤ 9223372036854775807 ∧ cap ≤ maxLen ∧ rows.length ≤ cap ∧
      ∀ i r, rows[i]? = some r → ∃ b off, a = some ⟨b, off, none⟩ ∧ ok b ∧ ∀ j x, r[j]? = some x → w.cell? ⟨b, off + i * sz + j, none⟩ = some x := by
  obtain ⟨a, cap, rfl, h2, h3, h4⟩ := h
  refine ⟨a, cap, rfl, by unfold maxLen at h3; omega, h3, h2, fun i r hr => ?_⟩
  rcases h4 with rfl | ⟨b, off, rfl, hb, hc⟩
  · simp at hr
  · exact ⟨b, off, rfl, hb, hc i r hr⟩

/-- A value of the type reads as a layout. -/
structure LayAt (ok : Nat → Prop) (w : World) (L : Lay) (vs ve vj vg vb : Value) : Prop where
  secs : Strs ok w vs L.secs
  els : Grid ok w ve 7 (L.els.map Elem.cells)
  joints : Grid ok w vj 4 (L.joints.map jCells)
  sigs : Grid ok w vg 4 (L.sigs.map Sig.cells)
  bals : Grid ok w vb 3 (L.bals.map Bal.cells)
  name : L.name.length ≤ maxLen
  elName : ∀ x ∈ L.els, x.name.length ≤ maxLen
  sigName : ∀ x ∈ L.sigs, x.name.length ≤ maxLen
  ewf : ∀ x ∈ L.els, x.Wf
  jwf : ∀ x ∈ L.joints, jWf x
  swf : ∀ x ∈ L.sigs, x.Wf
  bwf : ∀ x ∈ L.bals, x.Wf
  some_ : vs = .slice none 0 0 ∨ ∃ ad n c, vs = .slice (some ad) n c
theorem LayAt.keep {ok ok' : Nat → Prop} {w w' : World} {L : Lay} {vs ve vj vg vb : Value} (h : LayAt ok w L vs ve vj vg vb) (hk : ∀ b, ok b → ok' b ∧ w'.heap[b]? = w.heap[b]?) : LayAt ok' w' L vs ve vj vg vb :=
  ⟨h.secs.keep hk, h.els.keep hk, h.joints.keep hk, h.sigs.keep hk, h.bals.keep hk, h.name, h.elName, h.sigName, h.ewf, h.jwf, h.swf, h.bwf, h.some_⟩
/-- As Below, but for one block that may be written. -/
structure But (g B : Nat) (w w' : World) : Prop where
  os : w'.os = w.os
  tape : w'.tape = w.tape
  output : w'.output = w.output
  size : w.heap.size ≤ w'.heap.size
  block : ∀ k, k < B → k ≠ g → w'.heap[k]? = w.heap[k]?
theorem But.refl (g B : Nat) (w : World) : But g B w w := ⟨rfl, rfl, rfl, Nat.le_refl _, fun _ _ _ => rfl⟩
theorem But.below {g B B' : Nat} {w W wr : World} (h : Below B' w W) (hb : But g B W wr) (h1 : B' ≤ B) (h2 : B' ≤ g) : Below B' w wr :=
  ⟨hb.os.trans h.os, hb.tape.trans h.tape, hb.output.trans h.output, Nat.le_trans h.size hb.size, fun k hk => (hb.block k (by omega) (by omega)).trans (h.block k hk)⟩
theorem But.alloc {g B : Nat} {a w : World} (h : But g B a w) (hB : B ≤ w.heap.size) (o : Obj) : But g B a (w.alloc o) :=
  ⟨h.os, h.tape, h.output, Nat.le_trans h.size (by simp), fun k hk hg => (Below.heap_alloc w o k (by omega)).trans (h.block k hk hg)⟩
theorem But.setCell {g B : Nat} {a w : World} (h : But g B a w) {p : Addr} (hp : p.block = g ∨ B ≤ p.block) (u : Value) : But g B a (w.setCell p u) :=
  ⟨h.os, h.tape, h.output, Nat.le_trans h.size (by simp [World.setCell]), fun k hk hg => (Below.heap_setCell w p u k (by omega)).trans (h.block k hk hg)⟩
theorem But.grown {g B : Nat} {a w w' : World} {row : Option Nat} (h : But g B a w) (hg : w.grownBy w' row) (hB : B ≤ w.heap.size) (hr : ∀ k, row = some k → B ≤ k ∨ k = g) : But g B a w' :=
  ⟨hg.os.trans h.os, hg.tape.trans h.tape, hg.output.trans h.output, Nat.le_trans h.size hg.size, fun k hk hne => (hg.block k (by omega) (fun e => by have := hr k e.symm; omega)).trans (h.block k hk hne)⟩
theorem But.cell {g B : Nat} {w w' : World} (h : But g B w w') {p : Addr} (hp : p.block < B) (hg : p.block ≠ g) : w'.cell? p = w.cell? p := cell_same (h.block _ hp hg)
/-- Below the heap's end. -/
def In (w : World) (b : Nat) : Prop := b < w.heap.size
theorem LayAt.next {w w' : World} {L : Lay} {vs ve vj vg vb : Value} (h : LayAt (In w) w L vs ve vj vg vb) (hb : Below w.heap.size w w') : LayAt (In w') w' L vs ve vj vg vb := h.keep (keep_next hb)
/-- The value. -/
def layV (L : Lay) (vs ve vj vg vb : Value) : Value := .agg #[.string (bs L.name), vs, ve, vj, vg, vb]

/-- A layout in a box of its own. -/
def LBox (g : Nat) (W : World) (L : Lay) (vs ve vj vg vb : Value) : Prop :=
  W.cell? ⟨g, 0, none⟩ = some (.string (bs L.name)) ∧ W.cell? ⟨g, 1, none⟩ = some vs ∧ W.cell? ⟨g, 2, none⟩ = some ve ∧ W.cell? ⟨g, 3, none⟩ = some vj ∧ W.cell? ⟨g, 4, none⟩ = some vg ∧ W.cell? ⟨g, 5, none⟩ = some vb
theorem lbox_new (w : World) (T : TypeId) (L : Lay) (vs ve vj vg vb : Value) : LBox w.heap.size (w.alloc (.cells #[.string (bs L.name), vs, ve, vj, vg, vb] T)) L vs ve vj vg vb := by
  refine ⟨?_, ?_, ?_, ?_, ?_, ?_⟩
  all_goals
    rw [World.cell?_alloc_at _ _ _ _ rfl]
    rfl
theorem LBox.next {g : Nat} {W W' : World} {L : Lay} {vs ve vj vg vb : Value} (h : LBox g W L vs ve vj vg vb) (hb : Below W.heap.size W W') (hg : g < W.heap.size) : LBox g W' L vs ve vj vg vb :=
  ⟨(hb.cell hg).trans h.1, (hb.cell hg).trans h.2.1, (hb.cell hg).trans h.2.2.1, (hb.cell hg).trans h.2.2.2.1, (hb.cell hg).trans h.2.2.2.2.1, (hb.cell hg).trans h.2.2.2.2.2⟩

/-- An element's seven cells at an index. -/
theorem LayAt.el {w : World} {L : Lay} {vs ve vj vg vb : Value} (h : LayAt (In w) w L vs ve vj vg vb) :
    ∃ a cap, ve = .slice a L.els.length cap ∧ (L.els.length : Int) ≤ 9223372036854775807 ∧ ∀ (wr : World), Below w.heap.size w wr → ∀ (i : Nat) (x : Elem), L.els[i]? = some x → ∃ b off, a = some ⟨b, off, none⟩ ∧
      wr.cell? ⟨b, off + i * 7, none⟩ = some (.string (bs x.name)) ∧
      wr.cell? ⟨b, off + i * 7 + 1, none⟩ = some (.int .i64 x.kind) ∧
      wr.cell? ⟨b, off + i * 7 + 2, none⟩ = some (.int .i64 x.len) ∧
      wr.cell? ⟨b, off + i * 7 + 3, none⟩ = some (.int .i64 x.grade) ∧
      wr.cell? ⟨b, off + i * 7 + 4, none⟩ = some (.int .i64 x.speed) ∧
      wr.cell? ⟨b, off + i * 7 + 5, none⟩ = some (.int .i64 x.slow) ∧
      wr.cell? ⟨b, off + i * 7 + 6, none⟩ = some (.int .i64 x.sec) := by
  obtain ⟨a, cap, h1, h2, _, _, h5⟩ := h.els.shape
  rw [List.length_map] at h1 h2
  refine ⟨a, cap, h1, h2, fun wr hb i x hx => ?_⟩
  obtain ⟨b, off, e, hbl, hc⟩ := h5 i _ (by rw [List.getElem?_map, hx]; rfl)
  exact ⟨b, off, e, (hb.cell (show b < w.heap.size from hbl)).trans (hc 0 _ rfl), (hb.cell (show b < w.heap.size from hbl)).trans (hc 1 _ rfl), (hb.cell (show b < w.heap.size from hbl)).trans (hc 2 _ rfl), (hb.cell (show b < w.heap.size from hbl)).trans (hc 3 _ rfl), (hb.cell (show b < w.heap.size from hbl)).trans (hc 4 _ rfl), (hb.cell (show b < w.heap.size from hbl)).trans (hc 5 _ rfl), (hb.cell (show b < w.heap.size from hbl)).trans (hc 6 _ rfl)⟩
/-- A joint's four cells. -/
theorem LayAt.jt {w : World} {L : Lay} {vs ve vj vg vb : Value} (h : LayAt (In w) w L vs ve vj vg vb) :
    ∃ a cap, vj = .slice a L.joints.length cap ∧ (L.joints.length : Int) ≤ 9223372036854775807 ∧ ∀ (wr : World), Below w.heap.size w wr → ∀ (i : Nat) (x : (Int × Int) × (Int × Int)), L.joints[i]? = some x → ∃ b off, a = some ⟨b, off, none⟩ ∧
      wr.cell? ⟨b, off + i * 4, none⟩ = some (.int .i64 x.1.1) ∧
      wr.cell? ⟨b, off + i * 4 + 1, none⟩ = some (.int .i64 x.1.2) ∧
      wr.cell? ⟨b, off + i * 4 + 2, none⟩ = some (.int .i64 x.2.1) ∧
      wr.cell? ⟨b, off + i * 4 + 3, none⟩ = some (.int .i64 x.2.2) := by
  obtain ⟨a, cap, h1, h2, _, _, h5⟩ := h.joints.shape
  rw [List.length_map] at h1 h2
  refine ⟨a, cap, h1, h2, fun wr hb i x hx => ?_⟩
  obtain ⟨b, off, e, hbl, hc⟩ := h5 i _ (by rw [List.getElem?_map, hx]; rfl)
  exact ⟨b, off, e, (hb.cell (show b < w.heap.size from hbl)).trans (hc 0 _ rfl), (hb.cell (show b < w.heap.size from hbl)).trans (hc 1 _ rfl), (hb.cell (show b < w.heap.size from hbl)).trans (hc 2 _ rfl), (hb.cell (show b < w.heap.size from hbl)).trans (hc 3 _ rfl)⟩
/-- A signal's four cells. -/
theorem LayAt.sg {w : World} {L : Lay} {vs ve vj vg vb : Value} (h : LayAt (In w) w L vs ve vj vg vb) :
    ∃ a cap, vg = .slice a L.sigs.length cap ∧ (L.sigs.length : Int) ≤ 9223372036854775807 ∧ ∀ (wr : World), Below w.heap.size w wr → ∀ (i : Nat) (x : Sig), L.sigs[i]? = some x → ∃ b off, a = some ⟨b, off, none⟩ ∧
      wr.cell? ⟨b, off + i * 4, none⟩ = some (.string (bs x.name)) ∧
      wr.cell? ⟨b, off + i * 4 + 1, none⟩ = some (.int .i64 x.spot.1) ∧
      wr.cell? ⟨b, off + i * 4 + 2, none⟩ = some (.int .i64 x.spot.2) ∧
      wr.cell? ⟨b, off + i * 4 + 3, none⟩ = some (.int .i64 x.over) := by
  obtain ⟨a, cap, h1, h2, _, _, h5⟩ := h.sigs.shape
  rw [List.length_map] at h1 h2
  refine ⟨a, cap, h1, h2, fun wr hb i x hx => ?_⟩
  obtain ⟨b, off, e, hbl, hc⟩ := h5 i _ (by rw [List.getElem?_map, hx]; rfl)
  exact ⟨b, off, e, (hb.cell (show b < w.heap.size from hbl)).trans (hc 0 _ rfl), (hb.cell (show b < w.heap.size from hbl)).trans (hc 1 _ rfl), (hb.cell (show b < w.heap.size from hbl)).trans (hc 2 _ rfl), (hb.cell (show b < w.heap.size from hbl)).trans (hc 3 _ rfl)⟩
/-- A balise's three cells. -/
theorem LayAt.bl {w : World} {L : Lay} {vs ve vj vg vb : Value} (h : LayAt (In w) w L vs ve vj vg vb) :
    ∃ a cap, vb = .slice a L.bals.length cap ∧ (L.bals.length : Int) ≤ 9223372036854775807 ∧ ∀ (wr : World), Below w.heap.size w wr → ∀ (i : Nat) (x : Bal), L.bals[i]? = some x → ∃ b off, a = some ⟨b, off, none⟩ ∧
      wr.cell? ⟨b, off + i * 3, none⟩ = some (.int .i64 x.id) ∧
      wr.cell? ⟨b, off + i * 3 + 1, none⟩ = some (.int .i64 x.el) ∧
      wr.cell? ⟨b, off + i * 3 + 2, none⟩ = some (.int .i64 x.off) := by
  obtain ⟨a, cap, h1, h2, _, _, h5⟩ := h.bals.shape
  rw [List.length_map] at h1 h2
  refine ⟨a, cap, h1, h2, fun wr hb i x hx => ?_⟩
  obtain ⟨b, off, e, hbl, hc⟩ := h5 i _ (by rw [List.getElem?_map, hx]; rfl)
  exact ⟨b, off, e, (hb.cell (show b < w.heap.size from hbl)).trans (hc 0 _ rfl), (hb.cell (show b < w.heap.size from hbl)).trans (hc 1 _ rfl), (hb.cell (show b < w.heap.size from hbl)).trans (hc 2 _ rfl)⟩
/-- A section's name. -/
theorem LayAt.sn {w : World} {L : Lay} {vs ve vj vg vb : Value} (h : LayAt (In w) w L vs ve vj vg vb) :
    ∃ a cap, vs = .slice a L.secs.length cap ∧ (L.secs.length : Int) ≤ 9223372036854775807 ∧ ∀ (wr : World), Below w.heap.size w wr → ∀ (i : Nat) (x : List UInt8), L.secs[i]? = some x → ∃ b off, a = some ⟨b, off, none⟩ ∧
      wr.cell? ⟨b, off + i, none⟩ = some (.string (bs x)) := by
  obtain ⟨a, cap, h1, h2, _, _, h5⟩ := h.secs.shape
  refine ⟨a, cap, h1, h2, fun wr hb i x hx => ?_⟩
  obtain ⟨_, b, off, e, hbl, hc⟩ := h5 i x hx
  exact ⟨b, off, e, (hb.cell (show b < w.heap.size from hbl)).trans hc⟩

/-- A box beside the layout: what is below stays. -/
theorem LayAt.box {w : World} {L : Lay} {vs ve vj vg vb : Value} (h : LayAt (In w) w L vs ve vj vg vb) (o : Obj) : LayAt (In (w.alloc o)) (w.alloc o) L vs ve vj vg vb := h.next ((Below.refl _ _).alloc (Nat.le_refl _) o)

end Go.Proofs.YtkoldgammeojkaaDoor.Lay
