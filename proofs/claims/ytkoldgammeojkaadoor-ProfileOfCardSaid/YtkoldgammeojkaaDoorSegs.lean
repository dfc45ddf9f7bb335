/- Segments: plain mathematics, and lists of segments that a call builds. -/
import Derived.Test.YtkoldgammeojkaaDoorLay
import Derived.Maps.AppendAt
import Derived.Laws.OwnMore
import Derived.BigQuiet
import Derived.Deep.QuietTactic
namespace Go.Proofs.YtkoldgammeojkaaDoor.Segs
open Go.RowKit Go.Lib Go.Proofs.YtkoldgammeojkaaDoor.Reads Go.Proofs.YtkoldgammeojkaaDoor.Rows2 Go.Proofs.YtkoldgammeojkaaDoor.Lay

/-- A segment: where it begins, where it ends, its gradient, its speed. -/
abbrev Sg := Int × (Int × (Int × Int))
def sgC (s : Sg) : List Value := [.int .i64 s.1, .int .i64 s.2.1, .int .i64 s.2.2.1, .int .i64 s.2.2.2]
def sgW (s : Sg) : Prop := Lay.Wf s.1 ∧ Lay.Wf s.2.1 ∧ Lay.Wf s.2.2.1 ∧ Lay.Wf s.2.2.2
def sgV (s : Sg) : Value := .agg #[.int .i64 s.1, .int .i64 s.2.1, .int .i64 s.2.2.1, .int .i64 s.2.2.2]
theorem sg_len (s : Sg) : (sgC s).length = 4 := rfl
theorem sg_one (s : Sg) : ∀ u ∈ sgC s, u.oneCell' = true := by
  intro u hu
  simp only [sgC, List.mem_cons, List.not_mem_nil, or_false] at hu
  rcases hu with rfl | rfl | rfl | rfl <;> rfl

/-- Whether a segment for itself may stand in a profile. -/
def okS (s : Sg) : Bool := decide (s.1 < s.2.1 ∧ -1073741824 ≤ s.1 ∧ s.2.1 ≤ 1073741824 ∧ -50 ≤ s.2.2.1 ∧ s.2.2.1 ≤ 50 ∧ 1 ≤ s.2.2.2 ∧ s.2.2.2 ≤ 10000)
/-- Whether a segment goes on where the one before ends. -/
def goesOn : Option Sg → Sg → Bool
  | none, _ => true
  | some q, s => decide (s.1 = q.2.1)
/-- Whether these go on behind the one before. -/
def linkR : Option Sg → List Sg → Bool
  | _, [] => true
  | q, s :: r => okS s && (goesOn q s && linkR (some s) r)
def prev (p : List Sg) : Nat → Option Sg
  | 0 => none
  | i + 1 => p[i]?
def validF (p : List Sg) : Bool := decide (p.length ≤ 128) && linkR none p
theorem link_no {q : Option Sg} {s : Sg} {r : List Sg} (h : okS s = false) : linkR q (s :: r) = false := by rw [linkR, h, Bool.false_and]
theorem link_off {q : Option Sg} {s : Sg} {r : List Sg} (h : goesOn q s = false) : linkR q (s :: r) = false := by rw [linkR, h, Bool.false_and, Bool.and_false]
theorem link_yes {q : Option Sg} {s : Sg} {r : List Sg} (h : okS s = true) (h2 : goesOn q s = true) : linkR q (s :: r) = linkR (some s) r := by rw [linkR, h, h2, Bool.true_and, Bool.true_and]

/-- What of a segment is in a stretch. -/
def partF (f t : Int) (s : Sg) : Sg := (max s.1 f, min s.2.1 t, s.2.2.1, s.2.2.2)
def longB (s : Sg) : Bool := decide (s.1 < s.2.1)
def overB (f t : Int) (s : Sg) : Bool := longB (partF f t s)
def touchB (f t : Int) (s : Sg) : Bool := decide (s.1 ≤ t ∧ f ≤ s.2.1)
def insideB (f t : Int) (s : Sg) : Bool := decide (s.1 ≤ f ∧ t < s.2.1)
def thoseF (c : Sg → Bool) (p : List Sg) : List Sg := if validF p = true then p.filter c else []
def leastR (val : Sg → Int) (m : Int) : List Sg → Int
  | [] => m
  | s :: r => leastR val (min m (val s)) r
def leastF (val : Sg → Int) : List Sg → Int
  | [] => 0
  | s :: r => leastR val (val s) (s :: r)
def spV (s : Sg) : Int := s.2.2.2
def grV (s : Sg) : Int := s.2.2.1
def headF : List Sg → Sg × Bool
  | [] => ((0, 0, 0, 0), false)
  | s :: _ => (s, true)
def atF (p : List Sg) (x : Int) : Sg × Bool := headF (thoseF (insideB x x) p)
def slowF (p : List Sg) (f t : Int) : Int := leastF spV (thoseF (touchB f t) p)
def steepF (p : List Sg) (f t : Int) : Int := leastF grV (thoseF (touchB f t) p)
def cutF (p : List Sg) (f t : Int) : List Sg := (thoseF (overB f t) p).map (partF f t)
def lastZ (p : List Sg) : Int := match p.getLast? with
  | none => 0
  | some s => s.2.1
def apart (a b : List Sg) : Bool :=
  match a.getLast?, b.head? with
  | some s, some q => decide (s.2.1 ≠ q.1)
  | _, _ => false
def joinF (a b : List Sg) : List Sg × Int :=
  if validF a = false ∨ validF b = false then ([], 1)
  else if apart a b = true then ([], 10)
  else if 128 < a.length + b.length then ([], 2)
  else (a ++ b, 0)
def slowed (v : Int) (s : Sg) : Sg := (s.1, s.2.1, s.2.2.1, min s.2.2.2 v)
def divideF (f t v : Int) (s : Sg) : List Sg := [partF s.1 f s, slowed v (partF f t s), partF t s.2.1 s].filter longB
def limR (f t v : Int) : List Sg → List Sg
  | [] => []
  | s :: r => (if overB f t s = true then divideF f t v s else [s]) ++ limR f t v r
def limitF (p : List Sg) (f t v : Int) : List Sg :=
  if validF p = false ∨ v < 1 then []
  else if 128 < (limR f t v p).length then []
  else limR f t v p

theorem bel_next {w W w' : World} (h : Below w.heap.size w W) (hb : Below W.heap.size W w') : Below w.heap.size w w' := h.trans (hb.mono h.size)
/-- What a call gives that returns a bool. -/
def BoolOut (b : Bool) (w : World) (e : Ending) (w' : World) : Prop := e = .returned (.bool b) ∧ Below w.heap.size w w'
def NumOut (n : Int) (w : World) (e : Ending) (w' : World) : Prop := e = .returned (.int .i64 n) ∧ Below w.heap.size w w'
/-- What a call gives that returns a segment. -/
def OneOut (s : Sg) (w : World) (e : Ending) (w' : World) : Prop := e = .returned (sgV s) ∧ Below w.heap.size w w'
/-- What a call gives that returns segments, in a block of its own. -/
def SegOut (l : List Sg) (w : World) (e : Ending) (w' : World) : Prop :=
  ∃ v, e = .returned v ∧ w'.ownsRow w.heap.size 41 4 v l.length (l.flatMap sgC) ∧ Below w.heap.size w w'

theorem drop_at {α : Type} {l : List α} {j : Nat} {x : α} (h : l[j]? = some x) : l.drop j = x :: l.drop (j + 1) := by
  obtain ⟨hj, rfl⟩ := List.getElem?_eq_some_iff.1 h
  exact List.drop_eq_getElem_cons hj
theorem take_at {α : Type} {l : List α} {j : Nat} {x : α} (h : l[j]? = some x) : l.take (j + 1) = l.take j ++ [x] := by
  obtain ⟨hj, rfl⟩ := List.getElem?_eq_some_iff.1 h
  exact List.take_succ_eq_append_getElem hj
theorem add_mk (b off j : Nat) : (⟨b, off, none⟩ : Addr).add j = ⟨b, off + j, none⟩ := by
  unfold Addr.add
  by_cases h : j = 0
  · subst h; simp
  · simp [h]
/-- The cells of a literal slice, in a block of its own. -/
theorem cells_new (w : World) (cs : Array Value) (T : TypeId) : ∀ j u, cs.toList[j]? = some u → (w.alloc (.cells cs T)).cell? ((⟨w.heap.size, 0, none⟩ : Addr).add j) = some u := by
  intro j u hu
  rw [add_mk, World.cell?_alloc_at _ _ _ _ rfl, Nat.zero_add, ← hu, Array.getElem?_toList]
theorem flat_of {α : Type} (f : α → List Value) (sz : Nat) (hlen : ∀ a, (f a).length = sz) : ∀ {l : List α} {i j : Nat} {r : List Value} {x : Value}, (l.map f)[i]? = some r → r[j]? = some x → (l.flatMap f)[i * sz + j]? = some x
  | [], i, j, r, x, h, _ => by simp at h
  | p :: l, i, j, r, x, h, hx => by
    rw [List.flatMap_cons]
    cases i with
    | zero =>
      simp only [List.map_cons, List.getElem?_cons_zero, Option.some.injEq] at h
      subst h
      have hj : j < (f p).length := (List.getElem?_eq_some_iff.1 hx).1
      rw [Nat.zero_mul, Nat.zero_add, List.getElem?_append_left hj]
      exact hx
    | succ i =>
      simp only [List.map_cons, List.getElem?_cons_succ] at h
      rw [List.getElem?_append_right (by rw [hlen, Nat.succ_mul]; omega)]
      rw [show (i + 1) * sz + j - (f p).length = i * sz + j by rw [hlen, Nat.succ_mul]; omega]
      exact flat_of f sz hlen h hx
theorem flat_len (l : List Sg) : (l.flatMap sgC).length = l.length * 4 := by
  induction l with
  | nil => rfl
  | cons x r ih => rw [List.flatMap_cons, List.length_append, sg_len, ih, List.length_cons, Nat.succ_mul, Nat.add_comm]
theorem flat_one (l : List Sg) : ∀ u ∈ l.flatMap sgC, u.oneCell' = true := by
  intro u hu
  obtain ⟨s, _, h⟩ := List.mem_flatMap.1 hu
  exact sg_one s u h
/-- A slice of segments of the call's own. -/
theorem grid_of_own {B : Nat} {w : World} {e : TypeId} {v : Value} {l : List Sg} (h : w.ownsRow B e 4 v l.length (l.flatMap sgC)) : Grid (fun b => B ≤ b ∧ b < w.heap.size) w v 4 (l.map sgC) := by
  have hx := h
  obtain ⟨_, hor⟩ := hx
  rcases hor with ⟨rfl, h0⟩ | ⟨g, cap, cur, rfl, hg, hh, hn, hcap, _, _⟩
  · have := List.length_eq_zero_iff.1 h0
    subst this
    exact grid_nil _ _ _
  · refine ⟨_, cap, by simp, by simpa using hn, hcap, .inr ⟨g, 0, rfl, ⟨(h.lt g rfl).1, (h.lt g rfl).2⟩, fun i r hr j x hx => ?_⟩⟩
    have := h.cells (g := g) rfl (i * 4 + j) x (flat_of sgC 4 sg_len hr hx)
    rw [add_mk] at this
    rw [← this, Nat.add_assoc]
theorem grid_in {B : Nat} {w : World} {v : Value} {sz : Nat} {rows : List (List Value)} (h : Grid (fun b => B ≤ b ∧ b < w.heap.size) w v sz rows) : Grid (In w) w v sz rows := h.keep fun _ hb => ⟨hb.2, rfl⟩
theorem grid_next {w w' : World} {v : Value} {sz : Nat} {rows : List (List Value)} (h : Grid (In w) w v sz rows) (hb : Below w.heap.size w w') : Grid (In w') w' v sz rows := h.keep (keep_next hb)
theorem own_shape {B n sz : Nat} {w : World} {e : TypeId} {v : Value} {xs : List Value} (h : w.ownsRow B e sz v n xs) : ∃ A C, v = .slice A n C := by
  obtain ⟨h1, hor⟩ := h
  rcases hor with ⟨rfl, h0⟩ | ⟨g, cap, cur, rfl, _⟩
  · subst h0
    exact ⟨none, 0, rfl⟩
  · exact ⟨_, _, rfl⟩
theorem own_below {B n sz : Nat} {e : TypeId} {v : Value} {xs : List Value} {w w' : World} (h : w.ownsRow B e sz v n xs) (hb : Below w.heap.size w w') : w'.ownsRow B e sz v n xs :=
  h.kept (row := none) ⟨hb.os, hb.tape, hb.output, hb.size, fun j hj _ => hb.block j hj⟩ (by cases hv : v.ownBlock <;> simp)
theorem own_mono {B B' n sz : Nat} {e : TypeId} {v : Value} {xs : List Value} {w : World} (h : w.ownsRow B e sz v n xs) (hB : B' ≤ B) : w.ownsRow B' e sz v n xs := by
  obtain ⟨h1, hor⟩ := h
  exact ⟨h1, hor.imp id fun ⟨g, cap, cur, a, b, c⟩ => ⟨g, cap, cur, a, Nat.le_trans hB b, c⟩⟩
/-- The cells of a segment, by index. -/
theorem segs {w : World} {v : Value} {xs : List Sg} (h : Grid (In w) w v 4 (xs.map sgC)) :
    ∃ a cap, v = .slice a xs.length cap ∧ (xs.length : Int) ≤ 9223372036854775807 ∧ cap ≤ maxLen ∧ xs.length ≤ cap ∧ ∀ (wr : World), Below w.heap.size w wr → ∀ (k : Nat) (x : Sg), xs[k]? = some x → ∃ b off, a = some ⟨b, off, none⟩ ∧ b < w.heap.size ∧
      wr.cell? ⟨b, off + k * 4, none⟩ = some (.int .i64 x.1) ∧ wr.cell? ⟨b, off + k * 4 + 1, none⟩ = some (.int .i64 x.2.1) ∧ wr.cell? ⟨b, off + k * 4 + 2, none⟩ = some (.int .i64 x.2.2.1) ∧ wr.cell? ⟨b, off + k * 4 + 3, none⟩ = some (.int .i64 x.2.2.2) := by
  obtain ⟨a, cap, h1, h2, h3, h4, h5⟩ := h.shape
  rw [List.length_map] at h1 h2 h4
  refine ⟨a, cap, h1, h2, h3, h4, fun wr hb i x hx => ?_⟩
  obtain ⟨b, off, e, hbl, hc⟩ := h5 i _ (by rw [List.getElem?_map, hx]; rfl)
  exact ⟨b, off, e, hbl, (hb.cell (show b < w.heap.size from hbl)).trans (hc 0 _ rfl), (hb.cell (show b < w.heap.size from hbl)).trans (hc 1 _ rfl), (hb.cell (show b < w.heap.size from hbl)).trans (hc 2 _ rfl), (hb.cell (show b < w.heap.size from hbl)).trans (hc 3 _ rfl)⟩

theorem infoS : (Tryd.prog.info? 41).map (fun i => (i.zero, i.size, i.bytes)) = some (some (.agg #[.int .i64 0, .int .i64 0, .int .i64 0, .int .i64 0]), 4, 32) := by kernel_rfl
/-- What append hands on. -/
def Grew (W w : World) (v : Value) (l : List Sg) (v' : Value) (w' : World) : Prop :=
  w'.ownsRow W.heap.size 41 4 v' l.length (l.flatMap sgC) ∧ Below W.heap.size W w' ∧ w.grownBy w' v.ownBlock ∧ (v'.ownBlock = v.ownBlock ∨ v'.ownBlock = some w.heap.size)
/-- Segments are appended, from rows that lie anywhere. -/
theorem wp_segs {ops : Array Oper} {rest : List Oper} {o : Oper} {a : Act} {w : World} {Q : Exit → Act → World → Prop}
    (hg : o.guard = none) (s x : Operand) (hop : o.op = Op.call { callee := Callee.builtin Builtin.append, args := #[s, x], argTypes := #[34, 34] })
    (W : World) {v : Value} {l : List Sg} (news : List Sg) {xa : Addr} {m c : Nat} (hs : a.eval s = v) (hx : a.eval x = .slice (some xa) m c) (hm : m = news.length)
    (hnews : ∀ j u, (news.flatMap sgC)[j]? = some u → w.cell? (xa.add j) = some u)
    (ho : w.ownsRow W.heap.size 41 4 v l.length (l.flatMap sgC)) (hb : Below W.heap.size W w) (hn : l.length + news.length ≤ 1000000)
    (h : ∀ v' w', Grew W w v (l ++ news) v' w' → wpList Tryd.prog ops Q rest (a.put o.dst v') w') :
    wpList Tryd.prog ops Q (o :: rest) a w := by
  subst hm
  obtain ⟨i0, hi, hz0, hz1, hz2⟩ := info_parts infoS
  refine wpList_append_own_at _ hg s x 34 hop W.heap.size 41 i0 _ 4 32 Tryd.underlying34 hi hz0 hz1 hz2 rfl (by decide) v l.length (l.flatMap sgC) hs ho xa news.length c (news.flatMap sgC) hx (flat_len news) hnews (flat_one news) (by unfold maxLen; omega) (by omega) hb.size ?_
  intro v' w' q2 q3 q4 q5
  exact h v' w' ⟨by simpa [List.flatMap_append] using q2, hb.grown q3 hb.size (fun g hg => (ho.lt g hg).1), q3, q5⟩
/-- One segment is appended, behind the box of the literal. -/
theorem wp_seg {ops : Array Oper} {rest : List Oper} {o : Oper} {a : Act} {w : World} {Q : Exit → Act → World → Prop}
    (hg : o.guard = none) (s x : Operand) (hop : o.op = Op.call { callee := Callee.builtin Builtin.append, args := #[s, x], argTypes := #[34, 34] })
    (W : World) {v : Value} {l : List Sg} (r : Sg) {T : TypeId} {g : Nat} {cs : Array Value} (hs : a.eval s = v) (hx : a.eval x = .slice (some ⟨g, 0, none⟩) 1 1) (hgs : g = w.heap.size) (hcs : cs.toList = sgC r)
    (ho : w.ownsRow W.heap.size 41 4 v l.length (l.flatMap sgC)) (hb : Below W.heap.size W w) (hn : l.length + 1 ≤ 1000000)
    (h : ∀ v' w', Grew W (w.alloc (.cells cs T)) v (l ++ [r]) v' w' → wpList Tryd.prog ops Q rest (a.put o.dst v') w') :
    wpList Tryd.prog ops Q (o :: rest) a (w.alloc (.cells cs T)) := by
  subst hgs
  have hc := cells_new w cs T
  rw [hcs] at hc
  exact wp_segs hg s x hop W [r] hs hx rfl (by simpa using hc) (ho.alloc _) (hb.alloc hb.size _) hn h
/-- The nil slice is appended: nothing turns. -/
theorem wp_segs_nil {ops : Array Oper} {rest : List Oper} {o : Oper} {a : Act} {w : World} {Q : Exit → Act → World → Prop}
    (hg : o.guard = none) (s x : Operand) (hop : o.op = Op.call { callee := Callee.builtin Builtin.append, args := #[s, x], argTypes := #[34, 34] })
    (W : World) {v : Value} {l : List Sg} (hs : a.eval s = v) (hx : a.eval x = .slice none 0 0) (ho : w.ownsRow W.heap.size 41 4 v l.length (l.flatMap sgC)) (hb : Below W.heap.size W w)
    (h : ∀ v' w', Grew W w v l v' w' → wpList Tryd.prog ops Q rest (a.put o.dst v') w') :
    wpList Tryd.prog ops Q (o :: rest) a w := by
  obtain ⟨i0, hi, _⟩ := info_parts infoS
  refine wpList_plain hg fun K hK => ?_
  have hr := run_append_owned_none (P := Tryd.prog) (w := w) W.heap.size 34 o.type 41 i0 4 Tryd.underlying34 hi v l.length (l.flatMap sgC) ho
  have h2 := h v w ⟨ho, hb, ⟨rfl, rfl, rfl, Nat.le_refl _, fun _ _ _ => rfl⟩, .inl rfl⟩
  unfold Oper.wp execOp
  simp only [hop, resolve, invoke, builtin, Sem.run_bind, Sem.run_pure, Result.andThen_ok, List.map_toArray, List.map_cons, List.map_nil, hs, hx, hr]
  exact hK _ _ h2
/-- A slice that is nil or has an address, and reads as these. -/
def SegIn (w : World) (v : Value) (p : List Sg) : Prop := Grid (In w) w v 4 (p.map sgC) ∧ (∀ s ∈ p, sgW s) ∧ (v = .slice none 0 0 ∨ ∃ ad n c, v = .slice (some ad) n c)
theorem SegIn.next {w w' : World} {v : Value} {p : List Sg} (h : SegIn w v p) (hb : Below w.heap.size w w') : SegIn w' v p := ⟨grid_next h.1 hb, h.2⟩
theorem segIn_own {B : Nat} {w : World} {v : Value} {p : List Sg} (h : w.ownsRow B 41 4 v p.length (p.flatMap sgC)) (hw : ∀ s ∈ p, sgW s) : SegIn w v p := by
  refine ⟨grid_in (grid_of_own h), hw, ?_⟩
  obtain ⟨_, hor⟩ := h
  rcases hor with ⟨rfl, _⟩ | ⟨g, cap, cur, rfl, _⟩
  · exact .inl rfl
  · exact .inr ⟨_, _, _, rfl⟩
theorem flat_get {α : Type} (f : α → List Value) (sz : Nat) (hlen : ∀ a, (f a).length = sz) : ∀ {l : List α} {k : Nat} {x : Value}, (l.flatMap f)[k]? = some x → ∃ i j r, (l.map f)[i]? = some r ∧ r[j]? = some x ∧ k = i * sz + j
  | [], k, x, h => by simp at h
  | p :: l, k, x, h => by
    rw [List.flatMap_cons] at h
    by_cases hk : k < (f p).length
    · rw [List.getElem?_append_left hk] at h
      exact ⟨0, k, f p, rfl, h, by omega⟩
    · rw [List.getElem?_append_right (by omega)] at h
      obtain ⟨i, j, r, h1, h2, h3⟩ := flat_get f sz hlen h
      rw [hlen] at h3 hk
      exact ⟨i + 1, j, r, by simpa using h1, h2, by rw [Nat.succ_mul]; omega⟩
/-- What is appended: nil, or rows behind an address. -/
theorem SegIn.src {w : World} {v : Value} {p : List Sg} (h : SegIn w v p) : (v = .slice none 0 0 ∧ p = []) ∨ ∃ xa c, v = .slice (some xa) p.length c ∧ ∀ j u, (p.flatMap sgC)[j]? = some u → w.cell? (xa.add j) = some u := by
  obtain ⟨hG, _, hor⟩ := h
  obtain ⟨a, cap, rfl, _, _, _, hc⟩ := hG.shape
  rw [List.length_map] at hor ⊢
  rcases hor with h | ⟨ad, n, c, h⟩
  · left
    have e : p.length = 0 := by simp only [Value.slice.injEq] at h; exact h.2.1
    exact ⟨h, List.length_eq_zero_iff.1 e⟩
  · cases h
    right
    refine ⟨ad, cap, rfl, fun k u hu => ?_⟩
    obtain ⟨i, j, r, h1, h2, rfl⟩ := flat_get sgC 4 sg_len hu
    obtain ⟨b, off, e, _, h3⟩ := hc i r h1
    cases e
    rw [add_mk, ← Nat.add_assoc]
    exact h3 j u h2
/-- What SegIn tells is appended. -/
theorem wp_in {ops : Array Oper} {rest : List Oper} {o : Oper} {a : Act} {w : World} {Q : Exit → Act → World → Prop}
    (hg : o.guard = none) (s x : Operand) (hop : o.op = Op.call { callee := Callee.builtin Builtin.append, args := #[s, x], argTypes := #[34, 34] })
    (W : World) {v vx : Value} {l : List Sg} (news : List Sg) (hs : a.eval s = v) (hx : a.eval x = vx) (hi : SegIn w vx news)
    (ho : w.ownsRow W.heap.size 41 4 v l.length (l.flatMap sgC)) (hb : Below W.heap.size W w) (hn : l.length + news.length ≤ 1000000)
    (h : ∀ v' w', Grew W w v (l ++ news) v' w' → wpList Tryd.prog ops Q rest (a.put o.dst v') w') :
    wpList Tryd.prog ops Q (o :: rest) a w := by
  rcases hi.src with ⟨rfl, rfl⟩ | ⟨xa, c, rfl, hc⟩
  · rw [List.append_nil] at h
    exact wp_segs_nil hg s x hop W hs hx ho hb h
  · exact wp_segs hg s x hop W news hs hx rfl hc ho hb hn h
/-- A list that a call gave, with its length under a letter. -/
theorem seg_open {l : List Sg} {w w' : World} {e : Ending} (h : SegOut l w e w') : ∃ A M C, e = .returned (.slice A M C) ∧ Hid (l.length = M) ∧ Hid (w'.ownsRow w.heap.size 41 4 (.slice A M C) l.length (l.flatMap sgC)) ∧ Hid (Below w.heap.size w w') := by
  obtain ⟨v, rfl, ho, hb⟩ := h
  have h0 := ho
  obtain ⟨A, C, rfl⟩ := own_shape h0
  exact ⟨A, _, C, rfl, Lib.hid rfl, Lib.hid ho, Lib.hid hb⟩
/-- What a call hands on. -/
theorem seg_close {l : List Sg} {w w1 w' : World} {A : Option Addr} {M C : Nat} (hb : Below w.heap.size w w1) (ho : w'.ownsRow w1.heap.size 41 4 (.slice A M C) l.length (l.flatMap sgC)) (hb2 : Below w1.heap.size w1 w') : SegOut l w (.returned (.slice A M C)) w' :=
  ⟨_, rfl, own_mono ho hb.size, bel_next hb hb2⟩

end Go.Proofs.YtkoldgammeojkaaDoor.Segs
