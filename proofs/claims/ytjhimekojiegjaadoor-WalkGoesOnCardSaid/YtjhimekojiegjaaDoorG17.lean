/- Texts of this proof, merged: Wplg, Wgor. -/
import Derived.Test.YtjhimekojiegjaaDoorG13
import Derived.Test.YtjhimekojiegjaaDoorG04
import Derived.Test.YtjhimekojiegjaaDoorG05

/- How a way goes on. Plain. -/
namespace Go.Proofs.YtjhimekojiegjaaDoor.Wplg
open Go.Proofs.YtjhimekojiegjaaDoor.Lay Go.Proofs.YtjhimekojiegjaaDoor.Layf Go.Proofs.YtjhimekojiegjaaDoor.Lcon Go.Proofs.YtjhimekojiegjaaDoor.Rows2 Go.Proofs.YtjhimekojiegjaaDoor.Way
open Go.Proofs.YtjhimekojiegjaaDoor.Rail (needF legsF mem_legs legs_len sidesF)

theorem goes_snoc (L : Lay) (s : Stp) : ∀ (way bef : List Stp), goesR L bef (way ++ [s]) = (goesR L bef way && goesB L (bef ++ way) s)
  | [], bef => by simp [goesR]
  | x :: r, bef => by
    rw [List.cons_append, goesR, goesR, goes_snoc L s r, Bool.and_assoc, List.append_assoc, List.singleton_append]
theorem any_take {α : Type} {p : α → Bool} {l : List α} {k : Nat} {x : α} (h : l[k]? = some x) : (l.take (k + 1)).any p = ((l.take k).any p || p x) := by
  rw [List.take_add_one, h, List.any_append]
  simp
theorem longer {L : Lay} {way : List Stp} {p : Stp} {at2 : Int × Int} (hv : validF L way = true) (hn : way.length < 64) (hp : way.getLast? = some p) (hx : nextS L p = (at2, true)) :
    ∀ s ∈ branchesF L at2, validF L (way ++ [s]) = !(way.any fun x => decide (x.1 = at2.1)) := fun s hs => by
  unfold validF at hv ⊢
  simp only [Bool.and_eq_true, decide_eq_true_eq] at hv
  obtain ⟨h1, h2⟩ := hv
  have hl : decide (1 ≤ (way ++ [s]).length ∧ (way ++ [s]).length ≤ 64) = true := by
    rw [decide_eq_true_eq, List.length_append, List.length_singleton]
    omega
  rw [hl, goes_snoc, h2, Bool.true_and, Bool.true_and, List.nil_append]
  have hb : elOf L.els at2.1 ≠ none := fun h => by
    rw [branchesF, h] at hs
    cases hs
  cases he : elOf L.els at2.1 with
  | none => exact absurd he hb
  | some x =>
    rw [branches_some he] at hs
    obtain ⟨o, ho, rfl⟩ := List.mem_map.1 hs
    have hno : (needS L.els (at2.1, at2.2, o)).2 = true := by
      rw [need_some he]
      exact (mem_legs _ _ _).1 ho
    have he2 : decide (nextS L p = ((at2.1, at2.2), true)) = true := by rw [hx]; simp
    rw [goesB, hno, hp]
    simp only [Bool.true_and]
    rw [show decide (nextS L p = ((at2.1, at2.2), true)) = true from he2, Bool.true_and]
    rw [Bool.eq_iff_iff]
    simp
theorem some_branch {L : Lay} (hc : checkF L = 0) {p : Stp} {at2 : Int × Int} (hx : nextS L p = (at2, true)) : 0 < (branchesF L at2).length := by
  have hj := joined_exists hc (show joinedF L (p.1, p.2.2) = (at2, true) from hx)
  unfold existsB at hj
  cases hg : L.els[at2.1.toNat]? with
  | none =>
    rw [hg] at hj
    cases hj
  | some x =>
    rw [hg] at hj
    simp only [Bool.and_eq_true, decide_eq_true_eq] at hj
    obtain ⟨h0, h1, h2⟩ := hj
    have he : elOf L.els at2.1 = some x := by rw [elOf, if_pos h0, hg]
    rw [branches_some he, List.length_map, legs_len]
    have hsd : sidesN x.kind = sidesF x.kind := rfl
    rw [if_neg (by rw [← hsd]; omega)]
    split <;> omega

end Go.Proofs.YtjhimekojiegjaaDoor.Wplg

/- Rows appended in a drawn region: what stays beside. -/
namespace Go.Proofs.YtjhimekojiegjaaDoor.Wgor
open Go.RowKit Go.Lib Go.Proofs.YtjhimekojiegjaaDoor.Reads Go.Proofs.YtjhimekojiegjaaDoor.Rows2 Go.Proofs.YtjhimekojiegjaaDoor.Lay Go.Proofs.YtjhimekojiegjaaDoor.Layf Go.Proofs.YtjhimekojiegjaaDoor.Lnam Go.Proofs.YtjhimekojiegjaaDoor.Lext Go.Proofs.YtjhimekojiegjaaDoor.Way Go.Proofs.YtjhimekojiegjaaDoor.Wlst Go.Proofs.YtjhimekojiegjaaDoor.Wmea

theorem step_rows {P : Program} {ops : Array Oper} {o : Oper} {a : Act} {w : World} {K : Act → World → Prop} {Q : Exit → Act → World → Prop} {E : Prop}
    (hg : o.guard = none) (s x : Operand) (t : TypeId) (hop : o.op = Op.call { callee := Callee.builtin Builtin.append, args := #[s, x], argTypes := #[t, t] })
    (e : TypeId) (i : TypeInfo) (z : Value) (sz bytes : Nat) (ht : P.underlying t = some (.slice e)) (hi : P.info? e = some i) (hz : i.zero = some z)
    (hsize : i.size = sz) (hby : i.bytes = bytes) (hzs : z.cells.size = sz) (hpos : 0 < sz)
    {α : Type} (f : α → List Value) (hlen : ∀ a, (f a).length = sz) (hone : ∀ a, ∀ u ∈ f a, u.oneCell' = true)
    {v : Value} (l news : List α) {xa : Addr} {m c : Nat} (hs : a.eval s = v) (hx : a.eval x = .slice (some xa) m c) (hm : m = news.length)
    (hnews : ∀ j u, (news.flatMap f)[j]? = some u → w.cell? (xa.add j) = some u)
    (B : Nat) (ho : w.ownsRow B e sz v l.length (l.flatMap f)) (hB : B ≤ w.heap.size) (hn : (l.length + news.length) * bytes ≤ 140737488355328) (hn2 : l.length + news.length ≤ maxLen)
    (h : ∀ v' w', w'.ownsRow B e sz v' (l ++ news).length ((l ++ news).flatMap f) → w.grownBy w' v.ownBlock → K (a.put o.dst v') w') :
    if Region.wanted o (yielded ops a.tmps) = true then Oper.wp P o a w K Q else E := by
  subst hm
  have hw : Region.wanted o (yielded ops a.tmps) = true := by simp [Region.wanted, hg]
  rw [if_pos hw]
  have hfl : (news.flatMap f).length = news.length * sz := by
    clear hnews hn hn2 h hx
    induction news with
    | nil => simp
    | cons y r ih => rw [List.flatMap_cons, List.length_append, hlen, ih, List.length_cons, Nat.succ_mul, Nat.add_comm]
  obtain ⟨v', w', hr, q2, q3, _, _⟩ := run_append_own_at (P := P) w B t o.type e i z sz bytes ht hi hz hsize hby hzs hpos v l.length (l.flatMap f) ho xa news.length c (news.flatMap f) hfl hnews (fun u hu => by
    obtain ⟨y, _, hy⟩ := List.mem_flatMap.1 hu
    exact hone y u hy) hn2 hn hB
  unfold Oper.wp execOp
  simp only [hop, resolve, invoke, builtin, Sem.run_bind, Sem.run_pure, Result.andThen_ok, List.map_toArray, List.map_cons, List.map_nil, hs, hx, hr]
  exact h v' w' (by simpa [List.flatMap_append] using q2) q3

theorem own_none (W : World) (e : TypeId) : (W.alloc (.cells #[] e)).ownsRow W.heap.size e 3 (.slice (some ⟨W.heap.size, 0, none⟩) 0 0) ([] : List Stp).length (([] : List Stp).flatMap stCells) :=
  World.ownsRow_lit W #[] 0 (Nat.le_refl _) (by unfold maxLen; omega) (by simp)
theorem own_some {B n sz : Nat} {e : TypeId} {v : Value} {xs : List Value} {w : World} (h : w.ownsRow B e sz v n xs) : ∃ A C, v = .slice A n C := by
  obtain ⟨_, hor⟩ := h
  rcases hor with ⟨rfl, h0⟩ | ⟨g, cap, cur, rfl, _⟩
  · exact ⟨none, 0, by rw [h0]⟩
  · exact ⟨_, _, rfl⟩
theorem way_flat {b : Nat} {w : World} : ∀ {l : List Stp} {off : Nat}, (∀ (k : Nat) (x : Stp), l[k]? = some x → w.cell? ⟨b, off + k * 3, none⟩ = some (.int .i64 x.1) ∧ w.cell? ⟨b, off + k * 3 + 1, none⟩ = some (.int .i64 x.2.1) ∧ w.cell? ⟨b, off + k * 3 + 2, none⟩ = some (.int .i64 x.2.2)) →
    ∀ (i : Nat) (u : Value), (l.flatMap stCells)[i]? = some u → w.cell? ((⟨b, off, none⟩ : Addr).add i) = some u
  | [], off, _, i, u, hu => by simp at hu
  | x :: r, off, h, i, u, hu => by
    rw [add_mk]
    obtain ⟨c0, c1, c2⟩ := h 0 x rfl
    simp only [Nat.zero_mul, Nat.add_zero] at c0 c1 c2
    rw [List.flatMap_cons] at hu
    rcases i with _ | _ | _ | i
    · have : Value.int .i64 x.1 = u := Option.some.inj hu
      rw [← this]
      exact c0
    · have : Value.int .i64 x.2.1 = u := Option.some.inj hu
      rw [← this]
      exact c1
    · have : Value.int .i64 x.2.2 = u := Option.some.inj hu
      rw [← this]
      exact c2
    · have ih := way_flat (b := b) (w := w) (l := r) (off := off + 3) (fun k y hy => by
        have := h (k + 1) y hy
        rwa [show off + (k + 1) * 3 = off + 3 + k * 3 by omega] at this) i u hu
      rw [add_mk] at ih
      rwa [show off + (i + 1 + 1 + 1) = off + 3 + i by omega]

theorem own_none2 (W : World) (e : TypeId) {B g : Nat} (hB : B ≤ W.heap.size) (hg : W.heap.size = g) : (W.alloc (.cells #[] e)).ownsRow B e 3 (.slice (some ⟨g, 0, none⟩) 0 0) ([] : List Stp).length (([] : List Stp).flatMap stCells) := by
  subst hg
  exact World.ownsRow_lit W #[] 0 hB (by unfold maxLen; omega) (by simp)
theorem lit_cells {w : World} {g : Nat} {T : TypeId} {x1 x2 x3 : Int} (h : w.heap[g]? = some (.cells #[.int .i64 x1, .int .i64 x2, .int .i64 x3] T)) : ∀ (j : Nat) (u : Value), (([(x1, x2, x3)] : List Stp).flatMap stCells)[j]? = some u → w.cell? ((⟨g, 0, none⟩ : Addr).add j) = some u := by
  intro j u hu
  rw [add_mk, Nat.zero_add]
  have h2 := cell_of_row w g j _ _ _ h
  rw [h2]
  rcases j with _ | _ | _ | j
  · exact hu
  · exact hu
  · exact hu
  · simp [stCells] at hu
theorem row_grown {w w' : World} {g k : Nat} {n c : Nat} {o : Obj} (hg : w.grownBy w' (Value.slice (some ⟨k, 0, none⟩) n c).ownBlock) (hr : w.heap[g]? = some o) (hlt : g < w.heap.size) (hne : g ≠ k) : w'.heap[g]? = some o :=
  (hg.block g hlt (fun e => hne (Option.some.inj e))).trans hr

end Go.Proofs.YtjhimekojiegjaaDoor.Wgor
