/- append of rows of several cells in a region that draws its order. -/
import Derived.Test.YtieoegodhhiiiaaLnmd
import Derived.Test.YtieoegodhhiiiaaLay
namespace Go.Proofs.Ytieoegodhhiiiaa.Lapp
open Go.RowKit Go.Lib Go.Proofs.Ytieoegodhhiiiaa.Lay Go.Proofs.Ytieoegodhhiiiaa.Rows2

theorem step_append_rows {P : Program} {ops : Array Oper} {o : Oper} {a : Act} {w : World} {K : Act → World → Prop} {Q : Exit → Act → World → Prop} {E : Prop}
    (hg : o.guard = none) (s x : Operand) (t : TypeId) (hop : o.op = Op.call { callee := Callee.builtin Builtin.append, args := #[s, x], argTypes := #[t, t] })
    (base : Nat) (e : TypeId) (i : TypeInfo) (z : Value) (size bytes : Nat) (ht : P.underlying t = some (.slice e)) (hi : P.info? e = some i) (hz : i.zero = some z)
    (hsize : i.size = size) (hby : i.bytes = bytes) (hzs : z.cells.size = size) (hsz : 0 < size)
    (v : Value) (n : Nat) (xs : List Value) (hs : a.eval s = v) (hown : w.ownsRow base e size v n xs)
    (ad : Addr) (m c : Nat) (news : List Value) (hx : a.eval x = .slice (some ad) m c) (hl : news.length = m * size) (hnews : ∀ j u, news[j]? = some u → w.cell? (ad.add j) = some u) (h1 : ∀ u ∈ news, u.oneCell' = true)
    (h63 : n + m ≤ maxLen) (hbytes : (n + m) * bytes ≤ 140737488355328) (hbase : base ≤ w.heap.size)
    (h : ∀ v' w', w'.ownsRow base e size v' (n + m) (xs ++ news) → w.grownBy w' v.ownBlock → K (a.put o.dst v') w') :
    if Region.wanted o (yielded ops a.tmps) = true then Oper.wp P o a w K Q else E := by
  have hw : Region.wanted o (yielded ops a.tmps) = true := by simp [Region.wanted, hg]
  rw [if_pos hw]
  obtain ⟨v', w', hr, h2, h3, _, _⟩ := run_append_own_at (P := P) w base t o.type e i z size bytes ht hi hz hsize hby hzs hsz v n xs hown ad m c news hl hnews h1 h63 hbytes hbase
  unfold Oper.wp execOp
  simp only [hop, resolve, invoke, builtin, Sem.run_bind, Sem.run_pure, Result.andThen_ok, List.map_toArray, List.map_cons, List.map_nil, hs, hx, hr]
  exact h v' w' h2 h3

/-- The cells of rows, one behind the other. -/
theorem rows_cells {w : World} {b sz : Nat} : ∀ {rows : List (List Value)} {off : Nat}, (∀ i r, rows[i]? = some r → ∀ j x, r[j]? = some x → w.cell? ⟨b, off + i * sz + j, none⟩ = some x) → (∀ r ∈ rows, r.length = sz) →
    ∀ j u, rows.flatten[j]? = some u → w.cell? ⟨b, off + j, none⟩ = some u
  | [], _, _, _, j, u, h => by simp at h
  | r :: rows, off, hc, hl, j, u, h => by
    rw [List.flatten_cons] at h
    have hr : r.length = sz := hl r List.mem_cons_self
    by_cases hj : j < r.length
    · rw [List.getElem?_append_left hj] at h
      have := hc 0 r rfl j u h
      rwa [Nat.zero_mul, Nat.add_zero] at this
    · rw [List.getElem?_append_right (by omega)] at h
      have := rows_cells (rows := rows) (off := off + sz) (fun i q hq j x hx => by
        have := hc (i + 1) q (by simpa using hq) j x hx
        rwa [Nat.succ_mul, show off + (i * sz + sz) + j = off + sz + i * sz + j by omega] at this) (fun q hq => hl q (List.mem_cons_of_mem _ hq)) (j - r.length) u h
      rwa [hr, show off + sz + (j - sz) = off + j by omega] at this
theorem rows_take {w : World} {b sz off k : Nat} {rows : List (List Value)} (hc : ∀ i r, rows[i]? = some r → ∀ j x, r[j]? = some x → w.cell? ⟨b, off + i * sz + j, none⟩ = some x) (hl : ∀ r ∈ rows, r.length = sz) :
    ∀ j u, (rows.take k).flatten[j]? = some u → w.cell? ⟨b, off + j, none⟩ = some u :=
  rows_cells (fun i r hr => hc i r (by
    rw [List.getElem?_take] at hr
    split at hr
    · exact hr
    · cases hr)) fun r hr => hl r (List.mem_of_mem_take hr)
theorem rows_drop {w : World} {b sz off k : Nat} {rows : List (List Value)} (hc : ∀ i r, rows[i]? = some r → ∀ j x, r[j]? = some x → w.cell? ⟨b, off + i * sz + j, none⟩ = some x) (hl : ∀ r ∈ rows, r.length = sz) :
    ∀ j u, (rows.drop k).flatten[j]? = some u → w.cell? ⟨b, off + k * sz + j, none⟩ = some u :=
  rows_cells (fun i r hr j x hx => by
    have := hc (k + i) r (by rwa [List.getElem?_drop] at hr) j x hx
    rwa [Nat.add_mul, show off + (k * sz + i * sz) + j = off + k * sz + i * sz + j by omega] at this) fun r hr => hl r (List.mem_of_mem_drop hr)
theorem rows_len {sz : Nat} : ∀ {rows : List (List Value)}, (∀ r ∈ rows, r.length = sz) → rows.flatten.length = rows.length * sz
  | [], _ => by simp
  | r :: rows, h => by
    rw [List.flatten_cons, List.length_append, rows_len fun q hq => h q (List.mem_cons_of_mem _ hq), h r List.mem_cons_self, List.length_cons, Nat.succ_mul]
    omega

end Go.Proofs.Ytieoegodhhiiiaa.Lapp
