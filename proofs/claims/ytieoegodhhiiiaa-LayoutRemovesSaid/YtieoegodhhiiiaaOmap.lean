/- Maps that a call makes, as functions from keys to what they hold. No program. -/
import Derived.Maps.Own
import Derived.Maps.OwnOps
import Derived.Maps.OwnSet
import Derived.Maps.Views
import Derived.DeepKeys5
namespace Go.Proofs.Ytieoegodhhiiiaa.Omap
open Go.Maps (Keyed)

/-- How keys and what they hold are spelled. -/
structure MapForm (P : Program) (k e : TypeId) (κ ε : Type) where
  kv : κ → Value
  ok : κ → Prop
  ev : ε → Value
  de : ε → DataW Unit
  z0 : ε
  keyed : Keyed P k
  key : ∀ x, ok x → ∃ l, keyOf P k (kv x) = some l
  kinj : ∀ x y, kv x = kv y → x = y
  einj : ∀ x y, ev x = ev y → x = y
  dinj : ∀ x y, de x = de y → x = y
  zero : ∀ w, (zeroValue e).run P w = .ok (ev z0) w

section
variable {P : Program} {k e : TypeId} {κ ε : Type} (F : MapForm P k e κ ε)

/-- How what a key holds reads. -/
noncomputable def MapForm.rd (v : Value) : Option (DataW Unit × List MemPlace) :=
  open Classical in if h : ∃ y, F.ev y = v then some (F.de h.choose, []) else none
theorem MapForm.rd_of (y : ε) : F.rd (F.ev y) = some (F.de y, []) := by
  have h : ∃ y', F.ev y' = F.ev y := ⟨y, rfl⟩
  unfold MapForm.rd
  rw [dif_pos h, F.einj _ _ h.choose_spec]
theorem MapForm.rd_inv {v : Value} {y : ε} {ps : List MemPlace} (h : F.rd v = some (F.de y, ps)) : v = F.ev y := by
  unfold MapForm.rd at h
  split at h
  · rename_i hx
    simp only [Option.some.injEq, Prod.mk.injEq] at h
    rw [← hx.choose_spec, F.dinj _ _ h.1]
  · cases h

/-- Block b of w is a map that holds what f says. -/
def MapForm.Is (w : World) (b n : Nat) (f : κ → Option ε) : Prop :=
  ∃ D, w.ownsMap P k F.rd b n D ∧ ∀ x l, keyOf P k (F.kv x) = some l → Maps.has D l = (f x).isSome ∧ ∀ z, D.atKey l z = match f x with | some y => F.de y | none => z
def upd [DecidableEq κ] (f : κ → Option ε) (x : κ) (y : ε) : κ → Option ε := fun x' => if x' = x then some y else f x'

theorem MapForm.made (w : World) : F.Is (w.alloc (.map #[] 0)) w.heap.size 0 (fun _ => none) :=
  ⟨.map [], World.ownsMap_made w P k _, fun _ _ _ => ⟨rfl, fun _ => rfl⟩⟩
theorem MapForm.kept {w w' : World} {b n : Nat} {f : κ → Option ε} {row : Option Nat} (h : F.Is w b n f) (hg : w.grownBy w' row) (hne : some b ≠ row) : F.Is w' b n f := by
  obtain ⟨D, h1, h2⟩ := h
  exact ⟨D, h1.kept hg hne, h2⟩
theorem MapForm.alloc {w : World} {b n : Nat} {f : κ → Option ε} (h : F.Is w b n f) (o : Obj) : F.Is (w.alloc o) b n f := by
  obtain ⟨D, h1, h2⟩ := h
  exact ⟨D, h1.alloc o, h2⟩
theorem MapForm.lt {w : World} {b n : Nat} {f : κ → Option ε} (h : F.Is w b n f) : b < w.heap.size := by
  obtain ⟨D, h1, _⟩ := h
  exact h1.lt
/-- .. and a block that is as it was. -/
theorem MapForm.same {w w' : World} {b n : Nat} {f : κ → Option ε} (h : F.Is w b n f) (hb : w'.heap[b]? = w.heap[b]?) : F.Is w' b n f := by
  obtain ⟨D, ⟨es, clock, h0, h1⟩, h2⟩ := h
  exact ⟨D, ⟨es, clock, hb.trans h0, h1⟩, h2⟩

/-- v, ok := m[x]. -/
theorem MapForm.look_ok {t : TypeId} {w : World} {b n : Nat} {f : κ → Option ε} (h : F.Is w b n f) (ht : P.underlying t = some (.map k e)) {x : κ} (hx : F.ok x) :
    (Instr.lookup t (.map (some b)) (F.kv x) true).run P w = .ok (.tuple #[F.ev ((f x).getD F.z0), .bool (f x).isSome]) w := by
  obtain ⟨D, h1, h2⟩ := h
  obtain ⟨l, hl⟩ := F.key x hx
  obtain ⟨ha, hb⟩ := h2 x l hl
  obtain ⟨v, ps, hr, hv⟩ := h1.look_ok F.keyed ht (F.zero w) (F.rd_of F.z0) hl
  rw [hr, ha]
  rw [hb] at hv
  cases hf : f x with
  | none =>
    rw [hf] at hv
    rw [F.rd_inv hv]
    rfl
  | some y =>
    rw [hf] at hv
    rw [F.rd_inv hv]
    rfl
/-- m[x]. -/
theorem MapForm.look {t : TypeId} {w : World} {b n : Nat} {f : κ → Option ε} (h : F.Is w b n f) (ht : P.underlying t = some (.map k e)) {x : κ} (hx : F.ok x) :
    (Instr.lookup t (.map (some b)) (F.kv x) false).run P w = .ok (F.ev ((f x).getD F.z0)) w := by
  obtain ⟨D, h1, h2⟩ := h
  obtain ⟨l, hl⟩ := F.key x hx
  obtain ⟨_, hb⟩ := h2 x l hl
  obtain ⟨v, ps, hr, hv⟩ := h1.lookup F.keyed ht (F.zero w) (F.rd_of F.z0) hl
  rw [hr]
  rw [hb] at hv
  cases hf : f x with
  | none =>
    rw [hf] at hv
    rw [F.rd_inv hv]
    rfl
  | some y =>
    rw [hf] at hv
    rw [F.rd_inv hv]
    rfl
theorem isMap_of {w : World} {R : Value → Option (DataW Unit × List MemPlace)} {b n : Nat} {D : DataW Unit} (h : w.ownsMap P k R b n D) : Maps.IsMap D := by
  obtain ⟨es, clock, _, _, _, rfl⟩ := h
  exact ⟨_, rfl⟩
/-- m[x] = y. -/
theorem MapForm.update [DecidableEq κ] {t : TypeId} {w : World} {b n : Nat} {f : κ → Option ε} (h : F.Is w b n f) (ht : P.underlying t = some (.map k e)) (hn : n < maxLen) {x : κ} (hx : F.ok x) (y : ε) :
    ∃ w', (Instr.mapUpdate t (.map (some b)) (F.kv x) (F.ev y)).run P w = .ok () w' ∧ F.Is w' b (n + 1) (upd f x y) ∧ w.grownBy w' (some b) := by
  obtain ⟨D, h1, h2⟩ := h
  obtain ⟨l, hl⟩ := F.key x hx
  obtain ⟨w', hr, h3, h4⟩ := h1.update F.keyed ht hn hl (F.rd_of y)
  refine ⟨w', hr, ⟨_, h3, fun x' l' hl' => ?_⟩, h4⟩
  have hm := isMap_of h1
  have hk := F.keyed.key hl
  by_cases hxx : x' = x
  · subst hxx
    have e : l' = l := Option.some.inj (hl'.symm.trans hl)
    subst e
    rw [upd, if_pos rfl]
    exact ⟨Maps.has_put_same hm hk _, fun z => Maps.atKey_put_same hm hk _ z⟩
  · have hne : l' ≠ l := fun e => by
      subst e
      exact hxx (F.kinj _ _ (F.keyed.inj hl' hl))
    rw [upd, if_neg hxx]
    obtain ⟨a1, a2⟩ := h2 x' l' hl'
    exact ⟨(Maps.has_put_other hne _).trans a1, fun z => (Maps.atKey_put_other hne _ z).trans (a2 z)⟩
/-- m[x] = y, at the operation: '(at_mapUpdate; refine F.step _ rfl _ _ _ T rfl ht hn hx b rfl h _ _ rfl rfl ?_; intro w' h' hg')'. -/
theorem MapForm.step [DecidableEq κ] (w : World) {ops : Array Oper} {rest : List Oper} {o : Oper} {a : Act} {Q : Exit → Act → World → Prop}
    (hg : o.guard = none) (m x v : Operand) (t : TypeId) (hop : o.op = Op.mapUpdate t m x v) (ht : P.underlying t = some (.map k e)) {n : Nat} (hn : n < maxLen) {q : κ} (hq : F.ok q) (b : Nat) (hm : a.eval m = .map (some b)) {f : κ → Option ε} (h : F.Is w b n f)
    (y : ε) (hx : a.eval x = F.kv q) (hv : a.eval v = F.ev y) (hK : ∀ w', F.Is w' b (n + 1) (upd f q y) → w.grownBy w' (some b) → wpList P ops Q rest (a.put o.dst undef) w') : wpList P ops Q (o :: rest) a w := by
  refine wpList_plain hg fun K' hK' => ?_
  obtain ⟨w', hrun, r1, r2⟩ := F.update h ht hn hq y
  unfold Oper.wp
  simp [execOp, hop, hm, hx, hv, hrun, Result.andThen]
  exact hK' _ _ (hK w' r1 r2)
end

end Go.Proofs.Ytieoegodhhiiiaa.Omap
