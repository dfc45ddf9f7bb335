/- Maps that a call makes, with the number of their keys; whether something is in a list twice, by such a map. -/
import Derived.Test.YtieoegodhhiiiaaLmap
import Derived.Test.YtieoegodhhiiiaaLnmd
namespace Go.Proofs.Ytieoegodhhiiiaa.Omapn
open Go.RowKit Go.Lib Go.Maps Go.Proofs.Ytieoegodhhiiiaa.Lay Go.Proofs.Ytieoegodhhiiiaa.Layf Go.Proofs.Ytieoegodhhiiiaa.Lext Go.Proofs.Ytieoegodhhiiiaa.Omap Go.Proofs.Ytieoegodhhiiiaa.Lmap Go.Proofs.Ytieoegodhhiiiaa.Rows2 Go.Proofs.Ytieoegodhhiiiaa.Ldup Go.Proofs.Ytieoegodhhiiiaa.Reads

section
variable {P : Program} {k e : TypeId} {κ ε : Type} (F : MapForm P k e κ ε)

/-- Block b of w is a map of c keys that holds what f says. -/
def IsC (w : World) (b n c : Nat) (f : κ → Option ε) : Prop :=
  ∃ D, w.ownsMap P k F.rd b n D ∧ Maps.size D = c ∧ ∀ x l, keyOf P k (F.kv x) = some l → Maps.has D l = (f x).isSome ∧ ∀ z, D.atKey l z = match f x with | some y => F.de y | none => z
theorem IsC.is {w : World} {b n c : Nat} {f : κ → Option ε} (h : IsC F w b n c f) : F.Is w b n f := by
  obtain ⟨D, h1, _, h2⟩ := h
  exact ⟨D, h1, h2⟩
theorem isC_made (w : World) : IsC F (w.alloc (.map #[] 0)) w.heap.size 0 0 (fun _ => none) :=
  ⟨.map [], World.ownsMap_made w P k _, rfl, fun _ _ _ => ⟨rfl, fun _ => rfl⟩⟩
theorem IsC.kept {w w' : World} {b n c : Nat} {f : κ → Option ε} {row : Option Nat} (h : IsC F w b n c f) (hg : w.grownBy w' row) (hne : some b ≠ row) : IsC F w' b n c f := by
  obtain ⟨D, h1, h2⟩ := h
  exact ⟨D, h1.kept hg hne, h2⟩
theorem IsC.alloc {w : World} {b n c : Nat} {f : κ → Option ε} (h : IsC F w b n c f) (o : Obj) : IsC F (w.alloc o) b n c f := by
  obtain ⟨D, h1, h2⟩ := h
  exact ⟨D, h1.alloc o, h2⟩
theorem IsC.drew {w : World} {b n c : Nat} {f : κ → Option ε} (h : IsC F w b n c f) : IsC F w.drew b n c f := by
  obtain ⟨D, h1, h2⟩ := h
  exact ⟨D, h1.drew, h2⟩
theorem IsC.lt {w : World} {b n c : Nat} {f : κ → Option ε} (h : IsC F w b n c f) : b < w.heap.size := by
  obtain ⟨D, h1, _⟩ := h
  exact h1.lt
theorem IsC.le {w : World} {b n c : Nat} {f : κ → Option ε} (h : IsC F w b n c f) : c ≤ n := by
  obtain ⟨D, h1, h2, _⟩ := h
  rw [← h2]
  exact h1.size_le
theorem IsC.same {w w' : World} {b n c : Nat} {f : κ → Option ε} (h : IsC F w b n c f) (hb : w'.heap[b]? = w.heap[b]?) : IsC F w' b n c f := by
  obtain ⟨D, ⟨es, clock, h0, h1⟩, h2⟩ := h
  exact ⟨D, ⟨es, clock, hb.trans h0, h1⟩, h2⟩
/-- len(m). -/
theorem IsC.len {t ty : TypeId} {w : World} {b n c : Nat} {f : κ → Option ε} (h : IsC F w b n c f) (ht : P.underlying t = some (.map k e)) : (Builtin.len_ #[t] ty #[.map (some b)]).run P w = .ok (.int .i64 (c : Int)) w := by
  obtain ⟨D, h1, h2, _⟩ := h
  rw [h1.len ht ty, h2]
/-- m[x] = y. -/
theorem IsC.update [DecidableEq κ] {t : TypeId} {w : World} {b n c : Nat} {f : κ → Option ε} (h : IsC F w b n c f) (ht : P.underlying t = some (.map k e)) (hn : n < maxLen) {x : κ} (hx : F.ok x) (y : ε) :
    ∃ w', (Instr.mapUpdate t (.map (some b)) (F.kv x) (F.ev y)).run P w = .ok () w' ∧ IsC F w' b (n + 1) (if (f x).isSome = true then c else c + 1) (upd f x y) ∧ w.grownBy w' (some b) := by
  obtain ⟨D, h1, hs, h2⟩ := h
  obtain ⟨l, hl⟩ := F.key x hx
  obtain ⟨w', hr, h3, h4⟩ := h1.update F.keyed ht hn hl (F.rd_of y)
  have hm := isMap_of h1
  have hk := F.keyed.key hl
  refine ⟨w', hr, ⟨_, h3, ?_, fun x' l' hl' => ?_⟩, h4⟩
  · rw [Maps.size_put (h1.tidy F.keyed), (h2 x l hl).1, hs]
  · by_cases hxx : x' = x
    · subst hxx
      have e : l' = l := Option.some.inj (hl'.symm.trans hl)
      subst e
      rw [upd, if_pos rfl]
      exact ⟨Maps.has_put_same hm hk _, fun z => Maps.atKey_put_same hm hk _ z⟩
    · have hne : l' ≠ l := fun e => by
        subst e
        exact hxx (F.kinj _ _ (F.keyed.inj hl' hl))
      rw [upd, if_neg hxx]
      obtain ⟨a1, a2⟩ := h2 x' l' hl'
      exact ⟨(Maps.has_put_other hne _).trans a1, fun z => (Maps.atKey_put_other hne _ z).trans (a2 z)⟩
/-- m[x] = y, at the operation. -/
theorem IsC.step [DecidableEq κ] (w : World) {ops : Array Oper} {rest : List Oper} {o : Oper} {a : Act} {Q : Exit → Act → World → Prop}
    (hg : o.guard = none) (m x v : Operand) (t : TypeId) (hop : o.op = Op.mapUpdate t m x v) (ht : P.underlying t = some (.map k e)) {n c : Nat} (hn : n < maxLen) {q : κ} (hq : F.ok q) (b : Nat) (hm : a.eval m = .map (some b)) {f : κ → Option ε} (h : IsC F w b n c f)
    (y : ε) (hx : a.eval x = F.kv q) (hv : a.eval v = F.ev y) (hK : ∀ w', IsC F w' b (n + 1) (if (f q).isSome = true then c else c + 1) (upd f q y) → w.grownBy w' (some b) → wpList P ops Q rest (a.put o.dst undef) w') : wpList P ops Q (o :: rest) a w := by
  refine wpList_plain hg fun K' hK' => ?_
  obtain ⟨w', hrun, r1, r2⟩ := IsC.update F h ht hn hq y
  unfold Oper.wp
  simp [execOp, hop, hm, hx, hv, hrun, Result.andThen]
  exact hK' _ _ (hK w' r1 r2)
/-- len(m), at the operation. -/
theorem IsC.len_step {w : World} {ops : Array Oper} {rest : List Oper} {o : Oper} {a : Act} {Q : Exit → Act → World → Prop}
    (hg : o.guard = none) (m : Operand) (t : TypeId) (hop : o.op = Op.call { callee := Callee.builtin Builtin.len, args := #[m], argTypes := #[t] }) (ht : P.underlying t = some (.map k e)) {b n c : Nat} {f : κ → Option ε} (hm : a.eval m = .map (some b)) (h : IsC F w b n c f)
    (hK : wpList P ops Q rest (a.put o.dst (.int .i64 (c : Int))) w) : wpList P ops Q (o :: rest) a w := by
  refine wpList_plain hg fun K' hK' => ?_
  unfold Oper.wp
  simp [execOp, hop, resolve, invoke, builtin, hm, IsC.len F h ht, Result.andThen]
  exact hK' _ _ hK
end

/-! Counting what differs. -/
theorem dup_snoc {α : Type} [DecidableEq α] (x : α) : ∀ (l : List α), dupB (l ++ [x]) = (dupB l || decide (x ∈ l))
  | [] => by simp [dupB]
  | y :: l => by
    rw [List.cons_append, dupB, dupB, dup_snoc x l, Bool.eq_iff_iff]
    simp only [Bool.or_eq_true, decide_eq_true_eq, List.mem_append, List.mem_cons, List.not_mem_nil, or_false]
    constructor
    · rintro ((h | rfl) | h | h)
      · exact .inl (.inl h)
      · exact .inr (.inl rfl)
      · exact .inl (.inr h)
      · exact .inr (.inr h)
    · rintro ((h | h) | rfl | h)
      · exact .inl (.inl h)
      · exact .inr (.inl h)
      · exact .inl (.inr rfl)
      · exact .inr (.inr h)
/-- c counts what differs in l: all of it exactly if nothing is there twice. -/
def Cd {α : Type} [DecidableEq α] (l : List α) (c : Nat) : Prop := c ≤ l.length ∧ (c = l.length ↔ dupB l = false)
theorem cd_nil {α : Type} [DecidableEq α] : Cd ([] : List α) 0 := ⟨Nat.le_refl _, by simp [dupB]⟩
theorem cd_snoc {α : Type} [DecidableEq α] {l : List α} {c : Nat} {x : α} {s : Bool} (h : Cd l c) (hs : s = decide (x ∈ l)) : Cd (l ++ [x]) (if s = true then c else c + 1) := by
  obtain ⟨h1, h2⟩ := h
  unfold Cd
  rw [dup_snoc, List.length_append, List.length_singleton, Bool.or_eq_false_iff, ← h2, hs]
  by_cases hx : x ∈ l
  · simp only [hx, decide_true, if_true]
    refine ⟨by omega, ?_⟩
    constructor
    · intro h
      omega
    · intro h
      cases h.2
  · simp only [hx, decide_false, Bool.false_eq_true, if_false, and_true]
    exact ⟨by omega, by omega⟩
theorem cd_eq {α : Type} [DecidableEq α] {l : List α} {c : Nat} (h : Cd l c) : ((c : Int) == (l.length : Int)) = !dupB l := by
  cases hd : dupB l with
  | false => simp [h.2.2 hd]
  | true =>
    have : c ≠ l.length := fun e => by rw [h.2.1 e] at hd; cases hd
    simp; omega
/-- The keys that are there are those of a list. -/
def Keys {κ ε : Type} [DecidableEq κ] (f : κ → Option ε) (l : List κ) : Prop := ∀ x, (f x).isSome = decide (x ∈ l)
theorem keys_nil {κ ε : Type} [DecidableEq κ] : Keys (fun _ => none : κ → Option ε) [] := fun _ => by simp
theorem keys_snoc {κ ε : Type} [DecidableEq κ] {f : κ → Option ε} {l : List κ} {x : κ} {y : ε} (h : Keys f l) : Keys (upd f x y) (l ++ [x]) := fun z => by
  unfold upd
  by_cases e : z = x
  · simp [e]
  · rw [if_neg e, h z]
    simp [e]
theorem take_more {α : Type} {l : List α} {j : Nat} {x : α} (h : l[j]? = some x) : l.take (j + 1) = l.take j ++ [x] := by
  obtain ⟨hj, rfl⟩ := List.getElem?_eq_some_iff.1 h
  exact List.take_succ_eq_append_getElem hj

theorem litB_inj (x y : Bool) (h : (DataW.lit (.bool x) : DataW Unit) = .lit (.bool y)) : x = y := by
  simpa using h
/-- map[string]bool. -/
def strBool : MapForm Try.prog 9 4 (List UInt8) Bool where
  kv := fun s => .string (Go.Proofs.Ytieoegodhhiiiaa.Text.bs s)
  ok := fun s => s.length ≤ maxLen
  ev := .bool
  de := fun x => .lit (.bool x)
  z0 := false
  keyed := string_keyed Try.underlying9
  key := fun s h => ⟨_, Go.WideMaps.keyOf_string_mk Try.underlying9 (by rw [Go.Proofs.Ytieoegodhhiiiaa.Text.bs_size]; exact h)⟩
  kinj := fun s t h => by
    have h2 : Go.Proofs.Ytieoegodhhiiiaa.Text.bs s = Go.Proofs.Ytieoegodhhiiiaa.Text.bs t := by simpa using h
    have := congrArg (fun b : ByteArray => b.data.toList) h2
    simpa [Go.Proofs.Ytieoegodhhiiiaa.Text.bs] using this
  einj := fun x y h => by simpa using h
  dinj := litB_inj
  zero := fun w => by kernel_rfl
/-- map[int]bool. -/
def intBool : MapForm Try.prog 3 4 Int Bool where
  kv := fun s => .int .i64 s
  ok := Wf
  ev := .bool
  de := fun x => .lit (.bool x)
  z0 := false
  keyed := int_keyed Try.underlying3
  key := fun s h => ⟨_, keyOf_int_mk Try.underlying3 h⟩
  kinj := fun s t h => by simpa using h
  einj := fun x y h => by simpa using h
  dinj := litB_inj
  zero := fun w => by kernel_rfl
/-- map[api.End]bool. -/
def endBool : MapForm Try.prog 37 4 (Int × Int) Bool where
  kv := pV
  ok := pWf
  ev := .bool
  de := fun x => .lit (.bool x)
  z0 := false
  keyed := endKeyed
  key := fun _ h => endKey h
  kinj := pV_inj
  einj := fun x y h => by simpa using h
  dinj := litB_inj
  zero := fun w => by kernel_rfl

end Go.Proofs.Ytieoegodhhiiiaa.Omapn
