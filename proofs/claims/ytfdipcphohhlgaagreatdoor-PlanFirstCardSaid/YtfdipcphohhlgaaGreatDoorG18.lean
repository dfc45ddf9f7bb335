/- Texts of this proof, merged: Pfn. -/
import Derived.Test.YtfdipcphohhlgaaGreatDoorG17

/- Function values that tell whether something meets a condition, handed to slices.IndexFunc, slices.ContainsFunc and the program's all: type by type. -/
namespace Go.Proofs.YtfdipcphohhlgaaGreatDoor.Pfn
open Go.RowKit Go.Lib Go.Proofs.YtfdipcphohhlgaaGreatDoor.Reads Go.Proofs.YtfdipcphohhlgaaGreatDoor.Rows2 Go.Proofs.YtfdipcphohhlgaaGreatDoor.Lay Go.Proofs.YtfdipcphohhlgaaGreatDoor.Layf Go.Proofs.YtfdipcphohhlgaaGreatDoor.Lcon Go.Proofs.YtfdipcphohhlgaaGreatDoor.Ldup Go.Proofs.YtfdipcphohhlgaaGreatDoor.Lext Go.Proofs.YtfdipcphohhlgaaGreatDoor.Lnmd Go.Proofs.YtfdipcphohhlgaaGreatDoor.Pbas
open Go.Proofs.YtfdipcphohhlgaaGreatDoor.Text hiding lineL joinR

def joV (x : (Int × Int) × (Int × Int)) : Value := .agg #[.int .i64 x.1.1, .int .i64 x.1.2, .int .i64 x.2.1, .int .i64 x.2.2]
def sgV (x : Sig) : Value := .agg #[.string (bs x.name), .int .i64 x.spot.1, .int .i64 x.spot.2, .int .i64 x.over]
def baV (x : Bal) : Value := .agg #[.int .i64 x.id, .int .i64 x.el, .int .i64 x.off]
def stV (x : List UInt8) : Value := .string (bs x)

/-- A function value that tells of each x of a list whether p holds, in every world in which what lay in w lies as it was. -/
def Tells {α : Type} (xs : List α) (g : FuncId) (lb : Array Value) (enc : α → Value) (p : α → Bool) (w : World) : Prop :=
  ∀ (W : World) (x : α), x ∈ xs → Below w.heap.size w W → Calls Tryz.prog g (#[enc x] ++ lb) W (BoolOut (p x) W)
theorem Tells.next {α : Type} {xs : List α} {g : FuncId} {lb : Array Value} {enc : α → Value} {p : α → Bool} {w w' : World} (h : Tells xs g lb enc p w) (hb : Below w.heap.size w w') : Tells xs g lb enc p w' := fun W x m b => h W x m (bel_next hb b)
/-- The function g can be called by its value. -/
def ByVal (g : FuncId) : Prop := ∀ args w, Sem.run Tryz.prog (callFunc g args) w = .ok (.enter g args) w
theorem first_any {α : Type} {p : α → Bool} : ∀ {l : List α} {i : Nat}, (l.any p = true → 0 ≤ firstI p i l) ∧ (l.any p = false → firstI p i l = -1)
  | [], i => ⟨fun h => by simp at h, fun _ => rfl⟩
  | x :: l, i => by
    rw [List.any_cons]
    cases h : p x with
    | true =>
      rw [firstI_yes h]
      exact ⟨fun _ => by omega, fun h => by simp at h⟩
    | false =>
      rw [firstI_no h, Bool.false_or]
      exact first_any (l := l) (i := i + 1)
theorem first_ge {α : Type} {p : α → Bool} {l : List α} : decide (0 ≤ firstI p 0 l) = l.any p := by
  have h := first_any (p := p) (l := l) (i := 0)
  cases hq : l.any p with
  | true => exact decide_eq_true (h.1 hq)
  | false => exact decide_eq_false (by rw [h.2 hq]; omega)
theorem any_all {α : Type} {p : α → Bool} {l : List α} : (!l.any fun x => !p x) = l.all p := by
  induction l with
  | nil => rfl
  | cons x l ih => rw [List.any_cons, List.all_cons, ← ih]; cases p x <;> simp
/-- A box that is new. -/
theorem box_one (w : World) (v : Value) (T : TypeId) : w.heap.size < (w.alloc (.cells #[v] T)).heap.size ∧ (w.alloc (.cells #[v] T)).cell? ⟨w.heap.size, 0, none⟩ = some v ∧ Below w.heap.size w (w.alloc (.cells #[v] T)) :=
  ⟨by simp, by rw [World.cell?_alloc_at _ _ _ _ rfl]; rfl, (Below.refl _ _).alloc (Nat.le_refl _) _⟩

/-! api.Element -/
theorem atE {w : World} {v : Value} {xs : List Elem} (h : Grid (In w) w v 7 (xs.map Elem.cells)) :
    ∃ a cap, v = .slice a xs.length cap ∧ (xs.length : Int) ≤ 9223372036854775807 ∧ ∀ (wr : World), Below w.heap.size w wr → ∀ (i : Nat) (x : Elem), xs[i]? = some x → ∃ b off, a = some ⟨b, off, none⟩ ∧ b < w.heap.size ∧
      wr.cell? ⟨b, off + i * 7, none⟩ = some (.string (bs x.name)) ∧
      wr.cell? ⟨b, off + i * 7 + 1, none⟩ = some (.int .i64 x.kind) ∧
      wr.cell? ⟨b, off + i * 7 + 2, none⟩ = some (.int .i64 x.len) ∧
      wr.cell? ⟨b, off + i * 7 + 3, none⟩ = some (.int .i64 x.grade) ∧
      wr.cell? ⟨b, off + i * 7 + 4, none⟩ = some (.int .i64 x.speed) ∧
      wr.cell? ⟨b, off + i * 7 + 5, none⟩ = some (.int .i64 x.slow) ∧
      wr.cell? ⟨b, off + i * 7 + 6, none⟩ = some (.int .i64 x.sec) := by
  obtain ⟨a, cap, h1, h2, _, _, h5⟩ := h.shape
  rw [List.length_map] at h1 h2
  refine ⟨a, cap, h1, h2, fun wr hb i x hx => ?_⟩
  obtain ⟨b, off, e, hbl, hc⟩ := h5 i _ (by rw [List.getElem?_map, hx]; rfl)
  exact ⟨b, off, e, hbl, (hb.cell (show b < w.heap.size from hbl)).trans (hc 0 _ rfl), (hb.cell (show b < w.heap.size from hbl)).trans (hc 1 _ rfl), (hb.cell (show b < w.heap.size from hbl)).trans (hc 2 _ rfl), (hb.cell (show b < w.heap.size from hbl)).trans (hc 3 _ rfl), (hb.cell (show b < w.heap.size from hbl)).trans (hc 4 _ rfl), (hb.cell (show b < w.heap.size from hbl)).trans (hc 5 _ rfl), (hb.cell (show b < w.heap.size from hbl)).trans (hc 6 _ rfl)⟩

set_option maxRecDepth 100000 in
set_option maxHeartbeats 800000 in
/-- slices.IndexFunc. -/
theorem indexE {xs : List Elem} {p : Elem → Bool} {g : FuncId} {lb : Array Value} {v : Value} {w : World} (eg : ByVal g) (h : Grid (In w) w v 7 (xs.map Elem.cells)) (hp : Tells xs g lb elV p w) :
    Calls Tryz.prog 139 #[v, .func (.func g) #[] lb] w (NumOut (firstI p 0 xs) w) := by
  obtain ⟨a, cap, rfl, hm, hel⟩ := atE h
  obtain ⟨r, hr⟩ : ∃ r, firstI p 0 xs = r := ⟨_, rfl⟩
  rw [hr]
  have HR := Lib.hid hr
  have HE := Lib.hid hel
  have HP := Lib.hid hp
  unfold ByVal at eg
  clear hr hel hp h
  go_enter Tryz.func139, Tryz.ntmps139
  go_wp2_with fail
  go_loopw [8] (fun vj wr => ∃ j : Nat, vj = .int .i64 (j : Int) ∧ j ≤ xs.length ∧ r = firstI p j (xs.drop j) ∧ Below w.heap.size w wr) (fun vj _ => xs.length - (RowKit.intOf vj).toNat)
  case atStart => exact ⟨0, rfl, Nat.zero_le _, by rw [← HR.out]; rfl, Below.refl _ _⟩
  case round =>
    obtain ⟨j, rfl, hj, hrj, hb⟩ := hrel
    have HB := Lib.hid hb
    have HJ := Lib.hid hrj
    clear hb hrj
    by_cases hl : j < xs.length
    · obtain ⟨x, hx⟩ := at_lt hl
      obtain ⟨b, off, rfl, _, c0, c1, c2, c3, c4, c5, c6⟩ := HE.out wr HB.out j x hx
      have HD := Lib.hid (Go.Proofs.YtfdipcphohhlgaaGreatDoor.Layf.drop_at hx)
      have HP1 := Lib.hid (HP.out wr x (List.mem_of_getElem? hx) HB.out)
      obtain ⟨q, hq⟩ : ∃ q, p x = q := ⟨_, rfl⟩
      rw [hq] at HP1
      have HQ := Lib.hid hq
      clear hx hq
      unfold elV at HP1
      cases q
      · have HV := Lib.hid (show r = firstI p (j + 1) (xs.drop (j + 1)) by rw [HJ.out, HD.out, firstI_no HQ.out])
        clear HQ HD
        obtain ⟨nm, kd, ln, gr, sp, sl, sc⟩ := x
        simp only at c0 c1 c2 c3 c4 c5 c6 HP1
        go_wp2_with fail
        refine HP1.out.mono ?_
        rintro e w' ⟨rfl, hb⟩
        have HB2 := Lib.hid (bel_next HB.out hb)
        clear hb
        go_wp2_with fail
        go_roundw
        case rel => exact ⟨j + 1, by simp, by omega, HV.out, HB2.out⟩
        case measure => simp [RowKit.intOf]; omega
      · have HV := Lib.hid (show r = (j : Int) by rw [HJ.out, HD.out, firstI_yes HQ.out])
        clear HQ HD
        obtain ⟨nm, kd, ln, gr, sp, sl, sc⟩ := x
        simp only at c0 c1 c2 c3 c4 c5 c6 HP1
        go_wp2_with fail
        refine HP1.out.mono ?_
        rintro e w' ⟨rfl, hb⟩
        have HB2 := Lib.hid (bel_next HB.out hb)
        clear hb
        go_wp2_with fail
        go_ret
        exact ⟨by rw [HV.out]; rfl, HB2.out⟩
    · have he : j = xs.length := by omega
      subst he
      go_wp2_with fail
      go_ret
      exact ⟨by rw [HJ.out, List.drop_length]; rfl, HB.out⟩
set_option maxRecDepth 100000 in
/-- slices.ContainsFunc. -/
theorem containsE {xs : List Elem} {p : Elem → Bool} {g : FuncId} {lb : Array Value} {v : Value} {w : World} (eg : ByVal g) (h : Grid (In w) w v 7 (xs.map Elem.cells)) (hp : Tells xs g lb elV p w) :
    Calls Tryz.prog 114 #[v, .func (.func g) #[] lb] w (BoolOut (xs.any p) w) := by
  have HC := Lib.hid (indexE eg h hp)
  have HF := Lib.hid (first_ge (p := p) (l := xs))
  obtain ⟨r, hr⟩ : ∃ r, firstI p 0 xs = r := ⟨_, rfl⟩
  obtain ⟨q, hq⟩ : ∃ q, xs.any p = q := ⟨_, rfl⟩
  rw [hr] at HC HF
  rw [hq] at HF ⊢
  clear h hp hr hq
  go_enter Tryz.func114, Tryz.ntmps114
  go_wp2_with fail
  refine HC.out.mono ?_
  rintro e w' ⟨rfl, hb⟩
  have HB := Lib.hid hb
  clear hb
  go_wp2_with fail
  go_ret
  exact ⟨by rw [← HF.out]; rfl, HB.out⟩
set_option maxRecDepth 100000 in
/-- The opposite of a condition. -/
theorem notE {xs : List Elem} {p : Elem → Bool} {g : FuncId} {lb : Array Value} {B : Nat} {w : World} (eg : ByVal g) (hB : B < w.heap.size) (hc : w.cell? ⟨B, 0, none⟩ = some (.func (.func g) #[] lb)) (hp : Tells xs g lb elV p w) :
    Tells xs 115 #[.pointer (some ⟨B, 0, none⟩)] elV (fun x => !p x) w := fun W x hx hb => by
  have g1 := (hb.cell (p := ⟨B, 0, none⟩) hB).trans hc
  have hBW : B < W.heap.size := Nat.lt_of_lt_of_le hB hb.size
  have HP := Lib.hid (fun W' (b : Below W.heap.size W W') => hp W' x hx (bel_next hb b))
  show Calls _ _ _ _ (BoolOut (!p x) W)
  obtain ⟨q, hq⟩ : ∃ q, p x = q := ⟨_, rfl⟩
  rw [hq] at HP ⊢
  unfold ByVal at eg
  clear hp hc hq hb hx
  obtain ⟨nm, kd, ln, gr, sp, sl, sc⟩ := x
  unfold elV at HP ⊢
  simp only at HP ⊢
  go_enter Tryz.func115, Tryz.ntmps115
  go_wp2_with fail
  refine (HP.out _ ((Below.refl _ _).alloc (Nat.le_refl _) _)).mono ?_
  rintro e w' ⟨rfl, hb⟩
  have HB := Lib.hid (bel_next ((Below.refl _ _).alloc (Nat.le_refl _) _) hb)
  clear hb
  go_wp2_with fail
  go_ret
  exact ⟨rfl, HB.out⟩
set_option maxRecDepth 100000 in
/-- The program's all. -/
theorem allE {xs : List Elem} {p : Elem → Bool} {g : FuncId} {lb : Array Value} {v : Value} {w : World} (eg : ByVal g) (h : Grid (In w) w v 7 (xs.map Elem.cells)) (hp : Tells xs g lb elV p w) :
    Calls Tryz.prog 64 #[v, .func (.func g) #[] lb] w (BoolOut (xs.all p) w) := by
  obtain ⟨h1, h2, h3⟩ := box_one w (.func (.func g) #[] lb) 97
  have HC := Lib.hid (containsE (g := 115) (fun args w => enters_of Tryz.func115 (by kernel_rfl) rfl args w) (h.keep (keep_next h3)) (notE eg h1 h2 (hp.next h3)))
  have HA := Lib.hid (any_all (p := p) (l := xs))
  obtain ⟨q, hq⟩ : ∃ q, xs.all p = q := ⟨_, rfl⟩
  obtain ⟨q2, hq2⟩ : ∃ q, (xs.any fun x => !p x) = q := ⟨_, rfl⟩
  rw [hq2] at HC HA
  rw [hq] at HA ⊢
  have HB := Lib.hid h3
  have hmf : ∀ (fn : Fn) (first cap : Array Value) (w : World), (Instr.makeFunc fn first cap).run Tryz.prog w = .ok (.func fn first cap) w := fun _ _ _ _ => rfl
  clear h hp hq hq2 h1 h2 h3
  go_enter Tryz.func64, Tryz.ntmps64
  go_wp2_with fail
  refine HC.out.mono ?_
  rintro e w' ⟨rfl, hb⟩
  have HB2 := Lib.hid (bel_next HB.out hb)
  clear hb
  go_wp2_with fail
  go_ret
  exact ⟨by rw [← HA.out]; rfl, HB2.out⟩

/-! api.Joint -/
theorem atJ {w : World} {v : Value} {xs : List ((Int × Int) × (Int × Int))} (h : Grid (In w) w v 4 (xs.map jCells)) :
    ∃ a cap, v = .slice a xs.length cap ∧ (xs.length : Int) ≤ 9223372036854775807 ∧ ∀ (wr : World), Below w.heap.size w wr → ∀ (i : Nat) (x : ((Int × Int) × (Int × Int))), xs[i]? = some x → ∃ b off, a = some ⟨b, off, none⟩ ∧ b < w.heap.size ∧
      wr.cell? ⟨b, off + i * 4, none⟩ = some (.int .i64 x.1.1) ∧
      wr.cell? ⟨b, off + i * 4 + 1, none⟩ = some (.int .i64 x.1.2) ∧
      wr.cell? ⟨b, off + i * 4 + 2, none⟩ = some (.int .i64 x.2.1) ∧
      wr.cell? ⟨b, off + i * 4 + 3, none⟩ = some (.int .i64 x.2.2) := by
  obtain ⟨a, cap, h1, h2, _, _, h5⟩ := h.shape
  rw [List.length_map] at h1 h2
  refine ⟨a, cap, h1, h2, fun wr hb i x hx => ?_⟩
  obtain ⟨b, off, e, hbl, hc⟩ := h5 i _ (by rw [List.getElem?_map, hx]; rfl)
  exact ⟨b, off, e, hbl, (hb.cell (show b < w.heap.size from hbl)).trans (hc 0 _ rfl), (hb.cell (show b < w.heap.size from hbl)).trans (hc 1 _ rfl), (hb.cell (show b < w.heap.size from hbl)).trans (hc 2 _ rfl), (hb.cell (show b < w.heap.size from hbl)).trans (hc 3 _ rfl)⟩

set_option maxRecDepth 100000 in
set_option maxHeartbeats 800000 in
/-- slices.IndexFunc. -/
theorem indexJ {xs : List ((Int × Int) × (Int × Int))} {p : ((Int × Int) × (Int × Int)) → Bool} {g : FuncId} {lb : Array Value} {v : Value} {w : World} (eg : ByVal g) (h : Grid (In w) w v 4 (xs.map jCells)) (hp : Tells xs g lb joV p w) :
    Calls Tryz.prog 140 #[v, .func (.func g) #[] lb] w (NumOut (firstI p 0 xs) w) := by
  obtain ⟨a, cap, rfl, hm, hel⟩ := atJ h
  obtain ⟨r, hr⟩ : ∃ r, firstI p 0 xs = r := ⟨_, rfl⟩
  rw [hr]
  have HR := Lib.hid hr
  have HE := Lib.hid hel
  have HP := Lib.hid hp
  unfold ByVal at eg
  clear hr hel hp h
  go_enter Tryz.func140, Tryz.ntmps140
  go_wp2_with fail
  go_loopw [8] (fun vj wr => ∃ j : Nat, vj = .int .i64 (j : Int) ∧ j ≤ xs.length ∧ r = firstI p j (xs.drop j) ∧ Below w.heap.size w wr) (fun vj _ => xs.length - (RowKit.intOf vj).toNat)
  case atStart => exact ⟨0, rfl, Nat.zero_le _, by rw [← HR.out]; rfl, Below.refl _ _⟩
  case round =>
    obtain ⟨j, rfl, hj, hrj, hb⟩ := hrel
    have HB := Lib.hid hb
    have HJ := Lib.hid hrj
    clear hb hrj
    by_cases hl : j < xs.length
    · obtain ⟨x, hx⟩ := at_lt hl
      obtain ⟨b, off, rfl, _, c0, c1, c2, c3⟩ := HE.out wr HB.out j x hx
      have HD := Lib.hid (Go.Proofs.YtfdipcphohhlgaaGreatDoor.Layf.drop_at hx)
      have HP1 := Lib.hid (HP.out wr x (List.mem_of_getElem? hx) HB.out)
      obtain ⟨q, hq⟩ : ∃ q, p x = q := ⟨_, rfl⟩
      rw [hq] at HP1
      have HQ := Lib.hid hq
      clear hx hq
      unfold joV at HP1
      cases q
      · have HV := Lib.hid (show r = firstI p (j + 1) (xs.drop (j + 1)) by rw [HJ.out, HD.out, firstI_no HQ.out])
        clear HQ HD
        obtain ⟨⟨u1, u2⟩, ⟨v1, v2⟩⟩ := x
        simp only at c0 c1 c2 c3 HP1
        go_wp2_with fail
        refine HP1.out.mono ?_
        rintro e w' ⟨rfl, hb⟩
        have HB2 := Lib.hid (bel_next HB.out hb)
        clear hb
        go_wp2_with fail
        go_roundw
        case rel => exact ⟨j + 1, by simp, by omega, HV.out, HB2.out⟩
        case measure => simp [RowKit.intOf]; omega
      · have HV := Lib.hid (show r = (j : Int) by rw [HJ.out, HD.out, firstI_yes HQ.out])
        clear HQ HD
        obtain ⟨⟨u1, u2⟩, ⟨v1, v2⟩⟩ := x
        simp only at c0 c1 c2 c3 HP1
        go_wp2_with fail
        refine HP1.out.mono ?_
        rintro e w' ⟨rfl, hb⟩
        have HB2 := Lib.hid (bel_next HB.out hb)
        clear hb
        go_wp2_with fail
        go_ret
        exact ⟨by rw [HV.out]; rfl, HB2.out⟩
    · have he : j = xs.length := by omega
      subst he
      go_wp2_with fail
      go_ret
      exact ⟨by rw [HJ.out, List.drop_length]; rfl, HB.out⟩
set_option maxRecDepth 100000 in
/-- slices.ContainsFunc. -/
theorem containsJ {xs : List ((Int × Int) × (Int × Int))} {p : ((Int × Int) × (Int × Int)) → Bool} {g : FuncId} {lb : Array Value} {v : Value} {w : World} (eg : ByVal g) (h : Grid (In w) w v 4 (xs.map jCells)) (hp : Tells xs g lb joV p w) :
    Calls Tryz.prog 118 #[v, .func (.func g) #[] lb] w (BoolOut (xs.any p) w) := by
  have HC := Lib.hid (indexJ eg h hp)
  have HF := Lib.hid (first_ge (p := p) (l := xs))
  obtain ⟨r, hr⟩ : ∃ r, firstI p 0 xs = r := ⟨_, rfl⟩
  obtain ⟨q, hq⟩ : ∃ q, xs.any p = q := ⟨_, rfl⟩
  rw [hr] at HC HF
  rw [hq] at HF ⊢
  clear h hp hr hq
  go_enter Tryz.func118, Tryz.ntmps118
  go_wp2_with fail
  refine HC.out.mono ?_
  rintro e w' ⟨rfl, hb⟩
  have HB := Lib.hid hb
  clear hb
  go_wp2_with fail
  go_ret
  exact ⟨by rw [← HF.out]; rfl, HB.out⟩
set_option maxRecDepth 100000 in
/-- The opposite of a condition. -/
theorem notJ {xs : List ((Int × Int) × (Int × Int))} {p : ((Int × Int) × (Int × Int)) → Bool} {g : FuncId} {lb : Array Value} {B : Nat} {w : World} (eg : ByVal g) (hB : B < w.heap.size) (hc : w.cell? ⟨B, 0, none⟩ = some (.func (.func g) #[] lb)) (hp : Tells xs g lb joV p w) :
    Tells xs 119 #[.pointer (some ⟨B, 0, none⟩)] joV (fun x => !p x) w := fun W x hx hb => by
  have g1 := (hb.cell (p := ⟨B, 0, none⟩) hB).trans hc
  have hBW : B < W.heap.size := Nat.lt_of_lt_of_le hB hb.size
  have HP := Lib.hid (fun W' (b : Below W.heap.size W W') => hp W' x hx (bel_next hb b))
  show Calls _ _ _ _ (BoolOut (!p x) W)
  obtain ⟨q, hq⟩ : ∃ q, p x = q := ⟨_, rfl⟩
  rw [hq] at HP ⊢
  unfold ByVal at eg
  clear hp hc hq hb hx
  obtain ⟨⟨u1, u2⟩, ⟨v1, v2⟩⟩ := x
  unfold joV at HP ⊢
  simp only at HP ⊢
  go_enter Tryz.func119, Tryz.ntmps119
  go_wp2_with fail
  refine (HP.out _ ((Below.refl _ _).alloc (Nat.le_refl _) _)).mono ?_
  rintro e w' ⟨rfl, hb⟩
  have HB := Lib.hid (bel_next ((Below.refl _ _).alloc (Nat.le_refl _) _) hb)
  clear hb
  go_wp2_with fail
  go_ret
  exact ⟨rfl, HB.out⟩
set_option maxRecDepth 100000 in
/-- The program's all. -/
theorem allJ {xs : List ((Int × Int) × (Int × Int))} {p : ((Int × Int) × (Int × Int)) → Bool} {g : FuncId} {lb : Array Value} {v : Value} {w : World} (eg : ByVal g) (h : Grid (In w) w v 4 (xs.map jCells)) (hp : Tells xs g lb joV p w) :
    Calls Tryz.prog 70 #[v, .func (.func g) #[] lb] w (BoolOut (xs.all p) w) := by
  obtain ⟨h1, h2, h3⟩ := box_one w (.func (.func g) #[] lb) 102
  have HC := Lib.hid (containsJ (g := 119) (fun args w => enters_of Tryz.func119 (by kernel_rfl) rfl args w) (h.keep (keep_next h3)) (notJ eg h1 h2 (hp.next h3)))
  have HA := Lib.hid (any_all (p := p) (l := xs))
  obtain ⟨q, hq⟩ : ∃ q, xs.all p = q := ⟨_, rfl⟩
  obtain ⟨q2, hq2⟩ : ∃ q, (xs.any fun x => !p x) = q := ⟨_, rfl⟩
  rw [hq2] at HC HA
  rw [hq] at HA ⊢
  have HB := Lib.hid h3
  have hmf : ∀ (fn : Fn) (first cap : Array Value) (w : World), (Instr.makeFunc fn first cap).run Tryz.prog w = .ok (.func fn first cap) w := fun _ _ _ _ => rfl
  clear h hp hq hq2 h1 h2 h3
  go_enter Tryz.func70, Tryz.ntmps70
  go_wp2_with fail
  refine HC.out.mono ?_
  rintro e w' ⟨rfl, hb⟩
  have HB2 := Lib.hid (bel_next HB.out hb)
  clear hb
  go_wp2_with fail
  go_ret
  exact ⟨by rw [← HA.out]; rfl, HB2.out⟩

/-! api.Signal -/
theorem atG {w : World} {v : Value} {xs : List Sig} (h : Grid (In w) w v 4 (xs.map Sig.cells)) :
    ∃ a cap, v = .slice a xs.length cap ∧ (xs.length : Int) ≤ 9223372036854775807 ∧ ∀ (wr : World), Below w.heap.size w wr → ∀ (i : Nat) (x : Sig), xs[i]? = some x → ∃ b off, a = some ⟨b, off, none⟩ ∧ b < w.heap.size ∧
      wr.cell? ⟨b, off + i * 4, none⟩ = some (.string (bs x.name)) ∧
      wr.cell? ⟨b, off + i * 4 + 1, none⟩ = some (.int .i64 x.spot.1) ∧
      wr.cell? ⟨b, off + i * 4 + 2, none⟩ = some (.int .i64 x.spot.2) ∧
      wr.cell? ⟨b, off + i * 4 + 3, none⟩ = some (.int .i64 x.over) := by
  obtain ⟨a, cap, h1, h2, _, _, h5⟩ := h.shape
  rw [List.length_map] at h1 h2
  refine ⟨a, cap, h1, h2, fun wr hb i x hx => ?_⟩
  obtain ⟨b, off, e, hbl, hc⟩ := h5 i _ (by rw [List.getElem?_map, hx]; rfl)
  exact ⟨b, off, e, hbl, (hb.cell (show b < w.heap.size from hbl)).trans (hc 0 _ rfl), (hb.cell (show b < w.heap.size from hbl)).trans (hc 1 _ rfl), (hb.cell (show b < w.heap.size from hbl)).trans (hc 2 _ rfl), (hb.cell (show b < w.heap.size from hbl)).trans (hc 3 _ rfl)⟩

set_option maxRecDepth 100000 in
set_option maxHeartbeats 800000 in
/-- slices.IndexFunc. -/
theorem indexG {xs : List Sig} {p : Sig → Bool} {g : FuncId} {lb : Array Value} {v : Value} {w : World} (eg : ByVal g) (h : Grid (In w) w v 4 (xs.map Sig.cells)) (hp : Tells xs g lb sgV p w) :
    Calls Tryz.prog 141 #[v, .func (.func g) #[] lb] w (NumOut (firstI p 0 xs) w) := by
  obtain ⟨a, cap, rfl, hm, hel⟩ := atG h
  obtain ⟨r, hr⟩ : ∃ r, firstI p 0 xs = r := ⟨_, rfl⟩
  rw [hr]
  have HR := Lib.hid hr
  have HE := Lib.hid hel
  have HP := Lib.hid hp
  unfold ByVal at eg
  clear hr hel hp h
  go_enter Tryz.func141, Tryz.ntmps141
  go_wp2_with fail
  go_loopw [8] (fun vj wr => ∃ j : Nat, vj = .int .i64 (j : Int) ∧ j ≤ xs.length ∧ r = firstI p j (xs.drop j) ∧ Below w.heap.size w wr) (fun vj _ => xs.length - (RowKit.intOf vj).toNat)
  case atStart => exact ⟨0, rfl, Nat.zero_le _, by rw [← HR.out]; rfl, Below.refl _ _⟩
  case round =>
    obtain ⟨j, rfl, hj, hrj, hb⟩ := hrel
    have HB := Lib.hid hb
    have HJ := Lib.hid hrj
    clear hb hrj
    by_cases hl : j < xs.length
    · obtain ⟨x, hx⟩ := at_lt hl
      obtain ⟨b, off, rfl, _, c0, c1, c2, c3⟩ := HE.out wr HB.out j x hx
      have HD := Lib.hid (Go.Proofs.YtfdipcphohhlgaaGreatDoor.Layf.drop_at hx)
      have HP1 := Lib.hid (HP.out wr x (List.mem_of_getElem? hx) HB.out)
      obtain ⟨q, hq⟩ : ∃ q, p x = q := ⟨_, rfl⟩
      rw [hq] at HP1
      have HQ := Lib.hid hq
      clear hx hq
      unfold sgV at HP1
      cases q
      · have HV := Lib.hid (show r = firstI p (j + 1) (xs.drop (j + 1)) by rw [HJ.out, HD.out, firstI_no HQ.out])
        clear HQ HD
        obtain ⟨nm, ⟨u1, u2⟩, ov⟩ := x
        simp only at c0 c1 c2 c3 HP1
        go_wp2_with fail
        refine HP1.out.mono ?_
        rintro e w' ⟨rfl, hb⟩
        have HB2 := Lib.hid (bel_next HB.out hb)
        clear hb
        go_wp2_with fail
        go_roundw
        case rel => exact ⟨j + 1, by simp, by omega, HV.out, HB2.out⟩
        case measure => simp [RowKit.intOf]; omega
      · have HV := Lib.hid (show r = (j : Int) by rw [HJ.out, HD.out, firstI_yes HQ.out])
        clear HQ HD
        obtain ⟨nm, ⟨u1, u2⟩, ov⟩ := x
        simp only at c0 c1 c2 c3 HP1
        go_wp2_with fail
        refine HP1.out.mono ?_
        rintro e w' ⟨rfl, hb⟩
        have HB2 := Lib.hid (bel_next HB.out hb)
        clear hb
        go_wp2_with fail
        go_ret
        exact ⟨by rw [HV.out]; rfl, HB2.out⟩
    · have he : j = xs.length := by omega
      subst he
      go_wp2_with fail
      go_ret
      exact ⟨by rw [HJ.out, List.drop_length]; rfl, HB.out⟩
set_option maxRecDepth 100000 in
/-- slices.ContainsFunc. -/
theorem containsG {xs : List Sig} {p : Sig → Bool} {g : FuncId} {lb : Array Value} {v : Value} {w : World} (eg : ByVal g) (h : Grid (In w) w v 4 (xs.map Sig.cells)) (hp : Tells xs g lb sgV p w) :
    Calls Tryz.prog 120 #[v, .func (.func g) #[] lb] w (BoolOut (xs.any p) w) := by
  have HC := Lib.hid (indexG eg h hp)
  have HF := Lib.hid (first_ge (p := p) (l := xs))
  obtain ⟨r, hr⟩ : ∃ r, firstI p 0 xs = r := ⟨_, rfl⟩
  obtain ⟨q, hq⟩ : ∃ q, xs.any p = q := ⟨_, rfl⟩
  rw [hr] at HC HF
  rw [hq] at HF ⊢
  clear h hp hr hq
  go_enter Tryz.func120, Tryz.ntmps120
  go_wp2_with fail
  refine HC.out.mono ?_
  rintro e w' ⟨rfl, hb⟩
  have HB := Lib.hid hb
  clear hb
  go_wp2_with fail
  go_ret
  exact ⟨by rw [← HF.out]; rfl, HB.out⟩
set_option maxRecDepth 100000 in
/-- The opposite of a condition. -/
theorem notG {xs : List Sig} {p : Sig → Bool} {g : FuncId} {lb : Array Value} {B : Nat} {w : World} (eg : ByVal g) (hB : B < w.heap.size) (hc : w.cell? ⟨B, 0, none⟩ = some (.func (.func g) #[] lb)) (hp : Tells xs g lb sgV p w) :
    Tells xs 121 #[.pointer (some ⟨B, 0, none⟩)] sgV (fun x => !p x) w := fun W x hx hb => by
  have g1 := (hb.cell (p := ⟨B, 0, none⟩) hB).trans hc
  have hBW : B < W.heap.size := Nat.lt_of_lt_of_le hB hb.size
  have HP := Lib.hid (fun W' (b : Below W.heap.size W W') => hp W' x hx (bel_next hb b))
  show Calls _ _ _ _ (BoolOut (!p x) W)
  obtain ⟨q, hq⟩ : ∃ q, p x = q := ⟨_, rfl⟩
  rw [hq] at HP ⊢
  unfold ByVal at eg
  clear hp hc hq hb hx
  obtain ⟨nm, ⟨u1, u2⟩, ov⟩ := x
  unfold sgV at HP ⊢
  simp only at HP ⊢
  go_enter Tryz.func121, Tryz.ntmps121
  go_wp2_with fail
  refine (HP.out _ ((Below.refl _ _).alloc (Nat.le_refl _) _)).mono ?_
  rintro e w' ⟨rfl, hb⟩
  have HB := Lib.hid (bel_next ((Below.refl _ _).alloc (Nat.le_refl _) _) hb)
  clear hb
  go_wp2_with fail
  go_ret
  exact ⟨rfl, HB.out⟩
set_option maxRecDepth 100000 in
/-- The program's all. -/
theorem allG {xs : List Sig} {p : Sig → Bool} {g : FuncId} {lb : Array Value} {v : Value} {w : World} (eg : ByVal g) (h : Grid (In w) w v 4 (xs.map Sig.cells)) (hp : Tells xs g lb sgV p w) :
    Calls Tryz.prog 73 #[v, .func (.func g) #[] lb] w (BoolOut (xs.all p) w) := by
  obtain ⟨h1, h2, h3⟩ := box_one w (.func (.func g) #[] lb) 104
  have HC := Lib.hid (containsG (g := 121) (fun args w => enters_of Tryz.func121 (by kernel_rfl) rfl args w) (h.keep (keep_next h3)) (notG eg h1 h2 (hp.next h3)))
  have HA := Lib.hid (any_all (p := p) (l := xs))
  obtain ⟨q, hq⟩ : ∃ q, xs.all p = q := ⟨_, rfl⟩
  obtain ⟨q2, hq2⟩ : ∃ q, (xs.any fun x => !p x) = q := ⟨_, rfl⟩
  rw [hq2] at HC HA
  rw [hq] at HA ⊢
  have HB := Lib.hid h3
  have hmf : ∀ (fn : Fn) (first cap : Array Value) (w : World), (Instr.makeFunc fn first cap).run Tryz.prog w = .ok (.func fn first cap) w := fun _ _ _ _ => rfl
  clear h hp hq hq2 h1 h2 h3
  go_enter Tryz.func73, Tryz.ntmps73
  go_wp2_with fail
  refine HC.out.mono ?_
  rintro e w' ⟨rfl, hb⟩
  have HB2 := Lib.hid (bel_next HB.out hb)
  clear hb
  go_wp2_with fail
  go_ret
  exact ⟨by rw [← HA.out]; rfl, HB2.out⟩

/-! api.Balise -/
theorem atB {w : World} {v : Value} {xs : List Bal} (h : Grid (In w) w v 3 (xs.map Bal.cells)) :
    ∃ a cap, v = .slice a xs.length cap ∧ (xs.length : Int) ≤ 9223372036854775807 ∧ ∀ (wr : World), Below w.heap.size w wr → ∀ (i : Nat) (x : Bal), xs[i]? = some x → ∃ b off, a = some ⟨b, off, none⟩ ∧ b < w.heap.size ∧
      wr.cell? ⟨b, off + i * 3, none⟩ = some (.int .i64 x.id) ∧
      wr.cell? ⟨b, off + i * 3 + 1, none⟩ = some (.int .i64 x.el) ∧
      wr.cell? ⟨b, off + i * 3 + 2, none⟩ = some (.int .i64 x.off) := by
  obtain ⟨a, cap, h1, h2, _, _, h5⟩ := h.shape
  rw [List.length_map] at h1 h2
  refine ⟨a, cap, h1, h2, fun wr hb i x hx => ?_⟩
  obtain ⟨b, off, e, hbl, hc⟩ := h5 i _ (by rw [List.getElem?_map, hx]; rfl)
  exact ⟨b, off, e, hbl, (hb.cell (show b < w.heap.size from hbl)).trans (hc 0 _ rfl), (hb.cell (show b < w.heap.size from hbl)).trans (hc 1 _ rfl), (hb.cell (show b < w.heap.size from hbl)).trans (hc 2 _ rfl)⟩

set_option maxRecDepth 100000 in
set_option maxHeartbeats 800000 in
/-- slices.IndexFunc. -/
theorem indexB {xs : List Bal} {p : Bal → Bool} {g : FuncId} {lb : Array Value} {v : Value} {w : World} (eg : ByVal g) (h : Grid (In w) w v 3 (xs.map Bal.cells)) (hp : Tells xs g lb baV p w) :
    Calls Tryz.prog 142 #[v, .func (.func g) #[] lb] w (NumOut (firstI p 0 xs) w) := by
  obtain ⟨a, cap, rfl, hm, hel⟩ := atB h
  obtain ⟨r, hr⟩ : ∃ r, firstI p 0 xs = r := ⟨_, rfl⟩
  rw [hr]
  have HR := Lib.hid hr
  have HE := Lib.hid hel
  have HP := Lib.hid hp
  unfold ByVal at eg
  clear hr hel hp h
  go_enter Tryz.func142, Tryz.ntmps142
  go_wp2_with fail
  go_loopw [8] (fun vj wr => ∃ j : Nat, vj = .int .i64 (j : Int) ∧ j ≤ xs.length ∧ r = firstI p j (xs.drop j) ∧ Below w.heap.size w wr) (fun vj _ => xs.length - (RowKit.intOf vj).toNat)
  case atStart => exact ⟨0, rfl, Nat.zero_le _, by rw [← HR.out]; rfl, Below.refl _ _⟩
  case round =>
    obtain ⟨j, rfl, hj, hrj, hb⟩ := hrel
    have HB := Lib.hid hb
    have HJ := Lib.hid hrj
    clear hb hrj
    by_cases hl : j < xs.length
    · obtain ⟨x, hx⟩ := at_lt hl
      obtain ⟨b, off, rfl, _, c0, c1, c2⟩ := HE.out wr HB.out j x hx
      have HD := Lib.hid (Go.Proofs.YtfdipcphohhlgaaGreatDoor.Layf.drop_at hx)
      have HP1 := Lib.hid (HP.out wr x (List.mem_of_getElem? hx) HB.out)
      obtain ⟨q, hq⟩ : ∃ q, p x = q := ⟨_, rfl⟩
      rw [hq] at HP1
      have HQ := Lib.hid hq
      clear hx hq
      unfold baV at HP1
      cases q
      · have HV := Lib.hid (show r = firstI p (j + 1) (xs.drop (j + 1)) by rw [HJ.out, HD.out, firstI_no HQ.out])
        clear HQ HD
        obtain ⟨bi, be, bo⟩ := x
        simp only at c0 c1 c2 HP1
        go_wp2_with fail
        refine HP1.out.mono ?_
        rintro e w' ⟨rfl, hb⟩
        have HB2 := Lib.hid (bel_next HB.out hb)
        clear hb
        go_wp2_with fail
        go_roundw
        case rel => exact ⟨j + 1, by simp, by omega, HV.out, HB2.out⟩
        case measure => simp [RowKit.intOf]; omega
      · have HV := Lib.hid (show r = (j : Int) by rw [HJ.out, HD.out, firstI_yes HQ.out])
        clear HQ HD
        obtain ⟨bi, be, bo⟩ := x
        simp only at c0 c1 c2 HP1
        go_wp2_with fail
        refine HP1.out.mono ?_
        rintro e w' ⟨rfl, hb⟩
        have HB2 := Lib.hid (bel_next HB.out hb)
        clear hb
        go_wp2_with fail
        go_ret
        exact ⟨by rw [HV.out]; rfl, HB2.out⟩
    · have he : j = xs.length := by omega
      subst he
      go_wp2_with fail
      go_ret
      exact ⟨by rw [HJ.out, List.drop_length]; rfl, HB.out⟩
set_option maxRecDepth 100000 in
/-- slices.ContainsFunc. -/
theorem containsB {xs : List Bal} {p : Bal → Bool} {g : FuncId} {lb : Array Value} {v : Value} {w : World} (eg : ByVal g) (h : Grid (In w) w v 3 (xs.map Bal.cells)) (hp : Tells xs g lb baV p w) :
    Calls Tryz.prog 122 #[v, .func (.func g) #[] lb] w (BoolOut (xs.any p) w) := by
  have HC := Lib.hid (indexB eg h hp)
  have HF := Lib.hid (first_ge (p := p) (l := xs))
  obtain ⟨r, hr⟩ : ∃ r, firstI p 0 xs = r := ⟨_, rfl⟩
  obtain ⟨q, hq⟩ : ∃ q, xs.any p = q := ⟨_, rfl⟩
  rw [hr] at HC HF
  rw [hq] at HF ⊢
  clear h hp hr hq
  go_enter Tryz.func122, Tryz.ntmps122
  go_wp2_with fail
  refine HC.out.mono ?_
  rintro e w' ⟨rfl, hb⟩
  have HB := Lib.hid hb
  clear hb
  go_wp2_with fail
  go_ret
  exact ⟨by rw [← HF.out]; rfl, HB.out⟩
set_option maxRecDepth 100000 in
/-- The opposite of a condition. -/
theorem notB {xs : List Bal} {p : Bal → Bool} {g : FuncId} {lb : Array Value} {B : Nat} {w : World} (eg : ByVal g) (hB : B < w.heap.size) (hc : w.cell? ⟨B, 0, none⟩ = some (.func (.func g) #[] lb)) (hp : Tells xs g lb baV p w) :
    Tells xs 123 #[.pointer (some ⟨B, 0, none⟩)] baV (fun x => !p x) w := fun W x hx hb => by
  have g1 := (hb.cell (p := ⟨B, 0, none⟩) hB).trans hc
  have hBW : B < W.heap.size := Nat.lt_of_lt_of_le hB hb.size
  have HP := Lib.hid (fun W' (b : Below W.heap.size W W') => hp W' x hx (bel_next hb b))
  show Calls _ _ _ _ (BoolOut (!p x) W)
  obtain ⟨q, hq⟩ : ∃ q, p x = q := ⟨_, rfl⟩
  rw [hq] at HP ⊢
  unfold ByVal at eg
  clear hp hc hq hb hx
  obtain ⟨bi, be, bo⟩ := x
  unfold baV at HP ⊢
  simp only at HP ⊢
  go_enter Tryz.func123, Tryz.ntmps123
  go_wp2_with fail
  refine (HP.out _ ((Below.refl _ _).alloc (Nat.le_refl _) _)).mono ?_
  rintro e w' ⟨rfl, hb⟩
  have HB := Lib.hid (bel_next ((Below.refl _ _).alloc (Nat.le_refl _) _) hb)
  clear hb
  go_wp2_with fail
  go_ret
  exact ⟨rfl, HB.out⟩
set_option maxRecDepth 100000 in
/-- The program's all. -/
theorem allB {xs : List Bal} {p : Bal → Bool} {g : FuncId} {lb : Array Value} {v : Value} {w : World} (eg : ByVal g) (h : Grid (In w) w v 3 (xs.map Bal.cells)) (hp : Tells xs g lb baV p w) :
    Calls Tryz.prog 77 #[v, .func (.func g) #[] lb] w (BoolOut (xs.all p) w) := by
  obtain ⟨h1, h2, h3⟩ := box_one w (.func (.func g) #[] lb) 109
  have HC := Lib.hid (containsB (g := 123) (fun args w => enters_of Tryz.func123 (by kernel_rfl) rfl args w) (h.keep (keep_next h3)) (notB eg h1 h2 (hp.next h3)))
  have HA := Lib.hid (any_all (p := p) (l := xs))
  obtain ⟨q, hq⟩ : ∃ q, xs.all p = q := ⟨_, rfl⟩
  obtain ⟨q2, hq2⟩ : ∃ q, (xs.any fun x => !p x) = q := ⟨_, rfl⟩
  rw [hq2] at HC HA
  rw [hq] at HA ⊢
  have HB := Lib.hid h3
  have hmf : ∀ (fn : Fn) (first cap : Array Value) (w : World), (Instr.makeFunc fn first cap).run Tryz.prog w = .ok (.func fn first cap) w := fun _ _ _ _ => rfl
  clear h hp hq hq2 h1 h2 h3
  go_enter Tryz.func77, Tryz.ntmps77
  go_wp2_with fail
  refine HC.out.mono ?_
  rintro e w' ⟨rfl, hb⟩
  have HB2 := Lib.hid (bel_next HB.out hb)
  clear hb
  go_wp2_with fail
  go_ret
  exact ⟨by rw [← HA.out]; rfl, HB2.out⟩

/-! string -/
theorem atS {w : World} {v : Value} {xs : List (List UInt8)} (h : Strs (In w) w v xs) :
    ∃ a cap, v = .slice a xs.length cap ∧ (xs.length : Int) ≤ 9223372036854775807 ∧ ∀ (wr : World), Below w.heap.size w wr → ∀ (i : Nat) (x : (List UInt8)), xs[i]? = some x → ∃ b off, a = some ⟨b, off, none⟩ ∧ b < w.heap.size ∧
      wr.cell? ⟨b, off + i, none⟩ = some (.string (bs x)) := by
  obtain ⟨a, cap, h1, h2, _, _, h5⟩ := h.shape
  refine ⟨a, cap, h1, h2, fun wr hb i x hx => ?_⟩
  obtain ⟨_, b, off, e, hbl, hc⟩ := h5 i x hx
  exact ⟨b, off, e, hbl, (hb.cell (show b < w.heap.size from hbl)).trans hc⟩

set_option maxRecDepth 100000 in
set_option maxHeartbeats 800000 in
/-- slices.IndexFunc. -/
theorem indexS {xs : List (List UInt8)} {p : (List UInt8) → Bool} {g : FuncId} {lb : Array Value} {v : Value} {w : World} (eg : ByVal g) (h : Strs (In w) w v xs) (hp : Tells xs g lb stV p w) :
    Calls Tryz.prog 138 #[v, .func (.func g) #[] lb] w (NumOut (firstI p 0 xs) w) := by
  obtain ⟨a, cap, rfl, hm, hel⟩ := atS h
  obtain ⟨r, hr⟩ : ∃ r, firstI p 0 xs = r := ⟨_, rfl⟩
  rw [hr]
  have HR := Lib.hid hr
  have HE := Lib.hid hel
  have HP := Lib.hid hp
  unfold ByVal at eg
  clear hr hel hp h
  go_enter Tryz.func138, Tryz.ntmps138
  go_wp2_with fail
  go_loopw [8] (fun vj wr => ∃ j : Nat, vj = .int .i64 (j : Int) ∧ j ≤ xs.length ∧ r = firstI p j (xs.drop j) ∧ Below w.heap.size w wr) (fun vj _ => xs.length - (RowKit.intOf vj).toNat)
  case atStart => exact ⟨0, rfl, Nat.zero_le _, by rw [← HR.out]; rfl, Below.refl _ _⟩
  case round =>
    obtain ⟨j, rfl, hj, hrj, hb⟩ := hrel
    have HB := Lib.hid hb
    have HJ := Lib.hid hrj
    clear hb hrj
    by_cases hl : j < xs.length
    · obtain ⟨x, hx⟩ := at_lt hl
      obtain ⟨b, off, rfl, _, c0⟩ := HE.out wr HB.out j x hx
      have HD := Lib.hid (Go.Proofs.YtfdipcphohhlgaaGreatDoor.Layf.drop_at hx)
      have HP1 := Lib.hid (HP.out wr x (List.mem_of_getElem? hx) HB.out)
      obtain ⟨q, hq⟩ : ∃ q, p x = q := ⟨_, rfl⟩
      rw [hq] at HP1
      have HQ := Lib.hid hq
      clear hx hq
      unfold stV at HP1
      cases q
      · have HV := Lib.hid (show r = firstI p (j + 1) (xs.drop (j + 1)) by rw [HJ.out, HD.out, firstI_no HQ.out])
        clear HQ HD
        go_wp2_with fail
        refine HP1.out.mono ?_
        rintro e w' ⟨rfl, hb⟩
        have HB2 := Lib.hid (bel_next HB.out hb)
        clear hb
        go_wp2_with fail
        go_roundw
        case rel => exact ⟨j + 1, by simp, by omega, HV.out, HB2.out⟩
        case measure => simp [RowKit.intOf]; omega
      · have HV := Lib.hid (show r = (j : Int) by rw [HJ.out, HD.out, firstI_yes HQ.out])
        clear HQ HD
        go_wp2_with fail
        refine HP1.out.mono ?_
        rintro e w' ⟨rfl, hb⟩
        have HB2 := Lib.hid (bel_next HB.out hb)
        clear hb
        go_wp2_with fail
        go_ret
        exact ⟨by rw [HV.out]; rfl, HB2.out⟩
    · have he : j = xs.length := by omega
      subst he
      go_wp2_with fail
      go_ret
      exact ⟨by rw [HJ.out, List.drop_length]; rfl, HB.out⟩
set_option maxRecDepth 100000 in
/-- slices.ContainsFunc. -/
theorem containsS {xs : List (List UInt8)} {p : (List UInt8) → Bool} {g : FuncId} {lb : Array Value} {v : Value} {w : World} (eg : ByVal g) (h : Strs (In w) w v xs) (hp : Tells xs g lb stV p w) :
    Calls Tryz.prog 108 #[v, .func (.func g) #[] lb] w (BoolOut (xs.any p) w) := by
  have HC := Lib.hid (indexS eg h hp)
  have HF := Lib.hid (first_ge (p := p) (l := xs))
  obtain ⟨r, hr⟩ : ∃ r, firstI p 0 xs = r := ⟨_, rfl⟩
  obtain ⟨q, hq⟩ : ∃ q, xs.any p = q := ⟨_, rfl⟩
  rw [hr] at HC HF
  rw [hq] at HF ⊢
  clear h hp hr hq
  go_enter Tryz.func108, Tryz.ntmps108
  go_wp2_with fail
  refine HC.out.mono ?_
  rintro e w' ⟨rfl, hb⟩
  have HB := Lib.hid hb
  clear hb
  go_wp2_with fail
  go_ret
  exact ⟨by rw [← HF.out]; rfl, HB.out⟩
set_option maxRecDepth 100000 in
/-- The opposite of a condition. -/
theorem notS {xs : List (List UInt8)} {p : (List UInt8) → Bool} {g : FuncId} {lb : Array Value} {B : Nat} {w : World} (eg : ByVal g) (hB : B < w.heap.size) (hc : w.cell? ⟨B, 0, none⟩ = some (.func (.func g) #[] lb)) (hp : Tells xs g lb stV p w) :
    Tells xs 109 #[.pointer (some ⟨B, 0, none⟩)] stV (fun x => !p x) w := fun W x hx hb => by
  have g1 := (hb.cell (p := ⟨B, 0, none⟩) hB).trans hc
  have hBW : B < W.heap.size := Nat.lt_of_lt_of_le hB hb.size
  have HP := Lib.hid (fun W' (b : Below W.heap.size W W') => hp W' x hx (bel_next hb b))
  show Calls _ _ _ _ (BoolOut (!p x) W)
  obtain ⟨q, hq⟩ : ∃ q, p x = q := ⟨_, rfl⟩
  rw [hq] at HP ⊢
  unfold ByVal at eg
  clear hp hc hq hb hx
  unfold stV at HP ⊢
  go_enter Tryz.func109, Tryz.ntmps109
  go_wp2_with fail
  refine (HP.out _ (Below.refl _ _)).mono ?_
  rintro e w' ⟨rfl, hb⟩
  have HB := Lib.hid hb
  clear hb
  go_wp2_with fail
  go_ret
  exact ⟨rfl, HB.out⟩
set_option maxRecDepth 100000 in
/-- The program's all. -/
theorem allS {xs : List (List UInt8)} {p : (List UInt8) → Bool} {g : FuncId} {lb : Array Value} {v : Value} {w : World} (eg : ByVal g) (h : Strs (In w) w v xs) (hp : Tells xs g lb stV p w) :
    Calls Tryz.prog 60 #[v, .func (.func g) #[] lb] w (BoolOut (xs.all p) w) := by
  obtain ⟨h1, h2, h3⟩ := box_one w (.func (.func g) #[] lb) 89
  have HC := Lib.hid (containsS (g := 109) (fun args w => enters_of Tryz.func109 (by kernel_rfl) rfl args w) (h.keep (keep_next h3)) (notS eg h1 h2 (hp.next h3)))
  have HA := Lib.hid (any_all (p := p) (l := xs))
  obtain ⟨q, hq⟩ : ∃ q, xs.all p = q := ⟨_, rfl⟩
  obtain ⟨q2, hq2⟩ : ∃ q, (xs.any fun x => !p x) = q := ⟨_, rfl⟩
  rw [hq2] at HC HA
  rw [hq] at HA ⊢
  have HB := Lib.hid h3
  have hmf : ∀ (fn : Fn) (first cap : Array Value) (w : World), (Instr.makeFunc fn first cap).run Tryz.prog w = .ok (.func fn first cap) w := fun _ _ _ _ => rfl
  clear h hp hq hq2 h1 h2 h3
  go_enter Tryz.func60, Tryz.ntmps60
  go_wp2_with fail
  refine HC.out.mono ?_
  rintro e w' ⟨rfl, hb⟩
  have HB2 := Lib.hid (bel_next HB.out hb)
  clear hb
  go_wp2_with fail
  go_ret
  exact ⟨by rw [← HA.out]; rfl, HB2.out⟩

end Go.Proofs.YtfdipcphohhlgaaGreatDoor.Pfn
