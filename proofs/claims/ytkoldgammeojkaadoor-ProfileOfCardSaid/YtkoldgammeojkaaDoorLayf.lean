/- What layer 7 asks of layouts: plain mathematics, of no program. -/
import Derived.Test.YtkoldgammeojkaaDoorLay
import Derived.Test.YtkoldgammeojkaaDoorNumt
namespace Go.Proofs.YtkoldgammeojkaaDoor.Layf
open Go.Proofs.YtkoldgammeojkaaDoor.Lay Go.Proofs.YtkoldgammeojkaaDoor.Numt

/-- The indexes, from i on, of the parts that meet p. -/
def pick {α : Type} (p : α → Bool) : Nat → List α → List Int
  | _, [] => []
  | i, x :: l => if p x = true then (i : Int) :: pick p (i + 1) l else pick p (i + 1) l
theorem pick_yes {α : Type} {p : α → Bool} {i : Nat} {x : α} {l : List α} (h : p x = true) : pick p i (x :: l) = (i : Int) :: pick p (i + 1) l := by rw [pick, if_pos h]
theorem pick_no {α : Type} {p : α → Bool} {i : Nat} {x : α} {l : List α} (h : p x = false) : pick p i (x :: l) = pick p (i + 1) l := by rw [pick, if_neg (by simp [h])]
theorem drop_at {α : Type} {l : List α} {j : Nat} {x : α} (h : l[j]? = some x) : l.drop j = x :: l.drop (j + 1) := by
  obtain ⟨hj, rfl⟩ := List.getElem?_eq_some_iff.1 h
  exact List.drop_eq_getElem_cons hj

def isMember (n : Nat) (s : Int) (x : Elem) : Bool := x.sec == s && (decide (0 ≤ s) && decide (s < (n : Int)))
def membersF (L : Lay) (s : Int) : List Int := pick (isMember L.secs.length s) 0 L.els
def isPoint (x : Elem) : Bool := x.kind == 2
def pointsF (L : Lay) : List Int := pick isPoint 0 L.els

/-- Whether something is in a list twice. -/
def dupB {α : Type} [DecidableEq α] : List α → Bool
  | [] => false
  | x :: l => decide (x ∈ l) || dupB l
theorem dup_iff {α : Type} [DecidableEq α] : ∀ {l : List α}, dupB l = true ↔ ∃ (a b : Nat) (x : α), a < b ∧ l[a]? = some x ∧ l[b]? = some x
  | [] => by simp [dupB]
  | y :: l => by
    rw [dupB, Bool.or_eq_true, decide_eq_true_eq, dup_iff]
    constructor
    · rintro (h | ⟨a, b, x, hab, ha, hb⟩)
      · obtain ⟨i, hi⟩ := List.mem_iff_getElem?.1 h
        exact ⟨0, i + 1, y, by omega, rfl, by simpa using hi⟩
      · exact ⟨a + 1, b + 1, x, by omega, by simpa using ha, by simpa using hb⟩
    · rintro ⟨a, b, x, hab, ha, hb⟩
      obtain ⟨b, rfl⟩ : ∃ c, b = c + 1 := ⟨b - 1, by omega⟩
      rw [List.getElem?_cons_succ] at hb
      cases a with
      | zero =>
        rw [List.getElem?_cons_zero] at ha
        cases ha
        exact .inl (List.mem_iff_getElem?.2 ⟨b, hb⟩)
      | succ a =>
        rw [List.getElem?_cons_succ] at ha
        exact .inr ⟨a, b, x, by omega, ha, hb⟩

/-- Whether an element is as the fourth condition says, in a layout of n sections. -/
def rightB (n : Nat) (x : Elem) : Bool :=
  decide (1 ≤ x.kind ∧ x.kind ≤ 3 ∧ 500 ≤ x.len ∧ x.len ≤ 1000000 ∧ -50 ≤ x.grade ∧ x.grade ≤ 50 ∧ 100 ≤ x.speed ∧ x.speed ≤ 10000 ∧ 0 ≤ x.sec ∧ x.sec < (n : Int) ∧ (x.kind ≠ 2 ∨ (100 ≤ x.slow ∧ x.slow ≤ x.speed)) ∧ (x.kind = 2 ∨ x.slow = 0))
def sidesN (k : Int) : Int := if k = 1 then 2 else if k = 2 then 3 else if k = 3 then 4 else 0
/-- Whether an end exists. -/
def existsB (els : List Elem) (p : Int × Int) : Bool :=
  match els[p.1.toNat]? with
  | some x => decide (0 ≤ p.1) && (decide (0 ≤ p.2) && decide (p.2 < sidesN x.kind))
  | none => false
theorem exists_yes {els : List Elem} {p : Int × Int} {x : Elem} (h0 : 0 ≤ p.1) (h1 : 0 ≤ p.2) (hx : els[p.1.toNat]? = some x) : existsB els p = decide (p.2 < sidesN x.kind) := by
  simp [existsB, hx, h0, h1]
theorem exists_neg {els : List Elem} {p : Int × Int} (h : p.1 < 0 ∨ (els.length : Int) ≤ p.1 ∨ p.2 < 0) : existsB els p = false := by
  unfold existsB
  cases hx : els[p.1.toNat]? with
  | none => rfl
  | some x =>
    have := (List.getElem?_eq_some_iff.1 hx).1
    rcases h with h | h | h
    · simp; omega
    · omega
    · simp; omega

/-- The other end of the first joint that has the end e. -/
def joinR (e : Int × Int) : List ((Int × Int) × (Int × Int)) → (Int × Int) × Bool
  | [] => ((0, 0), false)
  | (a, b) :: l => if a = e then (b, true) else if b = e then (a, true) else joinR e l
def joinedF (L : Lay) (e : Int × Int) : (Int × Int) × Bool := joinR e L.joints
theorem joinR_a {e b : Int × Int} {l : List ((Int × Int) × (Int × Int))} : joinR e ((e, b) :: l) = (b, true) := by rw [joinR, if_pos rfl]
theorem joinR_b {e a : Int × Int} {l : List ((Int × Int) × (Int × Int))} (h : a ≠ e) : joinR e ((a, e) :: l) = (a, true) := by rw [joinR, if_neg h, if_pos rfl]
theorem joinR_no {e a b : Int × Int} {l : List ((Int × Int) × (Int × Int))} (h : a ≠ e) (h2 : b ≠ e) : joinR e ((a, b) :: l) = joinR e l := by rw [joinR, if_neg h, if_neg h2]

/-! The conditions 1 to 3. -/
def limitB (L : Lay) : Bool := decide (1 ≤ L.els.length ∧ L.els.length ≤ 32 ∧ 1 ≤ L.secs.length ∧ L.secs.length ≤ 24 ∧ L.sigs.length ≤ 20 ∧ L.bals.length ≤ 24)
def allNames (L : Lay) : List (List UInt8) := L.name :: (L.secs ++ (L.els.map (·.name) ++ L.sigs.map (·.name)))
def dupN (L : Lay) : Bool := dupB L.secs || (dupB (L.els.map (·.name)) || dupB (L.sigs.map (·.name)))
def namedF (L : Lay) : Int := if limitB L = false then 2 else if (allNames L).all nameL = false then 3 else if dupN L = true then 8 else 0
theorem named_limit {L : Lay} (h : limitB L = false) : namedF L = 2 := by rw [namedF, if_pos h]
theorem named_name {L : Lay} (h : limitB L = true) (h2 : (allNames L).all nameL = false) : namedF L = 3 := by rw [namedF, if_neg (by simp [h]), if_pos h2]
theorem named_dup {L : Lay} (h : limitB L = true) (h2 : (allNames L).all nameL = true) (h3 : dupN L = true) : namedF L = 8 := by rw [namedF, if_neg (by simp [h]), if_neg (by simp [h2]), if_pos h3]
theorem named_ok {L : Lay} (h : limitB L = true) (h2 : (allNames L).all nameL = true) (h3 : dupN L = false) : namedF L = 0 := by rw [namedF, if_neg (by simp [h]), if_neg (by simp [h2]), if_neg (by simp [h3])]

/-! The conditions 4 to 7. -/
def jointB (els : List Elem) (j : (Int × Int) × (Int × Int)) : Bool := existsB els j.1 && (existsB els j.2 && !decide (j.1 = j.2))
def endsOf (js : List ((Int × Int) × (Int × Int))) : List (Int × Int) := js.flatMap fun j => [j.1, j.2]
/-- Each section from i on has an element, n of them. -/
def heldR (L : Lay) : Nat → Nat → Bool
  | _, 0 => true
  | i, n + 1 => !decide (membersF L (i : Int) = []) && heldR L (i + 1) n
def elementsF (L : Lay) : Int :=
  if L.els.all (rightB L.secs.length) = false then 1 else if heldR L 0 L.secs.length = false then 1 else if L.joints.all (jointB L.els) = false then 1 else if dupB (endsOf L.joints) = true then 8 else 0
theorem elements_right {L : Lay} (h : L.els.all (rightB L.secs.length) = false) : elementsF L = 1 := by rw [elementsF, if_pos h]
theorem elements_held {L : Lay} (h : L.els.all (rightB L.secs.length) = true) (h2 : heldR L 0 L.secs.length = false) : elementsF L = 1 := by rw [elementsF, if_neg (by simp [h]), if_pos h2]
theorem elements_joint {L : Lay} (h : L.els.all (rightB L.secs.length) = true) (h2 : heldR L 0 L.secs.length = true) (h3 : L.joints.all (jointB L.els) = false) : elementsF L = 1 := by rw [elementsF, if_neg (by simp [h]), if_neg (by simp [h2]), if_pos h3]
theorem elements_dup {L : Lay} (h : L.els.all (rightB L.secs.length) = true) (h2 : heldR L 0 L.secs.length = true) (h3 : L.joints.all (jointB L.els) = true) (h4 : dupB (endsOf L.joints) = true) : elementsF L = 8 := by rw [elementsF, if_neg (by simp [h]), if_neg (by simp [h2]), if_neg (by simp [h3]), if_pos h4]
theorem elements_ok {L : Lay} (h : L.els.all (rightB L.secs.length) = true) (h2 : heldR L 0 L.secs.length = true) (h3 : L.joints.all (jointB L.els) = true) (h4 : dupB (endsOf L.joints) = false) : elementsF L = 0 := by rw [elementsF, if_neg (by simp [h]), if_neg (by simp [h2]), if_neg (by simp [h3]), if_neg (by simp [h4])]
theorem held_step {L : Lay} {i n : Nat} {l : List Int} (h : membersF L (i : Int) = l) : heldR L i (n + 1) = (!decide (l = []) && heldR L (i + 1) n) := by rw [heldR, h]

/-! The conditions 8 to 10. -/
def sigB (els : List Elem) (s : Sig) : Bool := existsB els s.spot && (decide (0 ≤ s.over) && decide (s.over ≤ 1000000))
def secAt (els : List Elem) (i : Int) : Option Int := (els[i.toNat]?).map (·.sec)
def safeB (L : Lay) (e : Int × Int) : Bool := (joinedF L e).2 && !decide (secAt L.els (joinedF L e).1.1 = secAt L.els e.1)
def signalsF (L : Lay) : Int :=
  if L.sigs.all (sigB L.els) = false then 1 else if dupB (L.sigs.map (·.spot)) = true then 8 else if (L.sigs.map (·.spot)).all (safeB L) = false then 14 else 0
theorem signals_arg {L : Lay} (h : L.sigs.all (sigB L.els) = false) : signalsF L = 1 := by rw [signalsF, if_pos h]
theorem signals_dup {L : Lay} (h : L.sigs.all (sigB L.els) = true) (h2 : dupB (L.sigs.map (·.spot)) = true) : signalsF L = 8 := by rw [signalsF, if_neg (by simp [h]), if_pos h2]
theorem signals_safe {L : Lay} (h : L.sigs.all (sigB L.els) = true) (h2 : dupB (L.sigs.map (·.spot)) = false) (h3 : (L.sigs.map (·.spot)).all (safeB L) = false) : signalsF L = 14 := by rw [signalsF, if_neg (by simp [h]), if_neg (by simp [h2]), if_pos h3]
theorem signals_ok {L : Lay} (h : L.sigs.all (sigB L.els) = true) (h2 : dupB (L.sigs.map (·.spot)) = false) (h3 : (L.sigs.map (·.spot)).all (safeB L) = true) : signalsF L = 0 := by rw [signalsF, if_neg (by simp [h]), if_neg (by simp [h2]), if_neg (by simp [h3])]

/-! The conditions 11 and 12. -/
def balB (els : List Elem) (b : Bal) : Bool :=
  match els[b.el.toNat]? with
  | some x => decide (1 ≤ b.id ∧ b.id ≤ 1073741824 ∧ 0 ≤ b.el ∧ 0 ≤ b.off ∧ b.off ≤ x.len)
  | none => false
def balisesF (L : Lay) : Int := if L.bals.all (balB L.els) = false then 1 else if dupB (L.bals.map (·.id)) = true then 8 else 0
theorem balises_arg {L : Lay} (h : L.bals.all (balB L.els) = false) : balisesF L = 1 := by rw [balisesF, if_pos h]
theorem balises_dup {L : Lay} (h : L.bals.all (balB L.els) = true) (h2 : dupB (L.bals.map (·.id)) = true) : balisesF L = 8 := by rw [balisesF, if_neg (by simp [h]), if_pos h2]
theorem balises_ok {L : Lay} (h : L.bals.all (balB L.els) = true) (h2 : dupB (L.bals.map (·.id)) = false) : balisesF L = 0 := by rw [balisesF, if_neg (by simp [h]), if_neg (by simp [h2])]

/-- The first error of a layout. -/
def checkF (L : Lay) : Int := if namedF L ≠ 0 then namedF L else if elementsF L ≠ 0 then elementsF L else if signalsF L ≠ 0 then signalsF L else balisesF L

end Go.Proofs.YtkoldgammeojkaaDoor.Layf
