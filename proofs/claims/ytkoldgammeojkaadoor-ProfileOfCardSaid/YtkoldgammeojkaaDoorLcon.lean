/- What follows from a layout's being valid: plain mathematics, of no program. -/
import Derived.Test.YtkoldgammeojkaaDoorLayf
import Derived.Test.YtkoldgammeojkaaDoorLsig
import Derived.Test.YtkoldgammeojkaaDoorLbal
namespace Go.Proofs.YtkoldgammeojkaaDoor.Lcon
open Go.Proofs.YtkoldgammeojkaaDoor.Lay Go.Proofs.YtkoldgammeojkaaDoor.Numt Go.Proofs.YtkoldgammeojkaaDoor.Layf

theorem check_split {L : Lay} : checkF L = 0 ↔ namedF L = 0 ∧ elementsF L = 0 ∧ signalsF L = 0 ∧ balisesF L = 0 := by
  unfold checkF
  constructor
  · intro h
    split at h
    · contradiction
    split at h
    · contradiction
    split at h
    · contradiction
    · exact ⟨by omega, by omega, by omega, h⟩
  · rintro ⟨h1, h2, h3, h4⟩
    rw [if_neg (by omega), if_neg (by omega), if_neg (by omega), h4]
theorem named_split {L : Lay} : namedF L = 0 ↔ limitB L = true ∧ (allNames L).all nameL = true ∧ dupN L = false := by
  unfold namedF
  cases limitB L <;> cases (allNames L).all nameL <;> cases dupN L <;> simp
theorem elements_split {L : Lay} : elementsF L = 0 ↔ L.els.all (rightB L.secs.length) = true ∧ heldR L 0 L.secs.length = true ∧ L.joints.all (jointB L.els) = true ∧ dupB (endsOf L.joints) = false := by
  unfold elementsF
  cases L.els.all (rightB L.secs.length) <;> cases heldR L 0 L.secs.length <;> cases L.joints.all (jointB L.els) <;> cases dupB (endsOf L.joints) <;> simp
theorem signals_split {L : Lay} : signalsF L = 0 ↔ L.sigs.all (sigB L.els) = true ∧ dupB (L.sigs.map (·.spot)) = false ∧ (L.sigs.map (·.spot)).all (safeB L) = true := by
  unfold signalsF
  cases L.sigs.all (sigB L.els) <;> cases dupB (L.sigs.map (·.spot)) <;> cases (L.sigs.map (·.spot)).all (safeB L) <;> simp
theorem balises_split {L : Lay} : balisesF L = 0 ↔ L.bals.all (balB L.els) = true ∧ dupB (L.bals.map (·.id)) = false := by
  unfold balisesF
  cases L.bals.all (balB L.els) <;> cases dupB (L.bals.map (·.id)) <;> simp

theorem dup_nodup {α : Type} [DecidableEq α] : ∀ {l : List α}, dupB l = false ↔ l.Nodup
  | [] => by simp [dupB]
  | x :: l => by simp [dupB, dup_nodup (l := l)]
theorem dup_sub {α : Type} [DecidableEq α] {l m : List α} (h : List.Sublist m l) (hd : dupB l = false) : dupB m = false := dup_nodup.2 ((dup_nodup.1 hd).sublist h)
theorem all_sub {α : Type} {p : α → Bool} {l m : List α} (h : List.Sublist m l) (ha : l.all p = true) : m.all p = true := by
  rw [List.all_eq_true] at ha ⊢
  exact fun x hx => ha x (h.subset hx)

/-! The joined end of a joined end. -/
theorem join_mem {e : Int × Int} : ∀ {js : List ((Int × Int) × (Int × Int))}, (joinR e js).2 = true → (joinR e js).1 ∈ endsOf js
  | [], h => by cases h
  | (a, b) :: l, h => by
    rw [joinR] at h ⊢
    split
    · simp [endsOf]
    · rename_i h1
      rw [if_neg h1] at h
      split
      · simp [endsOf]
      · rename_i h2
        rw [if_neg h2] at h
        have := join_mem h
        simp only [endsOf, List.flatMap_cons, List.mem_append] at this ⊢
        exact .inr this
theorem join_back {e : Int × Int} : ∀ {js : List ((Int × Int) × (Int × Int))}, dupB (endsOf js) = false → (joinR e js).2 = true → joinR (joinR e js).1 js = (e, true) ∧ (joinR e js).1 ≠ e
  | [], _, h => by cases h
  | (a, b) :: l, hd, h => by
    have hd' : dupB (a :: b :: endsOf l) = false := hd
    simp only [dupB, Bool.or_eq_false_iff, decide_eq_false_iff_not, List.mem_cons, not_or] at hd'
    obtain ⟨⟨hab, ha⟩, hb, hl⟩ := hd'
    by_cases h1 : a = e
    · subst h1
      rw [joinR_a]
      exact ⟨joinR_b hab, fun h => hab h.symm⟩
    by_cases h2 : b = e
    · subst h2
      rw [joinR_b h1]
      exact ⟨joinR_a, h1⟩
    rw [joinR_no h1 h2] at h ⊢
    obtain ⟨i1, i2⟩ := join_back hl h
    have hm := join_mem h
    refine ⟨?_, i2⟩
    have x1 : a ≠ (joinR e l).1 := fun h => ha (by rw [h]; exact hm)
    have x2 : b ≠ (joinR e l).1 := fun h => hb (by rw [h]; exact hm)
    rw [joinR_no x1 x2]
    exact i1
theorem joined_back {L : Lay} {e f : Int × Int} (hc : checkF L = 0) (h : joinedF L e = (f, true)) : joinedF L f = (e, true) ∧ f ≠ e := by
  obtain ⟨_, he, _, _⟩ := check_split.1 hc
  obtain ⟨_, _, _, hd⟩ := elements_split.1 he
  have h2 : (joinR e L.joints).2 = true := by rw [show joinR e L.joints = (f, true) from h]
  have := join_back hd h2
  rw [show joinR e L.joints = (f, true) from h] at this
  exact this

/-! The first part that meets a condition. -/
def firstI {α : Type} (p : α → Bool) : Nat → List α → Int
  | _, [] => -1
  | i, x :: l => if p x = true then (i : Int) else firstI p (i + 1) l
theorem firstI_yes {α : Type} {p : α → Bool} {i : Nat} {x : α} {l : List α} (h : p x = true) : firstI p i (x :: l) = (i : Int) := by rw [firstI, if_pos h]
theorem firstI_no {α : Type} {p : α → Bool} {i : Nat} {x : α} {l : List α} (h : p x = false) : firstI p i (x :: l) = firstI p (i + 1) l := by rw [firstI, if_neg (by simp [h])]
theorem firstI_mem {α : Type} {p : α → Bool} : ∀ {l : List α} {i : Nat}, 0 ≤ firstI p i l → ∃ x ∈ l, p x = true
  | [], _, h => by simp [firstI] at h
  | x :: l, i, h => by
    cases hp : p x with
    | true => exact ⟨x, List.mem_cons_self, hp⟩
    | false =>
      rw [firstI_no hp] at h
      obtain ⟨y, hy, hq⟩ := firstI_mem h
      exact ⟨y, List.mem_cons_of_mem _ hy, hq⟩
theorem firstI_at {α : Type} {p : α → Bool} : ∀ {l : List α} {i k : Nat} {x : α}, l[k]? = some x → p x = true → (∀ j y, j < k → l[j]? = some y → p y = false) → firstI p i l = ((i + k : Nat) : Int)
  | [], _, _, _, h, _, _ => by simp at h
  | y :: l, i, 0, x, h, hp, _ => by
    cases h
    rw [firstI_yes hp]
    rfl
  | y :: l, i, k + 1, x, h, hp, hn => by
    rw [firstI_no (hn 0 y (by omega) rfl), firstI_at (l := l) (k := k) (x := x) h hp fun j z hj hz => hn (j + 1) z (by omega) hz]
    congr 1
    omega
def isSpot (e : Int × Int) (s : Sig) : Bool := decide (s.spot = e)
def signalF (L : Lay) (e : Int × Int) : Int := firstI (isSpot e) 0 L.sigs
def isName (n : List UInt8) (x : Elem) : Bool := decide (x.name = n)
def elementF (L : Lay) (n : List UInt8) : Int := firstI (isName n) 0 L.els
def sectionF (L : Lay) (i : Int) : Int := if i < 0 ∨ (L.els.length : Int) ≤ i then -1 else ((secAt L.els i).getD (-1))
theorem section_at {L : Lay} {i : Nat} {x : Elem} (h : L.els[i]? = some x) : sectionF L (i : Int) = x.sec := by
  have := (List.getElem?_eq_some_iff.1 h).1
  simp [sectionF, secAt, h]
  omega
/-- At a joined end with a signal another section begins. -/
theorem signal_safe {L : Lay} {e : Int × Int} (hc : checkF L = 0) (h : 0 ≤ signalF L e) : safeB L e = true := by
  obtain ⟨_, _, hs, _⟩ := check_split.1 hc
  obtain ⟨_, _, hs⟩ := signals_split.1 hs
  obtain ⟨s, hm, hp⟩ := firstI_mem h
  have he : s.spot = e := of_decide_eq_true hp
  rw [← he]
  exact List.all_eq_true.1 hs _ (List.mem_map_of_mem hm)
theorem joined_exists {L : Lay} {e f : Int × Int} (hc : checkF L = 0) (h : joinedF L e = (f, true)) : existsB L.els f = true := by
  obtain ⟨_, he, _, _⟩ := check_split.1 hc
  obtain ⟨_, _, hj, _⟩ := elements_split.1 he
  have h2 : (Layf.joinR e L.joints).2 = true := by rw [show joinR e L.joints = (f, true) from h]
  have := Lsig.join_exists hj h2
  rwa [show joinR e L.joints = (f, true) from h] at this
theorem sections_apart {L : Lay} {e f : Int × Int} (hc : checkF L = 0) (h : joinedF L e = (f, true)) (he : existsB L.els e = true) (hg : 0 ≤ signalF L e) : sectionF L f.1 ≠ sectionF L e.1 := by
  have hs := signal_safe hc hg
  have hf := joined_exists hc h
  obtain ⟨i, x, hi, hx, _⟩ := Lsig.exists_at he
  obtain ⟨j, y, hj, hy, _⟩ := Lsig.exists_at hf
  unfold safeB at hs
  rw [h] at hs
  simp [secAt, hi, hj, hx, hy] at hs
  rw [hi, hj, section_at hx, section_at hy]
  exact hs
/-- Each element is found by its name. -/
theorem element_name {L : Lay} {i : Nat} {x : Elem} (hc : checkF L = 0) (h : L.els[i]? = some x) : elementF L x.name = (i : Int) := by
  obtain ⟨hn, _, _, _⟩ := check_split.1 hc
  obtain ⟨_, _, hd⟩ := named_split.1 hn
  have hd : dupB (L.els.map (·.name)) = false := by
    simp only [dupN, Bool.or_eq_false_iff] at hd
    exact hd.2.1
  unfold elementF
  rw [firstI_at h (by simp [isName]) fun j y hj hy => ?_]
  · simp
  · cases hq : isName x.name y with
    | false => rfl
    | true =>
      exfalso
      have e : y.name = x.name := of_decide_eq_true hq
      have : dupB (L.els.map (·.name)) = true := dup_iff.2 ⟨j, i, x.name, hj, by simp [hy, e], by simp [h]⟩
      rw [hd] at this
      cases this
theorem right_at {L : Lay} {x : Elem} (hc : checkF L = 0) (h : x ∈ L.els) : rightB L.secs.length x = true := by
  obtain ⟨_, he, _, _⟩ := check_split.1 hc
  exact List.all_eq_true.1 (elements_split.1 he).1 _ h

/-! Points have a slow speed. -/
def isSlow (x : Elem) : Bool := decide (0 < x.slow)
theorem pick_congr {α : Type} {p q : α → Bool} : ∀ {l : List α} {i : Nat}, (∀ x ∈ l, p x = q x) → pick p i l = pick q i l
  | [], _, _ => rfl
  | x :: l, i, h => by
    rw [pick, pick, h x List.mem_cons_self, pick_congr fun y hy => h y (List.mem_cons_of_mem _ hy)]
theorem points_slow {L : Lay} (hc : checkF L = 0) : pointsF L = pick isSlow 0 L.els := by
  refine pick_congr fun x hx => ?_
  have h := of_decide_eq_true (right_at hc hx)
  unfold isPoint isSlow
  rw [Bool.eq_iff_iff, beq_iff_eq, decide_eq_true_eq]
  omega

/-! Each element is a member of one section. -/
def sumTo (f : Nat → Nat) : Nat → Nat
  | 0 => 0
  | n + 1 => sumTo f n + f n
theorem sumTo_add (f g : Nat → Nat) : ∀ n, sumTo (fun s => f s + g s) n = sumTo f n + sumTo g n
  | 0 => rfl
  | n + 1 => by rw [sumTo, sumTo, sumTo, sumTo_add f g n]; omega
theorem sumTo_zero {f : Nat → Nat} : ∀ {n : Nat}, (∀ s, s < n → f s = 0) → sumTo f n = 0
  | 0, _ => rfl
  | n + 1, h => by rw [sumTo, sumTo_zero fun s hs => h s (by omega), h n (by omega)]
theorem sumTo_one {f : Nat → Nat} {k : Nat} : ∀ {n : Nat}, k < n → f k = 1 → (∀ s, s < n → s ≠ k → f s = 0) → sumTo f n = 1
  | 0, h, _, _ => by omega
  | n + 1, h, h1, h2 => by
    rw [sumTo]
    by_cases hk : k = n
    · subst hk
      rw [sumTo_zero fun s hs => h2 s (by omega) (by omega), h1]
    · rw [sumTo_one (k := k) (by omega) h1 fun s hs hne => h2 s (by omega) hne, h2 n (by omega) (by omega)]
theorem sumTo_congr {f g : Nat → Nat} : ∀ {n : Nat}, (∀ s, s < n → f s = g s) → sumTo f n = sumTo g n
  | 0, _ => rfl
  | n + 1, h => by rw [sumTo, sumTo, sumTo_congr fun s hs => h s (by omega), h n (by omega)]
/-- All members of the first n sections. -/
def allMem (L : Lay) : Nat → List Int
  | 0 => []
  | n + 1 => allMem L n ++ membersF L (n : Int)
theorem allMem_len (L : Lay) : ∀ n, (allMem L n).length = sumTo (fun s => (membersF L (s : Int)).length) n
  | 0 => rfl
  | n + 1 => by rw [allMem, sumTo, List.length_append, allMem_len L n]
theorem allMem_count (L : Lay) (x : Int) : ∀ n, (allMem L n).count x = sumTo (fun s => (membersF L (s : Int)).count x) n
  | 0 => rfl
  | n + 1 => by rw [allMem, sumTo, List.count_append, allMem_count L x n]
theorem pick_count {α : Type} {p : α → Bool} : ∀ {l : List α} {i k : Nat}, (pick p i l).count ((i + k : Nat) : Int) = match l[k]? with | some x => if p x = true then 1 else 0 | none => 0
  | [], i, k => by simp [pick]
  | x :: l, i, 0 => by
    have h0 : (pick p (i + 1) l).count (i : Int) = 0 := List.count_eq_zero.2 fun h => by
      have : ∀ {l : List α} {j : Nat} {a : Int}, a ∈ pick p j l → (j : Int) ≤ a := by
        intro l
        induction l with
        | nil => intro j a h; simp [pick] at h
        | cons y l ih =>
          intro j a h
          rw [pick] at h
          split at h
          · rcases List.mem_cons.1 h with rfl | h
            · exact Int.le_refl _
            · have := ih h
              omega
          · have := ih h
            omega
      have := this h
      omega
    rw [pick]
    cases hp : p x <;> simp [hp, h0]
  | x :: l, i, k + 1 => by
    have ih := pick_count (p := p) (l := l) (i := i + 1) (k := k)
    rw [show i + 1 + k = i + (k + 1) by omega] at ih
    rw [pick, List.getElem?_cons_succ, ← ih]
    split
    · rw [List.count_cons_of_ne (by omega)]
    · rfl
theorem members_one {L : Lay} {i : Nat} {x : Elem} (hc : checkF L = 0) (h : L.els[i]? = some x) : (allMem L L.secs.length).count (i : Int) = 1 := by
  have hr := of_decide_eq_true (right_at hc (List.mem_of_getElem? h))
  rw [allMem_count]
  have hcnt : ∀ s : Nat, (membersF L (s : Int)).count (i : Int) = if isMember L.secs.length (s : Int) x = true then 1 else 0 := fun s => by
    have := pick_count (p := isMember L.secs.length (s : Int)) (l := L.els) (i := 0) (k := i)
    rw [h, Nat.zero_add] at this
    exact this
  rw [sumTo_congr fun s _ => hcnt s]
  refine sumTo_one (k := x.sec.toNat) (by omega) ?_ fun s hs hne => ?_
  · rw [if_pos]
    simp [isMember]
    omega
  · rw [if_neg]
    simp [isMember]
    omega
theorem pick_len {α : Type} {p : α → Bool} : ∀ {l : List α} {i j : Nat}, (pick p i l).length = (pick p j l).length
  | [], _, _ => rfl
  | x :: l, i, j => by
    rw [pick, pick]
    split
    · rw [List.length_cons, List.length_cons, pick_len (l := l) (i := i + 1) (j := j + 1)]
    · exact pick_len
theorem pick_all {n : Nat} : ∀ {l : List Elem}, (∀ x ∈ l, 0 ≤ x.sec ∧ x.sec < (n : Int)) → sumTo (fun s => (pick (isMember n (s : Int)) 0 l).length) n = l.length
  | [], _ => sumTo_zero fun _ _ => rfl
  | x :: l, h => by
    have ih := pick_all (n := n) (l := l) fun y hy => h y (List.mem_cons_of_mem _ hy)
    have hx := h x List.mem_cons_self
    rw [sumTo_congr (g := fun s => (if isMember n (s : Int) x = true then 1 else 0) + (pick (isMember n (s : Int)) 0 l).length) fun s _ => by
      rw [pick]
      split
      · rw [List.length_cons, pick_len (j := 0)]; omega
      · rw [pick_len (j := 0)]; omega]
    rw [sumTo_add, ih, sumTo_one (k := x.sec.toNat) (by omega) (by rw [if_pos]; simp [isMember]; omega) fun s hs hne => by rw [if_neg]; simp [isMember]; omega]
    rw [List.length_cons]
    omega
theorem members_all {L : Lay} (hc : checkF L = 0) : (allMem L L.secs.length).length = L.els.length := by
  rw [allMem_len]
  refine pick_all fun x hx => ?_
  have hr := of_decide_eq_true (right_at hc hx)
  omega
theorem held_at {L : Lay} : ∀ {n i s : Nat}, heldR L i n = true → i ≤ s → s < i + n → membersF L (s : Int) ≠ []
  | 0, i, s, _, h1, h2 => by omega
  | n + 1, i, s, h, h1, h2 => by
    rw [heldR] at h
    simp only [Bool.and_eq_true, Bool.not_eq_true', decide_eq_false_iff_not] at h
    by_cases e : s = i
    · subst e; exact h.1
    · exact held_at h.2 (by omega) (by omega)
theorem members_some {L : Lay} (hc : checkF L = 0) {s : Nat} (h : s < L.secs.length) : membersF L (s : Int) ≠ [] := by
  obtain ⟨_, he, _, _⟩ := check_split.1 hc
  exact held_at (elements_split.1 he).2.1 (Nat.zero_le _) (by omega)
theorem pick_at {α : Type} {p : α → Bool} : ∀ {l : List α} {i : Nat} {a : Int}, a ∈ pick p i l → ∃ (k : Nat) (x : α), a = ((i + k : Nat) : Int) ∧ l[k]? = some x ∧ p x = true
  | [], _, _, h => by simp [pick] at h
  | x :: l, i, a, h => by
    rw [pick] at h
    have rest : a ∈ pick p (i + 1) l → ∃ (k : Nat) (y : α), a = ((i + k : Nat) : Int) ∧ (x :: l)[k]? = some y ∧ p y = true := fun h => by
      obtain ⟨k, y, e, hy, hp⟩ := pick_at h
      exact ⟨k + 1, y, by rw [e]; congr 1; omega, by simpa using hy, hp⟩
    split at h
    · rename_i hp
      rcases List.mem_cons.1 h with rfl | h
      · exact ⟨0, x, rfl, rfl, hp⟩
      · exact rest h
    · exact rest h
/-- A member of a section is an element of it. -/
theorem member_at {L : Lay} {s a : Int} (h : a ∈ membersF L s) : ∃ (k : Nat) (x : Elem), a = (k : Int) ∧ L.els[k]? = some x ∧ x.sec = s := by
  obtain ⟨k, x, e, hx, hp⟩ := pick_at h
  refine ⟨k, x, by rw [e, Nat.zero_add], hx, ?_⟩
  simp only [isMember, Bool.and_eq_true, beq_iff_eq] at hp
  exact hp.1

/-! What stays valid when something is removed. -/
theorem held_congr {L M : Lay} (h1 : M.secs = L.secs) (h2 : M.els = L.els) : ∀ n i, heldR M i n = heldR L i n
  | 0, _ => rfl
  | n + 1, i => by
    rw [heldR, heldR, held_congr h1 h2 n (i + 1)]
    unfold membersF
    rw [h1, h2]
theorem remove_bals {L : Lay} {m : List Bal} (hm : List.Sublist m L.bals) (hc : checkF L = 0) : checkF { L with bals := m } = 0 := by
  obtain ⟨hn, he, hs, hb⟩ := check_split.1 hc
  obtain ⟨n1, n2, n3⟩ := named_split.1 hn
  obtain ⟨e1, e2, e3, e4⟩ := elements_split.1 he
  obtain ⟨s1, s2, s3⟩ := signals_split.1 hs
  obtain ⟨b1, b2⟩ := balises_split.1 hb
  refine check_split.2 ⟨named_split.2 ⟨?_, n2, n3⟩, elements_split.2 ⟨e1, ?_, e3, e4⟩, signals_split.2 ⟨s1, s2, s3⟩, balises_split.2 ⟨all_sub hm b1, dup_sub (hm.map _) b2⟩⟩
  · have := of_decide_eq_true n1
    have := hm.length_le
    refine decide_eq_true ?_
    simp only
    omega
  · exact (held_congr (L := L) (M := { L with bals := m }) rfl rfl _ _).trans e2
theorem remove_sigs {L : Lay} {m : List Sig} (hm : List.Sublist m L.sigs) (hc : checkF L = 0) : checkF { L with sigs := m } = 0 := by
  obtain ⟨hn, he, hs, hb⟩ := check_split.1 hc
  obtain ⟨n1, n2, n3⟩ := named_split.1 hn
  obtain ⟨e1, e2, e3, e4⟩ := elements_split.1 he
  obtain ⟨s1, s2, s3⟩ := signals_split.1 hs
  obtain ⟨b1, b2⟩ := balises_split.1 hb
  refine check_split.2 ⟨named_split.2 ⟨?_, ?_, ?_⟩, elements_split.2 ⟨e1, ?_, e3, e4⟩, signals_split.2 ⟨all_sub hm s1, dup_sub (hm.map _) s2, all_sub (hm.map _) s3⟩, balises_split.2 ⟨b1, b2⟩⟩
  · have := of_decide_eq_true n1
    have := hm.length_le
    refine decide_eq_true ?_
    simp only
    omega
  · refine all_sub ?_ n2
    exact List.Sublist.cons_cons _ ((List.Sublist.refl _).append ((List.Sublist.refl _).append (hm.map _)))
  · simp only [dupN, Bool.or_eq_false_iff] at n3 ⊢
    exact ⟨n3.1, n3.2.1, dup_sub (hm.map _) n3.2.2⟩
  · exact (held_congr (L := L) (M := { L with sigs := m }) rfl rfl _ _).trans e2
theorem join_skip {e a b : Int × Int} (h1 : a ≠ e) (h2 : b ≠ e) : ∀ {l m : List ((Int × Int) × (Int × Int))}, joinR e (l ++ (a, b) :: m) = joinR e (l ++ m)
  | [], m => joinR_no h1 h2
  | (c, d) :: l, m => by
    rw [List.cons_append, List.cons_append, joinR, joinR, join_skip h1 h2]
theorem signal_none {L : Lay} {e : Int × Int} : ∀ {l : List Sig} {i : Nat}, firstI (isSpot e) i l < 0 → ∀ s ∈ l, s.spot ≠ e
  | [], _, _, s, hs => by simp at hs
  | x :: l, i, h, s, hs => by
    cases hp : isSpot e x with
    | true =>
      rw [firstI_yes hp] at h
      omega
    | false =>
      rw [firstI_no hp] at h
      rcases List.mem_cons.1 hs with rfl | hs
      · exact of_decide_eq_false hp
      · exact signal_none (L := L) h s hs
theorem remove_joint {L : Lay} {l m : List ((Int × Int) × (Int × Int))} {a b : Int × Int} (hj : L.joints = l ++ (a, b) :: m) (ha : signalF L a < 0) (hb' : signalF L b < 0) (hc : checkF L = 0) : checkF { L with joints := l ++ m } = 0 := by
  obtain ⟨hn, he, hs, hb⟩ := check_split.1 hc
  obtain ⟨n1, n2, n3⟩ := named_split.1 hn
  obtain ⟨e1, e2, e3, e4⟩ := elements_split.1 he
  obtain ⟨s1, s2, s3⟩ := signals_split.1 hs
  obtain ⟨b1, b2⟩ := balises_split.1 hb
  have hsub : List.Sublist (l ++ m) L.joints := by
    rw [hj]
    exact (List.Sublist.refl _).append (List.sublist_cons_self _ _)
  refine check_split.2 ⟨named_split.2 ⟨n1, n2, n3⟩, elements_split.2 ⟨e1, ?_, all_sub hsub e3, ?_⟩, signals_split.2 ⟨s1, s2, ?_⟩, balises_split.2 ⟨b1, b2⟩⟩
  · exact (held_congr (L := L) (M := { L with joints := l ++ m }) rfl rfl _ _).trans e2
  · refine dup_sub ?_ e4
    show List.Sublist (endsOf (l ++ m)) (endsOf L.joints)
    rw [hj]
    simp only [endsOf, List.flatMap_append, List.flatMap_cons]
    exact (List.Sublist.refl _).append (List.sublist_append_right _ _)
  · rw [List.all_eq_true] at s3 ⊢
    intro e h
    have h3 := s3 e h
    obtain ⟨s, hs, rfl⟩ := List.mem_map.1 h
    have q1 := signal_none (L := L) ha s hs
    have q2 := signal_none (L := L) hb' s hs
    unfold safeB joinedF at h3 ⊢
    rw [hj, join_skip (fun h => q1 h.symm) (fun h => q2 h.symm)] at h3
    exact h3

end Go.Proofs.YtkoldgammeojkaaDoor.Lcon
