/- Texts of this proof, merged: Plnb, Plnc, Plnx, Few0, Ptwo, Kind, Word, Rword, Samew. -/
import Derived.Test.YtfdipcphohhlgaaGreatDoorG08
import Derived.Lib.ItoaLen
import Derived.Test.YtfdipcphohhlgaaGreatDoorG01
import Derived.Test.YtfdipcphohhlgaaGreatDoorG02
import Derived.Test.YtfdipcphohhlgaaGreatDoorProg
import Derived.WalkKit
import Derived.Below
import Derived.Laws.RangeAny
import Derived.Laws.IdiomStrings
import Derived.Outline
import Derived.Deep.DeepFit
import Derived.Lib.Hide
import Derived.Lib.Walk
import Derived.BigQuiet
import Derived.Deep.QuietTactic
import Derived.Test.YtfdipcphohhlgaaGreatDoorG04
import Derived.Test.YtfdipcphohhlgaaGreatDoorG03

/- A layout is restored from its lines; the lines make a text: plain mathematics, of no program. -/
namespace Go.Proofs.YtfdipcphohhlgaaGreatDoor.Plnb
open Go.Lib Go.Proofs.YtfdipcphohhlgaaGreatDoor.Lay Go.Proofs.YtfdipcphohhlgaaGreatDoor.Layf Go.Proofs.YtfdipcphohhlgaaGreatDoor.Lcon Go.Proofs.YtfdipcphohhlgaaGreatDoor.Numt Go.Proofs.YtfdipcphohhlgaaGreatDoor.Plnf Go.Proofs.YtfdipcphohhlgaaGreatDoor.Plna
open Go.Proofs.YtfdipcphohhlgaaGreatDoor.Text hiding lineL joinR

/-- Lines of one form, one behind the other. -/
theorem run_seg {α : Type} (f : α → List (List UInt8)) (k : Nat) (hk : 1 ≤ k) (hr : ∀ x, rankL ((f x).headD []) = some k) (add : Lay → α → Lay) :
    ∀ (xs : List α) (i last : Nat) (L : Lay) (r : List (List (List UInt8))), 1 ≤ i → last ≤ k → (∀ pre x post, xs = pre ++ x :: post → readL (pre.foldl add L) (f x) = (0, add (pre.foldl add L) x)) →
      ∃ last', last' ≤ k ∧ runL i last L (xs.map f ++ r) = runL (i + xs.length) last' (xs.foldl add L) r
  | [], i, last, L, r, _, hl, _ => ⟨last, hl, rfl⟩
  | x :: xs, i, last, L, r, hi, hl, h => by
    have h0 := h [] x xs rfl
    have hs : stepL i last L (f x) = (0, (k, add L x)) := by
      unfold stepL
      rw [hr x]
      simp only
      rw [if_pos ⟨by rw [decide_eq_decide]; omega, hl⟩]
      have h1 : readL L (f x) = (0, add L x) := h0
      rw [h1]
    obtain ⟨l', h1, h2⟩ := run_seg f k hk hr add xs (i + 1) k (add L x) r (by omega) (Nat.le_refl _) (fun pre y post e => by
      have := h (x :: pre) y post (by rw [e]; rfl)
      exact this)
    refine ⟨l', h1, ?_⟩
    rw [List.map_cons, List.cons_append, run_cons hs, h2, List.length_cons, List.foldl_cons, show i + 1 + xs.length = i + (xs.length + 1) by omega]

def adS (L : Lay) (s : List UInt8) : Lay := { L with secs := L.secs ++ [s] }
def adE (L : Lay) (x : Elem) : Lay := { L with els := L.els ++ [x] }
def adJ (L : Lay) (x : (Int × Int) × (Int × Int)) : Lay := { L with joints := L.joints ++ [x] }
def adG (L : Lay) (x : Sig) : Lay := { L with sigs := L.sigs ++ [x] }
def adB (L : Lay) (x : Bal) : Lay := { L with bals := L.bals ++ [x] }
theorem fold_S : ∀ (l : List (List UInt8)) (L : Lay), l.foldl adS L = { L with secs := L.secs ++ l }
  | [], L => by simp
  | x :: l, L => by rw [List.foldl_cons, fold_S l]; simp [adS]
theorem fold_E : ∀ (l : List Elem) (L : Lay), l.foldl adE L = { L with els := L.els ++ l }
  | [], L => by simp
  | x :: l, L => by rw [List.foldl_cons, fold_E l]; simp [adE]
theorem fold_J : ∀ (l : List ((Int × Int) × (Int × Int))) (L : Lay), l.foldl adJ L = { L with joints := L.joints ++ l }
  | [], L => by simp
  | x :: l, L => by rw [List.foldl_cons, fold_J l]; simp [adJ]
theorem fold_G : ∀ (l : List Sig) (L : Lay), l.foldl adG L = { L with sigs := L.sigs ++ l }
  | [], L => by simp
  | x :: l, L => by rw [List.foldl_cons, fold_G l]; simp [adG]
theorem fold_B : ∀ (l : List Bal) (L : Lay), l.foldl adB L = { L with bals := L.bals ++ l }
  | [], L => by simp
  | x :: l, L => by rw [List.foldl_cons, fold_B l]; simp [adB]

/-! Words are read as they were written. -/
theorem num_of {n : Int} (h0 : -9223372036854775808 ≤ n) (h1 : n ≤ 9223372036854775807) : numB (itoa n) = true ∧ intN (itoa n) = n := by
  have h := int_of_itoa h0 h1
  unfold numB intN
  rw [h]
  exact ⟨rfl, rfl⟩
theorem sec_of {L : Lay} {i : Nat} {s : List UInt8} (hd : dupB L.secs = false) (h : L.secs[i]? = some s) : secF L s = (i : Int) := by
  unfold secF
  rw [firstI_at h (by simp [isSec]) fun j y hj hy => ?_]
  · simp
  · cases hq : isSec s y with
    | false => rfl
    | true =>
      have e : y = s := of_decide_eq_true hq
      subst e
      have := dup_iff.2 ⟨j, i, y, hj, hy, h⟩
      rw [hd] at this
      cases this
theorem el_of {L : Lay} {i : Nat} {x : Elem} (hd : dupB (L.els.map (·.name)) = false) (h : L.els[i]? = some x) : elementF L x.name = (i : Int) := by
  unfold elementF
  rw [firstI_at h (by simp [isName]) fun j y hj hy => ?_]
  · simp
  · cases hq : isName x.name y with
    | false => rfl
    | true =>
      have e : y.name = x.name := of_decide_eq_true hq
      have := dup_iff.2 ⟨j, i, x.name, hj, by rw [List.getElem?_map, hy, ← e]; rfl, by rw [List.getElem?_map, h]; rfl⟩
      rw [hd] at this
      cases this

/-! What holds of a valid layout. -/
structure Fine (L : Lay) : Prop where
  sec : ∀ x ∈ L.els, ∃ (i : Nat) (s : List UInt8), x.sec = (i : Int) ∧ L.secs[i]? = some s
  kind : ∀ x ∈ L.els, x.kind = 1 ∨ x.kind = 2 ∨ x.kind = 3
  nums : ∀ x ∈ L.els, (-1000000 ≤ x.len ∧ x.len ≤ 1000000) ∧ (-1000000 ≤ x.grade ∧ x.grade ≤ 1000000) ∧ (-1000000 ≤ x.speed ∧ x.speed ≤ 1000000) ∧ (-1000000 ≤ x.slow ∧ x.slow ≤ 1000000) ∧ (x.kind = 2 ∨ x.slow = 0)
  jel : ∀ j ∈ L.joints, (∃ (i : Nat) (x : Elem), j.1.1 = (i : Int) ∧ L.els[i]? = some x) ∧ (∃ (i : Nat) (x : Elem), j.2.1 = (i : Int) ∧ L.els[i]? = some x)
  jnum : ∀ j ∈ L.joints, (0 ≤ j.1.2 ∧ j.1.2 ≤ 4) ∧ (0 ≤ j.2.2 ∧ j.2.2 ≤ 4)
  gel : ∀ s ∈ L.sigs, ∃ (i : Nat) (x : Elem), s.spot.1 = (i : Int) ∧ L.els[i]? = some x
  gnum : ∀ s ∈ L.sigs, (0 ≤ s.spot.2 ∧ s.spot.2 ≤ 4) ∧ (0 ≤ s.over ∧ s.over ≤ 1000000)
  bel : ∀ b ∈ L.bals, ∃ (i : Nat) (x : Elem), b.el = (i : Int) ∧ L.els[i]? = some x
  bnum : ∀ b ∈ L.bals, (0 ≤ b.id ∧ b.id ≤ 1073741824) ∧ (0 ≤ b.off ∧ b.off ≤ 1000000)
  dsec : dupB L.secs = false
  dels : dupB (L.els.map (·.name)) = false
theorem exists_side {els : List Elem} {p : Int × Int} (h : existsB els p = true) : (∃ (i : Nat) (x : Elem), p.1 = (i : Int) ∧ els[i]? = some x) ∧ 0 ≤ p.2 ∧ p.2 ≤ 4 := by
  obtain ⟨i, x, hi, hx, hr⟩ := Lsig.exists_at h
  refine ⟨⟨i, x, hi, hx⟩, ?_⟩
  unfold existsB at h
  rw [hi, Int.toNat_natCast, hx] at h
  simp only [Bool.and_eq_true, decide_eq_true_eq] at h
  have : sidesN x.kind ≤ 4 := by
    unfold sidesN
    split
    · omega
    · split
      · omega
      · split <;> omega
  omega
theorem good_of {L : Lay} (hc : checkF L = 0) : Fine L := by
  obtain ⟨hn, he, hs, hb⟩ := check_split.1 hc
  obtain ⟨_, _, n3⟩ := named_split.1 hn
  obtain ⟨e1, _, e3, _⟩ := elements_split.1 he
  obtain ⟨s1, _, _⟩ := signals_split.1 hs
  obtain ⟨b1, _⟩ := balises_split.1 hb
  simp only [dupN, Bool.or_eq_false_iff] at n3
  have hr : ∀ x ∈ L.els, rightB L.secs.length x = true := List.all_eq_true.1 e1
  have hj : ∀ j ∈ L.joints, existsB L.els j.1 = true ∧ existsB L.els j.2 = true := fun j h => by
    have := List.all_eq_true.1 e3 j h
    unfold jointB at this
    rw [Bool.and_eq_true, Bool.and_eq_true] at this
    exact ⟨this.1, this.2.1⟩
  have hg : ∀ s ∈ L.sigs, existsB L.els s.spot = true ∧ 0 ≤ s.over ∧ s.over ≤ 1000000 := fun s h => by
    have := List.all_eq_true.1 s1 s h
    unfold sigB at this
    simp only [Bool.and_eq_true, decide_eq_true_eq] at this
    exact this
  have hbb : ∀ b ∈ L.bals, ∃ (i : Nat) (x : Elem), b.el = (i : Int) ∧ L.els[i]? = some x ∧ 1 ≤ b.id ∧ b.id ≤ 1073741824 ∧ 0 ≤ b.off ∧ b.off ≤ x.len := fun b h => by
    have := List.all_eq_true.1 b1 b h
    unfold balB at this
    split at this
    · rename_i x hx
      simp only [decide_eq_true_eq] at this
      exact ⟨b.el.toNat, x, by omega, hx, by omega⟩
    · cases this
  have hlen : ∀ x ∈ L.els, x.len ≤ 1000000 := fun x h => by
    have := hr x h
    simp only [rightB, decide_eq_true_eq] at this
    omega
  refine ⟨fun x h => ?_, fun x h => ?_, fun x h => ?_, fun j h => ⟨(exists_side (hj j h).1).1, (exists_side (hj j h).2).1⟩, fun j h => ⟨(exists_side (hj j h).1).2, (exists_side (hj j h).2).2⟩, fun s h => (exists_side (hg s h).1).1, fun s h => ⟨(exists_side (hg s h).1).2, (hg s h).2⟩, fun b h => ?_, fun b h => ?_, n3.1, n3.2.1⟩
  · have := hr x h
    simp only [rightB, decide_eq_true_eq] at this
    obtain ⟨i, hi⟩ := Int.eq_ofNat_of_zero_le (show 0 ≤ x.sec by omega)
    have hlt : i < L.secs.length := by omega
    exact ⟨i, L.secs[i], hi, List.getElem?_eq_getElem hlt⟩
  · have := hr x h
    simp only [rightB, decide_eq_true_eq] at this
    omega
  · have := hr x h
    simp only [rightB, decide_eq_true_eq] at this
    refine ⟨by omega, by omega, by omega, by omega, by omega⟩
  · obtain ⟨i, x, h1, h2, _⟩ := hbb b h
    exact ⟨i, x, h1, h2⟩
  · obtain ⟨i, x, _, h2, h3⟩ := hbb b h
    have := hlen x (List.mem_of_getElem? h2)
    omega

/-! Line by line. -/
theorem read_sec (L : Lay) (s : List UInt8) : readL L (scL s) = (0, adS L s) := by
  unfold scL readL
  simp only [show ¬ kSec = kLay by decide, if_false, if_true]
  rfl
theorem read_el {L M : Lay} (hg : Fine L) (hm : M.secs = L.secs) {x : Elem} (hx : x ∈ L.els) : readL M (elL L x) = (0, adE M x) := by
  obtain ⟨i, s, h1, h2⟩ := hg.sec x hx
  obtain ⟨⟨a1, a2⟩, ⟨a3, a4⟩, ⟨a5, a6⟩, ⟨a7, a8⟩, a9⟩ := hg.nums x hx
  have hsn : secName L x.sec = s := by unfold secName; rw [h1, Int.toNat_natCast, h2]; rfl
  have hsf : secF M s = x.sec := by
    rw [h1]
    exact sec_of (by rw [hm]; exact hg.dsec) (by rw [hm]; exact h2)
  have hs0 : ¬ x.sec < 0 := by rw [h1]; omega
  obtain ⟨l1, l2⟩ := num_of (n := x.len) (by omega) (by omega)
  obtain ⟨g1, g2⟩ := num_of (n := x.grade) (by omega) (by omega)
  obtain ⟨p1, p2⟩ := num_of (n := x.speed) (by omega) (by omega)
  obtain ⟨w1, w2⟩ := num_of (n := x.slow) (by omega) (by omega)
  have hk := hg.kind x hx
  unfold elL
  rw [hsn]
  obtain ⟨nm, kd, ln, gr, sp, sl, sc⟩ := x
  simp only at *
  by_cases hp : kd = 2
  · subst hp
    rw [if_pos rfl]
    unfold readL
    simp only [if_true, l1, g1, p1, w1, Bool.and_self, Bool.true_eq_false, if_false, hs0, l2, g2, p2, w2, hsf]
    rfl
  · have hsl : sl = 0 := by omega
    subst hsl
    rw [if_neg hp]
    by_cases hc : kd = 3
    · subst hc
      unfold readL
      simp only [if_true, or_true, l1, g1, p1, Bool.and_self, Bool.true_eq_false, if_false, hs0, l2, g2, p2, hsf]
      rfl
    · have hk1 : kd = 1 := by omega
      subst hk1
      unfold readL
      simp only [show ¬ (1 : Int) = 3 by decide, if_false, if_true, true_or, l1, g1, p1, Bool.and_self, Bool.true_eq_false, hs0, l2, g2, p2, hsf, show ¬ kTrk = kCrs by decide]
      rfl
theorem el_name {L : Lay} {v : Int} {i : Nat} {x : Elem} (h1 : v = (i : Int)) (h2 : L.els[i]? = some x) : elName L v = x.name := by
  unfold elName
  rw [h1, Int.toNat_natCast, h2]
  rfl
theorem el_spot {L M : Lay} (hg : Fine L) (hm : M.els = L.els) {v : Int} {i : Nat} {x : Elem} (h1 : v = (i : Int)) (h2 : L.els[i]? = some x) : elementF M x.name = v := by
  rw [h1]
  exact el_of (by rw [hm]; exact hg.dels) (by rw [hm]; exact h2)
theorem read_jt {L M : Lay} (hg : Fine L) (hm : M.els = L.els) {j : (Int × Int) × (Int × Int)} (hj : j ∈ L.joints) : readL M (jtL L j) = (0, adJ M j) := by
  obtain ⟨⟨i, x, h1, h2⟩, ⟨i', x', h3, h4⟩⟩ := hg.jel j hj
  obtain ⟨⟨a1, a2⟩, ⟨a3, a4⟩⟩ := hg.jnum j hj
  unfold jtL
  rw [el_name h1 h2, el_name h3 h4]
  have e1 := el_spot hg hm h1 h2
  have e2 := el_spot hg hm h3 h4
  obtain ⟨n1, n2⟩ := num_of (n := j.1.2) (by omega) (by omega)
  obtain ⟨n3, n4⟩ := num_of (n := j.2.2) (by omega) (by omega)
  have z : ¬ (j.1.1 < 0 ∨ j.2.1 < 0) := by omega
  obtain ⟨⟨j1, j2⟩, ⟨j3, j4⟩⟩ := j
  simp only at *
  unfold readL
  simp only [if_true, n1, n3, Bool.and_self, Bool.true_eq_false, if_false, z, n2, n4, e1, e2]
  rfl
theorem read_sg {L M : Lay} (hg : Fine L) (hm : M.els = L.els) {s : Sig} (hs : s ∈ L.sigs) : readL M (sgL L s) = (0, adG M s) := by
  obtain ⟨i, x, h1, h2⟩ := hg.gel s hs
  obtain ⟨⟨a1, a2⟩, ⟨a3, a4⟩⟩ := hg.gnum s hs
  unfold sgL
  rw [el_name h1 h2]
  have e1 := el_spot hg hm h1 h2
  obtain ⟨n1, n2⟩ := num_of (n := s.spot.2) (by omega) (by omega)
  obtain ⟨n3, n4⟩ := num_of (n := s.over) (by omega) (by omega)
  have z : ¬ s.spot.1 < 0 := by omega
  obtain ⟨nm, ⟨s1, s2⟩, ov⟩ := s
  simp only at *
  unfold readL
  simp only [show ¬ kSig = kJnt by decide, if_true, n1, n3, Bool.and_self, Bool.true_eq_false, if_false, z, n2, n4, e1]
  rfl
theorem read_bl {L M : Lay} (hg : Fine L) (hm : M.els = L.els) {b : Bal} (hb : b ∈ L.bals) : readL M (blL L b) = (0, adB M b) := by
  obtain ⟨i, x, h1, h2⟩ := hg.bel b hb
  obtain ⟨⟨a1, a2⟩, ⟨a3, a4⟩⟩ := hg.bnum b hb
  unfold blL
  rw [el_name h1 h2]
  have e1 := el_spot hg hm h1 h2
  obtain ⟨n1, n2⟩ := num_of (n := b.id) (by omega) (by omega)
  obtain ⟨n3, n4⟩ := num_of (n := b.off) (by omega) (by omega)
  have z : ¬ b.el < 0 := by omega
  obtain ⟨bi, be, bo⟩ := b
  simp only at *
  unfold readL
  simp only [if_true, n1, n3, Bool.and_self, Bool.true_eq_false, if_false, z, n2, n4, e1]
  rfl
theorem mem_mid {α : Type} {l pre post : List α} {x : α} (h : l = pre ++ x :: post) : x ∈ l := by rw [h]; simp
/-- A valid layout is restored from its lines. -/
theorem run_linesOf {L : Lay} (hg : Fine L) : runL 0 0 zeroL (linesOf L) = ((0, 0), ((runL 0 0 zeroL (linesOf L)).2.1, L)) := by
  have h0 : stepL 0 0 zeroL [kLay, L.name] = (0, (0, { zeroL with name := L.name })) := by
    unfold stepL
    simp only [List.headD_cons, rk_lay]
    rw [if_pos (by simp)]
    unfold readL
    simp only [if_true]
  have hE : ∀ x : Elem, rankL ((elL L x).headD []) = some 2 := fun x => by
    unfold elL
    split
    · exact rk_pts
    · split
      · exact rk_crs
      · exact rk_trk
  obtain ⟨l1, q1, r1⟩ := run_seg scL 1 (by omega) (fun _ => rk_sec) adS L.secs (0 + 1) 0 { zeroL with name := L.name } (L.els.map (elL L) ++ (L.joints.map (jtL L) ++ (L.sigs.map (sgL L) ++ L.bals.map (blL L)))) (by omega) (by omega) (fun _ _ _ _ => read_sec _ _)
  rw [fold_S] at r1
  obtain ⟨l2, q2, r2⟩ := run_seg (elL L) 2 (by omega) hE adE L.els (0 + 1 + L.secs.length) l1 { zeroL with name := L.name, secs := zeroL.secs ++ L.secs } (L.joints.map (jtL L) ++ (L.sigs.map (sgL L) ++ L.bals.map (blL L))) (by omega) (by omega) (fun pre x post e => read_el hg (by rw [fold_E]; rfl) (mem_mid e))
  rw [fold_E] at r2
  obtain ⟨l3, q3, r3⟩ := run_seg (jtL L) 3 (by omega) (fun _ => rk_jnt) adJ L.joints (0 + 1 + L.secs.length + L.els.length) l2 { zeroL with name := L.name, secs := zeroL.secs ++ L.secs, els := zeroL.els ++ L.els } (L.sigs.map (sgL L) ++ L.bals.map (blL L)) (by omega) (by omega) (fun pre x post e => read_jt hg (by rw [fold_J]; rfl) (mem_mid e))
  rw [fold_J] at r3
  obtain ⟨l4, q4, r4⟩ := run_seg (sgL L) 4 (by omega) (fun _ => rk_sig) adG L.sigs (0 + 1 + L.secs.length + L.els.length + L.joints.length) l3 { zeroL with name := L.name, secs := zeroL.secs ++ L.secs, els := zeroL.els ++ L.els, joints := zeroL.joints ++ L.joints } (L.bals.map (blL L)) (by omega) (by omega) (fun pre x post e => read_sg hg (by rw [fold_G]; rfl) (mem_mid e))
  rw [fold_G] at r4
  obtain ⟨l5, q5, r5⟩ := run_seg (blL L) 5 (by omega) (fun _ => rk_bal) adB L.bals (0 + 1 + L.secs.length + L.els.length + L.joints.length + L.sigs.length) l4 { zeroL with name := L.name, secs := zeroL.secs ++ L.secs, els := zeroL.els ++ L.els, joints := zeroL.joints ++ L.joints, sigs := zeroL.sigs ++ L.sigs } [] (by omega) (by omega) (fun pre x post e => read_bl hg (by rw [fold_B]; rfl) (mem_mid e))
  rw [fold_B, List.append_nil, run_nil] at r5
  have e : runL 0 0 zeroL (linesOf L) = ((0, 0), (l5, L)) := by
    unfold linesOf
    rw [run_cons h0, r1, r2, r3, r4, r5]
    rfl
  rw [e]
theorem restored {L : Lay} (hc : checkF L = 0) : parseL (linesOf L) = (L, (0, 0)) := by
  have h := run_linesOf (good_of hc)
  have h1 : (runL 0 0 zeroL (linesOf L)).1.1 = 0 := by rw [h]
  have h2 : (runL 0 0 zeroL (linesOf L)).2.2 = L := by rw [h]
  unfold parseL
  rw [if_neg (by unfold linesOf; simp), if_pos h1, h2, if_pos hc]

end Go.Proofs.YtfdipcphohhlgaaGreatDoor.Plnb

/- The lines of a valid layout make a text; what its lines are; what follows the first line that cannot continue a text: plain mathematics, of no program. -/
namespace Go.Proofs.YtfdipcphohhlgaaGreatDoor.Plnc
open Go.Lib Go.Proofs.YtfdipcphohhlgaaGreatDoor.Lay Go.Proofs.YtfdipcphohhlgaaGreatDoor.Layf Go.Proofs.YtfdipcphohhlgaaGreatDoor.Lcon Go.Proofs.YtfdipcphohhlgaaGreatDoor.Numt Go.Proofs.YtfdipcphohhlgaaGreatDoor.Plnf Go.Proofs.YtfdipcphohhlgaaGreatDoor.Plna Go.Proofs.YtfdipcphohhlgaaGreatDoor.Plnb
open Go.Proofs.YtfdipcphohhlgaaGreatDoor.Text hiding lineL joinR

/-! Words. -/
def Wd (w : List UInt8) : Prop := wordL w = true ∧ w.length ≤ 21
theorem name_word {l : List UInt8} (h : nameL l = true) : Wd l := by
  unfold nameL at h
  simp only [Bool.and_eq_true, decide_eq_true_eq] at h
  obtain ⟨⟨⟨h1, h2⟩, _⟩, h4⟩ := h
  refine ⟨?_, by omega⟩
  unfold wordL
  simp only [Bool.and_eq_true, decide_eq_true_eq]
  refine ⟨⟨h1, by omega⟩, List.all_eq_true.2 fun b hb => ?_⟩
  have := List.all_eq_true.1 h4 b hb
  simp only [inName, isLet, isDig, Bool.or_eq_true, Bool.and_eq_true, decide_eq_true_eq] at this
  simp only [inWord, Bool.and_eq_true, decide_eq_true_eq]
  omega
theorem dec_word (u : Nat) : (decDigits u).all inWord = true := List.all_eq_true.2 fun b hb => by
  have := List.all_eq_true.1 (digs_of u).1 b hb
  simp only [isDig, Bool.and_eq_true, decide_eq_true_eq] at this
  simp only [inWord, Bool.and_eq_true, decide_eq_true_eq]
  omega
theorem itoa_word {n : Int} (h0 : -9223372036854775808 ≤ n) (h1 : n ≤ 9223372036854775807) : Wd (itoa n) := by
  have hl := itoa_length_le n h0 h1
  refine ⟨?_, hl⟩
  unfold wordL
  simp only [Bool.and_eq_true, decide_eq_true_eq]
  unfold itoa at hl ⊢
  split
  · exact ⟨⟨by simp, by rw [if_pos ‹_›] at hl; omega⟩, by rw [List.all_cons, dec_word]; decide⟩
  · exact ⟨⟨(digs_of _).2.2.1, by rw [if_neg ‹_›] at hl; omega⟩, dec_word _⟩

/-- A line of at most seven words. -/
def Short (ws : List (List UInt8)) : Prop := ws ≠ [] ∧ ws.length ≤ 7 ∧ ∀ w ∈ ws, Wd w
theorem short_line {ws : List (List UInt8)} (h : Short ws) : Text.lineL ws = true := by
  unfold Text.lineL
  rw [Bool.and_eq_true, decide_eq_true_eq]
  exact ⟨h.1, List.all_eq_true.2 fun w hw => (h.2.2 w hw).1⟩
theorem tail_len (c : UInt8) : ∀ ps : List (List UInt8), (∀ w ∈ ps, w.length ≤ 21) → (tailL c ps).length ≤ 22 * ps.length
  | [], _ => by simp [tailL]
  | p :: ps, h => by
    have h1 := h p List.mem_cons_self
    have h2 := tail_len c ps fun w hw => h w (List.mem_cons_of_mem _ hw)
    have e : tailL c (p :: ps) = (c :: p) ++ tailL c ps := by simp [tailL]
    rw [e, List.length_append, List.length_cons, List.length_cons]
    omega
theorem line_len {ws : List (List UInt8)} (h : Short ws) : (lineT ws).length ≤ 154 := by
  obtain ⟨h1, h2, h3⟩ := h
  cases ws with
  | nil => exact absurd rfl h1
  | cons p ps =>
    have hp := (h3 p List.mem_cons_self).2
    have ht := tail_len 32 ps fun w hw => (h3 w (List.mem_cons_of_mem _ hw)).2
    unfold lineT
    rw [join_tail, List.length_append, List.length_append, List.length_singleton]
    rw [List.length_cons] at h2
    omega
theorem text_len : ∀ ls : List (List (List UInt8)), (∀ ws ∈ ls, Short ws) → (joinT ls).length ≤ 154 * ls.length
  | [], _ => by simp [joinT]
  | ws :: ls, h => by
    have h1 := line_len (h ws List.mem_cons_self)
    have h2 := text_len ls fun w hw => h w (List.mem_cons_of_mem _ hw)
    rw [joinT_cons, List.length_append, List.length_cons]
    omega
theorem wd_k : Wd kLay ∧ Wd kSec ∧ Wd kTrk ∧ Wd kPts ∧ Wd kCrs ∧ Wd kJnt ∧ Wd kSig ∧ Wd kBal := by
  unfold Wd
  decide
theorem short_of {ws : List (List UInt8)} (h1 : 0 < ws.length) (h2 : ws.length ≤ 7) (h3 : ∀ w ∈ ws, Wd w) : Short ws := ⟨fun e => by rw [e] at h1; simp at h1, h2, h3⟩
/-- The lines of a valid layout. -/
theorem lines_short {L : Lay} (hc : checkF L = 0) : ∀ ws ∈ linesOf L, Short ws := by
  have hg := good_of hc
  obtain ⟨hn, _, _, _⟩ := check_split.1 hc
  obtain ⟨_, n2, _⟩ := named_split.1 hn
  obtain ⟨k0, k1, k2, k3, k4, k5, k6, k7⟩ := wd_k
  have hnm : ∀ s ∈ allNames L, Wd s := fun s hs => name_word (List.all_eq_true.1 n2 s hs)
  have hL : Wd L.name := hnm _ (by simp [allNames])
  have hS : ∀ s ∈ L.secs, Wd s := fun s hs => hnm _ (by simp [allNames, hs])
  have hE : ∀ x ∈ L.els, Wd x.name := fun x hx => hnm _ (by simp only [allNames, List.mem_cons, List.mem_append, List.mem_map]; exact .inr (.inr (.inl ⟨x, hx, rfl⟩)))
  have hG : ∀ x ∈ L.sigs, Wd x.name := fun x hx => hnm _ (by simp only [allNames, List.mem_cons, List.mem_append, List.mem_map]; exact .inr (.inr (.inr ⟨x, hx, rfl⟩)))
  have hEl : ∀ (v : Int) (i : Nat) (x : Elem), v = (i : Int) → L.els[i]? = some x → Wd (elName L v) := fun v i x h1 h2 => by
    rw [el_name h1 h2]
    exact hE x (List.mem_of_getElem? h2)
  have hI : ∀ n : Int, -1073741824 ≤ n → n ≤ 1073741824 → Wd (itoa n) := fun n h0 h1 => itoa_word (by omega) (by omega)
  intro ws hws
  unfold linesOf at hws
  simp only [List.mem_cons, List.mem_append, List.mem_map] at hws
  rcases hws with rfl | ⟨s, hs, rfl⟩ | ⟨x, hx, rfl⟩ | ⟨j, hj, rfl⟩ | ⟨s, hs, rfl⟩ | ⟨b, hb, rfl⟩
  · refine short_of (by simp) (by simp) fun w hw => ?_
    simp only [List.mem_cons, List.not_mem_nil, or_false] at hw
    rcases hw with rfl | rfl
    · exact k0
    · exact hL
  · refine short_of (by simp [scL]) (by simp [scL]) fun w hw => ?_
    simp only [scL, List.mem_cons, List.not_mem_nil, or_false] at hw
    rcases hw with rfl | rfl
    · exact k1
    · exact hS _ hs
  · obtain ⟨i, s, h1, h2⟩ := hg.sec x hx
    have hs : Wd (secName L x.sec) := by
      unfold secName
      rw [h1, Int.toNat_natCast, h2]
      exact hS s (List.mem_of_getElem? h2)
    obtain ⟨⟨a1, a2⟩, ⟨a3, a4⟩, ⟨a5, a6⟩, ⟨a7, a8⟩, _⟩ := hg.nums x hx
    unfold elL
    split
    · refine short_of (by simp) (by simp) fun w hw => ?_
      simp only [List.mem_cons, List.not_mem_nil, or_false] at hw
      rcases hw with rfl | rfl | rfl | rfl | rfl | rfl | rfl
      · exact k3
      · exact hE x hx
      · exact hs
      · exact hI _ (by omega) (by omega)
      · exact hI _ (by omega) (by omega)
      · exact hI _ (by omega) (by omega)
      · exact hI _ (by omega) (by omega)
    · refine short_of (by simp) (by simp) fun w hw => ?_
      simp only [List.mem_cons, List.not_mem_nil, or_false] at hw
      rcases hw with rfl | rfl | rfl | rfl | rfl | rfl
      · split
        · exact k4
        · exact k2
      · exact hE x hx
      · exact hs
      · exact hI _ (by omega) (by omega)
      · exact hI _ (by omega) (by omega)
      · exact hI _ (by omega) (by omega)
  · obtain ⟨⟨i, x, h1, h2⟩, ⟨i', x', h3, h4⟩⟩ := hg.jel j hj
    obtain ⟨⟨a1, a2⟩, ⟨a3, a4⟩⟩ := hg.jnum j hj
    refine short_of (by simp [jtL]) (by simp [jtL]) fun w hw => ?_
    simp only [jtL, List.mem_cons, List.not_mem_nil, or_false] at hw
    rcases hw with rfl | rfl | rfl | rfl | rfl
    · exact k5
    · exact hEl _ _ _ h1 h2
    · exact hI _ (by omega) (by omega)
    · exact hEl _ _ _ h3 h4
    · exact hI _ (by omega) (by omega)
  · obtain ⟨i, x, h1, h2⟩ := hg.gel s hs
    obtain ⟨⟨a1, a2⟩, ⟨a3, a4⟩⟩ := hg.gnum s hs
    refine short_of (by simp [sgL]) (by simp [sgL]) fun w hw => ?_
    simp only [sgL, List.mem_cons, List.not_mem_nil, or_false] at hw
    rcases hw with rfl | rfl | rfl | rfl | rfl
    · exact k6
    · exact hG s hs
    · exact hEl _ _ _ h1 h2
    · exact hI _ (by omega) (by omega)
    · exact hI _ (by omega) (by omega)
  · obtain ⟨i, x, h1, h2⟩ := hg.bel b hb
    obtain ⟨⟨a1, a2⟩, ⟨a3, a4⟩⟩ := hg.bnum b hb
    refine short_of (by simp [blL]) (by simp [blL]) fun w hw => ?_
    simp only [blL, List.mem_cons, List.not_mem_nil, or_false] at hw
    rcases hw with rfl | rfl | rfl | rfl
    · exact k7
    · exact hI _ (by omega) (by omega)
    · exact hEl _ _ _ h1 h2
    · exact hI _ (by omega) (by omega)
theorem lines_count (L : Lay) : (linesOf L).length = 1 + L.secs.length + L.els.length + L.joints.length + L.sigs.length + L.bals.length := by
  unfold linesOf
  simp only [List.length_cons, List.length_append, List.length_map]
  omega
/-- The text of a valid layout. -/
theorem text_of {L : Lay} (hc : checkF L = 0) (hj : L.joints.length ≤ 100) : Text.joinR (linesOf L) = (joinT (linesOf L), 0) := by
  have hs := lines_short hc
  have hl := text_len _ hs
  have hn := lines_count L
  obtain ⟨hm, _, _, _⟩ := check_split.1 hc
  obtain ⟨n1, _, _⟩ := named_split.1 hm
  simp only [limitB, decide_eq_true_eq] at n1
  unfold Text.joinR
  rw [if_neg (by rw [List.all_eq_true.2 fun ws hw => short_line (hs ws hw)]; simp), if_neg (by omega)]
theorem print_ok {L : Lay} (hc : checkF L = 0) (hj : L.joints.length ≤ 100) : printF L = (joinT (linesOf L), 0) := by
  unfold printF
  rw [if_pos hc, text_of hc hj]
  rfl
theorem print_err {L : Lay} (hj : L.joints.length ≤ 100) : (printF L).2 = checkF L := by
  by_cases hc : checkF L = 0
  · rw [print_ok hc hj, hc]
  · unfold printF
    rw [if_neg hc]
/-- A valid layout is restored from its text. -/
theorem parse_of_print {L : Lay} (hc : checkF L = 0) (hj : L.joints.length ≤ 100) : parseF (printF L).1 = (L, (0, 0)) := by
  rw [print_ok hc hj]
  unfold parseF
  rw [lines_of_join (text_of hc hj)]
  exact restored hc

/-! The first words. -/
def elW (w : List UInt8) : Bool := decide (w = kTrk) || (decide (w = kPts) || decide (w = kCrs))
def otW (w : List UInt8) : Bool := decide (w = kLay) || (decide (w = kSec) || (decide (w = kJnt) || (decide (w = kSig) || decide (w = kBal))))
def elN (ls : List (List (List UInt8))) : Nat := ls.countP fun ws => elW (ws.headD [])
theorem head_el (L : Lay) (x : Elem) : elW ((elL L x).headD []) = true := by
  unfold elL
  split
  · show elW kPts = true
    decide
  · split
    · show elW kCrs = true
      decide
    · show elW kTrk = true
      decide
theorem heads {L : Lay} : ∀ ws ∈ linesOf L, elW (ws.headD []) = true ∨ (elW (ws.headD []) = false ∧ otW (ws.headD []) = true) := by
  intro ws hws
  unfold linesOf at hws
  simp only [List.mem_cons, List.mem_append, List.mem_map] at hws
  rcases hws with rfl | ⟨s, hs, rfl⟩ | ⟨x, hx, rfl⟩ | ⟨j, hj, rfl⟩ | ⟨s, hs, rfl⟩ | ⟨b, hb, rfl⟩
  · exact .inr ⟨by simp only [List.headD_cons]; decide, by simp only [List.headD_cons]; decide⟩
  · exact .inr ⟨by simp only [scL, List.headD_cons]; decide, by simp only [scL, List.headD_cons]; decide⟩
  · exact .inl (head_el L x)
  · exact .inr ⟨by simp only [jtL, List.headD_cons]; decide, by simp only [jtL, List.headD_cons]; decide⟩
  · exact .inr ⟨by simp only [sgL, List.headD_cons]; decide, by simp only [sgL, List.headD_cons]; decide⟩
  · exact .inr ⟨by simp only [blL, List.headD_cons]; decide, by simp only [blL, List.headD_cons]; decide⟩
theorem elN_none {α : Type} (f : α → List (List UInt8)) (h : ∀ x, elW ((f x).headD []) = false) (l : List α) : elN (l.map f) = 0 := by
  unfold elN
  rw [List.countP_eq_zero]
  intro ws hws
  obtain ⟨x, _, rfl⟩ := List.mem_map.1 hws
  rw [h x]
  decide
theorem elN_lines (L : Lay) : elN (linesOf L) = L.els.length := by
  have hE : elN (L.els.map (elL L)) = L.els.length := by
    unfold elN
    rw [List.countP_eq_length.2, List.length_map]
    intro ws hws
    obtain ⟨x, _, rfl⟩ := List.mem_map.1 hws
    exact head_el L x
  have h1 := elN_none scL (fun _ => by simp only [scL, List.headD_cons]; decide) L.secs
  have h2 := elN_none (jtL L) (fun _ => by simp only [jtL, List.headD_cons]; decide) L.joints
  have h3 := elN_none (sgL L) (fun _ => by simp only [sgL, List.headD_cons]; decide) L.sigs
  have h4 := elN_none (blL L) (fun _ => by simp only [blL, List.headD_cons]; decide) L.bals
  have h0 : elN [[kLay, L.name]] = 0 := elN_none (fun n => [kLay, n]) (fun _ => by simp only [List.headD_cons]; decide) [L.name]
  unfold elN at *
  unfold linesOf
  rw [show ∀ (a : List (List UInt8)) b, a :: b = [a] ++ b from fun _ _ => rfl, List.countP_append, List.countP_append, List.countP_append, List.countP_append, List.countP_append, h0, h1, hE, h2, h3, h4]
  omega

/-! The first line that cannot continue a text. -/
theorem joinT_le : ∀ (a b : List (List (List UInt8))), (joinT a).length ≤ (joinT (a ++ b)).length
  | a, b => by simp [joinT]
/-- What is asked before, at and behind the line of an error. -/
theorem first_line {s : List UInt8} {m : List (List (List UInt8))} {q n : Nat} {L : Lay} {e : Int} (hm : linesR s = (m, q, 0)) (hp : parseF s = (L, (n, e))) (h1 : 1 ≤ n) (h2 : n ≤ m.length) :
    Text.joinR (m.take (n - 1)) = (joinT (m.take (n - 1)), 0) ∧ (1 < n → (parseF (joinT (m.take (n - 1)))).2.1 = 0) ∧ (n = 1 → (parseF (joinT (m.take (n - 1)))).2 = (1, 4)) ∧
      ∀ (more : List (List (List UInt8))) (t : List UInt8), Text.joinR (m.take n ++ more) = (t, 0) → (parseF t).2 = (n, e) := by
  have hj := join_of_lines hm
  have hne : m ≠ [] := fun e => by rw [e] at h2; simp at h2; omega
  have hall : m.all Text.lineL = true ∧ (joinT m).length ≤ 32768 := by
    unfold Text.joinR at hj
    split at hj
    · cases hj
    · rename_i ha
      split at hj
      · cases hj
      · rename_i hb
        exact ⟨by simpa using ha, by omega⟩
  have htk : ∀ k, Text.joinR (m.take k) = (joinT (m.take k), 0) := fun k => by
    unfold Text.joinR
    have ha : (m.take k).all Text.lineL = true := List.all_eq_true.2 fun w hw => List.all_eq_true.1 hall.1 w (List.mem_of_mem_take hw)
    have hb := joinT_le (m.take k) (m.drop k)
    rw [List.take_append_drop] at hb
    rw [if_neg (by rw [ha]; simp), if_neg (by omega)]
  have hpm : parseL m = (L, (n, e)) := by
    unfold parseF at hp
    rw [hm] at hp
    simpa using hp
  unfold parseL at hpm
  rw [if_neg hne] at hpm
  have hrun : (runL 0 0 zeroL m).1.1 ≠ 0 ∧ (runL 0 0 zeroL m).1 = (e, n) := by
    split at hpm
    · split at hpm
      · simp only [Prod.mk.injEq] at hpm
        omega
      · simp only [Prod.mk.injEq] at hpm
        omega
    · rename_i h0
      simp only [Prod.mk.injEq] at hpm
      exact ⟨h0, Prod.ext hpm.2.2 hpm.2.1⟩
  obtain ⟨hr0, hre⟩ := hrun
  have hr1 : (runL 0 0 zeroL m).1.2 = n := by rw [hre]
  have he0 : e ≠ 0 := by rw [hre] at hr0; exact hr0
  have hbf := run_before m 0 0 zeroL hr0
  rw [hr1, Nat.sub_zero] at hbf
  refine ⟨htk _, fun hn => ?_, fun hn => ?_, fun more t ht => ?_⟩
  · unfold parseF
    rw [lines_of_join (htk (n - 1)), if_pos rfl]
    unfold parseL
    have hne2 : m.take (n - 1) ≠ [] := fun e => by
      have := congrArg List.length e
      rw [List.length_take, List.length_nil] at this
      omega
    rw [if_neg hne2, if_pos hbf]
    split <;> rfl
  · subst hn
    unfold parseF
    rw [lines_of_join (htk (1 - 1)), if_pos rfl]
    unfold parseL
    rw [if_pos (by simp)]
  · unfold parseF
    rw [lines_of_join ht, if_pos rfl]
    have haf := run_after more m 0 0 zeroL hr0
    rw [hr1, Nat.sub_zero, hre] at haf
    unfold parseL
    have hne2 : m.take n ++ more ≠ [] := fun e => by
      have := congrArg List.length e
      rw [List.length_append, List.length_take, List.length_nil] at this
      omega
    rw [if_neg hne2, if_neg (by rw [haf]; exact he0), haf]
/-- Where the lines are not accepted, the error is theirs. -/
theorem lines_err {s : List UInt8} (h : (linesR s).2.2 ≠ 0) : (parseF s).2.2 = ((linesR s).2.2 : Int) := by
  unfold parseF
  rw [if_neg h]

end Go.Proofs.YtfdipcphohhlgaaGreatDoor.Plnc

/- The chapter's examples of layouts as text: plain mathematics, of no program. -/
namespace Go.Proofs.YtfdipcphohhlgaaGreatDoor.Plnx
open Go.Lib Go.Proofs.YtfdipcphohhlgaaGreatDoor.Lay Go.Proofs.YtfdipcphohhlgaaGreatDoor.Layf Go.Proofs.YtfdipcphohhlgaaGreatDoor.Lcon Go.Proofs.YtfdipcphohhlgaaGreatDoor.Numt Go.Proofs.YtfdipcphohhlgaaGreatDoor.Plnf Go.Proofs.YtfdipcphohhlgaaGreatDoor.Plnb Go.Proofs.YtfdipcphohhlgaaGreatDoor.Plnc
open Go.Proofs.YtfdipcphohhlgaaGreatDoor.Text hiding lineL joinR

def wantL : Lay := ⟨[108, 105, 110, 101], [[97], [98]], [⟨[97], 1, 20000, 0, 1000, 0, 0⟩, ⟨[98], 1, 20000, 0, 1000, 0, 1⟩], [((0, 1), (1, 0))], [⟨[115, 49], (0, 1), 0⟩], []⟩
def textB : List UInt8 := [108, 97, 121, 111, 117, 116, 32, 108, 105, 110, 101, 10, 115, 101, 99, 116, 105, 111, 110, 32, 97, 10, 115, 101, 99, 116, 105, 111, 110, 32, 98, 10, 116, 114, 97, 99, 107, 32, 97, 32, 97, 32, 50, 48, 48, 48, 48, 32, 48, 32, 49, 48, 48, 48, 10, 116, 114, 97, 99, 107, 32, 98, 32, 98, 32, 50, 48, 48, 48, 48, 32, 48, 32, 49, 48, 48, 48, 10, 106, 111, 105, 110, 116, 32, 97, 32, 49, 32, 98, 32, 48, 10, 115, 105, 103, 110, 97, 108, 32, 115, 49, 32, 97, 32, 49, 32, 48, 10]
def text3 : List UInt8 := [108, 97, 121, 111, 117, 116, 32, 108, 105, 110, 101, 10, 115, 101, 99, 116, 105, 111, 110, 32, 97, 10, 116, 114, 97, 99, 107, 32, 97, 32, 120, 32, 50, 48, 48, 48, 48, 32, 48, 32, 49, 48, 48, 48, 10]
def text4 : List UInt8 := [108, 97, 121, 111, 117, 116, 32, 108, 105, 110, 101, 10]
theorem want_ok : checkF wantL = 0 := by decide +kernel
theorem want_print : printF wantL = (textB, 0) := by decide +kernel
theorem text_parse : parseF textB = (wantL, (0, 0)) := by
  have h := parse_of_print want_ok (by decide)
  rw [want_print] at h
  exact h
theorem text3_parse : (parseF text3).2 = (3, 9) := by decide +kernel
theorem text4_parse : (parseF text4).2 = (0, 2) := by decide +kernel

end Go.Proofs.YtfdipcphohhlgaaGreatDoor.Plnx

/- Layouts of few parts. -/
namespace Go.Proofs.YtfdipcphohhlgaaGreatDoor.Few0
open Go.Proofs.YtfdipcphohhlgaaGreatDoor.Lay

def fewB (L : Lay) : Bool := decide (L.secs.length ≤ 60 ∧ L.els.length ≤ 60 ∧ L.joints.length ≤ 100 ∧ L.sigs.length ≤ 60 ∧ L.bals.length ≤ 60)
theorem few_no {L : Lay} (h : ¬ (L.secs.length ≤ 60 ∧ L.els.length ≤ 60 ∧ L.joints.length ≤ 100 ∧ L.sigs.length ≤ 60 ∧ L.bals.length ≤ 60)) : fewB L = false := decide_eq_false h
theorem few_yes {L : Lay} (h : fewB L = true) : L.secs.length ≤ 60 ∧ L.els.length ≤ 60 ∧ L.joints.length ≤ 100 ∧ L.sigs.length ≤ 60 ∧ L.bals.length ≤ 60 := of_decide_eq_true h

end Go.Proofs.YtfdipcphohhlgaaGreatDoor.Few0

/- What the program's Print and Parse of layouts as text are to give, as one bundle. -/
namespace Go.Proofs.YtfdipcphohhlgaaGreatDoor.Ptwo
open Go.RowKit Go.Lib Go.Proofs.YtfdipcphohhlgaaGreatDoor.Reads Go.Proofs.YtfdipcphohhlgaaGreatDoor.Rows2 Go.Proofs.YtfdipcphohhlgaaGreatDoor.Lay Go.Proofs.YtfdipcphohhlgaaGreatDoor.Layf Go.Proofs.YtfdipcphohhlgaaGreatDoor.Ldup Go.Proofs.YtfdipcphohhlgaaGreatDoor.Lext Go.Proofs.YtfdipcphohhlgaaGreatDoor.Plnf Go.Proofs.YtfdipcphohhlgaaGreatDoor.Plna Go.Proofs.YtfdipcphohhlgaaGreatDoor.Plnc
open Go.Proofs.YtfdipcphohhlgaaGreatDoor.Text hiding lineL joinR

/-- What a call gives that returns a text and an error. -/
def PrintOut (r : List UInt8 × Int) (w : World) (e : Ending) (w' : World) : Prop := e = .returned (.tuple #[.string (bs r.1), .int .i64 r.2]) ∧ Below w.heap.size w w'
/-- What a call gives that returns a layout, a line and an error. -/
def ParseOut (r : Lay × (Nat × Int)) (w : World) (e : Ending) (w' : World) : Prop :=
  ∃ vs ve vj vg vb, e = .returned (.tuple #[layV r.1 vs ve vj vg vb, .int .i64 (r.2.1 : Int), .int .i64 r.2.2]) ∧ LayAt (In w') w' r.1 vs ve vj vg vb ∧ Below w.heap.size w w'
/-- What is asked of them where a call's world is D. -/
structure Two (D : World → Prop) : Prop where
  keep : ∀ w w', D w → Below w.heap.size w w' → D w'
  prn : ∀ (L : Lay) (vs ve vj vg vb : Value) (w : World), LayAt (In w) w L vs ve vj vg vb → D w → L.joints.length ≤ 100000 →
    Calls Tryz.prog 9 #[layV L vs ve vj vg vb] w (PrintOut (printF L) w)
  prs : ∀ (s : List UInt8) (w : World), s.length ≤ 100000 → D w → Calls Tryz.prog 12 #[.string (bs s)] w (ParseOut (parseF s) w)

theorem joinT_ge : ∀ ls : List (List (List UInt8)), ls.length ≤ (joinT ls).length
  | [] => Nat.zero_le _
  | ws :: ls => by
    have h := joinT_ge ls
    rw [joinT_cons, List.length_append, List.length_cons, lineT, List.length_append, List.length_singleton]
    omega
/-- The joints of a text. -/
theorem parse_joints {s : List UInt8} {L : Lay} {n : Nat} (h : parseF s = (L, (n, 0))) : L.joints.length ≤ s.length := by
  obtain ⟨h1, h2⟩ := print_of_parse h
  unfold printF at h1
  rw [if_pos h2] at h1
  simp only [Prod.mk.injEq] at h1
  have hj : Text.joinR (linesOf L) = (joinT (linesOf L), 0) := by
    unfold Text.joinR at h1 ⊢
    split at h1
    · simp at h1
    · rw [if_neg ‹_›]
      split at h1
      · simp at h1
      · rw [if_neg ‹_›]
  rw [hj] at h1
  have hg := joinT_ge (linesOf L)
  have e : joinT (linesOf L) = s := h1.1
  rw [e, lines_count] at hg
  omega

end Go.Proofs.YtfdipcphohhlgaaGreatDoor.Ptwo

/- The kinds of characters, and texts that consist of one kind. -/
namespace Go.Proofs.YtfdipcphohhlgaaGreatDoor.Kind
open Go.RowKit Go.Lib Go.Proofs.YtfdipcphohhlgaaGreatDoor.Text Go.Proofs.YtfdipcphohhlgaaGreatDoor.Numt

/-- The call answers a Bool and leaves the world as it was but for new memory. -/
def BoolOut (b : Bool) (w : World) (e : Ending) (w' : World) : Prop := e = .returned (.bool b) ∧ Below w.heap.size w w'

def pWord (c : Int) : Bool := decide (33 ≤ c) && decide (c ≤ 126)
def pDigit (c : Int) : Bool := decide (48 ≤ c) && decide (c ≤ 57)
def pLetter (c : Int) : Bool := decide (97 ≤ c) && decide (c ≤ 122)
def pName (c : Int) : Bool := (pLetter c || pDigit c) || decide (c = 95)

theorem inWord_any (c : Int) (w : World) :
    Calls Tryz.prog 132 #[.int .i32 c] w fun e w' => e = .returned (.bool (pWord c)) ∧ w' = w := by
  by_cases h1 : 33 ≤ c
  · go_enter Tryz.func132, Tryz.ntmps132
    go_wp2
    go_ret
    refine ⟨?_, rfl⟩
    simp [pWord, h1]
  · go_enter Tryz.func132, Tryz.ntmps132
    go_wp2
    go_ret
    refine ⟨?_, rfl⟩
    simp [pWord]
    omega
theorem isDigit_any (c : Int) (w : World) :
    Calls Tryz.prog 137 #[.int .i32 c] w fun e w' => e = .returned (.bool (pDigit c)) ∧ w' = w := by
  by_cases h1 : 48 ≤ c
  · go_enter Tryz.func137, Tryz.ntmps137
    go_wp2
    go_ret
    refine ⟨?_, rfl⟩
    simp [pDigit, h1]
  · go_enter Tryz.func137, Tryz.ntmps137
    go_wp2
    go_ret
    refine ⟨?_, rfl⟩
    simp [pDigit]
    omega
theorem isLetter_any (c : Int) (w : World) :
    Calls Tryz.prog 105 #[.int .i32 c] w fun e w' => e = .returned (.bool (pLetter c)) ∧ w' = w := by
  by_cases h1 : 97 ≤ c
  · go_enter Tryz.func105, Tryz.ntmps105
    go_wp2
    go_ret
    refine ⟨?_, rfl⟩
    simp [pLetter, h1]
  · go_enter Tryz.func105, Tryz.ntmps105
    go_wp2
    go_ret
    refine ⟨?_, rfl⟩
    simp [pLetter]
    omega
theorem inName_any (c : Int) (w : World) :
    Calls Tryz.prog 107 #[.int .i32 c] w fun e w' => e = .returned (.bool (pName c)) ∧ w' = w := by
  have H1 := Lib.hid (fun w => isLetter_any c w)
  have H2 := Lib.hid (fun w => isDigit_any c w)
  rcases Bool.eq_false_or_eq_true (pLetter c) with h1 | h1
  · rw [h1] at H1
    go_enter Tryz.func107, Tryz.ntmps107
    go_wp2_with fail
    refine (H1.out _).mono ?_
    rintro e w' ⟨rfl, rfl⟩
    go_wp2_with fail
    go_ret
    refine ⟨?_, rfl⟩
    simp [pName, h1]
  · rw [h1] at H1
    rcases Bool.eq_false_or_eq_true (pDigit c) with h2 | h2
    · rw [h2] at H2
      go_enter Tryz.func107, Tryz.ntmps107
      go_wp2_with fail
      refine (H1.out _).mono ?_
      rintro e w' ⟨rfl, rfl⟩
      go_wp2_with fail
      refine (H2.out _).mono ?_
      rintro e w' ⟨rfl, rfl⟩
      go_wp2_with fail
      go_ret
      refine ⟨?_, rfl⟩
      simp [pName, h1, h2]
    · rw [h2] at H2
      go_enter Tryz.func107, Tryz.ntmps107
      go_wp2_with fail
      refine (H1.out _).mono ?_
      rintro e w' ⟨rfl, rfl⟩
      go_wp2_with fail
      refine (H2.out _).mono ?_
      rintro e w' ⟨rfl, rfl⟩
      go_wp2_with fail
      go_ret
      refine ⟨?_, rfl⟩
      rw [pName, h1, h2, Bool.or_self, Bool.false_or]
      rfl

theorem drop_at (s : ByteArray) (pos : Nat) (h : pos < s.size) : s.data.toList.drop pos = s[pos]'h :: s.data.toList.drop (pos + 1) := by
  have h2 : pos < s.data.toList.length := by simpa using h
  rw [List.drop_eq_getElem_cons h2]
  rfl
theorem pword_hi (c : Int) (h : 128 ≤ c) : pWord c = false := by simp [pWord]; omega
theorem pdigit_hi (c : Int) (h : 128 ≤ c) : pDigit c = false := by simp [pDigit]; omega
theorem pletter_hi (c : Int) (h : 128 ≤ c) : pLetter c = false := by simp [pLetter]; omega
theorem pname_hi (c : Int) (h : 128 ≤ c) : pName c = false := by
  rw [pName, pletter_hi c h, pdigit_hi c h]
  simp; omega

theorem allL_nil (p : Int → Bool) (s : ByteArray) (pos : Nat) (h : ¬ pos < s.size) : (s.data.toList.drop pos).all (fun b => p b.toNat) = true := by
  have h2 : s.data.toList.length ≤ pos := by simp; omega
  rw [List.drop_eq_nil_of_le h2]
  rfl
theorem decode_p {p : Int → Bool} (hp : ∀ c, 128 ≤ c → p c = false) (s : ByteArray) (pos : Nat) (h : pos < s.size) :
    (p (Utf8.decode s pos).1 = true → (Utf8.decode s pos).2 = 1 ∧ (s.data.toList.drop pos).all (fun b => p b.toNat) = (s.data.toList.drop (pos + 1)).all (fun b => p b.toNat)) ∧
    (p (Utf8.decode s pos).1 = false → (s.data.toList.drop pos).all (fun b => p b.toNat) = false) := by
  rw [drop_at s pos h, List.all_cons]
  by_cases ha : (s[pos]'h).toNat < 128
  · rw [decode_ascii s pos h ha]
    refine ⟨fun h1 => ⟨rfl, ?_⟩, fun h1 => ?_⟩
    · simp only at h1
      rw [h1, Bool.true_and]
    · simp only at h1
      rw [h1, Bool.false_and]
  · have h1 := (decode_high s pos h (by omega)).1
    have h2 := hp (Utf8.decode s pos).1 (by omega)
    have h3 := hp (s[pos]'h).toNat (by omega)
    rw [h2, h3]
    exact ⟨fun h => (by cases h), fun _ => rfl⟩
theorem below_iter (w : World) (s : ByteArray) (pos : Nat) : Below w.heap.size w (w.iter s pos) := (Below.refl _ w).alloc (Nat.le_refl _) _

set_option maxRecDepth 1000000 in
theorem consists_any (K : FuncId) (p : Int → Bool) (hK : ∀ args w, Sem.run Tryz.prog (callFunc K args) w = .ok (.enter K args) w)
    (hc : ∀ c w, Calls Tryz.prog K #[.int .i32 c] w fun e w' => e = .returned (.bool (p c)) ∧ w' = w) (hp : ∀ c, 128 ≤ c → p c = false) (s : ByteArray) (w : World) :
    Calls Tryz.prog 106 #[.string s, .func (.func K) #[] #[]] w (BoolOut (s.data.toList.all fun b => p b.toNat) w) := by
  have HC := Lib.hid hc
  have HP := Lib.hid hp
  clear hc hp
  obtain ⟨A, hA⟩ : ∃ A, (s.data.toList.all fun b => p b.toNat) = A := ⟨_, rfl⟩
  have HA := Lib.hid hA
  rw [hA]
  clear hA
  go_enter Tryz.func106, Tryz.ntmps106
  go_wp2_with fail
  go_loopw [4] (fun _ wr => ∃ pos : Nat, wr = w.iter s pos ∧ (s.data.toList.drop pos).all (fun b => p b.toNat) = A) (fun _ wr => s.size - wr.iterPos w.heap.size)
  case atStart => exact ⟨0, rfl, HA.out⟩
  case round =>
    obtain ⟨pos, rfl, hr⟩ := hrel
    have HR := Lib.hid hr
    clear hr
    by_cases hp : pos < s.size
    · have hnx : ∀ ty, (Instr.next (.pointer (some ⟨w.heap.size, 0, none⟩)) true ty).run Tryz.prog (w.iter s pos) = _ := fun ty => run_next_any w s pos ty hp
      obtain ⟨hd1, hd2⟩ := decode_p HP.out s pos hp
      obtain ⟨c, hcd⟩ : ∃ c, (Utf8.decode s pos).1 = c := ⟨_, rfl⟩
      obtain ⟨n, hn⟩ : ∃ n, (Utf8.decode s pos).2 = n := ⟨_, rfl⟩
      rw [hcd, hn] at hnx hd1
      rw [hcd] at hd2
      have HD1 := Lib.hid hd1
      have HD2 := Lib.hid hd2
      clear hd1 hd2 hcd hn
      have HX := Lib.hid (fun w => HC.out c w)
      rcases Bool.eq_false_or_eq_true (p c) with h1 | h1
      · rw [h1] at HX
        obtain ⟨rfl, h2⟩ := HD1.out h1
        go_wp2_with fail
        refine (HX.out _).mono ?_
        rintro e w' ⟨rfl, rfl⟩
        go_wp2_with fail
        go_roundw
        case rel => exact ⟨pos + 1, rfl, by rw [← h2]; exact HR.out⟩
        case measure => simp; omega
      · rw [h1] at HX
        have h2 := HD2.out h1
        go_wp2_with fail
        refine (HX.out _).mono ?_
        rintro e w' ⟨rfl, rfl⟩
        go_wp2_with fail
        go_ret
        exact ⟨by rw [← HR.out, h2]; rfl, below_iter _ _ _⟩
    · have hnx : ∀ ty, (Instr.next (.pointer (some ⟨w.heap.size, 0, none⟩)) true ty).run Tryz.prog (w.iter s pos) = _ := fun ty => run_next_end w s pos ty hp
      have h2 := allL_nil p s pos hp
      go_wp2_with fail
      go_ret
      exact ⟨by rw [← HR.out, h2]; rfl, below_iter _ _ _⟩

end Go.Proofs.YtfdipcphohhlgaaGreatDoor.Kind

/- Words, decimal forms and names: the calls of words and of the reference that tell them. -/
namespace Go.Proofs.YtfdipcphohhlgaaGreatDoor.Word
open Go.RowKit Go.Lib Go.Proofs.YtfdipcphohhlgaaGreatDoor.Text Go.Proofs.YtfdipcphohhlgaaGreatDoor.Numt Go.Proofs.YtfdipcphohhlgaaGreatDoor.Kind

theorem all_word (l : (List UInt8)) : (l.all fun b => pWord b.toNat) = l.all inWord := by
  congr 1
  funext b
  simp only [pWord, inWord]
  congr 1
  · exact decide_eq_decide.2 (by omega)
  · exact decide_eq_decide.2 (by omega)
theorem all_digit (l : (List UInt8)) : (l.all fun b => pDigit b.toNat) = l.all isDig := by
  congr 1
  funext b
  simp only [pDigit, isDig]
  congr 1
  · exact decide_eq_decide.2 (by omega)
  · exact decide_eq_decide.2 (by omega)
theorem letter_eq (b : UInt8) : pLetter b.toNat = isLet b := by
  simp only [pLetter, isLet]
  congr 1
  · exact decide_eq_decide.2 (by omega)
  · exact decide_eq_decide.2 (by omega)
theorem all_name (l : (List UInt8)) : (l.all fun b => pName b.toNat) = l.all inName := by
  congr 1
  funext b
  have h1 := letter_eq b
  have h2 : pDigit b.toNat = isDig b := by
    simp only [pDigit, isDig]
    congr 1
    · exact decide_eq_decide.2 (by omega)
    · exact decide_eq_decide.2 (by omega)
  rw [pName, inName, h1, h2]
  congr 1
  exact decide_eq_decide.2 (by omega)

theorem eWord : ∀ args w, Sem.run Tryz.prog (callFunc 132 args) w = .ok (.enter 132 args) w := enters_of Tryz.func132 (by kernel_rfl) rfl

set_option maxRecDepth 100000 in
theorem word_any (s : ByteArray) (w : World) : Calls Tryz.prog 90 #[.string s] w (BoolOut (wordL s.data.toList) w) := by
  have HC := Lib.hid (consists_any 132 pWord eWord inWord_any pword_hi s)
  rw [all_word] at HC
  have hsz : s.size = s.data.toList.length := Lib.size_eq s
  have e : wordL s.data.toList = (decide (s.data.toList ≠ []) && decide (s.data.toList.length ≤ 64) && s.data.toList.all inWord) := rfl
  obtain ⟨W, hW⟩ : ∃ W, wordL s.data.toList = W := ⟨_, rfl⟩
  obtain ⟨A, hA⟩ : ∃ A, s.data.toList.all inWord = A := ⟨_, rfl⟩
  rw [hA] at HC e
  rw [hW] at e ⊢
  by_cases h0 : s.data.toList = []
  · have hq : s.toList.isEmpty = true := by rw [ByteArray.toList_eq]; simpa using h0
    have HE := Lib.hid (show W = false by rw [e]; simp [h0])
    clear hA hW e h0
    go_enter Tryz.func90, Tryz.ntmps90
    go_wp2_with fail
    go_ret
    exact ⟨by rw [HE.out]; rfl, Below.refl _ _⟩
  · have hq : s.toList.isEmpty = false := by rw [ByteArray.toList_eq]; simpa using h0
    by_cases h64 : s.size ≤ 64
    · have HE := Lib.hid (show W = A by rw [e]; simp [h0]; omega)
      clear hA hW e h0 hsz
      go_enter Tryz.func90, Tryz.ntmps90
      go_wp2_with fail
      refine (HC.out _).mono ?_
      rintro e w' ⟨rfl, hb⟩
      have HB := Lib.hid hb
      clear hb
      cases A
      · go_wp2_with fail
        go_ret
        exact ⟨by rw [HE.out]; rfl, HB.out⟩
      · go_wp2_with fail
        go_ret
        exact ⟨by rw [HE.out]; rfl, HB.out⟩
    · have HE := Lib.hid (show W = false by rw [e]; simp; omega)
      clear hA hW e h0 hsz
      go_enter Tryz.func90, Tryz.ntmps90
      go_wp2_with fail
      go_ret
      exact ⟨by rw [HE.out]; rfl, Below.refl _ _⟩

theorem name_split (l : (List UInt8)) : nameL l = (decide (l ≠ []) && decide (l.length ≤ 12) && (match l with | [] => false | b :: _ => isLet b) && l.all inName) := rfl
theorem eName : ∀ args w, Sem.run Tryz.prog (callFunc 107 args) w = .ok (.enter 107 args) w := enters_of Tryz.func107 (by kernel_rfl) rfl
theorem eDigit : ∀ args w, Sem.run Tryz.prog (callFunc 137 args) w = .ok (.enter 137 args) w := enters_of Tryz.func137 (by kernel_rfl) rfl

theorem head_at {s : ByteArray} {b : UInt8} {r : (List UInt8)} (h : s.data.toList = b :: r) : ∃ h0 : 0 < s.size, s[0]'h0 = b := by
  have hs : s.size = s.data.toList.length := Lib.size_eq s
  have h0 : 0 < s.size := by rw [hs, h]; simp
  refine ⟨h0, ?_⟩
  have := drop_at s 0 h0
  rw [List.drop_zero, h] at this
  exact (List.cons.inj this).1.symm

set_option maxRecDepth 100000 in
theorem name_any (s : ByteArray) (w : World) : Calls Tryz.prog 59 #[.string s] w (BoolOut (nameL s.data.toList) w) := by
  have HC := Lib.hid (consists_any 107 pName eName inName_any pname_hi s)
  rw [all_name] at HC
  have hsz : s.size = s.data.toList.length := Lib.size_eq s
  have e : nameL s.data.toList = _ := name_split s.data.toList
  obtain ⟨W, hW⟩ : ∃ W, nameL s.data.toList = W := ⟨_, rfl⟩
  obtain ⟨A, hA⟩ : ∃ A, s.data.toList.all inName = A := ⟨_, rfl⟩
  rw [hA] at HC e
  rw [hW] at e ⊢
  by_cases h0 : s.data.toList = []
  · have hq : s.toList.isEmpty = true := by rw [ByteArray.toList_eq]; simpa using h0
    have HE := Lib.hid (show W = false by rw [e]; simp [h0])
    clear hA hW e h0
    go_enter Tryz.func59, Tryz.ntmps59
    go_wp2_with fail
    go_ret
    exact ⟨by rw [HE.out]; rfl, Below.refl _ _⟩
  · have hq : s.toList.isEmpty = false := by rw [ByteArray.toList_eq]; simpa using h0
    by_cases h12 : s.size ≤ 12
    · obtain ⟨b, r, hl⟩ : ∃ b r, s.data.toList = b :: r := by
        cases h : s.data.toList with
        | nil => exact absurd h h0
        | cons b r => exact ⟨b, r, rfl⟩
      obtain ⟨hpos, hget⟩ := head_at hl
      have HL := Lib.hid (fun w => isLetter_any b.toNat w)
      rw [letter_eq] at HL
      have e2 : W = (isLet b && A) := by
        rw [e]
        have h1 : decide (s.data.toList ≠ []) = true := by simp [h0]
        have h2 : decide (s.data.toList.length ≤ 12) = true := by rw [← hsz]; simp [h12]
        rw [h1, h2, hl]
        rfl
      have hb : b.toNat < 256 := b.toNat_lt
      clear hA hW e h0 hsz hl
      rcases Bool.eq_false_or_eq_true (isLet b) with hlb | hlb
      · rw [hlb] at HL e2
        have HE := Lib.hid (show W = A by rw [e2, Bool.true_and])
        clear hlb e2
        go_enter Tryz.func59, Tryz.ntmps59
        go_wp2_with fail
        refine (HL.out _).mono ?_
        rintro e w' ⟨rfl, rfl⟩
        go_wp2_with fail
        refine (HC.out _).mono ?_
        rintro e w' ⟨rfl, hb⟩
        have HB := Lib.hid hb
        clear hb
        cases A
        · go_wp2_with fail
          go_ret
          exact ⟨by rw [HE.out]; rfl, HB.out⟩
        · go_wp2_with fail
          go_ret
          exact ⟨by rw [HE.out]; rfl, HB.out⟩
      · rw [hlb] at HL e2
        have HE := Lib.hid (show W = false by rw [e2, Bool.false_and])
        clear hlb e2
        go_enter Tryz.func59, Tryz.ntmps59
        go_wp2_with fail
        refine (HL.out _).mono ?_
        rintro e w' ⟨rfl, rfl⟩
        go_wp2_with fail
        go_ret
        exact ⟨by rw [HE.out]; rfl, Below.refl _ _⟩
    · have HE := Lib.hid (show W = false by rw [e]; simp; omega)
      clear hA hW e h0 hsz
      go_enter Tryz.func59, Tryz.ntmps59
      go_wp2_with fail
      go_ret
      exact ⟨by rw [HE.out]; rfl, Below.refl _ _⟩

set_option maxRecDepth 100000 in
theorem dec_any (s : ByteArray) (w : World) : Calls Tryz.prog 144 #[.string s] w (BoolOut (decL s.data.toList) w) := by
  have HT := Lib.hid (fun w => Tryz.strings_TrimPrefix s ⟨#[45]⟩ w)
  rw [show (⟨#[45]⟩ : ByteArray).data.toList = [45] from rfl, trim_strip] at HT
  have e : decL s.data.toList = _ := (dec_eq s.data.toList).symm
  unfold decP at e
  obtain ⟨d, hd⟩ : ∃ d, strip s.data.toList = d := ⟨_, rfl⟩
  rw [hd] at HT e
  have HC := Lib.hid (consists_any 137 pDigit eDigit isDigit_any pdigit_hi ⟨d.toArray⟩)
  rw [all_digit, show (⟨d.toArray⟩ : ByteArray).data.toList = d from rfl] at HC
  obtain ⟨W, hW⟩ : ∃ W, decL s.data.toList = W := ⟨_, rfl⟩
  obtain ⟨A, hA⟩ : ∃ A, d.all isDig = A := ⟨_, rfl⟩
  rw [hA] at HC e
  rw [hW] at e ⊢
  by_cases h48 : s.data.toList = [48]
  · have hq : s.toList = [48] := by rw [ByteArray.toList_eq]; exact h48
    have HE := Lib.hid (show W = true by rw [e]; simp [h48])
    clear hA hW e h48
    go_enter Tryz.func144, Tryz.ntmps144
    go_wp2_with fail
    refine (HT.out _).mono ?_
    rintro e w' ⟨rfl, rfl⟩
    go_wp2_with fail
    go_ret
    exact ⟨by rw [HE.out]; rfl, Below.refl _ _⟩
  · have hq : (s.toList == [48]) = false := by rw [ByteArray.toList_eq]; simpa using h48
    have e3 : W = (decide (d ≠ []) && decide (d.head? ≠ some 48) && A) := by rw [e, decide_eq_false h48, Bool.false_or]
    cases d with
    | nil =>
      have HE := Lib.hid (show W = false by rw [e3]; rfl)
      have hq2 : (⟨(List.toArray ([] : (List UInt8)))⟩ : ByteArray).toList.isEmpty = true := by rw [ByteArray.toList_eq]; rfl
      clear hA hW e e3 h48
      go_enter Tryz.func144, Tryz.ntmps144
      go_wp2_with fail
      refine (HT.out _).mono ?_
      rintro e w' ⟨rfl, rfl⟩
      go_wp2_with fail
      go_ret
      exact ⟨by rw [HE.out]; rfl, Below.refl _ _⟩
    | cons b r =>
      have hq2 : (⟨(List.toArray (b :: r))⟩ : ByteArray).toList.isEmpty = false := by rw [ByteArray.toList_eq]; rfl
      obtain ⟨t, ht⟩ : ∃ t : ByteArray, ⟨(b :: r).toArray⟩ = t := ⟨_, rfl⟩
      obtain ⟨hpos, hget⟩ := head_at (s := ⟨(b :: r).toArray⟩) rfl
      rw [ht] at hq2
      rw [ht] at HT HC
      have hgt : ∃ h0 : 0 < t.size, t[0]'h0 = b := by subst ht; exact ⟨hpos, hget⟩
      clear hpos hget ht
      obtain ⟨hpos, hget⟩ := hgt
      by_cases hb : b = 48
      · have HE := Lib.hid (show W = false by rw [e3, hb]; simp)
        have hbn : b.toNat = 48 := by rw [hb]; rfl
        clear hA hW e e3 h48 hb
        go_enter Tryz.func144, Tryz.ntmps144
        go_wp2_with fail
        refine (HT.out _).mono ?_
        rintro e w' ⟨rfl, rfl⟩
        go_wp2_with fail
        go_ret
        exact ⟨by rw [HE.out]; rfl, Below.refl _ _⟩
      · have HE := Lib.hid (show W = A by rw [e3]; simp [hb])
        have hbn : ((b.toNat : Int) != 48) = true := by
          have : ¬ b.toNat = 48 := fun h => hb (UInt8.toNat_inj.1 h)
          simp; omega
        clear hA hW e e3 h48 hb
        go_enter Tryz.func144, Tryz.ntmps144
        go_wp2_with fail
        refine (HT.out _).mono ?_
        rintro e w' ⟨rfl, rfl⟩
        go_wp2_with fail
        refine (HC.out _).mono ?_
        rintro e w' ⟨rfl, hb⟩
        have HB := Lib.hid hb
        clear hb
        cases A
        · go_wp2_with fail
          go_ret
          exact ⟨by rw [HE.out]; rfl, HB.out⟩
        · go_wp2_with fail
          go_ret
          exact ⟨by rw [HE.out]; rfl, HB.out⟩

end Go.Proofs.YtfdipcphohhlgaaGreatDoor.Word

/- The reference's word, digits and Name. -/
namespace Go.Proofs.YtfdipcphohhlgaaGreatDoor.Rword
open Go.RowKit Go.Lib Go.Proofs.YtfdipcphohhlgaaGreatDoor.Text Go.Proofs.YtfdipcphohhlgaaGreatDoor.Numt Go.Proofs.YtfdipcphohhlgaaGreatDoor.Kind Go.Proofs.YtfdipcphohhlgaaGreatDoor.Word

theorem drop_end {s : ByteArray} {k : Nat} (h : ¬ k < s.size) : s.data.toList.drop k = [] := by
  have h2 : s.data.toList.length ≤ k := by rw [← Lib.size_eq]; omega
  exact List.drop_eq_nil_of_le h2
theorem all_step {p : UInt8 → Bool} {s : ByteArray} {k : Nat} (h : k < s.size) : (s.data.toList.drop k).all p = (p (s[k]'h) && (s.data.toList.drop (k + 1)).all p) := by
  rw [drop_at s k h, List.all_cons]
theorem inWord_of {b : UInt8} (h1 : ¬ b.toNat < 33) (h2 : ¬ 126 < b.toNat) : inWord b = true := by simp [inWord]; omega
theorem inWord_no {b : UInt8} (h : b.toNat < 33 ∨ 126 < b.toNat) : inWord b = false := by simp [inWord]; omega
theorem isDig_of {b : UInt8} (h1 : ¬ b.toNat < 48) (h2 : ¬ 57 < b.toNat) : isDig b = true := by simp [isDig]; omega
theorem isDig_no {b : UInt8} (h : b.toNat < 48 ∨ 57 < b.toNat) : isDig b = false := by simp [isDig]; omega

set_option maxRecDepth 100000 in
theorem rword_any (s : ByteArray) (w : World) (hs : s.size ≤ 9223372036854775807) :
    Calls Tryz.prog 49 #[.string s] w fun e w' => e = .returned (.bool (wordL s.data.toList)) ∧ w' = w := by
  have hsz : s.size = s.data.toList.length := Lib.size_eq s
  have e : wordL s.data.toList = (decide (s.data.toList ≠ []) && decide (s.data.toList.length ≤ 64) && s.data.toList.all inWord) := rfl
  obtain ⟨W, hW⟩ : ∃ W, wordL s.data.toList = W := ⟨_, rfl⟩
  obtain ⟨A, hA⟩ : ∃ A, s.data.toList.all inWord = A := ⟨_, rfl⟩
  rw [hA] at e
  rw [hW] at e ⊢
  have HA := Lib.hid hA
  have e' : W = (decide (1 ≤ s.size) && decide (s.size ≤ 64) && A) := by
    rw [e, hsz]
    congr 1
    congr 1
    exact decide_eq_decide.2 ⟨fun h => List.length_pos_iff.2 h, fun h => List.length_pos_iff.1 h⟩
  have HE := Lib.hid e'
  clear hA hW e e' hsz
  go_enter Tryz.func49, Tryz.ntmps49
  go_wp2_with fail
  go_loop [3] (fun i => ∃ k : Nat, i = .int .i64 k ∧ k ≤ s.size ∧ (s.data.toList.drop k).all inWord = A) (fun i => s.size - (RowKit.intOf i).toNat)
  case atStart => exact ⟨0, rfl, Nat.zero_le _, HA.out⟩
  case round =>
    obtain ⟨k, rfl, hk, hr⟩ := hrel
    have HR := Lib.hid hr
    clear hr
    by_cases hlt : k < s.size
    · rw [all_step hlt] at HR
      obtain ⟨b, hb⟩ : ∃ b, s[k]'hlt = b := ⟨_, rfl⟩
      rw [hb] at HR
      by_cases h1 : b.toNat < 33
      · have HF := Lib.hid (show A = false by rw [← HR.out, inWord_no (.inl h1), Bool.false_and])
        go_wp2_with fail
        go_ret
        exact ⟨by rw [HE.out, HF.out, Bool.and_false]; rfl, rfl⟩
      · by_cases h2 : 126 < b.toNat
        · have HF := Lib.hid (show A = false by rw [← HR.out, inWord_no (.inr h2), Bool.false_and])
          go_wp2_with fail
          go_ret
          exact ⟨by rw [HE.out, HF.out, Bool.and_false]; rfl, rfl⟩
        · have HF := Lib.hid (show (s.data.toList.drop (k + 1)).all inWord = A by rw [← HR.out, inWord_of h1 h2, Bool.true_and])
          go_wp2_with fail
          go_round
          case rel => exact ⟨k + 1, by simp, by omega, HF.out⟩
          case measure => simp [RowKit.intOf]; omega
    · have HF := Lib.hid (show A = true by rw [← HR.out, drop_end hlt]; rfl)
      by_cases h1 : 1 ≤ s.size
      · by_cases h64 : s.size ≤ 64
        · have h64' : decide ((s.size : Int) ≤ 64) = true := by simp; omega
          go_wp2_with fail
          go_ret
          exact ⟨by rw [HE.out, HF.out, decide_eq_true h1, decide_eq_true h64]; rfl, rfl⟩
        · have h64' : decide ((s.size : Int) ≤ 64) = false := by simp; omega
          go_wp2_with fail
          go_ret
          exact ⟨by rw [HE.out, decide_eq_false h64, Bool.and_false, Bool.false_and]; rfl, rfl⟩
      · go_wp2_with fail
        go_ret
        exact ⟨by rw [HE.out, decide_eq_false h1, Bool.false_and, Bool.false_and]; rfl, rfl⟩

theorem let_of {b : UInt8} (h1 : 97 ≤ b.toNat) (h2 : b.toNat ≤ 122) : isLet b = true := by simp [isLet]; omega
theorem let_no {b : UInt8} (h : ¬ (97 ≤ b.toNat ∧ b.toNat ≤ 122)) : isLet b = false := by simp [isLet]; omega
theorem name_let {b : UInt8} (h : isLet b = true) : inName b = true := by rw [inName, h, Bool.true_or, Bool.true_or]
theorem name_dig {b : UInt8} (h : 48 ≤ b.toNat ∧ b.toNat ≤ 57 ∨ b.toNat = 95) : inName b = true := by
  unfold inName isDig
  rcases h with h | h
  · simp [h.1, h.2]
  · simp [h]
theorem name_no {b : UInt8} (h1 : ¬ (97 ≤ b.toNat ∧ b.toNat ≤ 122)) (h2 : ¬ (48 ≤ b.toNat ∧ b.toNat ≤ 57)) (h3 : b.toNat ≠ 95) : inName b = false := by
  rw [inName, let_no h1]
  unfold isDig
  simp [h3]
  omega
/-- What is still to be looked at from place k on. -/
def restN (s : ByteArray) (k : Nat) : Bool := if k = 0 then (match s.data.toList with | [] => true | b :: r => isLet b && r.all inName) else (s.data.toList.drop k).all inName
theorem restN_end {s : ByteArray} {k : Nat} (h : ¬ k < s.size) : restN s k = true := by
  unfold restN
  split
  · rename_i h0
    have := drop_end h
    rw [h0, List.drop_zero] at this
    rw [this]
  · rw [drop_end h]; rfl
theorem restN_step {s : ByteArray} {k : Nat} (h : k < s.size) : restN s k = ((if k = 0 then isLet (s[k]'h) else inName (s[k]'h)) && restN s (k + 1)) := by
  unfold restN
  by_cases h0 : k = 0
  · subst h0
    have := drop_at s 0 h
    rw [List.drop_zero] at this
    rw [if_pos rfl, if_pos rfl, if_neg (by omega)]
    rw [this]
    rfl
  · rw [if_neg h0, if_neg h0, if_neg (by omega), all_step h]
theorem name_at (s : ByteArray) : nameL s.data.toList = (decide (1 ≤ s.size) && decide (s.size ≤ 12) && restN s 0) := by
  have hsz : s.size = s.data.toList.length := Lib.size_eq s
  rw [name_split, hsz]
  unfold restN
  rw [if_pos rfl]
  cases s.data.toList with
  | nil => rfl
  | cons b r =>
    simp only [List.all_cons, List.length_cons]
    have h1 : decide (b :: r ≠ []) = true := by simp
    have h2 : decide (1 ≤ r.length + 1) = true := by simp
    rw [h1, h2]
    cases hl : isLet b with
    | true => rw [name_let hl, Bool.true_and, Bool.true_and, Bool.and_true]
    | false => simp

set_option maxRecDepth 100000 in
set_option maxHeartbeats 800000 in
theorem rname_any (s : ByteArray) (w : World) (hs : s.size ≤ 9223372036854775807) :
    Calls Tryz.prog 97 #[.string s] w fun e w' => e = .returned (.bool (nameL s.data.toList)) ∧ w' = w := by
  have e := name_at s
  obtain ⟨W, hW⟩ : ∃ W, nameL s.data.toList = W := ⟨_, rfl⟩
  obtain ⟨A, hA⟩ : ∃ A, restN s 0 = A := ⟨_, rfl⟩
  rw [hA] at e
  rw [hW] at e ⊢
  have HA := Lib.hid hA
  have HE := Lib.hid e
  clear hA hW e
  go_enter Tryz.func97, Tryz.ntmps97
  go_wp2_with fail
  go_loop [3] (fun i => ∃ k : Nat, i = .int .i64 k ∧ k ≤ s.size ∧ restN s k = A) (fun i => s.size - (RowKit.intOf i).toNat)
  case atStart => exact ⟨0, rfl, Nat.zero_le _, HA.out⟩
  case round =>
    obtain ⟨k, rfl, hk, hr⟩ := hrel
    have HR := Lib.hid hr
    clear hr
    by_cases hlt : k < s.size
    · rw [restN_step hlt] at HR
      obtain ⟨b, hb⟩ : ∃ b, s[k]'hlt = b := ⟨_, rfl⟩
      rw [hb] at HR
      by_cases hl : 97 ≤ b.toNat ∧ b.toNat ≤ 122
      · have h1 := let_of hl.1 hl.2
        have hif : (if k = 0 then isLet b else inName b) = true := by
          split
          · exact h1
          · exact name_let h1
        obtain ⟨ha, hz⟩ := hl
        have c1 : (97 : Int) ≤ b.toNat := by omega
        have c2 : (b.toNat : Int) ≤ 122 := by omega
        have c3 : (48 : Int) ≤ b.toNat := by omega
        have c4 : ¬ (b.toNat : Int) ≤ 57 := by omega
        have g95 : ((b.toNat : Int) == 95) = false := by simp; omega
        have HF := Lib.hid (show restN s (k + 1) = A by rw [← HR.out, hif, Bool.true_and])
        go_wp2_with fail
        go_round
        case rel => exact ⟨k + 1, by simp, by omega, HF.out⟩
        case measure => simp [RowKit.intOf]; omega
      · by_cases hd : 48 ≤ b.toNat ∧ b.toNat ≤ 57 ∨ b.toNat = 95
        · by_cases hk0 : k = 0
          · have hif : (if k = 0 then isLet b else inName b) = false := by rw [if_pos hk0]; exact let_no hl
            subst hk0
            rcases hd with hd | hd
            · have hd1 := hd.1
              have hd2 := hd.2
              have c1 : ¬ (97 : Int) ≤ b.toNat := by omega
              have c3 : (48 : Int) ≤ b.toNat := by omega
              have c4 : (b.toNat : Int) ≤ 57 := by omega
              have HF := Lib.hid (show A = false by rw [← HR.out, hif, Bool.false_and])
              go_wp2_with fail
              go_ret
              exact ⟨by rw [HE.out, HF.out, Bool.and_false]; rfl, rfl⟩
            · have c1 : ¬ (97 : Int) ≤ b.toNat := by omega
              have c3 : (48 : Int) ≤ b.toNat := by omega
              have c4 : ¬ (b.toNat : Int) ≤ 57 := by omega
              have g95 : ((b.toNat : Int) == 95) = true := by simp; omega
              have HF := Lib.hid (show A = false by rw [← HR.out, hif, Bool.false_and])
              go_wp2_with fail
              go_ret
              exact ⟨by rw [HE.out, HF.out, Bool.and_false]; rfl, rfl⟩
          · have hif : (if k = 0 then isLet b else inName b) = true := by rw [if_neg hk0]; exact name_dig hd
            rcases hd with hd | hd
            · have hd1 := hd.1
              have hd2 := hd.2
              have c1 : ¬ (97 : Int) ≤ b.toNat := by omega
              have c3 : (48 : Int) ≤ b.toNat := by omega
              have c4 : (b.toNat : Int) ≤ 57 := by omega
              have gk : ((k : Int) == 0) = false := by simp; omega
              have HF := Lib.hid (show restN s (k + 1) = A by rw [← HR.out, hif, Bool.true_and])
              go_wp2_with fail
              go_round
              case rel => exact ⟨k + 1, by simp, by omega, HF.out⟩
              case measure => simp [RowKit.intOf]; omega
            · have c1 : ¬ (97 : Int) ≤ b.toNat := by omega
              have c3 : (48 : Int) ≤ b.toNat := by omega
              have c4 : ¬ (b.toNat : Int) ≤ 57 := by omega
              have g95 : ((b.toNat : Int) == 95) = true := by simp; omega
              have gk : ((k : Int) == 0) = false := by simp; omega
              have HF := Lib.hid (show restN s (k + 1) = A by rw [← HR.out, hif, Bool.true_and])
              go_wp2_with fail
              go_round
              case rel => exact ⟨k + 1, by simp, by omega, HF.out⟩
              case measure => simp [RowKit.intOf]; omega
        · have hif : (if k = 0 then isLet b else inName b) = false := by
            split
            · exact let_no hl
            · exact name_no hl (fun h => hd (.inl h)) (fun h => hd (.inr h))
          have n1 : ¬ (48 ≤ b.toNat ∧ b.toNat ≤ 57) := fun h => hd (.inl h)
          have n2 : b.toNat ≠ 95 := fun h => hd (.inr h)
          by_cases q1 : b.toNat < 48
          · have c1 : ¬ (97 : Int) ≤ b.toNat := by omega
            have c3 : ¬ (48 : Int) ≤ b.toNat := by omega
            have g95 : ((b.toNat : Int) == 95) = false := by simp; omega
            have HF := Lib.hid (show A = false by rw [← HR.out, hif, Bool.false_and])
            go_wp2_with fail
            go_ret
            exact ⟨by rw [HE.out, HF.out, Bool.and_false]; rfl, rfl⟩
          · by_cases q2 : b.toNat < 97
            · have c1 : ¬ (97 : Int) ≤ b.toNat := by omega
              have c3 : (48 : Int) ≤ b.toNat := by omega
              have c4 : ¬ (b.toNat : Int) ≤ 57 := by omega
              have g95 : ((b.toNat : Int) == 95) = false := by simp; omega
              have HF := Lib.hid (show A = false by rw [← HR.out, hif, Bool.false_and])
              go_wp2_with fail
              go_ret
              exact ⟨by rw [HE.out, HF.out, Bool.and_false]; rfl, rfl⟩
            · have c1 : (97 : Int) ≤ b.toNat := by omega
              have c2 : ¬ (b.toNat : Int) ≤ 122 := by omega
              have c3 : (48 : Int) ≤ b.toNat := by omega
              have c4 : ¬ (b.toNat : Int) ≤ 57 := by omega
              have g95 : ((b.toNat : Int) == 95) = false := by simp; omega
              have HF := Lib.hid (show A = false by rw [← HR.out, hif, Bool.false_and])
              go_wp2_with fail
              go_ret
              exact ⟨by rw [HE.out, HF.out, Bool.and_false]; rfl, rfl⟩
    · have HF := Lib.hid (show A = true by rw [← HR.out, restN_end hlt])
      by_cases h1 : 1 ≤ s.size
      · by_cases h12 : s.size ≤ 12
        · have h12' : decide ((s.size : Int) ≤ 12) = true := by simp; omega
          go_wp2_with fail
          go_ret
          exact ⟨by rw [HE.out, HF.out, decide_eq_true h1, decide_eq_true h12]; rfl, rfl⟩
        · have h12' : decide ((s.size : Int) ≤ 12) = false := by simp; omega
          go_wp2_with fail
          go_ret
          exact ⟨by rw [HE.out, decide_eq_false h12, Bool.and_false, Bool.false_and]; rfl, rfl⟩
      · go_wp2_with fail
        go_ret
        exact ⟨by rw [HE.out, decide_eq_false h1, Bool.false_and, Bool.false_and]; rfl, rfl⟩

end Go.Proofs.YtfdipcphohhlgaaGreatDoor.Rword

/- isLine, and the reference's comparisons of lists. -/
namespace Go.Proofs.YtfdipcphohhlgaaGreatDoor.Samew
open Go.RowKit Go.Lib Go.Proofs.YtfdipcphohhlgaaGreatDoor.Text Go.Proofs.YtfdipcphohhlgaaGreatDoor.Numt Go.Proofs.YtfdipcphohhlgaaGreatDoor.Kind Go.Proofs.YtfdipcphohhlgaaGreatDoor.Word Go.Proofs.YtfdipcphohhlgaaGreatDoor.Rword Go.Proofs.YtfdipcphohhlgaaGreatDoor.Reads Go.Proofs.YtfdipcphohhlgaaGreatDoor.Rows2 Go.Proofs.YtfdipcphohhlgaaGreatDoor.Debw

theorem drop_cons {α : Type} {l : List α} {k : Nat} {x : α} (h : l[k]? = some x) : l.drop k = x :: l.drop (k + 1) := by
  obtain ⟨hk, hx⟩ := List.getElem?_eq_some_iff.1 h
  rw [List.drop_eq_getElem_cons hk, hx]
theorem line_eq (ws : List (List UInt8)) : lineL ws = (ws.all wordL && decide (0 < ws.length)) := by
  unfold lineL
  rw [Bool.and_comm]
  congr 1
  exact decide_eq_decide.2 ⟨fun h => List.length_pos_iff.2 h, fun h => List.length_pos_iff.1 h⟩

set_option maxRecDepth 100000 in
theorem line_any {v : Value} {ws : List (List UInt8)} {w : World} (h : Strs (fun b => b < w.heap.size) w v ws) :
    Calls Tryz.prog 44 #[v] w (BoolOut (lineL ws) w) := by
  obtain ⟨a, cap, rfl, hm, _, _, hc⟩ := h.shape
  have HC := Lib.hid hc
  have e := line_eq ws
  obtain ⟨W, hW⟩ : ∃ W, lineL ws = W := ⟨_, rfl⟩
  obtain ⟨A, hA⟩ : ∃ A, ws.all wordL = A := ⟨_, rfl⟩
  rw [hW, hA] at e
  rw [hW]
  have HE := Lib.hid e
  have HA := Lib.hid hA
  clear h hc e hW hA
  go_enter Tryz.func44, Tryz.ntmps44
  go_wp2_with fail
  go_loopw [7] (fun vi wr => ∃ k : Nat, vi = .int .i64 k ∧ k ≤ ws.length ∧ (ws.drop k).all wordL = A ∧ Below w.heap.size w wr) (fun vi _ => ws.length - (RowKit.intOf vi).toNat)
  case atStart => exact ⟨0, rfl, Nat.zero_le _, HA.out, Below.refl _ _⟩
  case round =>
    obtain ⟨k, rfl, hk, hr, hbel⟩ := hrel
    have HR := Lib.hid hr
    have HB := Lib.hid hbel
    clear hr hbel
    by_cases hlt : k < ws.length
    · obtain ⟨s, hs⟩ := at_lt hlt
      obtain ⟨_, b, off, rfl, hb, hcell⟩ := HC.out k s hs
      have g1 : wr.cell? ⟨b, off + k, none⟩ = some (.string (bs s)) := (HB.out.cell hb).trans hcell
      have HW := Lib.hid (word_any (bs s) wr)
      rw [bs_list] at HW
      rw [drop_cons hs, List.all_cons] at HR
      clear hs hcell hb
      rcases Bool.eq_false_or_eq_true (wordL s) with h1 | h1
      · rw [h1] at HW HR
        go_wp2_with fail
        refine HW.out.mono ?_
        rintro e w1 ⟨rfl, hb1⟩
        have HB1 := Lib.hid (HB.out.trans (hb1.mono HB.out.size))
        clear hb1
        go_wp2_with fail
        go_roundw
        case rel => exact ⟨k + 1, by simp, by omega, by have := HR.out; rwa [Bool.true_and] at this, HB1.out⟩
        case measure => simp [RowKit.intOf]; omega
      · rw [h1] at HW HR
        have HF := Lib.hid (show A = false by have := HR.out; rwa [Bool.false_and, eq_comm] at this)
        go_wp2_with fail
        refine HW.out.mono ?_
        rintro e w1 ⟨rfl, hb1⟩
        have HB1 := Lib.hid (HB.out.trans (hb1.mono HB.out.size))
        clear hb1
        go_wp2_with fail
        go_ret
        exact ⟨by rw [HE.out, HF.out, Bool.false_and]; rfl, HB1.out⟩
    · have HF := Lib.hid (show A = true by
        have := HR.out
        rw [List.drop_eq_nil_of_le (by omega)] at this
        exact this.symm)
      by_cases h0 : 0 < ws.length
      · have h0' : decide ((0 : Int) < ws.length) = true := decide_eq_true (by omega)
        go_wp2_with fail
        go_ret
        exact ⟨by rw [HE.out, HF.out, decide_eq_true h0]; rfl, HB.out⟩
      · have h0' : decide ((0 : Int) < ws.length) = false := decide_eq_false (by omega)
        go_wp2_with fail
        go_ret
        exact ⟨by rw [HE.out, decide_eq_false h0, Bool.and_false]; rfl, HB.out⟩

set_option maxRecDepth 100000 in
theorem sameLine_any {va vb : Value} {ws : List (List UInt8)} {w : World} (h : Strs (fun b => b < w.heap.size) w va ws) (h2 : Strs (fun b => b < w.heap.size) w vb ws) :
    Calls Tryz.prog 41 #[va, vb] w (BoolOut true w) := by
  obtain ⟨a, cap, rfl, hm, _, _, hc⟩ := h.shape
  obtain ⟨a2, cap2, rfl, _, _, _, hc2⟩ := h2.shape
  have HC := Lib.hid hc
  have HC2 := Lib.hid hc2
  clear h h2 hc hc2
  go_enter Tryz.func41, Tryz.ntmps41
  go_wp2_with fail
  go_loopw [5] (fun vi wr => ∃ k : Nat, vi = .int .i64 k ∧ k ≤ ws.length ∧ Below w.heap.size w wr) (fun vi _ => ws.length - (RowKit.intOf vi).toNat)
  case atStart => exact ⟨0, rfl, Nat.zero_le _, Below.refl _ _⟩
  case round =>
    obtain ⟨k, rfl, hk, hbel⟩ := hrel
    have HB := Lib.hid hbel
    clear hbel
    by_cases hlt : k < ws.length
    · obtain ⟨s, hs⟩ := at_lt hlt
      obtain ⟨_, b, off, rfl, hb, hcell⟩ := HC.out k s hs
      obtain ⟨_, b2, off2, rfl, hb2, hcell2⟩ := HC2.out k s hs
      have g1 : wr.cell? ⟨b, off + k, none⟩ = some (.string (bs s)) := (HB.out.cell hb).trans hcell
      have g2 : wr.cell? ⟨b2, off2 + k, none⟩ = some (.string (bs s)) := (HB.out.cell hb2).trans hcell2
      clear hs hcell hb hcell2 hb2
      go_wp2_with fail
      go_quiet (fail)
      go_wp2_with fail
      go_roundw
      case rel => exact ⟨k + 1, by simp, by omega, below_drewN HB.out _⟩
      case measure => simp [RowKit.intOf]; omega
    · obtain rfl : k = ws.length := by omega
      go_wp2_with fail
      go_ret
      exact ⟨rfl, HB.out⟩

end Go.Proofs.YtfdipcphohhlgaaGreatDoor.Samew
