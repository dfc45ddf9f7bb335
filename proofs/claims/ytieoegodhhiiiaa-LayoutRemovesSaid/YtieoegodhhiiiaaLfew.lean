/- The call of the statements' Few. -/
import Derived.Test.YtieoegodhhiiiaaLdup
namespace Go.Proofs.Ytieoegodhhiiiaa.Lfew
open Go.RowKit Go.Lib Go.Proofs.Ytieoegodhhiiiaa.Text Go.Proofs.Ytieoegodhhiiiaa.Reads Go.Proofs.Ytieoegodhhiiiaa.Rows2 Go.Proofs.Ytieoegodhhiiiaa.Lay Go.Proofs.Ytieoegodhhiiiaa.Ldup

def fewB (L : Lay) : Bool := decide (L.secs.length ≤ 60 ∧ L.els.length ≤ 60 ∧ L.joints.length ≤ 100 ∧ L.sigs.length ≤ 60 ∧ L.bals.length ≤ 60)
theorem few_no {L : Lay} (h : ¬ (L.secs.length ≤ 60 ∧ L.els.length ≤ 60 ∧ L.joints.length ≤ 100 ∧ L.sigs.length ≤ 60 ∧ L.bals.length ≤ 60)) : fewB L = false := decide_eq_false h
theorem few_yes {L : Lay} (h : fewB L = true) : L.secs.length ≤ 60 ∧ L.els.length ≤ 60 ∧ L.joints.length ≤ 100 ∧ L.sigs.length ≤ 60 ∧ L.bals.length ≤ 60 := of_decide_eq_true h

set_option maxRecDepth 100000 in
set_option maxHeartbeats 1600000 in
theorem few_any (L : Lay) {vs ve vj vg vb : Value} (w : World) (h : LayAt (In w) w L vs ve vj vg vb) :
    Calls Try.prog 7 #[layV L vs ve vj vg vb] w (BoolOut (fewB L) w) := by
  obtain ⟨a1, c1, rfl, _, _⟩ := h.sn
  obtain ⟨a2, c2, rfl, _, _⟩ := h.el
  obtain ⟨a3, c3, rfl, _, _⟩ := h.jt
  obtain ⟨a4, c4, rfl, _, _⟩ := h.sg
  obtain ⟨a5, c5, rfl, _, _⟩ := h.bl
  have B0 := Lib.hid ((Below.refl w.heap.size w).alloc (Nat.le_refl _) (.cells #[.string (bs L.name), .slice a1 L.secs.length c1, .slice a2 L.els.length c2, .slice a3 L.joints.length c3, .slice a4 L.sigs.length c4, .slice a5 L.bals.length c5] 28))
  clear h
  obtain ⟨r, hr⟩ : ∃ r, fewB L = r := ⟨_, rfl⟩
  unfold fewB at hr
  rw [show fewB L = r from hr]
  have HR := Lib.hid hr
  clear hr
  unfold layV
  have fin : ∀ (b : Bool) (w' : World), Below w.heap.size w w' → b = decide (L.secs.length ≤ 60 ∧ L.els.length ≤ 60 ∧ L.joints.length ≤ 100 ∧ L.sigs.length ≤ 60 ∧ L.bals.length ≤ 60) → BoolOut r w (.returned (.bool b)) w' := fun b w' hb hx => ⟨by rw [hx, HR.out], hb⟩
  have FIN := Lib.hid fin
  clear fin
  go_enter Try.func7, Try.ntmps7
  go_wp2_with fail
  all_goals
    go_ret
    refine FIN.out _ _ B0.out ?_
    symm
    first
      | exact decide_eq_true (by omega)
      | exact decide_eq_false (by omega)
      | (rw [Bool.eq_iff_iff]
         simp only [decide_eq_true_eq]
         omega)

end Go.Proofs.Ytieoegodhhiiiaa.Lfew
