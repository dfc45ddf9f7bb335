/- What the program's seven functions of layouts are to give, as one bundle. -/
import Derived.Test.YtieoegodhhiiiaaLcon
import Derived.Test.YtieoegodhhiiiaaLfew
import Derived.Test.YtieoegodhhiiiaaLmem
import Derived.Test.YtieoegodhhiiiaaLnmd
namespace Go.Proofs.Ytieoegodhhiiiaa.Lsev
open Go.RowKit Go.Lib Go.Proofs.Ytieoegodhhiiiaa.Text Go.Proofs.Ytieoegodhhiiiaa.Reads Go.Proofs.Ytieoegodhhiiiaa.Rows2 Go.Proofs.Ytieoegodhhiiiaa.Lay Go.Proofs.Ytieoegodhhiiiaa.Layf Go.Proofs.Ytieoegodhhiiiaa.Lcon Go.Proofs.Ytieoegodhhiiiaa.Ldup Go.Proofs.Ytieoegodhhiiiaa.Lext Go.Proofs.Ytieoegodhhiiiaa.Ljoi Go.Proofs.Ytieoegodhhiiiaa.Lmem Go.Proofs.Ytieoegodhhiiiaa.Lnmd Go.Proofs.Ytieoegodhhiiiaa.Lfew

/-- The shapes of a layout's five slices. -/
theorem shapes {w : World} {L : Lay} {vs ve vj vg vb : Value} (h : LayAt (In w) w L vs ve vj vg vb) : ∃ a1 c1 a2 c2 a3 c3 a4 c4 a5 c5, vs = .slice a1 L.secs.length c1 ∧ ve = .slice a2 L.els.length c2 ∧ vj = .slice a3 L.joints.length c3 ∧ vg = .slice a4 L.sigs.length c4 ∧ vb = .slice a5 L.bals.length c5 := by
  obtain ⟨a1, c1, h1, _, _⟩ := h.sn
  obtain ⟨a2, c2, h2, _, _⟩ := h.el
  obtain ⟨a3, c3, h3, _, _⟩ := h.jt
  obtain ⟨a4, c4, h4, _, _⟩ := h.sg
  obtain ⟨a5, c5, h5, _, _⟩ := h.bl
  exact ⟨a1, c1, a2, c2, a3, c3, a4, c4, a5, c5, h1, h2, h3, h4, h5⟩

/-- What a call gives that returns a list of its own: in blocks that the call made. -/
def OwnOut (l : List Int) (w : World) (e : Ending) (w' : World) : Prop := ∃ v, e = .returned v ∧ Grid (fun b => w.heap.size ≤ b ∧ b < w'.heap.size) w' v 1 (l.map fun x => [.int .i64 x]) ∧ Below w.heap.size w w'
/-- What is asked of them where a call's world is D. -/
structure Seven (D : World → Prop) : Prop where
  keep : ∀ w w', D w → Below w.heap.size w w' → D w'
  chk : ∀ (L : Lay) (vs ve vj vg vb : Value) (w : World), LayAt (In w) w L vs ve vj vg vb → D w → fewB L = true →
    Calls Try.prog 8 #[layV L vs ve vj vg vb] w (NumOut (checkF L) w)
  jnd : ∀ (L : Lay) (p : Int × Int) (vs ve vj vg vb : Value) (w : World), LayAt (In w) w L vs ve vj vg vb → D w → fewB L = true → checkF L = 0 → existsB L.els p = true →
    Calls Try.prog 12 #[layV L vs ve vj vg vb, pV p] w (EndOut (joinedF L p) w)
  sgl : ∀ (L : Lay) (p : Int × Int) (vs ve vj vg vb : Value) (w : World), LayAt (In w) w L vs ve vj vg vb → D w → fewB L = true → checkF L = 0 → existsB L.els p = true →
    Calls Try.prog 13 #[layV L vs ve vj vg vb, pV p] w (NumOut (signalF L p) w)
  sct : ∀ (L : Lay) (i : Nat) (vs ve vj vg vb : Value) (w : World), LayAt (In w) w L vs ve vj vg vb → D w → fewB L = true → checkF L = 0 → i < L.els.length →
    Calls Try.prog 14 #[layV L vs ve vj vg vb, .int .i64 (i : Int)] w (NumOut (sectionF L (i : Int)) w)
  mem : ∀ (L : Lay) (s : Nat) (vs ve vj vg vb : Value) (w : World), LayAt (In w) w L vs ve vj vg vb → D w → fewB L = true → checkF L = 0 → s < L.secs.length →
    Calls Try.prog 15 #[layV L vs ve vj vg vb, .int .i64 (s : Int)] w (OwnOut (membersF L (s : Int)) w)
  pts : ∀ (L : Lay) (vs ve vj vg vb : Value) (w : World), LayAt (In w) w L vs ve vj vg vb → D w → fewB L = true → checkF L = 0 →
    Calls Try.prog 16 #[layV L vs ve vj vg vb] w (OwnOut (pointsF L) w)
  elm : ∀ (L : Lay) (n : List UInt8) (vs ve vj vg vb : Value) (w : World), LayAt (In w) w L vs ve vj vg vb → D w → fewB L = true → checkF L = 0 → n.length ≤ maxLen →
    Calls Try.prog 17 #[layV L vs ve vj vg vb, .string (bs n)] w (NumOut (elementF L n) w)

end Go.Proofs.Ytieoegodhhiiiaa.Lsev
