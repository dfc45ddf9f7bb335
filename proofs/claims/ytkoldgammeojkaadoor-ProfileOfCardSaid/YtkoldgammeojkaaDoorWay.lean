/- Ways over a layout: plain. -/
import Derived.Test.YtkoldgammeojkaaDoorRail
import Derived.Test.YtkoldgammeojkaaDoorLayf
namespace Go.Proofs.YtkoldgammeojkaaDoor.Way
open Go.Proofs.YtkoldgammeojkaaDoor.Rail (needF legsF)
open Go.Proofs.YtkoldgammeojkaaDoor.Lay Go.Proofs.YtkoldgammeojkaaDoor.Layf

/-- A step: its element, the side where it enters, the side where it leaves. -/
abbrev Stp := Int × (Int × Int)
def stCells (s : Stp) : List Value := [.int .i64 s.1, .int .i64 s.2.1, .int .i64 s.2.2]
def stWf (s : Stp) : Prop := Lay.Wf s.1 ∧ Lay.Wf s.2.1 ∧ Lay.Wf s.2.2
def stV (s : Stp) : Value := .agg #[.int .i64 s.1, .int .i64 s.2.1, .int .i64 s.2.2]

def inB (els : List Elem) (e : Int) : Bool := decide (0 ≤ e) && decide (e < (els.length : Int))
def elOf (els : List Elem) (e : Int) : Option Elem := if 0 ≤ e then els[e.toNat]? else none
theorem el_none {els : List Elem} {e : Int} (h : inB els e = false) : elOf els e = none := by
  unfold elOf
  split
  · rename_i h0
    simp only [inB, h0, decide_true, Bool.true_and, decide_eq_false_iff_not] at h
    exact List.getElem?_eq_none (by omega)
  · rfl
theorem el_some {els : List Elem} {e : Int} (h : inB els e = true) : ∃ (i : Nat) (x : Elem), e = (i : Int) ∧ i < els.length ∧ els[i]? = some x ∧ elOf els e = some x := by
  simp only [inB, Bool.and_eq_true, decide_eq_true_eq] at h
  obtain ⟨h0, h1⟩ := h
  obtain ⟨i, rfl⟩ := Int.eq_ofNat_of_zero_le h0
  have hi : i < els.length := by omega
  refine ⟨i, els[i], rfl, hi, List.getElem?_eq_getElem hi, ?_⟩
  rw [elOf, if_pos h0]
  simp

def needS (els : List Elem) (s : Stp) : Int × Bool :=
  match elOf els s.1 with
  | none => (0, false)
  | some x => needF x.kind s.2.1 s.2.2
theorem need_none {els : List Elem} {s : Stp} (h : inB els s.1 = false) : needS els s = (0, false) := by rw [needS, el_none h]
theorem need_some {els : List Elem} {s : Stp} {x : Elem} (h : elOf els s.1 = some x) : needS els s = needF x.kind s.2.1 s.2.2 := by rw [needS, h]
def nextS (L : Lay) (s : Stp) : (Int × Int) × Bool := joinedF L (s.1, s.2.2)
def branchesF (L : Lay) (p : Int × Int) : List Stp :=
  match elOf L.els p.1 with
  | none => []
  | some x => (legsF x.kind p.2).map fun o => (p.1, p.2, o)
theorem branches_none {L : Lay} {p : Int × Int} (h : inB L.els p.1 = false) : branchesF L p = [] := by rw [branchesF, el_none h]
theorem branches_some {L : Lay} {p : Int × Int} {x : Elem} (h : elOf L.els p.1 = some x) : branchesF L p = (legsF x.kind p.2).map fun o => (p.1, p.2, o) := by rw [branchesF, h]

def lenS (els : List Elem) (s : Stp) : Int :=
  match elOf els s.1 with
  | none => 0
  | some x => x.len
/-- The length so far, and the rest of the way. -/
def lenR (els : List Elem) (n : Int) : List Stp → Int
  | [] => n
  | s :: r => lenR els (n + lenS els s) r
def lengthF (els : List Elem) (way : List Stp) : Int := lenR els 0 way
theorem len_none {els : List Elem} {s : Stp} (h : inB els s.1 = false) : lenS els s = 0 := by rw [lenS, el_none h]
theorem len_some {els : List Elem} {s : Stp} {x : Elem} (h : elOf els s.1 = some x) : lenS els s = x.len := by rw [lenS, h]

/-- The sections so far, and the rest of the way. -/
def secR (els : List Elem) (acc : List Int) : List Stp → List Int
  | [] => acc
  | s :: r => match elOf els s.1 with
    | none => secR els acc r
    | some x => if acc.contains x.sec then secR els acc r else secR els (acc ++ [x.sec]) r
def sectionsF (els : List Elem) (way : List Stp) : List Int := secR els [] way

/-- A setting: its element and its position. -/
def lessB (a b : Int × Int) : Bool := decide (a.1 < b.1) || (decide (a.1 = b.1) && decide (a.2 < b.2))
def insertF (l : List (Int × Int)) (s : Int × Int) : List (Int × Int) :=
  match l with
  | [] => [s]
  | x :: r => if lessB x s then x :: insertF r s else if x = s then x :: r else s :: x :: r
def setR (els : List Elem) (acc : List (Int × Int)) : List Stp → List (Int × Int)
  | [] => acc
  | s :: r => if (needS els s).2 = true ∧ (needS els s).1 ≠ 0 then setR els (insertF acc (s.1, (needS els s).1)) r else setR els acc r
def settingsF (els : List Elem) (way : List Stp) : List (Int × Int) := setR els [] way

def turned (s : Stp) : Stp := (s.1, s.2.2, s.2.1)
def reverseF (way : List Stp) : List Stp := (way.map turned).reverse

/-- Whether a step goes on behind these. -/
def goesB (L : Lay) (bef : List Stp) (s : Stp) : Bool :=
  (needS L.els s).2 && ((match bef.getLast? with | none => true | some p => decide (nextS L p = ((s.1, s.2.1), true))) && bef.all fun p => decide (p.1 ≠ s.1))
def goesR (L : Lay) (bef : List Stp) : List Stp → Bool
  | [] => true
  | s :: r => goesB L bef s && goesR L (bef ++ [s]) r
def validF (L : Lay) (way : List Stp) : Bool := decide (1 ≤ way.length ∧ way.length ≤ 64) && goesR L [] way

end Go.Proofs.YtkoldgammeojkaaDoor.Way
