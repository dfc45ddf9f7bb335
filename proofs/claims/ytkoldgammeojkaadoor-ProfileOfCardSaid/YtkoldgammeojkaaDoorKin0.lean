/- The kinds of characters: what they say, with no call (cut from XKindn, for programs that hold no function of words). -/
import Derived.Test.YtkoldgammeojkaaDoorNumt
import Derived.Test.YtkoldgammeojkaaDoorProg
import Derived.WalkKit
import Derived.Below
import Derived.Laws.RangeAny
import Derived.Laws.IdiomStrings
import Derived.Outline
import Derived.Deep.DeepFit
import Derived.Lib.Hide
import Derived.Lib.Walk
import Derived.BigQuiet
import Derived.Deep.QuietTactic
namespace Go.Proofs.YtkoldgammeojkaaDoor.Kindn
open Go.RowKit Go.Lib Go.Proofs.YtkoldgammeojkaaDoor.Text Go.Proofs.YtkoldgammeojkaaDoor.Numt

/-- The call answers a Bool and leaves the world as it was but for new memory. -/
def BoolOut (b : Bool) (w : World) (e : Ending) (w' : World) : Prop := e = .returned (.bool b) ∧ Below w.heap.size w w'

def pWord (c : Int) : Bool := decide (33 ≤ c) && decide (c ≤ 126)
def pDigit (c : Int) : Bool := decide (48 ≤ c) && decide (c ≤ 57)
def pLetter (c : Int) : Bool := decide (97 ≤ c) && decide (c ≤ 122)
def pName (c : Int) : Bool := (pLetter c || pDigit c) || decide (c = 95)

theorem drop_at (s : ByteArray) (pos : Nat) (h : pos < s.size) : s.data.toList.drop pos = s[pos]'h :: s.data.toList.drop (pos + 1) := by
  have h2 : pos < s.data.toList.length := by simpa using h
  rw [List.drop_eq_getElem_cons h2]
  rfl
end Go.Proofs.YtkoldgammeojkaaDoor.Kindn
