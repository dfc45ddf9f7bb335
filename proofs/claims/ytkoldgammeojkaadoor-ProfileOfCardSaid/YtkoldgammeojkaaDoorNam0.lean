/- A name, part by part (cut from XNamew). -/
import Derived.Test.YtkoldgammeojkaaDoorKin0
import Derived.Shelf.Abstract
namespace Go.Proofs.YtkoldgammeojkaaDoor.Namew
open Go.RowKit Go.Lib Go.Proofs.YtkoldgammeojkaaDoor.Text Go.Proofs.YtkoldgammeojkaaDoor.Numt Go.Proofs.YtkoldgammeojkaaDoor.Kindn

theorem name_split (l : (List UInt8)) : nameL l = (decide (l ≠ []) && decide (l.length ≤ 12) && (match l with | [] => false | b :: _ => isLet b) && l.all inName) := rfl
end Go.Proofs.YtkoldgammeojkaaDoor.Namew
