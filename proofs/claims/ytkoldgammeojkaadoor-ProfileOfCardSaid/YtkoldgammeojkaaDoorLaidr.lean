/- What the listed variable gives: the table of passages; and a heap that holds it. -/
import Derived.Test.YtkoldgammeojkaaDoorRows
import Derived.Test.YtkoldgammeojkaaDoorRtab
import Derived.ProofKit
import Derived.LaidMore
import Derived.LaidHandle
import Derived.MakeChecks
import Derived.OpenShut
import Derived.Stop.Joined
namespace Go.Proofs.YtkoldgammeojkaaDoor.Laidr
open Go.ChangeShapes Go.WideShapes Go.ChangeAt
open Go.RowKit Go.Proofs.YtkoldgammeojkaaDoor.Rtab

section
variable {H : Type} {enc : TypeId × Value → H} {W : World} {base : Nat} {sp : Nat → Bool} {held : Bool}
theorem one_int {fuel : Nat} {l : List Value} {x : DataW H × List MemPlace} {z : Int} (h : DataW.trod enc Tryd.prog W base sp held fuel 3 l = some x) (hx : x.1 = .lit (.int .i64 z)) : l = [.int .i64 z] := by
  obtain ⟨n, e1, e2, _⟩ := DataW.trod_int Tryd.underlying3 h
  subst e2
  simp only [DataW.lit.injEq, Lit.int.injEq, true_and] at hx
  rw [e1, hx]
theorem four {α : Type} {l : List α} (h : l.length = 4) : ∃ a b c d, l = [a, b, c, d] := by
  match l, h with
  | [a, b, c, d], _ => exact ⟨a, b, c, d, rfl⟩

set_option maxRecDepth 100000 in
theorem row_of {fuel : Nat} {l : List Value} {a b c d : Int} {q : List MemPlace} (h : DataW.trod enc Tryd.prog W base sp held fuel 85 l = some (.agg [.lit (.int .i64 a), .lit (.int .i64 b), .lit (.int .i64 c), .lit (.int .i64 d)], q)) :
    l = [.int .i64 a, .int .i64 b, .int .i64 c, .int .i64 d] := by
  obtain ⟨xs, n, _, hx, hlen, hxl, hg⟩ := DataW.trod_struct Tryd.underlying85 h
  have hc4 : Tryd.prog.cellsOf 85 = 4 := by kernel_rfl
  have hc1 : Tryd.prog.cellsOf 3 = 1 := by kernel_rfl
  rw [hc4] at hlen
  obtain ⟨v0, v1, v2, v3, rfl⟩ := four hlen
  have hxs : xs.length = 4 := hxl
  obtain ⟨x0, x1, x2, x3, rfl⟩ := four hxs
  simp only [Prod.mk.injEq, DataW.agg.injEq, List.map_cons, List.map_nil, List.cons.injEq, and_true] at hx
  obtain ⟨⟨e0, e1, e2, e3⟩, _⟩ := hx
  have g0 : DataW.trod enc Tryd.prog W base sp held n 3 (([v0, v1, v2, v3].drop 0).take (Tryd.prog.cellsOf 3)) = some x0 := hg 0 _ rfl
  have g1 : DataW.trod enc Tryd.prog W base sp held n 3 (([v0, v1, v2, v3].drop 1).take (Tryd.prog.cellsOf 3)) = some x1 := hg 1 _ rfl
  have g2 : DataW.trod enc Tryd.prog W base sp held n 3 (([v0, v1, v2, v3].drop 2).take (Tryd.prog.cellsOf 3)) = some x2 := hg 2 _ rfl
  have g3 : DataW.trod enc Tryd.prog W base sp held n 3 (([v0, v1, v2, v3].drop 3).take (Tryd.prog.cellsOf 3)) = some x3 := hg 3 _ rfl
  rw [hc1] at g0 g1 g2 g3
  have r0 := one_int g0 e0.symm
  have r1 := one_int g1 e1.symm
  have r2 := one_int g2 e2.symm
  have r3 := one_int g3 e3.symm
  simp only [List.drop_zero, List.take_succ_cons, List.take_zero, List.drop_succ_cons, List.cons.injEq, and_true] at r0 r1 r2 r3
  rw [r0, r1, r2, r3]
theorem split4 {l : List Value} {n : Nat} {x : List Value} (h : (l.drop n).take 4 = x) : l.drop n = x ++ l.drop (n + 4) := by
  rw [← h, ← List.drop_drop, List.take_append_drop]

set_option maxRecDepth 100000 in
theorem cells_of {fuel : Nat} {l : List Value} {q : List MemPlace} (h : DataW.trod enc Tryd.prog W base sp held fuel 86 l = some (Rows.laid_signalling_rail_passages, q)) : l = cells.toList := by
  obtain ⟨xs, m, _, hx, hlen, hn, hel⟩ := DataW.trod_array Tryd.underlying86 h
  have hc4 : Tryd.prog.cellsOf 85 = 4 := by kernel_rfl
  have hc40 : Tryd.prog.cellsOf 86 = 40 := by kernel_rfl
  rw [hc4] at hel
  rw [hc40] at hlen
  unfold Rows.laid_signalling_rail_passages at hx
  simp only [Prod.mk.injEq, DataW.agg.injEq] at hx
  have hm := hx.1
  have at_ : ∀ (i : Nat) (a b c d : Int), (xs.map (·.1))[i]? = some (.agg [.lit (.int .i64 a), .lit (.int .i64 b), .lit (.int .i64 c), .lit (.int .i64 d)]) → i < 10 → (l.drop (i * 4)).take 4 = [.int .i64 a, .int .i64 b, .int .i64 c, .int .i64 d] := by
    intro i a b c d hi hi10
    rw [List.getElem?_map, Option.map_eq_some_iff] at hi
    obtain ⟨⟨x, qx⟩, hxi, hxe⟩ := hi
    simp only at hxe
    subst hxe
    exact row_of ((hel i hi10).trans hxi)
  rw [← hm] at at_
  have s0 := split4 (at_ 0 _ _ _ _ rfl (by decide))
  have s1 := split4 (at_ 1 _ _ _ _ rfl (by decide))
  have s2 := split4 (at_ 2 _ _ _ _ rfl (by decide))
  have s3 := split4 (at_ 3 _ _ _ _ rfl (by decide))
  have s4 := split4 (at_ 4 _ _ _ _ rfl (by decide))
  have s5 := split4 (at_ 5 _ _ _ _ rfl (by decide))
  have s6 := split4 (at_ 6 _ _ _ _ rfl (by decide))
  have s7 := split4 (at_ 7 _ _ _ _ rfl (by decide))
  have s8 := split4 (at_ 8 _ _ _ _ rfl (by decide))
  have s9 := split4 (at_ 9 _ _ _ _ rfl (by decide))
  have s10 : l.drop 40 = [] := List.drop_eq_nil_of_le (by omega)
  simp only [Nat.zero_mul, Nat.one_mul, Nat.reduceMul, Nat.reduceAdd, List.drop_zero] at s0 s1 s2 s3 s4 s5 s6 s7 s8 s9
  rw [s0, s1, s2, s3, s4, s5, s6, s7, s8, s9, s10]
  rfl
end

theorem gTab : Tryd.prog.globalNamed "signalling/rail.passages" = some 0 := by kernel_rfl
theorem tTab : (Tryd.prog.globals[0]?).map (·.type) = some 86 := by kernel_rfl

/-- The table stands first on the list. -/
theorem rtab_of_head {W : World} {rest : List (String × DataW Unit)} (h : laidMet Tryd.prog (("signalling/rail.passages", Rows.laid_signalling_rail_passages) :: rest) W) : RTab W := by
  obtain ⟨ps, ⟨g', t', cs, fuel, p, q, hg', ht', hvar, hd, _, _⟩, _⟩ := h
  obtain rfl := Option.some.inj (gTab.symm.trans hg')
  obtain rfl := Option.some.inj (tTab.symm.trans ht')
  have hcs := cells_of hd
  have hcs2 : cs = cells := Array.toList_inj.1 hcs
  subst hcs2
  unfold World.var? at hvar
  rw [gTab] at hvar
  simp only [Option.bind_some] at hvar
  unfold RTab
  split at hvar
  · rename_i cs' t fr he
    exact ⟨t, fr, by rw [he, Option.some.inj hvar]⟩
  · cases hvar

def laid1 : List (String × DataW Unit) := [("signalling/rail.passages", Rows.laid_signalling_rail_passages)]
set_option maxRecDepth 100000 in
/-- The door's own heap meets the condition: three closed facts. -/
theorem door_met (os : Os) (args : Array Value) : laidMetH Tryd.prog laid1 ((World.doorLaid Tryd.prog 4000 os).forCall (fun _ _ => 0) ⟨#[], args, []⟩).memory :=
  laidMetH_of_parts3 (fuel := 8) (laidMet_of_run' 8 (by kernel_rfl) (by kernel_rfl)) (by kernel_rfl) (by kernel_rfl)

set_option maxRecDepth 100000 in
theorem of_laid {W : World} (h : laidMetH Tryd.prog laid1 W) : RTab W := by
  rw [MakeChecks.laidMetH_plain _ _ _ (by kernel_rfl)] at h
  exact rtab_of_head h

end Go.Proofs.YtkoldgammeojkaaDoor.Laidr
