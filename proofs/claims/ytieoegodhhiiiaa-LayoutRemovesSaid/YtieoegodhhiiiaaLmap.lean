/- Maps from ends to ends. -/
import Derived.Test.YtieoegodhhiiiaaOmap
import Derived.Test.YtieoegodhhiiiaaLext
namespace Go.Proofs.Ytieoegodhhiiiaa.Lmap
open Go.RowKit Go.Lib Go.Maps Go.Proofs.Ytieoegodhhiiiaa.Lay Go.Proofs.Ytieoegodhhiiiaa.Layf Go.Proofs.Ytieoegodhhiiiaa.Lext Go.Proofs.Ytieoegodhhiiiaa.Omap

theorem laidOut : laidOutB Try.prog = true := by kernel_rfl
theorem endKey {p : Int × Int} (h : pWf p) : ∃ l, keyOf Try.prog 37 (pV p) = some l := by
  obtain ⟨h1, h2⟩ := h
  have hk : Try.prog.keyType 37 = true := by kernel_rfl
  have hz : 0 < Try.prog.types.size := of_decide_eq_true (by kernel_rfl)
  have hs : ∃ n, Try.prog.types.size = n + 1 := ⟨Try.prog.types.size - 1, by omega⟩
  have hc : Try.prog.cellsOf 37 = 2 := by kernel_rfl
  have hc1 : Try.prog.cellsOf 3 = 1 := by kernel_rfl
  obtain ⟨n, hn⟩ := hs
  have hl : Try.prog.keyLits (n + 1 + 1) 37 [.int .i64 p.1, .int .i64 p.2] = some [.int .i64 p.1, .int .i64 p.2] := by
    have hi : ∀ x : Int, Wf x → Try.prog.keyLits (n + 1) 3 [.int .i64 x] = some [.int .i64 x] := fun x hx => by
      unfold Program.keyLits
      rw [Try.underlying3]
      simp only [Wf] at hx
      simp [hx]
    unfold Program.keyLits
    rw [Try.underlying37]
    simp [hc, hc1, hi _ h1, hi _ h2]
  refine ⟨.string (keyBytes [.int .i64 p.1, .int .i64 p.2]), ?_⟩
  unfold keyOf
  rw [Try.underlying37]
  simp only [hk, Bool.true_and]
  rw [if_pos (by unfold pV Value.formed; rw [Try.underlying37]; simp [hc]), hn]
  show (Try.prog.keyLits (n + 1 + 1) 37 [.int .i64 p.1, .int .i64 p.2]).map _ = _
  rw [hl]
  rfl
theorem endKeyed : Keyed Try.prog 37 := Keyed.of_law (deep_law_gate laidOut (of_decide_eq_true (by kernel_rfl)) (of_decide_eq_true (by kernel_rfl)) (by kernel_rfl) (by kernel_rfl))
theorem pV_inj (p q : Int × Int) (h : pV p = pV q) : p = q := by
  simp only [pV, Value.agg.injEq, Array.mk.injEq, List.cons.injEq, Value.int.injEq, true_and, and_true] at h
  exact Prod.ext h.1 h.2
/-- map[api.End]api.End. -/
def endEnd : MapForm Try.prog 37 37 (Int × Int) (Int × Int) where
  kv := pV
  ok := pWf
  ev := pV
  de := fun p => .agg [.lit (.int .i64 p.1), .lit (.int .i64 p.2)]
  z0 := (0, 0)
  keyed := endKeyed
  key := fun _ h => endKey h
  kinj := pV_inj
  einj := pV_inj
  dinj := fun p q h => by
    simp only [DataW.agg.injEq, List.cons.injEq, DataW.lit.injEq, Lit.int.injEq, true_and, and_true] at h
    exact Prod.ext h.1 h.2
  zero := fun w => by kernel_rfl

end Go.Proofs.Ytieoegodhhiiiaa.Lmap
