/- The statements' 'short', and the walk of WireCuts. -/
import Derived.Test.YtpbmkapeieoiaaaTrip
import Derived.Test.YtpbmkapeieoiaaaAlive
import Derived.Lib.QuietBelow
import Derived.BigQuiet
import Derived.Deep.DeepCutAuto
namespace Go.Proofs.Ytpbmkapeieoiaaa.Values
open Go.RowKit hiding intOf
open Go.Lib Go.Sort Go.Proofs.Ytpbmkapeieoiaaa.Var Go.Proofs.Ytpbmkapeieoiaaa.Uints Go.Proofs.Ytpbmkapeieoiaaa.Takes Go.Proofs.Ytpbmkapeieoiaaa.Build Go.Proofs.Ytpbmkapeieoiaaa.Reads Go.Proofs.Ytpbmkapeieoiaaa.Ints Go.Proofs.Ytpbmkapeieoiaaa.Facts

/-- A value of the statements. -/
def valV (u n : Int) (b : Bool) (s : ByteArray) (v : Value) : Value := .agg #[.int .u64 u, .int .i64 n, .bool b, .string s, v]
def shortB (s : ByteArray) (l : List Int) : Bool := decide (s.size ≤ 400 ∧ l.length ≤ 400)

theorem short_any {u n : Int} {b : Bool} {s : ByteArray} {v : Value} {l : List Int} {w : World} (h : Reads w.heap.size w v l) (hs : s.size ≤ maxLen) :
    Calls Try.prog 10 #[.agg #[.int .u64 u, .int .i64 n, .bool b, .string s, v]] w fun e w' => e = .returned (.bool (shortB s l)) ∧ Below w.heap.size w w' := by
  obtain ⟨a, cap, rfl, hm⟩ := rshape h
  unfold maxLen at hs
  have hs' : (s.size : Int) ≤ 9223372036854775807 := by omega
  clear h hs
  by_cases h1 : s.size ≤ 400
  · have g1 : decide ((s.size : Int) ≤ 400) = true := by simp; omega
    by_cases h2 : l.length ≤ 400
    · have g2 : decide ((l.length : Int) ≤ 400) = true := by simp; omega
      have HS := Lib.hid (show shortB s l = true by simp [shortB, h1, h2])
      clear h1 h2
      go_enter Try.func10, Try.ntmps10
      go_wp2_with fail
      go_ret
      exact ⟨by rw [HS.out]; rfl, (Below.refl _ _).alloc (Nat.le_refl _) _⟩
    · have g2 : decide ((l.length : Int) ≤ 400) = false := by simp; omega
      have HS := Lib.hid (show shortB s l = false by simp [shortB]; omega)
      clear h1 h2
      go_enter Try.func10, Try.ntmps10
      go_wp2_with fail
      go_ret
      exact ⟨by rw [HS.out]; rfl, (Below.refl _ _).alloc (Nat.le_refl _) _⟩
  · have g1 : decide ((s.size : Int) ≤ 400) = false := by simp; omega
    have HS := Lib.hid (show shortB s l = false by simp [shortB]; omega)
    clear h1
    go_enter Try.func10, Try.ntmps10
    go_wp2_with fail
    go_ret
    exact ⟨by rw [HS.out]; rfl, (Below.refl _ _).alloc (Nat.le_refl _) _⟩

end Go.Proofs.Ytpbmkapeieoiaaa.Values
