/- The statements' 'is': a part of a text is an encoding. -/
import Derived.Test.YtpbmkapeieoiaaaFacts
import Derived.Test.YtpbmkapeieoiaaaAlive
namespace Go.Proofs.Ytpbmkapeieoiaaa.Facts
open Go.RowKit Go.Lib Go.Proofs.Ytpbmkapeieoiaaa.Var Go.Proofs.Ytpbmkapeieoiaaa.Uints Go.Proofs.Ytpbmkapeieoiaaa.Takes Go.Proofs.Ytpbmkapeieoiaaa.Build Go.Proofs.Ytpbmkapeieoiaaa.Reads Go.Proofs.Ytpbmkapeieoiaaa.Ints

theorem is_any (s : ByteArray) (a b : Nat) (code : ByteArray) (w : World) (h1 : a ≤ b) (h2 : b ≤ s.size) (h : s.extract a b = code) :
    Calls Try.prog 35 #[.string s, .int .i64 (a : Int), .int .i64 (b : Int), .string code] w fun e w' => e = .returned (.bool true) ∧ w = w' := by
  subst h
  have g1 : decide ((0 : Int) ≤ (a : Int)) = true := by simp
  have g2 : decide ((a : Int) ≤ (b : Int)) = true := by simp; omega
  have g3 : decide ((b : Int) ≤ (s.size : Int)) = true := by simp; omega
  have g4 : decide (a ≤ b) = true := by simp; omega
  have g5 : decide (b ≤ s.size) = true := by simp; omega
  go_enter Try.func35, Try.ntmps35
  go_wp2_with fail
  go_ret
  exact ⟨rfl, rfl⟩

end Go.Proofs.Ytpbmkapeieoiaaa.Facts
