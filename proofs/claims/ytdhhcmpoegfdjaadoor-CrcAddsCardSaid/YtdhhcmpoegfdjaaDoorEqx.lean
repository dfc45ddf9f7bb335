/- Two arrays of four bytes are compared byte by byte. -/
import Derived.Test.YtdhhcmpoegfdjaaDoorSeal
import Derived.DeepKeys
namespace Go.Proofs.YtdhhcmpoegfdjaaDoor.Eqx
open Go.RowKit Go.Lib
theorem cells5 : Tryd.prog.cellsOf 5 = 1 := by kernel_rfl
theorem eq_step (w : World) (xs ys : Array Value) (k : Nat) (is : List Nat) (x y : Int) (hx : xs[k]? = some (.int .u8 x)) (hy : ys[k]? = some (.int .u8 y)) :
    (Op.eqItems 9999 5 1 xs ys (k :: is)).run Tryd.prog w = if x == y then (Op.eqItems 9999 5 1 xs ys is).run Tryd.prog w else .ok false w := by
  have pk : Tryd.prog.plainKey 5 = true := by kernel_rfl
  have px : ∀ (xs : Array Value) (off : Nat) (v : Value), xs[off]? = some v → (part 5 xs off).run Tryd.prog w = .ok v w := fun xs off v h => run_part_plain w pk h
  have pe : ∀ a b : Int, (Op.equalIn 9999 5 (.int .u8 a) (.int .u8 b)).run Tryd.prog w = .ok (a == b) w := fun a b => run_equalIn_int w 9998 _ _ _ a b Tryd.underlying5
  simp only [Op.eqItems, Sem.run_bind, Nat.mul_one]
  rw [px _ _ _ hx, Result.andThen_ok, px _ _ _ hy, Result.andThen_ok, pe, Result.andThen_ok]
  cases h0 : x == y
  · simp
  · simp
set_option maxRecDepth 100000 in
theorem eq4 (x0 x1 x2 x3 y0 y1 y2 y3 : Int) (w : World) : (Op.equalIn 10000 38 (.agg #[.int .u8 x0, .int .u8 x1, .int .u8 x2, .int .u8 x3]) (.agg #[.int .u8 y0, .int .u8 y1, .int .u8 y2, .int .u8 y3])).run Tryd.prog w = .ok (x0 == y0 && (x1 == y1 && (x2 == y2 && x3 == y3))) w := by
  obtain ⟨i, hi⟩ : ∃ i, Tryd.prog.info? 5 = some i := Option.isSome_iff_exists.1 (by kernel_rfl)
  rw [show (10000 : Nat) = 9999 + 1 from rfl, run_equalIn_array w 9999 _ _ Tryd.underlying38 hi]
  rw [cells5, show List.range 4 = [0, 1, 2, 3] from rfl]
  rw [eq_step w _ _ 0 _ x0 y0 rfl rfl, eq_step w _ _ 1 _ x1 y1 rfl rfl, eq_step w _ _ 2 _ x2 y2 rfl rfl, eq_step w _ _ 3 _ x3 y3 rfl rfl]
  cases x0 == y0 <;> cases x1 == y1 <;> cases x2 == y2 <;> cases x3 == y3 <;> rfl
end Go.Proofs.YtdhhcmpoegfdjaaDoor.Eqx
