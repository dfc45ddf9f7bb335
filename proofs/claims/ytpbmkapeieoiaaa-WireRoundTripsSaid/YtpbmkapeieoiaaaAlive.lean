/- The examples of layer 3's statements. -/
import Derived.Test.YtpbmkapeieoiaaaTintw
namespace Go.Proofs.Ytpbmkapeieoiaaa.Takes
open Go.RowKit Go.Lib Go.Proofs.Ytpbmkapeieoiaaa.Var Go.Proofs.Ytpbmkapeieoiaaa.Uints Go.Proofs.Ytpbmkapeieoiaaa.Reads Go.Proofs.Ytpbmkapeieoiaaa.Ints

theorem ex1 : tiV ⟨#[128, 1]⟩ 0 = .tuple #[.int .i64 64, .int .i64 2, .int .i64 0] := tiV_of (show tu ⟨#[128, 1]⟩ 0 = (128, 2, 0) by decide)
theorem ex2 : tl ⟨#[2, 2, 3, 33]⟩ 0 2 = ([1, -2], 3, 0) := by decide
theorem ex3 : ttV ⟨#[3, 97, 98]⟩ 0 9 = .tuple #[.string ⟨#[]⟩, .int .i64 0, .int .i64 5] := by
  have : tc ⟨#[3, 97, 98]⟩ 0 9 = (0, 0, 5) := by decide
  simp [ttV, this]
theorem ex4 : ttV ⟨#[3, 97, 98]⟩ 0 2 = .tuple #[.string ⟨#[]⟩, .int .i64 0, .int .i64 2] := by
  have : tc ⟨#[3, 97, 98]⟩ 0 2 = (0, 0, 2) := by decide
  simp [ttV, this]
theorem ex5 : enc 300 = ⟨#[172, 2]⟩ := by
  unfold enc str
  rw [uvarint_big (by decide), uvarint_small (by decide)]
  rfl
theorem ex6 : intS (-1) = ⟨#[1]⟩ := by
  unfold intS enc str
  rw [show zigzag (-1) = 1 by decide, uvarint_small (by decide)]
  rfl
theorem ex7 : textS ⟨#[97, 98]⟩ = ⟨#[2, 97, 98]⟩ := by
  unfold textS enc str
  rw [show (ByteArray.mk #[97, 98]).size = 2 by rfl, uvarint_small (by decide)]
  rfl

set_option maxRecDepth 100000 in
set_option maxHeartbeats 800000 in
theorem alive_any (w : World) :
    Calls Try.prog 11 #[] w fun e w' => e = .returned (.bool true) ∧ Below w.heap.size w w' := by
  go_enter Try.func11, Try.ntmps11
  go_wp2_with fail
  refine (takeInt_any ⟨#[128, 1]⟩ 0 _ (by decide)).mono ?_
  rintro e w1 ⟨rfl, b1⟩
  rw [ex1]
  have B1 := Lib.hid b1
  clear b1
  go_wp2_with fail
  refine (takeInts_any ⟨#[2, 2, 3, 33]⟩ 0 2 _ (by decide) (by decide)).mono ?_
  rw [ex2]
  rintro e w2 ⟨v, rfl, R, b2⟩
  have B2 := Lib.hid (bel_next B1.out b2)
  have R2 := Lib.hid R
  clear b2 B1 R
  go_wp2_with fail
  refine (takeText_any ⟨#[3, 97, 98]⟩ 0 9 _ (by decide) (by decide)).mono ?_
  rintro e w3 ⟨rfl, b3⟩
  rw [ex3]
  have B3 := Lib.hid (bel_next B2.out b3)
  have R3 := Lib.hid (next R2.out b3)
  clear b3 B2 R2
  go_wp2_with fail
  refine (takeText_any ⟨#[3, 97, 98]⟩ 0 2 _ (by decide) (by decide)).mono ?_
  rintro e w4 ⟨rfl, b4⟩
  rw [ex4]
  have B4 := Lib.hid (bel_next B3.out b4)
  have R4 := Lib.hid (next R3.out b4)
  clear b4 B3 R3
  go_wp2_with fail
  refine (uint_any 300 _ (by decide)).mono ?_
  rintro e w5 ⟨rfl, b5⟩
  rw [ex5]
  have B5 := Lib.hid (bel_next B4.out b5)
  have R5 := Lib.hid (next R4.out b5)
  clear b5 B4 R4
  go_wp2_with fail
  refine (int_any (-1) _ (by decide) (by decide)).mono ?_
  rintro e w6 ⟨rfl, b6⟩
  rw [ex6]
  have B6 := Lib.hid (bel_next B5.out b6)
  have R6 := Lib.hid (next R5.out b6)
  clear b6 B5 R5
  go_wp2_with fail
  refine (text_any ⟨#[97, 98]⟩ _ (by decide)).mono ?_
  rintro e w7 ⟨rfl, b7⟩
  rw [ex7]
  have B7 := Lib.hid (bel_next B6.out b7)
  have R7 := Lib.hid (next R6.out b7)
  clear b7 B6 R6
  go_wp2_with fail
  refine (same_any (xs := [1, -2]) (ys := [1, -2]) (next_alloc R7.out _) (reads_lit _ rfl rfl rfl (by decide) (by decide))).mono ?_
  rintro e w8 ⟨rfl, b8⟩
  rw [show sameB [1, -2] [1, -2] = true by decide]
  have B8 := Lib.hid (bel_next (bel_alloc B7.out _) b8)
  clear b8 B7 R7
  go_wp2_with fail
  go_ret
  exact ⟨rfl, B8.out⟩

end Go.Proofs.Ytpbmkapeieoiaaa.Takes
