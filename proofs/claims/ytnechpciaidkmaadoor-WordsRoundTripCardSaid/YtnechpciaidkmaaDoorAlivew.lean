/- The examples of layer 5's statements. -/
import Derived.Test.YtnechpciaidkmaaDoorFlistw
namespace Go.Proofs.YtnechpciaidkmaaDoor.Alivew
open Go.RowKit Go.Lib Go.Proofs.YtnechpciaidkmaaDoor.Text Go.Proofs.YtnechpciaidkmaaDoor.Numt Go.Proofs.YtnechpciaidkmaaDoor.Kind Go.Proofs.YtnechpciaidkmaaDoor.Word Go.Proofs.YtnechpciaidkmaaDoor.Rword Go.Proofs.YtnechpciaidkmaaDoor.Reads Go.Proofs.YtnechpciaidkmaaDoor.Rows2 Go.Proofs.YtnechpciaidkmaaDoor.Samew Go.Proofs.YtnechpciaidkmaaDoor.Debw Go.Proofs.YtnechpciaidkmaaDoor.Ownl Go.Proofs.YtnechpciaidkmaaDoor.Linw Go.Proofs.YtnechpciaidkmaaDoor.Joinw Go.Proofs.YtnechpciaidkmaaDoor.Rjoinw Go.Proofs.YtnechpciaidkmaaDoor.Fmtw Go.Proofs.YtnechpciaidkmaaDoor.Intw Go.Proofs.YtnechpciaidkmaaDoor.Listw Go.Proofs.YtnechpciaidkmaaDoor.Flistw

def exL : List (List (List UInt8)) := [[[97], [98]], [[99]]]
theorem ex_lines : linesR [97, 32, 98, 10, 99, 10] = (exL, 0, 0) := by decide +kernel
theorem ex_lines2 : linesR [97, 32, 98, 10, 99] = ([], 2, 4) := by decide +kernel
theorem ex_join : joinR exL = ([97, 32, 98, 10, 99, 10], 0) := by decide +kernel
theorem ex_joinT : (joinT exL).length ≤ 1000000000000 := by decide +kernel
theorem ex_int : intR [45, 49, 50] = (-12, 0) := by decide +kernel
theorem ex_int2 : intR [48, 48, 55] = (0, 4) := by decide +kernel
theorem ex_list : listR [51, 44, 45, 49, 44, 51] = ([3, -1, 3], 0) := by decide +kernel
theorem ex_itoa : itoa (-12) = [45, 49, 50] := by
  have h := itoa_of_int ex_int
  exact h
theorem ex_name : nameL [115, 95, 49] = true := by decide +kernel
theorem ex_name2 : nameL [49, 115] = false := by decide +kernel

def exW (w : World) : World :=
  ((w.alloc (.cells #[.string ⟨#[97]⟩, .string ⟨#[98]⟩] 9)).alloc (.cells #[.string ⟨#[99]⟩] 9)).alloc (.cells #[.slice (some ⟨w.heap.size, 0, none⟩) 2 2, .slice (some ⟨w.heap.size + 1, 0, none⟩) 1 1] 33)
theorem exW_below (w : World) : Below w.heap.size w (exW w) := (((Below.refl _ w).alloc (Nat.le_refl _) _).alloc (by simp) _).alloc (by simp; omega) _
/-- The literal of the examples. -/
theorem ex_lns (w : World) : Lns (fun b => b < (exW w).heap.size) (exW w) (.slice (some ⟨w.heap.size + 1 + 1, 0, none⟩) 2 2) exL := by
  have s1 := strs_fresh [[97], [98]] (T := 9) (w := w) (cs := #[.string ⟨#[97]⟩, .string ⟨#[98]⟩]) (n := 2) rfl rfl (by decide) (by decide)
  obtain ⟨W1, hW1⟩ : ∃ W1, w.alloc (.cells #[.string ⟨#[97]⟩, .string ⟨#[98]⟩] 9) = W1 := ⟨_, rfl⟩
  have z1 : W1.heap.size = w.heap.size + 1 := by rw [← hW1]; simp
  rw [hW1] at s1
  have s2 := strs_fresh [[99]] (T := 9) (w := W1) (cs := #[.string ⟨#[99]⟩]) (n := 1) rfl rfl (by decide) (by decide)
  have b1 : Below W1.heap.size W1 (W1.alloc (.cells #[.string ⟨#[99]⟩] 9)) := (Below.refl _ W1).alloc (Nat.le_refl _) _
  obtain ⟨W2, hW2⟩ : ∃ W2, W1.alloc (.cells #[.string ⟨#[99]⟩] 9) = W2 := ⟨_, rfl⟩
  have z2 : W2.heap.size = w.heap.size + 1 + 1 := by rw [← hW2]; simp [z1]
  rw [hW2] at s2 b1
  have s1' := s1.keep (keep_next b1)
  have r := row_fresh [.slice (some ⟨w.heap.size, 0, none⟩) 2 2, .slice (some ⟨w.heap.size + 1, 0, none⟩) 1 1] (T := 33) (w := W2) (cs := #[.slice (some ⟨w.heap.size, 0, none⟩) 2 2, .slice (some ⟨w.heap.size + 1, 0, none⟩) 1 1]) (n := 2) rfl rfl (by decide)
  have b2 : Below W2.heap.size W2 (W2.alloc (.cells #[.slice (some ⟨w.heap.size, 0, none⟩) 2 2, .slice (some ⟨w.heap.size + 1, 0, none⟩) 1 1] 33)) := (Below.refl _ W2).alloc (Nat.le_refl _) _
  have hE : exW w = W2.alloc (.cells #[.slice (some ⟨w.heap.size, 0, none⟩) 2 2, .slice (some ⟨w.heap.size + 1, 0, none⟩) 1 1] 33) := by
    rw [exW, hW1, hW2]
  rw [hE, ← z2]
  rw [z1] at s2
  refine ⟨_, r, rfl, fun j x l hx hl => ?_⟩
  match j with
  | 0 =>
    simp [exL] at hx hl
    subst hx hl
    exact s1'.keep (keep_next b2)
  | 1 =>
    simp [exL] at hx hl
    subst hx hl
    exact s2.keep (keep_next b2)
  | j + 2 => simp [exL] at hl
/-- The literal list of numbers. -/
theorem ex_ints (w : World) : Reads (w.alloc (.cells #[.int .i64 3, .int .i64 (-1), .int .i64 3] 3)).heap.size (w.alloc (.cells #[.int .i64 3, .int .i64 (-1), .int .i64 3] 3)) (.slice (some ⟨w.heap.size, 0, none⟩) 3 3) [3, -1, 3] := by
  refine reads_mk [3, -1, 3] (by simp) (Nat.le_refl _) (by decide) (by decide) fun j hj => ?_
  rw [World.cell?_alloc_at _ _ _ _ rfl]
  match j with
  | 0 => rfl
  | 1 => rfl
  | 2 => rfl
  | j + 3 => simp at hj; omega

set_option maxRecDepth 100000 in
set_option maxHeartbeats 3200000 in
theorem alive_any (w : World) (h : Deb w) : Calls Tryd.prog 11 #[] w (BoolOut true w) := by
  have HD := Lib.hid h
  have H1 := Lib.hid (fun w h => lines_any ⟨#[97, 32, 98, 10, 99, 10]⟩ w (by decide) h)
  rw [show linesR (⟨#[97, 32, 98, 10, 99, 10]⟩ : ByteArray).data.toList = _ from ex_lines] at H1
  have H2 := Lib.hid (fun w h => lines_any ⟨#[97, 32, 98, 10, 99]⟩ w (by decide) h)
  rw [show linesR (⟨#[97, 32, 98, 10, 99]⟩ : ByteArray).data.toList = _ from ex_lines2] at H2
  have H3 := Lib.hid (fun w h => int_any ⟨#[45, 49, 50]⟩ w (by decide) h)
  rw [show intV (⟨#[45, 49, 50]⟩ : ByteArray).data.toList = _ from intV_of ex_int] at H3
  have H4 := Lib.hid (fun w h => int_any ⟨#[48, 48, 55]⟩ w (by decide) h)
  rw [show intV (⟨#[48, 48, 55]⟩ : ByteArray).data.toList = _ from intV_of ex_int2] at H4
  have H5 := Lib.hid (fun w h => list_any ⟨#[51, 44, 45, 49, 44, 51]⟩ w (by decide) h)
  rw [show listR (⟨#[51, 44, 45, 49, 44, 51]⟩ : ByteArray).data.toList = _ from ex_list] at H5
  have H6 := Lib.hid (fun w h => format_any (-12) w (by decide) (by decide) h)
  rw [ex_itoa] at H6
  have H7 := Lib.hid (fun w => name_any ⟨#[115, 95, 49]⟩ w)
  rw [show nameL (⟨#[115, 95, 49]⟩ : ByteArray).data.toList = _ from ex_name] at H7
  have H8 := Lib.hid (fun w => name_any ⟨#[49, 115]⟩ w)
  rw [show nameL (⟨#[49, 115]⟩ : ByteArray).data.toList = _ from ex_name2] at H8
  have q1 : ((bs [97, 32, 98, 10, 99, 10]).toList == [97, 32, 98, 10, 99, 10]) = true := by rw [ByteArray.toList_eq]; rfl
  have q2 : ((bs [45, 49, 50]).toList == [45, 49, 50]) = true := by rw [ByteArray.toList_eq]; rfl
  have q3 : ((bs [45]).toList == [45]) = true := by rw [ByteArray.toList_eq]; rfl
  clear h
  go_enter Tryd.func11, Tryd.ntmps11
  go_wp2_with fail
  refine (H1.out _ HD.out).mono ?_
  rintro e w1 ⟨v1, rfl, hv, b⟩
  have V1 := Lib.hid hv
  have B1 := Lib.hid b
  have D1 := Lib.hid (deb_next HD.out b)
  clear b hv
  go_wp2_with fail
  refine (H2.out _ D1.out).mono ?_
  rintro e w2 ⟨v2, rfl, _, b⟩
  have V2 := Lib.hid (V1.out.keep (keep_next b))
  have B2 := Lib.hid (bel_next B1.out b)
  have D2 := Lib.hid (deb_next D1.out b)
  clear b B1 D1 V1
  go_wp2_with fail
  refine (join_any (ex_lns w2) ex_joinT).mono ?_
  rintro e w3 ⟨rfl, b⟩
  rw [joinV_of ex_join]
  have B3x := Lib.hid ((exW_below w2).trans (b.mono (exW_below w2).size))
  have V3 := Lib.hid (V2.out.keep (keep_next B3x.out))
  have B3 := Lib.hid (bel_next B2.out B3x.out)
  have D3 := Lib.hid (deb_next D2.out B3x.out)
  clear b B2 D2 V2 B3x
  go_wp2_with fail
  refine (H3.out _ D3.out).mono ?_
  rintro e w4 ⟨rfl, b⟩
  have V4 := Lib.hid (V3.out.keep (keep_next b))
  have B4 := Lib.hid (bel_next B3.out b)
  have D4 := Lib.hid (deb_next D3.out b)
  clear b B3 D3 V3
  go_wp2_with fail
  refine (H4.out _ D4.out).mono ?_
  rintro e w5 ⟨rfl, b⟩
  have V5 := Lib.hid (V4.out.keep (keep_next b))
  have B5 := Lib.hid (bel_next B4.out b)
  have D5 := Lib.hid (deb_next D4.out b)
  clear b B4 D4 V4
  go_wp2_with fail
  refine (H5.out _ D5.out).mono ?_
  rintro e w6 ⟨v6, rfl, hi, b⟩
  have I6 := Lib.hid hi
  have V6 := Lib.hid (V5.out.keep (keep_next b))
  have B6 := Lib.hid (bel_next B5.out b)
  have D6 := Lib.hid (deb_next D5.out b)
  clear b B5 D5 V5 hi
  go_wp2_with fail
  refine (same_any (V6.out.keep (keep_next (exW_below w6))) (ex_lns w6)).mono ?_
  rintro e w7 ⟨rfl, b⟩
  have B7x := Lib.hid ((exW_below w6).trans (b.mono (exW_below w6).size))
  have I7 := Lib.hid (ints_next I6.out B7x.out)
  have B7 := Lib.hid (bel_next B6.out B7x.out)
  have D7 := Lib.hid (deb_next D6.out B7x.out)
  clear b B6 D6 V6 I6 B7x
  go_wp2_with fail
  have b8 := (Below.refl w7.heap.size w7).alloc (Nat.le_refl _) (.cells #[.int .i64 3, .int .i64 (-1), .int .i64 3] 3)
  refine (sameInts_any (ints_next I7.out b8) (ex_ints w7)).mono ?_
  rintro e w8 ⟨rfl, b⟩
  have B8x := Lib.hid (b8.trans (b.mono b8.size))
  have B8 := Lib.hid (bel_next B7.out B8x.out)
  have D8 := Lib.hid (deb_next D7.out B8x.out)
  clear b B7 D7 I7 B8x b8
  go_wp2_with fail
  refine (H6.out _ D8.out).mono ?_
  rintro e w9 ⟨rfl, b⟩
  have B9 := Lib.hid (bel_next B8.out b)
  have D9 := Lib.hid (deb_next D8.out b)
  clear b B8 D8
  go_wp2_with fail
  refine (H7.out _).mono ?_
  rintro e w10 ⟨rfl, b⟩
  have B10 := Lib.hid (bel_next B9.out b)
  have D10 := Lib.hid (deb_next D9.out b)
  clear b B9 D9
  go_wp2_with fail
  refine (H8.out _).mono ?_
  rintro e w11 ⟨rfl, b⟩
  have B11 := Lib.hid (bel_next B10.out b)
  have D11 := Lib.hid (deb_next D10.out b)
  clear b B10 D10
  go_wp2_with fail
  refine (formatList_any (reads_nil _ _) (by decide) D11.out).mono ?_
  rintro e w12 ⟨rfl, b⟩
  have B12 := Lib.hid (bel_next B11.out b)
  rw [fmt_nil]
  clear b B11 D11
  go_wp2_with fail
  go_ret
  exact ⟨rfl, B12.out⟩

end Go.Proofs.YtnechpciaidkmaaDoor.Alivew
