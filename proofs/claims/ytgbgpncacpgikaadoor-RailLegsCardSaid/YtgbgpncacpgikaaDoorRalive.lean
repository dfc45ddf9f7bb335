/- The examples of layer 6's statements. -/
import Derived.Test.YtgbgpncacpgikaaDoorRout
import Derived.Test.YtgbgpncacpgikaaDoorRref
namespace Go.Proofs.YtgbgpncacpgikaaDoor.Ralive
open Go.RowKit Go.Lib Go.Proofs.YtgbgpncacpgikaaDoor.Rail Go.Proofs.YtgbgpncacpgikaaDoor.Rtab Go.Proofs.YtgbgpncacpgikaaDoor.Reads Go.Proofs.YtgbgpncacpgikaaDoor.Rlegs Go.Proofs.YtgbgpncacpgikaaDoor.Rout

set_option maxRecDepth 100000 in
set_option maxHeartbeats 1600000 in
theorem alive_any (w : World) (h : RTab w) :
    Calls Tryd.prog 15 #[] w fun e w' => e = .returned (.bool true) ∧ Below w.heap.size w w' := by
  have HD := Lib.hid h
  have H1 := Lib.hid (fun w h => out_any 2 0 2 w h)
  rw [show outF 2 0 2 = (2, true) from by decide] at H1
  have H2 := Lib.hid (fun w h => out_any 2 2 1 w h)
  rw [show outF 2 2 1 = (0, false) from by decide] at H2
  have H3 := Lib.hid (fun w h => need_any 3 3 2 w h)
  rw [show needF 3 3 2 = (0, true) from by decide] at H3
  have H4 := Lib.hid (fun w h => legs_any 2 0 w h)
  rw [show legsF 2 0 = [1, 2] from by decide] at H4
  have H5 := Lib.hid (fun w => sides_any 3 w)
  rw [show sidesF 3 = 4 from by decide] at H5
  have H6 := Lib.hid (fun w h => facing_any 2 0 w h)
  rw [show facF 2 0 = true from by decide] at H6
  clear h
  go_enter Tryd.func15, Tryd.ntmps15
  go_wp2_with fail
  refine (H1.out _ HD.out).mono ?_
  rintro e w1 ⟨rfl, b⟩
  have D1 := Lib.hid (rtab_next HD.out b)
  have B1 := Lib.hid b
  clear b
  go_wp2_with fail
  refine (H2.out _ D1.out).mono ?_
  rintro e w2 ⟨rfl, b⟩
  have D2 := Lib.hid (rtab_next D1.out b)
  have B2 := Lib.hid (bel_next B1.out b)
  clear b B1 D1
  go_wp2_with fail
  refine (H3.out _ D2.out).mono ?_
  rintro e w3 ⟨rfl, b⟩
  have D3 := Lib.hid (rtab_next D2.out b)
  have B3 := Lib.hid (bel_next B2.out b)
  clear b B2 D2
  go_wp2_with fail
  refine (H4.out _ D3.out).mono ?_
  rintro e w4 ⟨v, rfl, R, b⟩
  have D4 := Lib.hid (rtab_next D3.out b)
  have B4 := Lib.hid (bel_next B3.out b)
  have HR := Lib.hid R
  clear b B3 D3 R
  go_wp2_with fail
  refine (Ints.same_any (Ints.next_alloc HR.out _) (Ints.reads_lit [1, 2] rfl rfl rfl (by decide) (by decide))).mono ?_
  rintro e w5 ⟨rfl, b⟩
  have D5 := Lib.hid (rtab_next (rtab_next D4.out ((Below.refl _ _).alloc (Nat.le_refl _) _)) b)
  have B5 := Lib.hid (bel_next (Ints.bel_alloc B4.out _) b)
  clear b B4 D4
  rw [show Ints.sameB [1, 2] [1, 2] = true from by decide]
  go_wp2_with fail
  refine (H5.out _).mono ?_
  rintro e w' ⟨rfl, rfl⟩
  go_wp2_with fail
  refine (H6.out _ D5.out).mono ?_
  rintro e w6 ⟨rfl, b⟩
  have B6 := Lib.hid (bel_next B5.out b)
  clear b B5 D5
  go_wp2_with fail
  go_ret
  exact ⟨rfl, B6.out⟩

end Go.Proofs.YtgbgpncacpgikaaDoor.Ralive
