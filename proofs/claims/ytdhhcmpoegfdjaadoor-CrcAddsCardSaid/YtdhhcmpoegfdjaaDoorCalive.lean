/- The examples of layer 4's statements. -/
import Derived.Test.YtdhhcmpoegfdjaaDoorOpn
import Derived.Test.YtdhhcmpoegfdjaaDoorRchain
import Derived.Test.YtdhhcmpoegfdjaaDoorHexs
namespace Go.Proofs.YtdhhcmpoegfdjaaDoor.Calive
open Go.RowKit Go.Proofs.YtdhhcmpoegfdjaaDoor.Crc Go.Proofs.YtdhhcmpoegfdjaaDoor.Sum Go.Proofs.YtdhhcmpoegfdjaaDoor.Seal Go.Proofs.YtdhhcmpoegfdjaaDoor.Opn Go.Proofs.YtdhhcmpoegfdjaaDoor.Ownb Go.Proofs.YtdhhcmpoegfdjaaDoor.Fnv Go.Proofs.YtdhhcmpoegfdjaaDoor.Rchain Go.Proofs.YtdhhcmpoegfdjaaDoor.Hex

theorem openV_seal (s : ByteArray) : openV (sealS s) = .tuple #[.string s, .int .i64 0] := by
  unfold openV
  rw [sealS_list, opened_sealed]
  rfl
theorem ex_sum : crcS ⟨#[49, 50, 51, 52, 53, 54, 55, 56, 57]⟩ = 3421780262 := by decide +kernel
theorem ex_hex : hexS 255 = ⟨#[48, 48, 48, 48, 48, 48, 48, 48, 48, 48, 48, 48, 48, 48, 102, 102]⟩ := by
  have : (hexS 255).data.toList = [48, 48, 48, 48, 48, 48, 48, 48, 48, 48, 48, 48, 48, 48, 102, 102] := by decide +kernel
  apply ByteArray.ext
  apply Array.toList_inj.1
  exact this
theorem ex_chain : ¬ chainS 0 ⟨#[97]⟩ = chainS 0 ⟨#[98]⟩ := by decide +kernel
theorem seal2 : (sealS ⟨#[97, 98]⟩).size ≤ 140737488355328 := by
  have : (sealS ⟨#[97, 98]⟩).size = 6 := by rfl
  omega

set_option maxRecDepth 100000 in
set_option maxHeartbeats 1600000 in
theorem alive_any (w : World) (h : Deb w) :
    Calls Tryd.prog 12 #[] w fun e w' => e = .returned (.bool true) ∧ Below w.heap.size w w' := by
  have HD := Lib.hid h
  have H1 := Lib.hid (fun w => seal_any ⟨#[97, 98]⟩ w (by decide))
  have H2 := Lib.hid (fun w => open_any (sealS ⟨#[97, 98]⟩) w seal2)
  rw [openV_seal] at H2
  obtain ⟨S, hS⟩ : ∃ S, sealS ⟨#[97, 98]⟩ = S := ⟨_, rfl⟩
  rw [hS] at H1 H2
  have H3 := Lib.hid (fun w => sum_any ⟨#[49, 50, 51, 52, 53, 54, 55, 56, 57]⟩ w (by decide))
  rw [ex_sum] at H3
  have H4 := Lib.hid (fun w h => hex_any 255 w (by decide) h)
  rw [ex_hex] at H4
  have H5 := Lib.hid (fun w => chain_any 0 ⟨#[97]⟩ w (by decide) (by decide))
  have H6 := Lib.hid (fun w => chain_any 0 ⟨#[98]⟩ w (by decide) (by decide))
  have hne := ex_chain
  obtain ⟨x, hx⟩ : ∃ x, chainS 0 ⟨#[97]⟩ = x := ⟨_, rfl⟩
  obtain ⟨y, hy⟩ : ∃ y, chainS 0 ⟨#[98]⟩ = y := ⟨_, rfl⟩
  rw [hx] at H5 hne
  rw [hy] at H6 hne
  have hq : ((x : Int) == (y : Int)) = false := by simp; omega
  have hq2 : ((x : Int) != (y : Int)) = true := by simp; omega
  clear h hS hx hy hne
  go_enter Tryd.func12, Tryd.ntmps12
  go_wp2_with fail
  refine (H1.out _).mono ?_
  rintro e w1 ⟨rfl, b⟩
  have B1 := Lib.hid b
  clear b
  go_wp2_with fail
  refine (H2.out _).mono ?_
  rintro e w2 ⟨rfl, b⟩
  have B2 := Lib.hid (bel_next B1.out b)
  clear b B1
  go_wp2_with fail
  refine (H3.out _).mono ?_
  rintro e w3 ⟨rfl, b⟩
  have B3 := Lib.hid (bel_next B2.out b)
  clear b B2
  go_wp2_with fail
  refine (H4.out _ (deb_next HD.out B3.out)).mono ?_
  rintro e w4 ⟨rfl, b⟩
  have B4 := Lib.hid (bel_next B3.out b)
  clear b B3
  go_wp2_with fail
  refine (H5.out _).mono ?_
  rintro e w5 ⟨rfl, b⟩
  have B5 := Lib.hid (bel_next B4.out b)
  clear b B4
  go_wp2_with fail
  refine (H6.out _).mono ?_
  rintro e w6 ⟨rfl, b⟩
  have B6 := Lib.hid (bel_next B5.out b)
  clear b B5
  go_wp2_with fail
  go_ret
  exact ⟨rfl, B6.out⟩

end Go.Proofs.YtdhhcmpoegfdjaaDoor.Calive
