/- The call of the statement LayoutChecks, from what the program's seven functions give. -/
import Derived.Test.YtieoegodhhiiiaaLali
import Derived.Deep.RegionLaw
import Derived.Lib.QuietBelow
import Derived.BigGuardPart
namespace Go.Proofs.Ytieoegodhhiiiaa.Lchk
open Go.Proofs.Ytieoegodhhiiiaa.Text hiding lineL
open Go.RowKit Go.Lib Go.Proofs.Ytieoegodhhiiiaa.Reads Go.Proofs.Ytieoegodhhiiiaa.Rows2 Go.Proofs.Ytieoegodhhiiiaa.Lay Go.Proofs.Ytieoegodhhiiiaa.Layf Go.Proofs.Ytieoegodhhiiiaa.Lcon Go.Proofs.Ytieoegodhhiiiaa.Ldup Go.Proofs.Ytieoegodhhiiiaa.Lext Go.Proofs.Ytieoegodhhiiiaa.Ljoi Go.Proofs.Ytieoegodhhiiiaa.Lmem Go.Proofs.Ytieoegodhhiiiaa.Lnmd Go.Proofs.Ytieoegodhhiiiaa.Lfew Go.Proofs.Ytieoegodhhiiiaa.Lsev Go.Proofs.Ytieoegodhhiiiaa.Lali Go.Proofs.Ytieoegodhhiiiaa.Lbal

set_option maxRecDepth 100000 in
set_option maxHeartbeats 3200000 in
theorem checks_any {D : World → Prop} (S : Seven D) (L : Lay) {vs ve vj vg vb : Value} (w : World) (h : LayAt (In w) w L vs ve vj vg vb) (hd : D w) :
    Calls Try.prog 3 #[layV L vs ve vj vg vb] w (BoolOut true w) := by
  have b0 := (Below.refl w.heap.size w).alloc (Nat.le_refl _) (.cells #[.string (bs L.name), vs, ve, vj, vg, vb] 28)
  have hh := h.box (.cells #[.string (bs L.name), vs, ve, vj, vg, vb] 28)
  have hx := lbox_new w 28 L vs ve vj vg vb
  have dd := S.keep _ _ hd b0
  obtain ⟨W, hW⟩ : ∃ W, w.alloc (.cells #[.string (bs L.name), vs, ve, vj, vg, vb] 28) = W := ⟨_, rfl⟩
  rw [hW] at b0 hh hx dd
  have HW := Lib.hid hW
  have B0 := Lib.hid b0
  have HF := Lib.hid (fun d os => Calls.regrown_of (w := W) (d := d) (os := os) (few_any L _ (hh.next (below_regrown W d os))))
  have HA := Lib.hid (fun d os => Calls.regrown_of (w := W) (d := d) (os := os) (alive_any S _ (S.keep _ _ dd (below_regrown W d os))))
  have HC := Lib.hid (fun (hf : fewB L = true) d os => Calls.regrown_of (w := W) (d := d) (os := os) (S.chk L _ _ _ _ _ _ (hh.next (below_regrown W d os)) (S.keep _ _ dd (below_regrown W d os)) hf))
  have HR := Lib.hid (fun (hf : fewB L = true) d os => Calls.regrown_of (w := W) (d := d) (os := os) (rcheck_any L _ (hh.next (below_regrown W d os)) (by have := few_yes hf; omega) (by have := few_yes hf; omega) (by have := few_yes hf; omega) (by have := few_yes hf; omega) (by have := few_yes hf; omega)))
  obtain ⟨x0, x1, x2, x3, x4, x5⟩ := hx
  have k0 := cell_regrown x0
  have k1 := cell_regrown x1
  have k2 := cell_regrown x2
  have k3 := cell_regrown x3
  have k4 := cell_regrown x4
  have k5 := cell_regrown x5
  clear h hh hd dd hW b0
  obtain ⟨r, hr⟩ : ∃ r, checkF L = r := ⟨_, rfl⟩
  rw [hr] at HC HR
  have hrr : (r == r) = true := by simp
  clear hr
  obtain ⟨b, hb⟩ : ∃ b, fewB L = b := ⟨_, rfl⟩
  rw [hb] at HF HC HR
  clear hb
  unfold layV
  cases b
  · clear HC HR
    go_enter Try.func3, Try.ntmps3
    go_wp2_with fail
    rw [HW.out]
    refine wp_region_quiet_below (by kernel_rfl) (by kernel_rfl) ?_
    repeat (quiet_step (first | exact HF.out _ _ | exact HA.out _ _))
    refine wpQuiet_nil ?_
    intro _ hw'
    obtain ⟨⟨dq, osq⟩, hw''⟩ := hw'
    subst hw''
    have HB2 := Lib.hid (bel_next B0.out (below_regrown W dq osq))
    go_wp2_with fail
    go_ret
    exact ⟨rfl, HB2.out⟩
  · have HC' := Lib.hid (HC.out rfl)
    have HR' := Lib.hid (HR.out rfl)
    clear HC HR
    go_enter Try.func3, Try.ntmps3
    go_wp2_with fail
    rw [HW.out]
    refine wp_region_quiet_below (by kernel_rfl) (by kernel_rfl) ?_
    repeat (quiet_step (first | exact HF.out _ _ | exact HA.out _ _ | exact HC'.out _ _ | exact HR'.out _ _))
    refine wpQuiet_nil ?_
    intro _ hw'
    obtain ⟨⟨dq, osq⟩, hw''⟩ := hw'
    subst hw''
    have HB2 := Lib.hid (bel_next B0.out (below_regrown W dq osq))
    go_wp2_with fail
    go_ret
    exact ⟨rfl, HB2.out⟩

end Go.Proofs.Ytieoegodhhiiiaa.Lchk
