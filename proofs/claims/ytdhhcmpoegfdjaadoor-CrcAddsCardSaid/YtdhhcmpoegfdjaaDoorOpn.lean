/- The calls of crc.Open and the reference's Open. -/
import Derived.Test.YtdhhcmpoegfdjaaDoorEqx
import Derived.Laws.Cover3
import Derived.Deep.RegionWith
import Derived.WalkSpells
import Derived.Lib.Strings
import Derived.WideShapes
namespace Go.Proofs.YtdhhcmpoegfdjaaDoor.Opn
open Go.RowKit Go.Lib Go.WideShapes Go.Proofs.YtdhhcmpoegfdjaaDoor.Crc Go.Proofs.YtdhhcmpoegfdjaaDoor.Sum Go.Proofs.YtdhhcmpoegfdjaaDoor.Seal Go.Proofs.YtdhhcmpoegfdjaaDoor.Eqx

def openV (s : ByteArray) : Value := .tuple #[.string (str (opened s.data.toList).1), .int .i64 ((opened s.data.toList).2 : Int)]

set_option maxRecDepth 100000 in
theorem open_short (s : ByteArray) (w : World) (hs : s.size < 4) :
    Calls Tryd.prog 13 #[.string s] w fun e w' => e = .returned (openV s) ∧ w = w' := by
  have HV := Lib.hid (show openV s = .tuple #[.string ⟨#[]⟩, .int .i64 5] by
    unfold openV opened
    rw [if_pos (by simpa using hs)]
    rfl)
  have h : (s.size : Int) - 4 < 0 := by omega
  go_enter Tryd.func13, Tryd.ntmps13
  go_wp2_with fail
  go_ret2
  exact ⟨by rw [HV.out]; rfl, rfl⟩

/-- The world behind the conversion of a text to bytes. -/
def brow (r : ByteArray) (w : World) : Obj := .cells (bytesRow r (grownCap w r.size 0 5)) 5 ((bytesRow r (grownCap w r.size 0 5)).size, (bytesRow r (grownCap w r.size 0 5)).size + 1)
def bcap (r : ByteArray) (w : World) : Nat := grownCap w r.size 0 5
def cw (r : ByteArray) (w : World) : World := w.drew.alloc (brow r w)
theorem cw_size (r : ByteArray) (w : World) : (cw r w).heap.size = w.heap.size + 1 := by simp [cw]
theorem cw_below (r : ByteArray) (w : World) : Below w.heap.size w (cw r w) := ((Below.refl _ _).drew).alloc (Nat.le_refl _) _
theorem conv_run (r : ByteArray) (h : r.size = 4) (w : World) : (convert 9 30 (.string r)).run Tryd.prog w = .ok (.slice (some ⟨w.heap.size, 0, none⟩) 4 (bcap r w)) (cw r w) := by
  have := run_bytes_of_string (P := Tryd.prog) w 9 30 5 r Tryd.underlying9 Tryd.underlying30 Tryd.underlying5
  unfold bcap cw brow
  rw [h] at this ⊢
  exact this
theorem cw_cell (r : ByteArray) (l : List UInt8) (h : r.data.toList = l) (w : World) (j : Nat) (hj : j < l.length) : (cw r w).cell? ⟨w.heap.size, j, none⟩ = some (.int .u8 (l[j].toNat : Int)) := by
  subst h
  unfold cw brow
  rw [show w.heap.size = w.drew.heap.size from rfl, World.cell?_alloc_mark, bytesRow_at r _ j (by simpa using hj)]
  simp
theorem bcell {W w1 : World} (hb : Below W.heap.size W w1) : (∀ b o, b < W.heap.size → w1.cell? ⟨b, o, none⟩ = W.cell? ⟨b, o, none⟩) ∧ (∀ b o, b < W.heap.size → w1.frozen? ⟨b, o, none⟩ = W.frozen? ⟨b, o, none⟩) :=
  ⟨fun b o h => hb.cell (p := ⟨b, o, none⟩) h, fun b o h => hb.frozen (p := ⟨b, o, none⟩) h⟩
theorem below_drewN (w : World) (n : Nat) : Below w.heap.size w (w.drewN n) := ⟨rfl, rfl, rfl, Nat.le_refl _, fun _ _ => rfl⟩

/-! What the bytes say. -/
theorem size_list (s : ByteArray) : s.data.toList.length = s.size := by simp
theorem extract_drop (s : ByteArray) (k : Nat) : (s.extract k s.size).data.toList = s.data.toList.drop k := by
  rw [Lib.extract_data, ← size_list, List.take_of_length_le]
  simp
theorem extract_take (s : ByteArray) (k : Nat) : s.extract 0 k = str (s.data.toList.take k) := by
  apply ByteArray.ext
  apply Array.toList_inj.1
  rw [Lib.extract_data]
  simp [str]
theorem four (l : List UInt8) (h : l.length = 4) : ∃ a b c d, l = [a, b, c, d] := by
  match l, h with
  | [a, b, c, d], _ => exact ⟨a, b, c, d, rfl⟩
def qB (b0 b1 b2 b3 : UInt8) (x : Nat) : Bool := ((b0.toNat : Int) == (x : Int) / 16777216) && (((b1.toNat : Int) == (x : Int) / 65536 % 256) && (((b2.toNat : Int) == (x : Int) / 256 % 256) && ((b3.toNat : Int) == (x : Int) % 256)))
theorem eq_byte {b : UInt8} {n : Nat} (hn : n < 256) : (b.toNat : Int) = (n : Int) ↔ b = n.toUInt8 := by
  constructor
  · intro h
    apply UInt8.toNat_inj.1
    rw [u8_toNat hn]
    omega
  · intro h
    rw [h, u8_toNat hn]
theorem qB_iff (b0 b1 b2 b3 : UInt8) {x : Nat} (hx : x < 4294967296) : qB b0 b1 b2 b3 x = true ↔ [b0, b1, b2, b3] = be4 x := by
  have e0 := eq_byte (b := b0) (n := x / 16777216) (by omega)
  have e1 := eq_byte (b := b1) (n := x / 65536 % 256) (by omega)
  have e2 := eq_byte (b := b2) (n := x / 256 % 256) (by omega)
  have e3 := eq_byte (b := b3) (n := x % 256) (by omega)
  simp only [qB, be4, Bool.and_eq_true, beq_iff_eq, List.cons.injEq, and_true]
  rw [← e0, ← e1, ← e2, ← e3]
  rfl

def Opens (s : ByteArray) (w : World) (e : Ending) (w' : World) : Prop := e = .returned (openV s) ∧ Below w.heap.size w w'
theorem openV_yes {s : ByteArray} (h4 : 4 ≤ s.size) (h : s.data.toList.drop (s.size - 4) = be4 (crc (s.data.toList.take (s.size - 4)))) : openV s = .tuple #[.string (s.extract 0 (s.size - 4)), .int .i64 0] := by
  unfold openV opened
  rw [size_list, if_neg (by omega), if_pos h, extract_take]
  rfl
theorem openV_no {s : ByteArray} (h4 : 4 ≤ s.size) (h : ¬ s.data.toList.drop (s.size - 4) = be4 (crc (s.data.toList.take (s.size - 4)))) : openV s = .tuple #[.string ⟨#[]⟩, .int .i64 6] := by
  unfold openV opened
  rw [size_list, if_neg (by omega), if_neg h]
  rfl
theorem crc_extract (s : ByteArray) (k : Nat) : crcS (s.extract 0 k) = crc (s.data.toList.take k) := by
  unfold crcS
  rw [extract_take]
  rfl

theorem bel_next {a w w' : World} (h : Below a.heap.size a w) (h2 : Below w.heap.size w w') : Below a.heap.size a w' := h.trans (h2.mono h.size)
theorem end_a {r : ByteArray} {w W w1 : World} (h : Below w.heap.size w W) (h1 : Below (cw r W.drew).heap.size (cw r W.drew) w1) : Below w.heap.size w w1 := bel_next (bel_next h.drew (cw_below r _)) h1
theorem end_b {r : ByteArray} {w W w1 : World} (h : Below w.heap.size w W) (h1 : Below W.drew.heap.size W.drew w1) : Below w.heap.size w (cw r w1) := bel_next (bel_next h.drew h1) (cw_below r _)

set_option maxHeartbeats 2000000 in
set_option maxRecDepth 100000 in
theorem open_long (s : ByteArray) (w : World) (hs : 4 ≤ s.size) (hm : s.size ≤ 140737488355328) :
    Calls Tryd.prog 13 #[.string s] w (Opens s w) := by
  obtain ⟨b0, b1, b2, b3, hl⟩ := four (s.extract (s.size - 4) s.size).data.toList (by rw [extract_drop, List.length_drop, size_list]; omega)
  have h0 : decide ((s.size : Int) - 4 < 0) = false := by simp; omega
  have h1 : 0 ≤ (s.size : Int) - 4 := by omega
  have h2 : ((s.size : Int) - 4).toNat = s.size - 4 := by omega
  have h3 : (s.size : Int) - 4 ≤ s.size := by omega
  have HQ := Lib.hid (qB_iff b0 b1 b2 b3 (crc_lt (s.data.toList.take (s.size - 4))))
  have HD := Lib.hid hl
  rw [extract_drop] at HD
  have HX := Lib.hid (crc_extract s (s.size - 4))
  have HS := Lib.hid hs
  go_enter Tryd.func13, Tryd.ntmps13
  go_wp2_with fail
  go_quiet (fail)
  go_wp2_with fail
  obtain ⟨r, hr⟩ : ∃ r, s.extract (s.size - 4) s.size = r := ⟨_, rfl⟩
  have HT := Lib.hid (show (s.extract 0 (s.size - 4)).size ≤ 140737488355328 by
    rw [ByteArray.size_extract]
    omega)
  obtain ⟨t, ht⟩ : ∃ t, s.extract 0 (s.size - 4) = t := ⟨_, rfl⟩
  rw [hr] at hl
  rw [ht] at HT HX
  rw [hr, ht]
  have hr4 : r.size = 4 := by
    show r.data.size = 4
    rw [← Array.length_toList, hl]
    rfl
  have HB := Lib.hid (fun w => bytes_any t w HT.out)
  rw [HX.out] at HB
  obtain ⟨x, hx⟩ : ∃ x, crc (s.data.toList.take (s.size - 4)) = x := ⟨_, rfl⟩
  rw [hx] at HB HQ
  have HXX := Lib.hid hx
  have heq := fun w => eq4 b0.toNat b1.toNat b2.toNat b3.toNat ((x : Int) / 16777216) ((x : Int) / 65536 % 256) ((x : Int) / 256 % 256) ((x : Int) % 256) w
  have hqq : ∃ q, qB b0 b1 b2 b3 x = q := ⟨_, rfl⟩
  obtain ⟨q, hq⟩ := hqq
  unfold qB at hq
  rw [hq] at heq
  have HQ2 := Lib.hid (show qB b0 b1 b2 b3 x = q from hq)
  clear hx hq
  have HC := conv_run r hr4
  have K0 := fun w => cw_cell r _ hl w 0 (by simp)
  have K1 := fun w => cw_cell r _ hl w 1 (by simp)
  have K2 := fun w => cw_cell r _ hl w 2 (by simp)
  have K3 := fun w => cw_cell r _ hl w 3 (by simp)
  simp only [List.getElem_cons_zero, List.getElem_cons_succ] at K0 K1 K2 K3
  have HZ := cw_size r
  have KD0 : ∀ w : World, (cw r w.drew).cell? ⟨w.heap.size, 0, none⟩ = some (.int .u8 (b0.toNat : Int)) := fun w => K0 w.drew
  have KD1 : ∀ w : World, (cw r w.drew).cell? ⟨w.heap.size, 1, none⟩ = some (.int .u8 (b1.toNat : Int)) := fun w => K1 w.drew
  have KD2 : ∀ w : World, (cw r w.drew).cell? ⟨w.heap.size, 2, none⟩ = some (.int .u8 (b2.toNat : Int)) := fun w => K2 w.drew
  have KD3 : ∀ w : World, (cw r w.drew).cell? ⟨w.heap.size, 3, none⟩ = some (.int .u8 (b3.toNat : Int)) := fun w => K3 w.drew
  have hat : ∀ a cap w, (Instr.arrayAt 38 (.slice a 4 cap)).run Tryd.prog w = .ok (.pointer a) w := fun a cap w => run_arrayAt w _ _ 4 _ 4 cap Tryd.underlying38 (Nat.le_refl _)
  have BW := Lib.hid (below_drewN w nq)
  have HR := Lib.hid hr
  have HTT := Lib.hid ht
  clear h0 h1 h2 h3 hs hm hl hr4 hr ht
  obtain ⟨W, hW⟩ : ∃ W, w.drewN nq = W := ⟨_, rfl⟩
  rw [hW] at BW
  rw [hW]
  clear hW
  unfold arr4 at HB
  cases q
  · have hV : openV s = .tuple #[.string ⟨#[]⟩, .int .i64 6] := openV_no HS.out (by rw [HD.out, HXX.out, ← HQ.out, HQ2.out]; simp)
    have HV := Lib.hid hV
    clear hV
    go_region_with (go_at_call 19; refine (HB.out _).mono ?_; rintro e w1 ⟨rfl, bb⟩; obtain ⟨hc, hf⟩ := bcell bb; have BX := Lib.hid bb; clear bb)
    all_goals
      go_wp2_with fail
      go_ret2
      exact ⟨by rw [HV.out]; rfl, by first | exact end_a BW.out BX.out | exact end_b BW.out BX.out⟩
  · have hV : openV s = .tuple #[.string t, .int .i64 0] := by rw [openV_yes HS.out (by rw [HD.out, HXX.out, ← HQ.out, HQ2.out]), HTT.out]
    have HV := Lib.hid hV
    clear hV
    go_region_with (go_at_call 19; refine (HB.out _).mono ?_; rintro e w1 ⟨rfl, bb⟩; obtain ⟨hc, hf⟩ := bcell bb; have BX := Lib.hid bb; clear bb)
    all_goals
      go_wp2_with fail
      go_ret2
      exact ⟨by rw [HV.out]; rfl, by first | exact end_a BW.out BX.out | exact end_b BW.out BX.out⟩

theorem open_any (s : ByteArray) (w : World) (hm : s.size ≤ 140737488355328) :
    Calls Tryd.prog 13 #[.string s] w fun e w' => e = .returned (openV s) ∧ Below w.heap.size w w' := by
  by_cases h : 4 ≤ s.size
  · exact open_long s w h hm
  · exact (open_short s w (by omega)).mono fun e w' h => ⟨h.1, h.2 ▸ Below.refl _ _⟩

/-! The reference. -/
set_option maxRecDepth 100000 in
theorem ropen_short (s : ByteArray) (w : World) (hs : s.size < 4) :
    Calls Tryd.prog 14 #[.string s] w fun e w' => e = .returned (openV s) ∧ w = w' := by
  have HV := Lib.hid (show openV s = .tuple #[.string ⟨#[]⟩, .int .i64 5] by
    unfold openV opened
    rw [if_pos (by simpa using hs)]
    rfl)
  have h : decide ((s.size : Int) < 4) = true := by simp; omega
  go_enter Tryd.func14, Tryd.ntmps14
  go_wp2_with fail
  go_ret2
  exact ⟨by rw [HV.out]; rfl, rfl⟩
theorem sealS_list (s : ByteArray) : (sealS s).data.toList = sealed s.data.toList := by
  unfold sealS sealed crcS str
  simp
theorem seal_is {s : ByteArray} (h4 : 4 ≤ s.size) : sealS (s.extract 0 (s.size - 4)) = s ↔ s.data.toList.drop (s.size - 4) = be4 (crc (s.data.toList.take (s.size - 4))) := by
  have e : (sealS (s.extract 0 (s.size - 4))).data.toList = s.data.toList.take (s.size - 4) ++ be4 (crc (s.data.toList.take (s.size - 4))) := by
    rw [sealS_list, extract_take]
    rfl
  constructor
  · intro h
    rw [h] at e
    have := congrArg (List.drop (s.size - 4)) e
    rw [List.drop_left' (by rw [List.length_take, size_list]; omega)] at this
    exact this
  · intro h
    apply ByteArray.ext
    apply Array.toList_inj.1
    rw [e, ← h, List.take_append_drop]
theorem beq_no {u s : ByteArray} (h : ¬ u = s) : (u.toList == s.toList) = false := by
  rw [ByteArray.toList_eq, ByteArray.toList_eq, beq_eq_false_iff_ne]
  intro e
  exact h (bytes_inj e)
set_option maxRecDepth 100000 in
theorem ropen_long (s : ByteArray) (w : World) (hs : 4 ≤ s.size) (hm : s.size ≤ 140737488355328) :
    Calls Tryd.prog 14 #[.string s] w (Opens s w) := by
  have h0 : decide ((s.size : Int) < 4) = false := by simp; omega
  have h1 : 0 ≤ (s.size : Int) - 4 := by omega
  have h2 : ((s.size : Int) - 4).toNat = s.size - 4 := by omega
  have h3 : (s.size : Int) - 4 ≤ s.size := by omega
  have HB := Lib.hid (fun w => rseal_any (s.extract 0 (s.size - 4)) w (by rw [ByteArray.size_extract]; omega))
  have HI := Lib.hid (seal_is hs)
  have HY := Lib.hid (openV_yes hs)
  have HN := Lib.hid (openV_no hs)
  go_enter Tryd.func14, Tryd.ntmps14
  go_wp2_with fail
  refine (HB.out _).mono ?_
  rintro e w1 ⟨rfl, bb⟩
  have BX := Lib.hid bb
  clear bb
  by_cases hq : sealS (s.extract 0 (s.size - 4)) = s
  · rw [hq]
    have HV := Lib.hid (HY.out (HI.out.1 hq))
    clear hq
    go_wp2_with fail
    go_ret2
    exact ⟨by rw [HV.out]; rfl, BX.out⟩
  · have HV := Lib.hid (HN.out (fun h => hq (HI.out.2 h)))
    obtain ⟨u, hu⟩ : ∃ u, sealS (s.extract 0 (s.size - 4)) = u := ⟨_, rfl⟩
    rw [hu] at hq ⊢
    have hne := beq_no hq
    clear hu hq
    go_wp2_with fail
    go_ret2
    exact ⟨by rw [HV.out]; rfl, BX.out⟩
theorem ropen_any (s : ByteArray) (w : World) (hm : s.size ≤ 140737488355328) :
    Calls Tryd.prog 14 #[.string s] w fun e w' => e = .returned (openV s) ∧ Below w.heap.size w w' := by
  by_cases h : 4 ≤ s.size
  · exact ropen_long s w h hm
  · exact (ropen_short s w (by omega)).mono fun e w' h => ⟨h.1, h.2 ▸ Below.refl _ _⟩

end Go.Proofs.YtdhhcmpoegfdjaaDoor.Opn
