/- A text as bytes, with one byte written. -/
import Derived.Test.YtdhhcmpoegfdjaaDoorCalive
namespace Go.Proofs.YtdhhcmpoegfdjaaDoor.Det
open Go.RowKit Go.Lib Go.WideShapes Go.Proofs.YtdhhcmpoegfdjaaDoor.Crc Go.Proofs.YtdhhcmpoegfdjaaDoor.Sum Go.Proofs.YtdhhcmpoegfdjaaDoor.Seal Go.Proofs.YtdhhcmpoegfdjaaDoor.Opn Go.Proofs.YtdhhcmpoegfdjaaDoor.Calive Go.Proofs.YtdhhcmpoegfdjaaDoor.Hex

theorem conv_runN (r : ByteArray) (n : Nat) (h : r.size = n) (w : World) : (convert 9 30 (.string r)).run Tryd.prog w = .ok (.slice (some ⟨w.heap.size, 0, none⟩) n (bcap r w)) (cw r w) := by
  have := run_bytes_of_string (P := Tryd.prog) w 9 30 5 r Tryd.underlying9 Tryd.underlying30 Tryd.underlying5
  unfold bcap cw brow
  rw [h] at this ⊢
  exact this
theorem cw_heap (r : ByteArray) (w : World) : (cw r w).heap[w.heap.size]? = some (brow r w) := heap_alloc_new w.drew _
theorem cw_frozen (r : ByteArray) (w : World) (j : Nat) (hj : j < r.size) : (cw r w).frozen? ⟨w.heap.size, j, none⟩ = false := by
  have hb := bytesRow_at r (grownCap w r.size 0 5) j (by simpa using hj)
  have hlt := (Array.getElem?_eq_some_iff.1 hb).1
  unfold cw brow
  rw [show w.heap.size = w.drew.heap.size from rfl, World.frozen?_alloc_mark]
  simp
  omega
theorem set_cells (r : ByteArray) (l : List UInt8) (h : r.data.toList = l) (w : World) (i : Nat) (c : UInt8) (X : Int) (hX : X = (c.toNat : Int)) (j : Nat) (hj : j < (l.set i c).length) :
    ((cw r w).setCell ⟨w.heap.size, i, none⟩ (.int .u8 X)).cell? ((⟨w.heap.size, 0, none⟩ : Addr).add j) = some (.int .u8 ((l.set i c)[j].toNat : Int)) := by
  rw [List.length_set] at hj
  have hc := cw_cell r l h w j hj
  have hb := cw_heap r w
  unfold brow at hb
  rw [cell_of_row _ _ _ _ _ _ hb] at hc
  rw [show ((⟨w.heap.size, 0, none⟩ : Addr).add j) = ⟨w.heap.size, j, none⟩ by unfold Addr.add; split <;> simp_all, setCell_eq_setRow _ _ _ _ _ _ _ hb, cell_of_row _ _ _ _ _ _ (setRow_heap _ _ _ _ _ _ hb), Array.getElem?_setIfInBounds]
  have hlt := (Array.getElem?_eq_some_iff.1 hc).1
  by_cases hij : i = j
  · subst hij
    rw [if_pos rfl, if_pos hlt, List.getElem_set_self, hX]
  · rw [if_neg hij, List.getElem_set_ne hij]
    exact hc
theorem sealS_size (s : ByteArray) : (sealS s).size = s.size + 4 := by
  rw [← size_list, sealS_list, sealed_length, size_list]
theorem openV_detects (s : ByteArray) (i : Nat) (c : UInt8) (hi : i < s.size + 4) (hc : ¬ (sealed s.data.toList)[i]'(by rw [sealed_length, size_list]; exact hi) = c) : openV ⟨((sealed s.data.toList).set i c).toArray⟩ = .tuple #[.string ⟨#[]⟩, .int .i64 6] := by
  unfold openV
  rw [show (⟨((sealed s.data.toList).set i c).toArray⟩ : ByteArray).data.toList = (sealed s.data.toList).set i c by simp, detects _ _ _ (by rw [size_list]; exact hi) hc]
  rfl
theorem openV_same (s : ByteArray) (i : Nat) (c : UInt8) (hi : i < s.size + 4) (hc : (sealed s.data.toList)[i]'(by rw [sealed_length, size_list]; exact hi) = c) : openV ⟨((sealed s.data.toList).set i c).toArray⟩ = .tuple #[.string s, .int .i64 0] := by
  unfold openV
  rw [show (⟨((sealed s.data.toList).set i c).toArray⟩ : ByteArray).data.toList = (sealed s.data.toList).set i c by simp, detects_same _ _ _ (by rw [size_list]; exact hi) hc]
  rfl
theorem mask16 (n : Int) : bits .and .i64 n 65535 = n % 65536 := by
  have key : (BitVec.ofInt 64 n &&& BitVec.ofInt 64 65535).toNat = (n % ((2 ^ 64 : Nat) : Int)).toNat % 2 ^ 16 := by
    rw [BitVec.toNat_and, BitVec.toNat_ofInt, show (BitVec.ofInt 64 65535).toNat = 2 ^ 16 - 1 by decide, Nat.and_two_pow_sub_one_eq_mod]
  show IntKind.i64.wrap ((BitVec.ofInt 64 n &&& BitVec.ofInt 64 65535).toNat : Nat) = _
  rw [key, IntKind.wrap_i64]
  omega

theorem end_set {r : ByteArray} {w w1 : World} {i : Nat} {v : Value} (h : Below w.heap.size w w1) : Below w.heap.size w ((cw r w1).setCell ⟨w1.heap.size, i, none⟩ v) := (bel_next h (cw_below r w1)).setCell (p := ⟨w1.heap.size, i, none⟩) h.size _

def Says (w : World) (e : Ending) (w' : World) : Prop := e = .returned (.bool true) ∧ Below w.heap.size w w'

set_option maxHeartbeats 1600000 in
set_option maxRecDepth 100000 in
theorem detects_any (s : ByteArray) (at_ : Int) (c : UInt8) (w : World) (hl : s.size ≤ 3000) (hdeb : Deb w) :
    Calls Tryd.prog 5 #[.string s, .int .i64 at_, .int .u8 (c.toNat : Int)] w (Says w) := by
  have HD := Lib.hid hdeb
  have HA := Lib.hid (fun w h => alive_any w h)
  have h1 := Lib.hid (fun w => seal_any s w (by omega))
  have HLL := Lib.hid (sealS_list s)
  have HCV := conv_runN (sealS s) (s.size + 4) (sealS_size s)
  have HSZ := Lib.hid (sealS_size s)
  obtain ⟨x, hx⟩ : ∃ x : Nat, at_ % 65536 = (x : Int) := ⟨(at_ % 65536).toNat, by omega⟩
  have hm := mask16 at_
  rw [hx] at hm
  have hi : x % (s.size + 4) < s.size + 4 := Nat.mod_lt _ (by omega)
  have hmod : (x : Int) % ((s.size : Int) + 4) = ((x % (s.size + 4) : Nat) : Int) := by simp
  obtain ⟨i, hii⟩ : ∃ i, x % (s.size + 4) = i := ⟨_, rfl⟩
  rw [hii] at hi hmod
  have h2 := Lib.hid (fun w => open_any ⟨((sealed s.data.toList).set i c).toArray⟩ w (by
    show ((sealed s.data.toList).set i c).toArray.size ≤ _
    simp [sealed_length]
    omega))
  have hl' : decide ((3000 : Int) < (s.size : Int)) = false := by simp; omega
  obtain ⟨T, hT⟩ : ∃ T : ByteArray, ⟨((sealed s.data.toList).set i c).toArray⟩ = T := ⟨_, rfl⟩
  have HT := Lib.hid hT
  rw [hT] at h2
  obtain ⟨S, hS⟩ : ∃ S, sealS s = S := ⟨_, rfl⟩
  rw [hS] at h1 HCV HLL HSZ
  have HI := Lib.hid hi
  have hgt : (sealed s.data.toList)[i]? = some ((sealed s.data.toList)[i]'(by rw [sealed_length, size_list]; exact hi)) := List.getElem?_eq_getElem _
  have hxm : (x : Int) ≤ 65535 := by omega
  have hb3 : (s.size : Int) ≤ 3000 := by omega
  have HHL := Lib.hid hl
  have HDET := Lib.hid (openV_detects s i c hi)
  have HSAM := Lib.hid (openV_same s i c hi)
  obtain ⟨d, hd⟩ : ∃ d, (sealed s.data.toList)[i]'(by rw [sealed_length, size_list]; exact hi) = d := ⟨_, rfl⟩
  rw [hd] at HDET HSAM hgt
  rw [hT] at HDET HSAM
  have HG := Lib.hid hgt
  have hgood : (i : Int) < (s.size : Int) + 4 := by omega
  clear hdeb hx hii hS hi hT hd hgt hl
  by_cases hsame : d = c
  · have HO := Lib.hid (HSAM.out hsame)
    rw [HO.out] at h2
    have q1 : ((d.toNat : Int) == (c.toNat : Int)) = true := by rw [hsame]; simp
    clear HSAM HDET HO hsame
    go_enter Tryd.func5, Tryd.ntmps5
    go_wp2_with fail
    refine (h1.out _).mono ?_
    rintro e w1 ⟨rfl, b⟩
    have B1 := Lib.hid b
    clear b
    have c1 : (cw S w1).cell? ⟨w1.heap.size, i, none⟩ = some (.int .u8 (d.toNat : Int)) := by
      have hlt : i < (sealed s.data.toList).length := by rw [sealed_length, size_list]; exact HI.out
      rw [cw_cell S _ HLL.out w1 i hlt, List.getElem?_eq_getElem hlt |>.symm.trans HG.out |> Option.some.inj]
    have f1 := cw_frozen S w1 i (by rw [HSZ.out]; exact HI.out)
    have hbk := run_convert_bytes_back (P := Tryd.prog) ((cw S w1).setCell ⟨w1.heap.size, i, none⟩ (.int .u8 (c.toNat : Int))) 30 9 5 ⟨w1.heap.size, 0, none⟩ (bcap S w1) ((sealed s.data.toList).set i c) Tryd.underlying30 Tryd.underlying5 Tryd.underlying9 (set_cells S _ HLL.out w1 i c _ rfl)
    rw [List.length_set, sealed_length, size_list, HT.out] at hbk
    go_wp2_with fail
    refine (h2.out _).mono ?_
    rintro e w2 ⟨rfl, b⟩
    have B2 := Lib.hid (bel_next (end_set (i := i) (v := .int .u8 (c.toNat : Int)) (r := S) B1.out) b)
    clear b B1 c1 f1 hbk
    go_wp2_with fail
    refine (HA.out _ (deb_next HD.out B2.out)).mono ?_
    rintro e w3 ⟨rfl, b⟩
    have B3 := Lib.hid (bel_next B2.out b)
    clear b B2
    go_wp2_with fail
    go_ret
    exact ⟨rfl, B3.out⟩
  · have HO := Lib.hid (HDET.out hsame)
    rw [HO.out] at h2
    have q1 : ((d.toNat : Int) == (c.toNat : Int)) = false := by
      rw [beq_eq_false_iff_ne]
      intro h
      exact hsame (UInt8.toNat_inj.1 (by omega))
    clear HSAM HDET HO hsame
    go_enter Tryd.func5, Tryd.ntmps5
    go_wp2_with fail
    refine (h1.out _).mono ?_
    rintro e w1 ⟨rfl, b⟩
    have B1 := Lib.hid b
    clear b
    have c1 : (cw S w1).cell? ⟨w1.heap.size, i, none⟩ = some (.int .u8 (d.toNat : Int)) := by
      have hlt : i < (sealed s.data.toList).length := by rw [sealed_length, size_list]; exact HI.out
      rw [cw_cell S _ HLL.out w1 i hlt, List.getElem?_eq_getElem hlt |>.symm.trans HG.out |> Option.some.inj]
    have f1 := cw_frozen S w1 i (by rw [HSZ.out]; exact HI.out)
    have hbk := run_convert_bytes_back (P := Tryd.prog) ((cw S w1).setCell ⟨w1.heap.size, i, none⟩ (.int .u8 (c.toNat : Int))) 30 9 5 ⟨w1.heap.size, 0, none⟩ (bcap S w1) ((sealed s.data.toList).set i c) Tryd.underlying30 Tryd.underlying5 Tryd.underlying9 (set_cells S _ HLL.out w1 i c _ rfl)
    rw [List.length_set, sealed_length, size_list, HT.out] at hbk
    go_wp2_with fail
    refine (h2.out _).mono ?_
    rintro e w2 ⟨rfl, b⟩
    have B2 := Lib.hid (bel_next (end_set (i := i) (v := .int .u8 (c.toNat : Int)) (r := S) B1.out) b)
    clear b B1 c1 f1 hbk
    go_wp2_with fail
    refine (HA.out _ (deb_next HD.out B2.out)).mono ?_
    rintro e w3 ⟨rfl, b⟩
    have B3 := Lib.hid (bel_next B2.out b)
    clear b B2
    go_wp2_with fail
    go_ret
    exact ⟨rfl, B3.out⟩

set_option maxRecDepth 100000 in
theorem detects_out (s : ByteArray) (at_ c : Int) (w : World) (hl : 3000 < s.size) (hdeb : Deb w) :
    Calls Tryd.prog 5 #[.string s, .int .i64 at_, .int .u8 c] w (Says w) := by
  have HA := Lib.hid (alive_any w hdeb)
  have hl' : decide ((3000 : Int) < (s.size : Int)) = true := by simp; omega
  clear hdeb hl
  go_enter Tryd.func5, Tryd.ntmps5
  go_wp2_with fail
  refine (HA.out).mono ?_
  rintro e w3 ⟨rfl, b⟩
  have B3 := Lib.hid b
  clear b
  go_wp2_with fail
  go_ret
  exact ⟨rfl, B3.out⟩

end Go.Proofs.YtdhhcmpoegfdjaaDoor.Det
