/- The calls of crc.sumBytes, Seal and Open, and the reference's Seal and Open. -/
import Derived.Test.YtdhhcmpoegfdjaaDoorSum
import Derived.Laws.Rows
import Derived.BigQuiet
import Derived.Deep.QuietTactic
namespace Go.Proofs.YtdhhcmpoegfdjaaDoor.Seal
open Go.RowKit Go.Lib Go.Proofs.YtdhhcmpoegfdjaaDoor.Crc Go.Proofs.YtdhhcmpoegfdjaaDoor.Sum

/-- The four bytes as Go's array has them. -/
def arr4 (x : Nat) : Value := .agg #[.int .u8 ((x : Int) / 16777216), .int .u8 ((x : Int) / 65536 % 256), .int .u8 ((x : Int) / 256 % 256), .int .u8 ((x : Int) % 256)]

set_option maxRecDepth 100000 in
theorem bytes_any (s : ByteArray) (w : World) (hs : s.size ≤ 140737488355328) :
    Calls Tryd.prog 19 #[.string s] w fun e w' => e = .returned (arr4 (crcS s)) ∧ Below w.heap.size w w' := by
  have HS := Lib.hid (fun w => sum_any s w hs)
  obtain ⟨x, hx⟩ : ∃ x, crcS s = x := ⟨_, rfl⟩
  rw [hx] at HS
  have hlt := crc_lt s.data.toList
  have hx' : (x : Int) ≤ 4294967295 := by rw [← hx]; unfold crcS; omega
  rw [hx]
  clear hx hlt hs
  go_enter Tryd.func19, Tryd.ntmps19
  go_wp2_with fail
  refine (HS.out _).mono ?_
  rintro e w1 ⟨rfl, b1⟩
  have hb := (b1.block w.heap.size (by simp)).trans (heap_alloc_new _ _)
  have c0 : w1.cell? ⟨w.heap.size, 0, none⟩ = some (.int .u8 0) := by rw [cell_of_row _ _ _ _ _ _ hb]; rfl
  have c1 : w1.cell? ⟨w.heap.size, 1, none⟩ = some (.int .u8 0) := by rw [cell_of_row _ _ _ _ _ _ hb]; rfl
  have c2 : w1.cell? ⟨w.heap.size, 2, none⟩ = some (.int .u8 0) := by rw [cell_of_row _ _ _ _ _ _ hb]; rfl
  have c3 : w1.cell? ⟨w.heap.size, 3, none⟩ = some (.int .u8 0) := by rw [cell_of_row _ _ _ _ _ _ hb]; rfl
  have f0 : w1.frozen? ⟨w.heap.size, 0, none⟩ = false := frozen_of_row _ _ _ _ _ hb
  have f1 : w1.frozen? ⟨w.heap.size, 1, none⟩ = false := frozen_of_row _ _ _ _ _ hb
  have f2 : w1.frozen? ⟨w.heap.size, 2, none⟩ = false := frozen_of_row _ _ _ _ _ hb
  have f3 : w1.frozen? ⟨w.heap.size, 3, none⟩ = false := frozen_of_row _ _ _ _ _ hb
  have HB := Lib.hid hb
  have B1 := Lib.hid b1
  clear hb b1
  go_wp2_with fail
  refine bodyPost_ret (v := arr4 x) (by simp [results, Tryd.results19, go_sem, c0, c1, c2, c3, arr4]) rfl ⟨rfl, ?_⟩
  exact (((((Below.refl _ _).alloc (Nat.le_refl _) _).trans (B1.out.mono (by simp))).setCell (by simp) _).setCell (by simp) _).setCell (by simp) _ |>.setCell (by simp) _

def str (l : List UInt8) : ByteArray := ⟨l.toArray⟩
def sealS (s : ByteArray) : ByteArray := s ++ str (be4 (crcS s))

theorem arr_cells {x : Nat} (hx : x < 4294967296) (w : World) (t : TypeId) (j : Nat) (hj : j < (be4 x).length) :
    (w.alloc (.cells #[.int .u8 ((x : Int) / 16777216), .int .u8 ((x : Int) / 65536 % 256), .int .u8 ((x : Int) / 256 % 256), .int .u8 ((x : Int) % 256)] t)).cell? ((⟨w.heap.size, 0, none⟩ : Addr).add j) = some (.int .u8 ((be4 x)[j].toNat : Int)) := by
  have hj4 : j < 4 := hj
  have hb := heap_alloc_new w (.cells #[.int .u8 ((x : Int) / 16777216), .int .u8 ((x : Int) / 65536 % 256), .int .u8 ((x : Int) / 256 % 256), .int .u8 ((x : Int) % 256)] t)
  obtain rfl | rfl | rfl | rfl : j = 0 ∨ j = 1 ∨ j = 2 ∨ j = 3 := by omega
  · show (w.alloc _).cell? ⟨w.heap.size, 0, none⟩ = some (.int .u8 (((x / 16777216).toUInt8).toNat : Int))
    rw [cell_of_row _ _ _ _ _ _ hb, u8_toNat (by omega)]
    rfl
  · show (w.alloc _).cell? ⟨w.heap.size, 1, none⟩ = some (.int .u8 (((x / 65536 % 256).toUInt8).toNat : Int))
    rw [cell_of_row _ _ _ _ _ _ hb, u8_toNat (by omega)]
    rfl
  · show (w.alloc _).cell? ⟨w.heap.size, 2, none⟩ = some (.int .u8 (((x / 256 % 256).toUInt8).toNat : Int))
    rw [cell_of_row _ _ _ _ _ _ hb, u8_toNat (by omega)]
    rfl
  · show (w.alloc _).cell? ⟨w.heap.size, 3, none⟩ = some (.int .u8 (((x % 256).toUInt8).toNat : Int))
    rw [cell_of_row _ _ _ _ _ _ hb, u8_toNat (by omega)]
    rfl
theorem be4_size (x : Nat) : (str (be4 x)).size = 4 := rfl
theorem seal_add {P : Program} (w : World) (s : ByteArray) (x : Nat) (h : s.size ≤ 140737488355328) : (Op.stringOp .add s (str (be4 x))).run P w = .ok (.string (s ++ str (be4 x))) w :=
  run_string_add_sum w _ _ (by have := be4_size x; omega)

set_option maxRecDepth 100000 in
theorem seal_any (s : ByteArray) (w : World) (hs : s.size ≤ 140737488355328) :
    Calls Tryd.prog 10 #[.string s] w fun e w' => e = .returned (.string (sealS s)) ∧ Below w.heap.size w w' := by
  have HS := Lib.hid (fun w => bytes_any s w hs)
  have HSZ := Lib.hid hs
  obtain ⟨x, hx⟩ : ∃ x, crcS s = x := ⟨_, rfl⟩
  rw [hx] at HS
  unfold arr4 at HS
  have hlt := crc_lt s.data.toList
  have HLT := Lib.hid (show x < 4294967296 by rw [← hx]; exact hlt)
  have HX := Lib.hid hx
  clear hx hlt hs
  go_enter Tryd.func10, Tryd.ntmps10
  go_wp2_with fail
  refine (HS.out _).mono ?_
  rintro e w1 ⟨rfl, b1⟩
  have B1 := Lib.hid b1
  clear b1
  have hbk := run_convert_bytes_back (P := Tryd.prog) (w1.alloc (.cells #[.int .u8 ((x : Int) / 16777216), .int .u8 ((x : Int) / 65536 % 256), .int .u8 ((x : Int) / 256 % 256), .int .u8 ((x : Int) % 256)] 38)) 30 9 5 ⟨w1.heap.size, 0, none⟩ 4 (be4 x) Tryd.underlying30 Tryd.underlying5 Tryd.underlying9 (arr_cells HLT.out w1 _)
  rw [be4_length] at hbk
  have hbk2 := hbk
  clear hbk
  rw [show (⟨(be4 x).toArray⟩ : ByteArray) = str (be4 x) from rfl] at hbk2
  have hadd := fun w => seal_add (P := Tryd.prog) w s x HSZ.out
  have hx' : (x : Int) ≤ 4294967295 := by have := HLT.out; omega
  obtain ⟨S, hS⟩ : ∃ S, str (be4 x) = S := ⟨_, rfl⟩
  rw [hS] at hadd hbk2
  have HSS := Lib.hid hS
  clear hS
  go_wp2_with fail
  go_ret
  exact ⟨by rw [← HSS.out, ← HX.out]; rfl, (B1.out.alloc B1.out.size _)⟩

set_option maxRecDepth 100000 in
theorem rseal_any (s : ByteArray) (w : World) (hs : s.size ≤ 140737488355328) :
    Calls Tryd.prog 11 #[.string s] w fun e w' => e = .returned (.string (sealS s)) ∧ Below w.heap.size w w' := by
  have HS := Lib.hid (fun w => rsum_any s w hs)
  have HSZ := Lib.hid hs
  obtain ⟨x, hx⟩ : ∃ x, crcS s = x := ⟨_, rfl⟩
  rw [hx] at HS
  have hlt := crc_lt s.data.toList
  have HLT := Lib.hid (show x < 4294967296 by rw [← hx]; exact hlt)
  have HX := Lib.hid hx
  clear hx hlt hs
  have hx' : (x : Int) ≤ 4294967295 := by have := HLT.out; omega
  have hbk2 := run_convert_bytes_back (P := Tryd.prog) (w.alloc (.cells #[.int .u8 ((x : Int) / 16777216), .int .u8 ((x : Int) / 65536 % 256), .int .u8 ((x : Int) / 256 % 256), .int .u8 ((x : Int) % 256)] 5)) 30 9 5 ⟨w.heap.size, 0, none⟩ 4 (be4 x) Tryd.underlying30 Tryd.underlying5 Tryd.underlying9 (arr_cells HLT.out w _)
  rw [be4_length] at hbk2
  rw [show (⟨(be4 x).toArray⟩ : ByteArray) = str (be4 x) from rfl] at hbk2
  have hadd := fun w => seal_add (P := Tryd.prog) w s x HSZ.out
  obtain ⟨S, hS⟩ : ∃ S, str (be4 x) = S := ⟨_, rfl⟩
  rw [hS] at hadd hbk2
  have HSS := Lib.hid hS
  clear hS
  go_enter Tryd.func11, Tryd.ntmps11
  go_wp2_with fail
  refine (HS.out _).mono ?_
  rintro e w' ⟨rfl, rfl⟩
  go_wp2_with fail
  go_ret
  exact ⟨by rw [← HSS.out, ← HX.out]; rfl, (Below.refl _ _).alloc (Nat.le_refl _) _⟩

end Go.Proofs.YtdhhcmpoegfdjaaDoor.Seal
