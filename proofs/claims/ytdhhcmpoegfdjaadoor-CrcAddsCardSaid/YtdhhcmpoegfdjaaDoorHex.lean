/- The calls of strconv.FormatUint at base 16, crc.Hex and the reference's Hex. -/
import Derived.Test.YtdhhcmpoegfdjaaDoorOwnb
import Derived.Test.YtdhhcmpoegfdjaaDoorShelf
import Derived.Laws.Rows
import Derived.Laws.BitsAllLaws
import Derived.Laws.Concat
import Derived.WalkSpells
import Derived.Lib.Strings
import Derived.Outline
namespace Go.Proofs.YtdhhcmpoegfdjaaDoor.Hex
open Go.RowKit Go.Lib Go.Proofs.YtdhhcmpoegfdjaaDoor.Crc Go.Proofs.YtdhhcmpoegfdjaaDoor.Ownb

set_option maxRecDepth 100000 in
theorem pow_any (w : World) : Calls Tryd.prog 43 #[.int .i64 16] w fun e w' => e = .returned (.bool true) ∧ w = w' := by
  have h : bits .and .i64 16 15 = 0 := by decide
  go_enter Tryd.func43, Tryd.ntmps43
  go_wp2_with fail
  go_ret
  exact ⟨rfl, rfl⟩
/-- The table's entry for 16. -/
def Deb (w : World) : Prop := w.cell? ⟨3, 15, none⟩ = some (.int .u8 4)
set_option maxRecDepth 100000 in
theorem tz64_any (w : World) (h : Deb w) : Calls Tryd.prog 48 #[.int .u64 16] w fun e w' => e = .returned (.int .i64 4) ∧ w = w' := by
  unfold Deb at h
  have n1 : IntKind.u64.wrap (-16) = 18446744073709551600 := by decide
  have n2 : bits .and .u64 16 18446744073709551600 = 16 := by decide
  go_enter Tryd.func48, Tryd.ntmps48
  go_wp2_with fail
  go_ret
  exact ⟨rfl, rfl⟩
set_option maxRecDepth 100000 in
theorem tz_any (w : World) (h : Deb w) : Calls Tryd.prog 44 #[.int .u64 16] w fun e w' => e = .returned (.int .i64 4) ∧ w = w' := by
  have H := Lib.hid (tz64_any w h)
  clear h
  go_enter Tryd.func44, Tryd.ntmps44
  go_wp2_with fail
  refine H.out.mono ?_
  rintro e w' ⟨rfl, rfl⟩
  go_wp2_with fail
  go_ret
  exact ⟨rfl, rfl⟩

theorem deb_next {w w' : World} (h : Deb w) (hb : Below w.heap.size w w') : Deb w' := (hb.cell (p := ⟨3, 15, none⟩) (block_lt_of_cell h)).trans h
theorem and15 {m : Nat} (h : m < 18446744073709551616) : bits .and .u64 (m : Int) 15 = (m : Int) % 16 := by
  have h2 := u64_and_nat m 15 h (by decide)
  rw [show m &&& 15 = m % 16 from Nat.and_two_pow_sub_one_eq_mod m 4] at h2
  exact h2
theorem hexlen {n m : Nat} {l : List UInt8} (hn : n < 18446744073709551616) (he : hexF n = hexF m ++ l) : l.length + 1 ≤ 16 := by
  have h1 := (hexF_le 15 n (by simpa using hn)).1
  have h2 := hexF_pos m
  rw [he, List.length_append] at h1
  omega
def z65 : Array Value := Array.replicate 65 (.int .u8 0)
theorem zero65 (w : World) : (zeroValue 73).run Tryd.prog w = .ok (.agg z65) w := by kernel_rfl

/-- What the array holds: the digits l from place k on. -/
def Arr (w : World) (b k : Nat) (l : List UInt8) : Prop := ∃ cs : Array Value, w.heap[b]? = some (.cells cs 73 (0, 0)) ∧ cs.size = 65 ∧ k + l.length = 65 ∧ ∀ j (hj : j < l.length), cs[k + j]? = some (.int .u8 (l[j].toNat : Int))
theorem Arr.len {w : World} {b k : Nat} {l : List UInt8} (h : Arr w b k l) : k + l.length = 65 := h.choose_spec.2.2.1
theorem Arr.back {w : World} {b k : Nat} {l : List UInt8} (h : Arr w b k l) : (convert 30 9 (.slice (some ⟨b, k, none⟩) l.length l.length)).run Tryd.prog w = .ok (.string ⟨l.toArray⟩) w := by
  obtain ⟨cs, hcs, _, _, hc⟩ := h
  refine run_convert_bytes_back (P := Tryd.prog) w 30 9 5 ⟨b, k, none⟩ l.length l Tryd.underlying30 Tryd.underlying5 Tryd.underlying9 ?_
  intro j hj
  rw [show ((⟨b, k, none⟩ : Addr).add j) = ⟨b, k + j, none⟩ by unfold Addr.add; split <;> simp_all, cell_of_row _ _ _ _ _ _ hcs]
  exact hc j hj
theorem slice65 {b k n : Nat} (hk : 1 ≤ k) (hk2 : k ≤ 65) (hn : k - 1 + n = 65) (w : World) : (Instr.sliceAt 73 (.pointer (some ⟨b, 0, none⟩)) (some (.int .i64 ((k : Int) - 1))) none none).run Tryd.prog w = .ok (.slice (some ⟨b, k - 1, none⟩) n n) w := by
  have ha : Tryd.prog.arrayLen 73 = 65 := by kernel_rfl
  have he : Tryd.prog.elem 73 = 5 := by kernel_rfl
  have hs : (sizeOf 5).run Tryd.prog w = .ok 1 w := by kernel_rfl
  rw [run_sliceAt_array_l w 73 ⟨b, 0, none⟩ (by rw [ha, he]; exact Tryd.underlying73) .i64 _ (by omega) (by rw [ha]; omega), he, hs, ha]
  simp only [Result.andThen_ok, slicedAt]
  rw [show ((k : Int) - 1).toNat = k - 1 by omega, if_neg (by omega), show 65 - (k - 1) = n by omega]
  congr 3
  unfold Addr.add
  split <;> simp_all
def BRel (n b : Nat) (w : World) (u i : Value) (wr : World) : Prop :=
  ∃ (m k : Nat) (l : List UInt8), u = .int .u64 (m : Int) ∧ m < 18446744073709551616 ∧ i = .int .i64 k ∧ Arr wr b k l ∧ hexF n = hexF m ++ l ∧ Below w.heap.size w wr

def digs : ByteArray := ⟨#[48, 49, 50, 51, 52, 53, 54, 55, 56, 57, 97, 98, 99, 100, 101, 102, 103, 104, 105, 106, 107, 108, 109, 110, 111, 112, 113, 114, 115, 116, 117, 118, 119, 120, 121, 122]⟩
theorem digit_fin : ∀ d : Fin 16, digs[d.val]'(Nat.lt_of_lt_of_le d.isLt (by decide)) = hexd d.val := by decide
theorem digit (d : Nat) (h : d < 16) (h2 : d < digs.size) : ((digs[d].toNat : Nat) : Int) = ((hexd d).toNat : Int) := by
  rw [show digs[d] = hexd d from digit_fin ⟨d, h⟩]
theorem arr_put {wr : World} {b k : Nat} {cs : Array Value} {l : List UInt8} {c : UInt8} {X : Int} (hcs : wr.heap[b]? = some (.cells cs 73 (0, 0))) (hsz : cs.size = 65) (hkl : k + l.length = 65) (hcl : ∀ j (hj : j < l.length), cs[k + j]? = some (.int .u8 (l[j].toNat : Int))) (hk : 1 ≤ k) (hX : X = (c.toNat : Int)) :
    Arr (wr.setCell ⟨b, k - 1, none⟩ (.int .u8 X)) b (k - 1) (c :: l) := by
  refine ⟨_, heap_setCell_same _ _ _ _ _ _ hcs, by simpa using hsz, by simp; omega, ?_⟩
  intro j hj
  rw [Array.getElem?_setIfInBounds]
  by_cases h0 : j = 0
  · subst h0
    rw [if_pos (by omega), if_pos (by omega), hX]
    rfl
  · obtain ⟨i, rfl⟩ : ∃ i, j = i + 1 := ⟨j - 1, by omega⟩
    rw [if_neg (by omega), show k - 1 + (i + 1) = k + i by omega]
    exact hcl i (by simpa using hj)
theorem brel_more {n m k : Nat} {w wr : World} {cs : Array Value} {l : List UInt8} {X : Int} (hlt : 16 ≤ m) (hm : m < 18446744073709551616) (hcs : wr.heap[w.heap.size]? = some (.cells cs 73 (0, 0))) (hsz : cs.size = 65) (hkl : k + l.length = 65) (hcl : ∀ j (hj : j < l.length), cs[k + j]? = some (.int .u8 (l[j].toNat : Int)))
    (he : hexF n = hexF m ++ l) (hb : Below w.heap.size w wr) (hk : 49 ≤ k) (hX : X = ((hexd (m % 16)).toNat : Int)) :
    BRel n w.heap.size w (.int .u64 ((m : Int) / 16)) (.int .i64 ((k : Int) - 1)) (wr.setCell ⟨w.heap.size, k - 1, none⟩ (.int .u8 X)) := by
  refine ⟨m / 16, k - 1, hexd (m % 16) :: l, rfl, by omega, ?_, arr_put hcs hsz hkl hcl (by omega) hX, ?_, hb.setCell (by simp) _⟩
  · congr 1; omega
  · rw [he, hexF_big (by omega)]
    simp

set_option maxHeartbeats 1600000 in
set_option maxRecDepth 100000 in
theorem bits_any (n : Nat) (w : World) (hn : n < 18446744073709551616) (h : Deb w) :
    Calls Tryd.prog 34 #[.slice none 0 0, .int .u64 (n : Int), .int .i64 16, .bool false, .bool false] w fun e w' => e = .returned (.tuple #[.slice none 0 0, .string ⟨(hexF n).toArray⟩]) ∧ Below w.heap.size w w' := by
  have hz := zero65
  have HN := Lib.hid hn
  have HT := Lib.hid (tz_any _ (deb_next h ((Below.refl _ _).alloc (Nat.le_refl _) (.cells z65 73))))
  clear hn h
  go_enter Tryd.func34, Tryd.ntmps34
  go_wp2_with fail
  refine (pow_any _).mono ?_
  rintro e w' ⟨rfl, rfl⟩
  go_wp2_with fail
  refine (HT.out).mono ?_
  rintro e w' ⟨rfl, rfl⟩
  go_wp2_with fail
  go_loopw [1, 13] (fun u i wr => BRel n w.heap.size w u i wr) (fun u _ _ => (RowKit.intOf u).toNat)
  case atStart => exact ⟨n, 65, [], rfl, HN.out, rfl, ⟨z65, heap_alloc_new _ _, by simp [z65], rfl, by simp⟩, by simp, (Below.refl _ _).alloc (Nat.le_refl _) _⟩
  case round =>
    obtain ⟨m, k, l, rfl, hm, rfl, ⟨cs, hcs, hsz, hkl, hcl⟩, he, hbel⟩ := hrel
    have hlen := hexlen HN.out he
    have HM := Lib.hid hm
    have HCS := Lib.hid hcs
    have HSZ := Lib.hid hsz
    have HKL := Lib.hid hkl
    have HCL := Lib.hid hcl
    have HE := Lib.hid he
    have HB := Lib.hid hbel
    have hk1 : 49 ≤ k := by omega
    have hk2 : k ≤ 65 := by omega
    have hm' : (m : Int) ≤ 18446744073709551615 := by omega
    have e1 : ((k : Int) - 1).toNat = k - 1 := by omega
    have e2 : 0 ≤ (k : Int) - 1 := by omega
    have e3 : (k : Int) - 1 ≤ 65 := by omega
    have e4 : ¬ 65 = k - 1 := by omega
    have c1 : wr.cell? ⟨w.heap.size, k - 1, none⟩ = some cs[k - 1] := by
      rw [cell_of_row _ _ _ _ _ _ hcs, Array.getElem?_eq_getElem]
    have f1 : wr.frozen? ⟨w.heap.size, k - 1, none⟩ = false := frozen_of_row _ _ _ _ _ hcs
    obtain ⟨x, hx⟩ : ∃ x, cs[k - 1] = x := ⟨_, rfl⟩
    rw [hx] at c1
    clear hm hcs hsz hkl hcl he hbel hlen hx
    by_cases hlt : 16 ≤ m
    · have a1 := and15 HM.out
      go_wp2_with fail
      go_roundw
      case rel => exact brel_more hlt HM.out HCS.out HSZ.out HKL.out HCL.out HE.out HB.out hk1 (digit (m % 16) (by omega) (by show m % 16 < 36; omega))
      case measure => simp [RowKit.intOf]; omega
    · have hd := digit m (by omega) (by show m < 36; omega)
      unfold digs at hd
      obtain ⟨D, hD⟩ : ∃ D : Int, ((hexd m).toNat : Int) = D := ⟨_, rfl⟩
      rw [hD] at hd
      have hL : hexF n = hexd m :: l := by rw [HE.out, hexF_small (by omega)]; rfl
      have hA := arr_put HCS.out HSZ.out HKL.out HCL.out (by omega) hD.symm
      rw [← hL] at hA
      obtain ⟨L, hLL⟩ : ∃ L, hexF n = L := ⟨_, rfl⟩
      rw [hLL] at hA
      have HLL := Lib.hid hLL
      have hsl := fun w' => slice65 (k := k) (b := w.heap.size) (n := L.length) (by omega) hk2 hA.len w'
      have hbk := hA.back
      clear hD hL hA hLL
      go_wp2_with fail
      go_ret2
      exact ⟨by rw [HLL.out]; rfl, HB.out.setCell (by simp) _⟩

end Go.Proofs.YtdhhcmpoegfdjaaDoor.Hex
