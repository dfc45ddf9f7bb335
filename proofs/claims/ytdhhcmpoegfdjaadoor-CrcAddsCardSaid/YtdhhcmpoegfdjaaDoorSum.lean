/- The calls of crc.Sum and the reference's Sum. -/
import Derived.Test.YtdhhcmpoegfdjaaDoorCrc
import Derived.Test.YtdhhcmpoegfdjaaDoorProg
import Derived.WalkKit
import Derived.Below
import Derived.Laws.IdiomStrings
import Derived.Laws.BitsAllLaws
import Derived.Laws.Concat
import Derived.Outline
import Derived.Lib.Hide
namespace Go.Proofs.YtdhhcmpoegfdjaaDoor.Sum
open Go.RowKit Go.Lib Go.Proofs.YtdhhcmpoegfdjaaDoor.Crc

def crcS (s : ByteArray) : Nat := crc s.data.toList

/-! What the operations give. -/
theorem xor_u32 {a b : Nat} (ha : a < 4294967296) (hb : b < 4294967296) : bits .xor .u32 (a : Int) (b : Int) = ((a ^^^ b : Nat) : Int) := u32_xor_nat a b ha hb
theorem xor_byte {m : Nat} (hm : m < 4294967296) (c : UInt8) : bits .xor .u32 (m : Int) ((c.toNat : Int) % 4294967296) = ((m ^^^ c.toNat : Nat) : Int) := by
  have := byte_lt c
  rw [show (c.toNat : Int) % 4294967296 = ((c.toNat : Nat) : Int) by omega]
  exact xor_u32 hm (by omega)
theorem and_one {x : Nat} (hx : x < 4294967296) : bits .and .u32 (x : Int) 1 = (x : Int) % 2 := by
  have h := u32_and_nat x 1 hx (by decide)
  rw [nat_mask1] at h
  exact h
theorem xor_step {x : Nat} (hx : x < 4294967296) : bits .xor .u32 ((x : Int) / 2) ((x : Int) % 2 * 3988292384) = ((bstep x : Nat) : Int) := by
  have h := xor_u32 (a := x / 2) (b := x % 2 * 3988292384) (by omega) (by omega)
  exact h
theorem xor_all {x : Nat} (hx : x < 4294967296) : bits .xor .u32 IntKind.u32.max (x : Int) = ((x ^^^ 4294967295 : Nat) : Int) := by
  have h := xor_u32 (a := 4294967295) (b := x) (by decide) hx
  rw [Nat.xor_comm] at h
  exact h
theorem drop_at (s : ByteArray) (k : Nat) (h : k < s.size) : s.data.toList.drop k = s[k] :: s.data.toList.drop (k + 1) := by
  rw [List.drop_eq_getElem_cons (by simpa using h)]
  rfl

set_option maxHeartbeats 800000 in
set_option maxRecDepth 100000 in
theorem sum_any (s : ByteArray) (w : World) (hs : s.size ≤ 140737488355328) :
    Calls Tryd.prog 8 #[.string s] w fun e w' => e = .returned (.int .u32 (crcS s : Int)) ∧ Below w.heap.size w w' := by
  have HC := run_bytes_of_string (P := Tryd.prog) w 9 30 5 s Tryd.underlying9 Tryd.underlying30 Tryd.underlying5
  obtain ⟨cap, hcap⟩ : ∃ cap, grownCap w s.size 0 5 = cap := ⟨_, rfl⟩
  rw [hcap] at HC
  obtain ⟨n, hn⟩ : ∃ n, (bytesRow s cap).size = n := ⟨_, rfl⟩
  rw [hn] at HC
  clear hcap hn
  go_enter Tryd.func8, Tryd.ntmps8
  go_wp2_with fail
  go_loop [3, 9] (fun r i => ∃ (k m : Nat), i = .int .i64 k ∧ k ≤ s.size ∧ r = .int .u32 (m : Int) ∧ m < 4294967296 ∧ reg m (s.data.toList.drop k) = reg 4294967295 s.data.toList) (fun _ i => s.size - (intOf i).toNat)
  case atStart => exact ⟨0, 4294967295, rfl, Nat.zero_le _, rfl, by decide, by simp⟩
  case round =>
    obtain ⟨k, m, rfl, hk, rfl, hm, hr⟩ := hrel
    have HM := Lib.hid hm
    have HR := Lib.hid hr
    have hm' : (m : Int) ≤ 4294967295 := by omega
    clear hm hr
    by_cases hlt : k < s.size
    · have hc : (w.alloc (.cells (bytesRow s cap) 5 (n, n + 1))).cell? ⟨w.heap.size, k, none⟩ = some (.int .u8 (s[k].toNat : Int)) := by
        rw [World.cell?_alloc_mark, bytesRow_at s cap k (by simpa using hlt)]
        rfl
      rw [drop_at s k hlt, reg_cons] at HR
      obtain ⟨c, hcc⟩ : ∃ c, s[k] = c := ⟨_, rfl⟩
      rw [hcc] at hc HR
      have hx := xor_byte HM.out c
      clear hcc
      go_wp2_with fail
      clear hc hx
      go_loop [3, 17] (fun r i => ∃ (j x : Nat), i = .int .i64 j ∧ j ≤ 8 ∧ r = .int .u32 (x : Int) ∧ x < 4294967296 ∧ bsteps (8 - j) x = byteStep m c) (fun _ i => 8 - (intOf i).toNat)
      case atStart => exact ⟨0, m ^^^ c.toNat, rfl, Nat.zero_le _, rfl, xor_lt HM.out (by have := byte_lt c; omega), rfl⟩
      case round =>
        obtain ⟨j, x, rfl, hj, rfl, hx, hb⟩ := hrel
        have HX := Lib.hid hx
        have HB := Lib.hid hb
        have hx' : (x : Int) ≤ 4294967295 := by omega
        clear hx hb
        by_cases hj8 : j < 8
        · have e1 := and_one HX.out
          have e2 := xor_step HX.out
          go_wp2_with fail
          go_round
          case rel => exact ⟨j + 1, bstep x, by go_num, by omega, rfl, bstep_lt HX.out, by rw [← HB.out, show 8 - j = 8 - (j + 1) + 1 by omega]; rfl⟩
          case measure => simp [intOf]; omega
        · obtain rfl : j = 8 := by omega
          go_wp2_with fail
          go_round
          case rel => exact ⟨k + 1, x, by go_num, by omega, rfl, HX.out, by rw [show x = byteStep m c from HB.out]; exact HR.out⟩
          case measure => simp [intOf]; omega
    · obtain rfl : k = s.size := by omega
      have hx := xor_all HM.out
      go_wp2_with fail
      go_ret
      have e : m = reg 4294967295 s.data.toList := by
        have h := HR.out
        rw [List.drop_of_length_le (by simp)] at h
        exact h
      exact ⟨by rw [e]; rfl, ((Below.refl _ _).alloc (Nat.le_refl _) _).drew⟩

/-! The reference. -/
theorem shr_byte {x : Nat} (hx : x < 4294967296) (c : UInt8) (k : Nat) : bits .xor .u32 (x : Int) ((c.toNat : Int) / 2 ^ k % 4294967296) = ((x ^^^ c.toNat / 2 ^ k : Nat) : Int) := by
  have h1 := byte_lt c
  have h2 := Nat.div_le_self c.toNat (2 ^ k)
  have e : ((c.toNat : Int) / 2 ^ k) = ((c.toNat / 2 ^ k : Nat) : Int) := by simp
  rw [e]
  obtain ⟨q, hq⟩ : ∃ q, c.toNat / 2 ^ k = q := ⟨_, rfl⟩
  rw [hq] at h2 ⊢
  rw [show (q : Int) % 4294967296 = (q : Int) by omega]
  exact xor_u32 hx (by omega)
theorem xor_poly {x : Nat} (hx : x < 4294967296) : bits .xor .u32 ((x : Int) / 2) 3988292384 = ((x / 2 ^^^ 3988292384 : Nat) : Int) := xor_u32 (a := x / 2) (b := 3988292384) (by omega) (by decide)

set_option maxHeartbeats 800000 in
set_option maxRecDepth 100000 in
theorem rsum_any (s : ByteArray) (w : World) (hs : s.size ≤ 140737488355328) :
    Calls Tryd.prog 9 #[.string s] w fun e w' => e = .returned (.int .u32 (crcS s : Int)) ∧ w = w' := by
  go_enter Tryd.func9, Tryd.ntmps9
  go_wp2_with fail
  go_loop [3, 4] (fun r i => ∃ (k m : Nat), i = .int .i64 k ∧ k ≤ s.size ∧ r = .int .u32 (m : Int) ∧ m < 4294967296 ∧ reg m (s.data.toList.drop k) = reg 4294967295 s.data.toList) (fun _ i => s.size - (intOf i).toNat)
  case atStart => exact ⟨0, 4294967295, rfl, Nat.zero_le _, rfl, by decide, by simp⟩
  case round =>
    obtain ⟨k, m, rfl, hk, rfl, hm, hr⟩ := hrel
    have HM := Lib.hid hm
    have HR := Lib.hid hr
    have hm' : (m : Int) ≤ 4294967295 := by omega
    clear hm hr
    by_cases hlt : k < s.size
    · rw [drop_at s k hlt, reg_cons] at HR
      go_wp2_with fail
      go_loop [3, 5] (fun r i => ∃ (j x : Nat), i = .int .i64 j ∧ j ≤ 8 ∧ r = .int .u32 (x : Int) ∧ x < 4294967296 ∧ bsteps (8 - j) (x ^^^ s[k].toNat / 2 ^ j) = byteStep m s[k]) (fun _ i => 8 - (intOf i).toNat)
      case atStart => exact ⟨0, m, rfl, Nat.zero_le _, rfl, HM.out, by simp; rfl⟩
      case round =>
        obtain ⟨j, x, rfl, hj, rfl, hx, hb⟩ := hrel
        have HX := Lib.hid hx
        have HB := Lib.hid hb
        have hx' : (x : Int) ≤ 4294967295 := by omega
        clear hx hb
        by_cases hj8 : j < 8
        · have hs := ref_step x s[k].toNat j
          have e1 := shr_byte HX.out s[k] j
          have hy := xor_lt HX.out (show s[k].toNat / 2 ^ j < 4294967296 by have := byte_lt s[k]; have := Nat.div_le_self s[k].toNat (2 ^ j); omega)
          have hb2 : bsteps (8 - (j + 1)) (bstep (x ^^^ s[k].toNat / 2 ^ j)) = byteStep m s[k] := by rw [← HB.out, show 8 - j = 8 - (j + 1) + 1 by omega]; rfl
          rw [hs] at hb2
          have HB2 := Lib.hid hb2
          clear hb2 hs HB
          obtain ⟨y, hyy⟩ : ∃ y, x ^^^ s[k].toNat / 2 ^ j = y := ⟨_, rfl⟩
          rw [hyy] at e1 HB2 hy
          have e2 := and_one hy
          have e3 := xor_poly HX.out
          clear hyy hy
          rcases Nat.mod_two_eq_zero_or_one y with h0 | h0
          · have ho : ((y : Int) % 2 == 1) = false := by simp; omega
            rw [h0, Nat.zero_mul, Nat.xor_zero] at HB2
            clear h0
            go_wp2_with fail
            go_round
            case rel => exact ⟨j + 1, x / 2, by go_num, by omega, rfl, by have := HX.out; omega, HB2.out⟩
            case measure => simp [intOf]; omega
          · have ho : ((y : Int) % 2 == 1) = true := by simp; omega
            rw [h0, Nat.one_mul] at HB2
            clear h0
            go_wp2_with fail
            go_round
            case rel => exact ⟨j + 1, x / 2 ^^^ 3988292384, by go_num, by omega, rfl, xor_lt (by have := HX.out; omega) (by decide), HB2.out⟩
            case measure => simp [intOf]; omega
        · obtain rfl : j = 8 := by omega
          have hb8 : x = byteStep m s[k] := by
            have h := HB.out
            rw [show s[k].toNat / 2 ^ 8 = 0 by have := byte_lt s[k]; omega, Nat.xor_zero] at h
            exact h
          have HB8 := Lib.hid hb8
          clear hb8 HB
          go_wp2_with fail
          go_round
          case rel => exact ⟨k + 1, x, by go_num, by omega, rfl, HX.out, by rw [HB8.out]; exact HR.out⟩
          case measure => simp [intOf]; omega
    · obtain rfl : k = s.size := by omega
      have hx : bits .xor .u32 (m : Int) 4294967295 = ((m ^^^ 4294967295 : Nat) : Int) := xor_u32 HM.out (by decide)
      go_wp2_with fail
      go_ret
      have e : m = reg 4294967295 s.data.toList := by
        have h := HR.out
        rw [List.drop_of_length_le (by simp)] at h
        exact h
      exact ⟨by rw [e]; rfl, rfl⟩

end Go.Proofs.YtdhhcmpoegfdjaaDoor.Sum
