/- The calls of crc's digest and Chain, and the reference's Chain. -/
import Derived.Test.YtdhhcmpoegfdjaaDoorSum
import Derived.Test.YtdhhcmpoegfdjaaDoorOwnb
namespace Go.Proofs.YtdhhcmpoegfdjaaDoor.Fnv
open Go.RowKit Go.Lib Go.Proofs.YtdhhcmpoegfdjaaDoor.Crc Go.Proofs.YtdhhcmpoegfdjaaDoor.Sum Go.Proofs.YtdhhcmpoegfdjaaDoor.Ownb

theorem xor_u64 {a b : Nat} (ha : a < 18446744073709551616) (hb : b < 18446744073709551616) : bits .xor .u64 (a : Int) (b : Int) = ((a ^^^ b : Nat) : Int) := u64_xor_nat a b ha hb
theorem wrap_u64 (n : Int) : IntKind.u64.wrap n = n % 18446744073709551616 := by simp [IntKind.wrap, IntKind.bits, IntKind.signed]
theorem fnv_step {d : Nat} (hd : d < 18446744073709551616) (c : UInt8) : IntKind.u64.wrap (bits .xor .u64 (d : Int) (IntKind.u64.wrap (c.toNat : Int)) * 1099511628211) = ((fnv d c : Nat) : Int) := by
  have := byte_lt c
  rw [wrap_u64, wrap_u64, show (c.toNat : Int) % 18446744073709551616 = ((c.toNat : Nat) : Int) by omega, xor_u64 hd (by omega)]
  rfl

set_option maxRecDepth 100000 in
theorem add_any (d : Nat) (c : UInt8) (w : World) (hd : d < 18446744073709551616) :
    Calls Tryd.prog 21 #[.int .u64 (d : Int), .int .u8 (c.toNat : Int)] w fun e w' => e = .returned (.int .u64 (fnv d c : Int)) ∧ w = w' := by
  have hF := fnv_step hd c
  clear hd
  go_enter Tryd.func21, Tryd.ntmps21
  go_wp2_with fail
  go_ret
  exact ⟨rfl, rfl⟩

theorem u8_mod (n : Nat) : (((n % 256).toUInt8.toNat : Nat) : Int) = (n : Int) % 256 := by
  rw [u8_toNat (by omega)]
  rfl
theorem leN_step {k : Nat} (h : k < 8) (a b : Nat) : fnvs a (leN (8 - k) b) = fnvs (fnv a (b % 256).toUInt8) (leN (8 - (k + 1)) (b / 256)) := by
  rw [show 8 - k = 8 - (k + 1) + 1 by omega, leN, fnvs]

set_option maxHeartbeats 800000 in
set_option maxRecDepth 100000 in
theorem addN_any (d n : Nat) (w : World) (hd : d < 18446744073709551616) (hn : n < 18446744073709551616) :
    Calls Tryd.prog 20 #[.int .u64 (d : Int), .int .u64 (n : Int)] w fun e w' => e = .returned (.int .u64 (addN d n : Int)) ∧ w = w' := by
  have HD := Lib.hid hd
  have HN := Lib.hid hn
  clear hd hn
  go_enter Tryd.func20, Tryd.ntmps20
  go_wp2_with fail
  go_loop [0, 1, 5] (fun x y i => ∃ (k a b : Nat), i = .int .i64 k ∧ k ≤ 8 ∧ x = .int .u64 (a : Int) ∧ y = .int .u64 (b : Int) ∧ a < 18446744073709551616 ∧ b < 18446744073709551616 ∧ fnvs a (leN (8 - k) b) = addN d n) (fun _ _ i => 8 - (intOf i).toNat)
  case atStart => exact ⟨0, d, n, rfl, Nat.zero_le _, rfl, rfl, HD.out, HN.out, rfl⟩
  case round =>
    obtain ⟨k, a, b, rfl, hk, rfl, rfl, ha, hb, hr⟩ := hrel
    have HA := Lib.hid ha
    have HR := Lib.hid hr
    have HB := Lib.hid hb
    have hb' : (b : Int) ≤ 18446744073709551615 := by omega
    clear ha hb hr
    by_cases hlt : k < 8
    · have HC := Lib.hid (fun w => add_any a (b % 256).toUInt8 w HA.out)
      rw [u8_mod] at HC
      rw [leN_step hlt] at HR
      have HL := Lib.hid (fnv_lt a (b % 256).toUInt8)
      obtain ⟨a', ha'⟩ : ∃ a', fnv a (b % 256).toUInt8 = a' := ⟨_, rfl⟩
      rw [ha'] at HC HR HL
      clear ha'
      go_wp2_with fail
      refine (HC.out _).mono ?_
      rintro e w' ⟨rfl, rfl⟩
      go_wp2_with fail
      go_round
      case rel => exact ⟨k + 1, a', b / 256, by go_num, by omega, rfl, rfl, HL.out, by have := HB.out; omega, HR.out⟩
      case measure => simp [intOf]; omega
    · obtain rfl : k = 8 := by omega
      go_wp2_with fail
      go_ret
      exact ⟨by rw [← HR.out]; rfl, rfl⟩

def chainS (h : Nat) (s : ByteArray) : Nat := chain h s.data.toList
theorem size_list (s : ByteArray) : s.data.toList.length = s.size := by simp
theorem addN_lt (d n : Nat) (h : d < 18446744073709551616) : addN d n < 18446744073709551616 := fnvs_lt _ h

set_option maxHeartbeats 800000 in
set_option maxRecDepth 100000 in
theorem chain_any (h : Nat) (s : ByteArray) (w : World) (hh : h < 18446744073709551616) (hs : s.size ≤ 140737488355328) :
    Calls Tryd.prog 15 #[.int .u64 (h : Int), .string s] w fun e w' => e = .returned (.int .u64 (chainS h s : Int)) ∧ Below w.heap.size w w' := by
  have HC1 := Lib.hid (fun w => addN_any 14695981039346656037 h w (by decide) hh)
  have HC2 := Lib.hid (fun w => addN_any (addN 14695981039346656037 h) s.size w (addN_lt _ _ (by decide)) (by omega))
  have HR0 := Lib.hid (chain_eq h s.data.toList)
  rw [size_list] at HR0
  have HL := Lib.hid (addN_lt (addN 14695981039346656037 h) s.size (addN_lt _ _ (by decide)))
  obtain ⟨d1, hd1⟩ : ∃ d1, addN 14695981039346656037 h = d1 := ⟨_, rfl⟩
  rw [hd1] at HC1 HC2 HR0 HL
  obtain ⟨d2, hd2⟩ : ∃ d2, addN d1 s.size = d2 := ⟨_, rfl⟩
  rw [hd2] at HC2 HR0 HL
  clear hd1 hd2 hh
  have HC := run_bytes_of_string (P := Tryd.prog) w 9 30 5 s Tryd.underlying9 Tryd.underlying30 Tryd.underlying5
  obtain ⟨cap, hcap⟩ : ∃ cap, grownCap w s.size 0 5 = cap := ⟨_, rfl⟩
  rw [hcap] at HC
  obtain ⟨n, hn⟩ : ∃ n, (bytesRow s cap).size = n := ⟨_, rfl⟩
  rw [hn] at HC
  clear hcap hn
  go_enter Tryd.func15, Tryd.ntmps15
  go_wp2_with fail
  refine (HC1.out _).mono ?_
  rintro e w' ⟨rfl, rfl⟩
  go_wp2_with fail
  refine (HC2.out _).mono ?_
  rintro e w' ⟨rfl, rfl⟩
  go_wp2_with fail
  go_loop [5, 17] (fun x i => ∃ (k a : Nat), i = .int .i64 k ∧ k ≤ s.size ∧ x = .int .u64 (a : Int) ∧ a < 18446744073709551616 ∧ fnvs a (s.data.toList.drop k) = chain h s.data.toList) (fun _ i => s.size - (intOf i).toNat)
  case atStart => exact ⟨0, d2, rfl, Nat.zero_le _, rfl, HL.out, HR0.out.symm⟩
  case round =>
    obtain ⟨k, a, rfl, hk, rfl, ha, hr⟩ := hrel
    have HA := Lib.hid ha
    have HR := Lib.hid hr
    clear ha hr
    by_cases hlt : k < s.size
    · have hc : (w.alloc (.cells (bytesRow s cap) 5 (n, n + 1))).cell? ⟨w.heap.size, k, none⟩ = some (.int .u8 (s[k].toNat : Int)) := by
        rw [World.cell?_alloc_mark, bytesRow_at s cap k (by simpa using hlt)]
        rfl
      rw [drop_at s k hlt, fnvs] at HR
      obtain ⟨c, hcc⟩ : ∃ c, s[k] = c := ⟨_, rfl⟩
      rw [hcc] at hc HR
      clear hcc
      have HX := Lib.hid (fun w => add_any a c w HA.out)
      have HLT := Lib.hid (fnv_lt a c)
      obtain ⟨a', ha'⟩ : ∃ a', fnv a c = a' := ⟨_, rfl⟩
      rw [ha'] at HX HR HLT
      clear ha'
      go_wp2_with fail
      refine (HX.out _).mono ?_
      rintro e w' ⟨rfl, rfl⟩
      go_wp2_with fail
      go_round
      case rel => exact ⟨k + 1, a', by go_num, by omega, rfl, HLT.out, HR.out⟩
      case measure => simp [intOf]; omega
    · obtain rfl : k = s.size := by omega
      go_wp2_with fail
      go_ret
      have e : a = chain h s.data.toList := by
        have h := HR.out
        rw [List.drop_of_length_le (by simp)] at h
        exact h
      exact ⟨by rw [e]; rfl, ((Below.refl _ _).alloc (Nat.le_refl _) _).drew⟩

end Go.Proofs.YtdhhcmpoegfdjaaDoor.Fnv
