/- The calls of strconv.FormatUint at base 16, crc.Hex and the reference's Hex. -/
import Derived.Test.YtdhhcmpoegfdjaaDoorHex
namespace Go.Proofs.YtdhhcmpoegfdjaaDoor.Hex
open Go.RowKit Go.Proofs.YtdhhcmpoegfdjaaDoor.Crc Go.Proofs.YtdhhcmpoegfdjaaDoor.Ownb

set_option maxRecDepth 100000 in
theorem fmti_any (n : Nat) (w : World) (hn : n < 18446744073709551616) (h : Deb w) :
    Calls Tryd.prog 24 #[.int .u64 (n : Int), .int .i64 16] w fun e w' => e = .returned (.string ⟨(hexF n).toArray⟩) ∧ Below w.heap.size w w' := by
  have H := Lib.hid (bits_any n w hn h)
  clear hn h
  go_enter Tryd.func24, Tryd.ntmps24
  go_wp2_with fail
  refine H.out.mono ?_
  rintro e w1 ⟨rfl, bb⟩
  have HB := Lib.hid bb
  clear bb
  go_wp2_with fail
  go_ret
  exact ⟨rfl, HB.out⟩
set_option maxRecDepth 100000 in
theorem fmt_any (n : Nat) (w : World) (hn : n < 18446744073709551616) (h : Deb w) :
    Calls Tryd.prog 22 #[.int .u64 (n : Int), .int .i64 16] w fun e w' => e = .returned (.string ⟨(hexF n).toArray⟩) ∧ Below w.heap.size w w' := by
  have H := Lib.hid (fmti_any n w hn h)
  clear hn h
  go_enter Tryd.func22, Tryd.ntmps22
  go_wp2_with fail
  refine H.out.mono ?_
  rintro e w1 ⟨rfl, bb⟩
  have HB := Lib.hid bb
  clear bb
  go_wp2_with fail
  go_ret
  exact ⟨rfl, HB.out⟩

def digs16 : ByteArray := ⟨#[48, 49, 50, 51, 52, 53, 54, 55, 56, 57, 97, 98, 99, 100, 101, 102]⟩
theorem enc_fin : ∀ d : Fin 16, (Utf8.encode ((digs16[d.val]'(Nat.lt_of_lt_of_le d.isLt (by decide))).toNat : Int)).data.toList = [hexd d.val] := by decide
theorem enc_digit (d : Nat) (h : d < 16) (h2 : d < digs16.size) : Utf8.encode (digs16[d].toNat : Int) = ⟨[hexd d].toArray⟩ := by
  apply ByteArray.ext
  apply Array.toList_inj.1
  rw [enc_fin ⟨d, h⟩]
theorem add_digit {P : Program} (w : World) (c : UInt8) (l : List UInt8) (h : l.length ≤ 1000) : (Op.stringOp .add ⟨[c].toArray⟩ ⟨l.toArray⟩).run P w = .ok (.string ⟨(c :: l).toArray⟩) w := by
  have := run_string_add_sum (P := P) w ⟨[c].toArray⟩ ⟨l.toArray⟩ (by show (1 : Nat) + l.toArray.size ≤ _; simp; omega)
  rw [this]
  congr 2

def hexS (n : Nat) : ByteArray := ⟨(hexN 16 n).toArray⟩
set_option maxHeartbeats 1600000 in
set_option maxRecDepth 1000000 in
theorem rhex_any (n : Nat) (w : World) (hn : n < 18446744073709551616) :
    Calls Tryd.prog 18 #[.int .u64 (n : Int)] w fun e w' => e = .returned (.string (hexS n)) ∧ w = w' := by
  have HN := Lib.hid hn
  clear hn
  go_enter Tryd.func18, Tryd.ntmps18
  go_wp2_with fail
  go_loop [0, 3, 4] (fun u s i => ∃ (k m : Nat) (l : List UInt8), i = .int .i64 k ∧ k ≤ 16 ∧ u = .int .u64 (m : Int) ∧ m < 18446744073709551616 ∧ s = .string ⟨l.toArray⟩ ∧ l.length = k ∧ hexN (16 - k) m ++ l = hexN 16 n) (fun _ _ i => 16 - (RowKit.intOf i).toNat)
  case atStart => exact ⟨0, n, [], rfl, Nat.zero_le _, rfl, HN.out, rfl, rfl, by simp⟩
  case round =>
    obtain ⟨k, m, l, rfl, hk, rfl, hm, rfl, hl, he⟩ := hrel
    have HM := Lib.hid hm
    have HL := Lib.hid hl
    have HE := Lib.hid he
    have hm' : (m : Int) ≤ 18446744073709551615 := by omega
    clear hm hl he
    by_cases hlt : k < 16
    · have hd := enc_digit (m % 16) (by omega) (by show m % 16 < 16; omega)
      unfold digs16 at hd
      have hE : hexN (16 - (k + 1)) (m / 16) ++ (hexd (m % 16) :: l) = hexN 16 n := by
        rw [← HE.out, show 16 - k = 16 - (k + 1) + 1 by omega, hexN]
        simp
      obtain ⟨c, hc⟩ : ∃ c, hexd (m % 16) = c := ⟨_, rfl⟩
      rw [hc] at hd hE
      have HE2 := Lib.hid hE
      have hadd := fun w => add_digit (P := Tryd.prog) w c l (by have := HL.out; omega)
      obtain ⟨cl, hcl⟩ : ∃ cl, c :: l = cl := ⟨_, rfl⟩
      rw [hcl] at hadd HE2
      have HL2 := Lib.hid (show cl.length = k + 1 by have := HL.out; rw [← hcl]; simp; exact this)
      obtain ⟨C, hC⟩ : ∃ C, (⟨[c].toArray⟩ : ByteArray) = C := ⟨_, rfl⟩
      rw [hC] at hd hadd
      clear hE hc hcl hC HE
      go_wp2_with fail
      go_round
      case rel => exact ⟨k + 1, m / 16, cl, by go_num, by omega, rfl, by have := HM.out; omega, rfl, HL2.out, HE2.out⟩
      case measure => simp [RowKit.intOf]; omega
    · obtain rfl : k = 16 := by omega
      go_wp2_with fail
      go_ret
      exact ⟨by rw [hexS, ← HE.out]; rfl, rfl⟩

theorem pad_eq (n : Nat) (hn : n < 18446744073709551616) : (hexF n).length ≤ 16 ∧ hexS n = ⟨(Lib.repeatL [48] (16 - (hexF n).length)).toArray⟩ ++ ⟨(hexF n).toArray⟩ := by
  have h := hexF_le 15 n (by simpa using hn)
  refine ⟨h.1, ?_⟩
  apply ByteArray.ext
  apply Array.toList_inj.1
  have e := Lib.repeatL_replicate 48 1 (16 - (hexF n).length)
  rw [Nat.mul_one] at e
  rw [show [(48 : UInt8)] = List.replicate 1 48 from rfl, e]
  simp only [hexS, h.2]
  simp
set_option maxRecDepth 100000 in
theorem hex_any (n : Nat) (w : World) (hn : n < 18446744073709551616) (h : Deb w) :
    Calls Tryd.prog 17 #[.int .u64 (n : Int)] w fun e w' => e = .returned (.string (hexS n)) ∧ Below w.heap.size w w' := by
  have H := Lib.hid (fmt_any n w hn h)
  have HP := Lib.hid (pad_eq n hn)
  have hl := (pad_eq n hn).1
  obtain ⟨L, hL⟩ : ∃ L, hexF n = L := ⟨_, rfl⟩
  rw [hL] at H HP hl
  have HR := Lib.hid (fun w => Tryd.strings_Repeat ⟨#[48]⟩ (16 - L.length) w (by omega) (by show 1 * _ ≤ _; omega))
  have e1 : ((16 - L.length : Nat) : Int) = 16 - (L.length : Int) := by omega
  rw [e1] at HR
  clear hn h hL e1
  go_enter Tryd.func17, Tryd.ntmps17
  go_wp2_with fail
  refine H.out.mono ?_
  rintro e w1 ⟨rfl, bb⟩
  have HB := Lib.hid bb
  clear bb
  go_wp2_with fail
  refine (HR.out _).mono ?_
  rintro e w2 ⟨rfl, bb⟩
  have HB2 := Lib.hid (HB.out.trans (bb.mono HB.out.size))
  clear bb HB
  have hadd : ∀ w, (Op.stringOp .add ⟨(Lib.repeatL [48] (16 - L.length)).toArray⟩ ⟨L.toArray⟩).run Tryd.prog w = .ok (.string (⟨(Lib.repeatL [48] (16 - L.length)).toArray⟩ ++ ⟨L.toArray⟩)) w := fun w =>
    run_string_add_sum w _ _ (by
      have e := Lib.repeatL_length [48] (16 - L.length)
      show (Lib.repeatL [48] (16 - L.length)).toArray.size + L.toArray.size ≤ _
      simp [e]
      omega)
  go_wp2_with fail
  go_ret
  exact ⟨by rw [HP.out.2]; rfl, HB2.out⟩

end Go.Proofs.YtdhhcmpoegfdjaaDoor.Hex
