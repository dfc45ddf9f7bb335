/- The calls of TakeInt, TakeBool, TakeCount and TakeText, of wire and of the reference. -/
import Derived.Test.YtpbmkapeieoiaaaTur
namespace Go.Proofs.Ytpbmkapeieoiaaa.Takes
open Go.RowKit Go.Lib Go.Proofs.Ytpbmkapeieoiaaa.Var Go.Proofs.Ytpbmkapeieoiaaa.Uints

/-- What is known of a decoded number. -/
theorem tu_facts {s : ByteArray} {t : Int} {n to e : Nat} (h : tu s t = (n, to, e)) :
    n < 18446744073709551616 ∧ to ≤ s.size ∧ e ≤ 5 ∧ (¬ e = 0 → n = 0 ∧ to = 0) ∧ (e = 0 → 0 ≤ t ∧ t < (to : Int)) := by
  unfold tu at h
  split at h
  · cases h; exact ⟨by decide, by omega, by omega, fun _ => ⟨rfl, rfl⟩, fun h => by cases h⟩
  · rename_i ht
    obtain ⟨a, rfl⟩ := Int.eq_ofNat_of_zero_le (show 0 ≤ t by omega)
    rw [Int.toNat_natCast] at h
    rcases scan_err (s.data.toList.drop a) 0 0 with h0 | h0 | h0
    · obtain ⟨m, e1, e2, e3, e4, _, e6⟩ := scan_exact (s.data.toList.drop a) 0 0 (by omega) h0
      simp only [h0, if_true] at h
      obtain ⟨g1, g2⟩ := Prod.mk.inj h
      obtain ⟨g3, g4⟩ := Prod.mk.inj g2
      clear h g2
      have hl : (s.data.toList.drop a).length = s.size - a := by rw [List.length_drop, size_list]
      have hp := uvarint_pos m
      refine ⟨by rw [← g1, e1]; simpa using e6, by omega, by omega, fun h => by omega, fun _ => ⟨by omega, by omega⟩⟩
    · simp [h0] at h
      obtain ⟨rfl, rfl, rfl⟩ := h
      exact ⟨by decide, by omega, by omega, fun _ => ⟨rfl, rfl⟩, fun h => by cases h⟩
    · simp [h0] at h
      obtain ⟨rfl, rfl, rfl⟩ := h
      exact ⟨by decide, by omega, by omega, fun _ => ⟨rfl, rfl⟩, fun h => by cases h⟩

/-! TakeInt. -/
def tiN (s : ByteArray) (t : Int) : Int := unzig (tu s t).1
def tiV (s : ByteArray) (t : Int) : Value := .tuple #[.int .i64 (tiN s t), .int .i64 (tuT s t), .int .i64 (tuE s t)]
theorem tiV_of {s : ByteArray} {t : Int} {n to e : Nat} (h : tu s t = (n, to, e)) : tiV s t = .tuple #[.int .i64 (unzig n), .int .i64 (to : Int), .int .i64 (e : Int)] := by simp only [tiV, tiN, tuT, tuE, h]
theorem unzig_odd {n : Nat} (h : n % 2 = 1) : unzig n = -((n : Int) / 2) - 1 := by unfold unzig; rw [if_pos h]; omega
theorem unzig_even {n : Nat} (h : ¬ n % 2 = 1) : unzig n = (n : Int) / 2 := by unfold unzig; rw [if_neg h]; omega

set_option maxRecDepth 100000 in
theorem takeInt_any (s : ByteArray) (t : Int) (w : World) (h : s.size ≤ 140737488351232) :
    Calls Try.prog 24 #[.string s, .int .i64 t] w fun e w' => e = .returned (tiV s t) ∧ Below w.heap.size w w' := by
  obtain ⟨⟨n, to, e⟩, hT⟩ : ∃ r, tu s t = r := ⟨_, rfl⟩
  have HU := Lib.hid (takeUint_any s t w h)
  rw [tuV_of hT] at HU
  have HV := Lib.hid (tiV_of hT)
  have hn : (n : Int) ≤ 18446744073709551615 := by have := (tu_facts hT).1; omega
  clear hT
  by_cases ho : n % 2 = 1
  · rw [unzig_odd ho] at HV
    have h1 : ((n : Int) % 2 == 1) = true := by simp; omega
    clear ho
    go_enter Try.func24, Try.ntmps24
    go_wp2_with fail
    refine HU.out.mono ?_
    rintro e w' ⟨rfl, hb⟩
    have HB := Lib.hid hb
    clear hb
    go_wp2_with fail
    go_ret3
    exact ⟨by rw [HV.out]; rfl, HB.out⟩
  · rw [unzig_even ho] at HV
    have h1 : ((n : Int) % 2 == 1) = false := by simp; omega
    clear ho
    go_enter Try.func24, Try.ntmps24
    go_wp2_with fail
    refine HU.out.mono ?_
    rintro e w' ⟨rfl, hb⟩
    have HB := Lib.hid hb
    clear hb
    go_wp2_with fail
    go_ret3
    exact ⟨by rw [HV.out]; rfl, HB.out⟩

set_option maxRecDepth 100000 in
theorem rtakeInt_any (s : ByteArray) (t : Int) (w : World) (h : s.size ≤ 140737488351232) :
    Calls Try.prog 25 #[.string s, .int .i64 t] w fun e w' => e = .returned (tiV s t) ∧ w = w' := by
  obtain ⟨⟨n, to, e⟩, hT⟩ : ∃ r, tu s t = r := ⟨_, rfl⟩
  have HU := Lib.hid (rtakeUint_any s t w h)
  rw [tuV_of hT] at HU
  have HV := Lib.hid (tiV_of hT)
  obtain ⟨hn, _, _, he0, _⟩ := tu_facts hT
  have hn : (n : Int) ≤ 18446744073709551615 := by omega
  clear hT
  by_cases he : e = 0
  · subst he
    clear he0
    by_cases ho : n % 2 = 1
    · rw [unzig_odd ho] at HV
      have h1 : ((n : Int) % 2 == 0) = false := by simp; omega
      clear ho
      go_enter Try.func25, Try.ntmps25
      go_wp2_with fail
      refine HU.out.mono ?_
      rintro e w' ⟨rfl, rfl⟩
      go_wp2_with fail
      go_ret3
      exact ⟨by rw [HV.out]; rfl, rfl⟩
    · rw [unzig_even ho] at HV
      have h1 : ((n : Int) % 2 == 0) = true := by simp; omega
      clear ho
      go_enter Try.func25, Try.ntmps25
      go_wp2_with fail
      refine HU.out.mono ?_
      rintro e w' ⟨rfl, rfl⟩
      go_wp2_with fail
      go_ret3
      exact ⟨by rw [HV.out]; rfl, rfl⟩
  · obtain ⟨rfl, rfl⟩ := he0 he
    have h1 : ((e : Int) != 0) = true := by simp; omega
    clear he he0
    go_enter Try.func25, Try.ntmps25
    go_wp2_with fail
    refine HU.out.mono ?_
    rintro e w' ⟨rfl, rfl⟩
    go_wp2_with fail
    go_ret3
    exact ⟨by rw [HV.out]; rfl, rfl⟩

/-! TakeBool. -/
def tbR (s : ByteArray) (t : Int) : Bool × Int × Int :=
  if t < 0 ∨ (s.size : Int) < t then (false, 0, 1) else if t = s.size then (false, 0, 5) else
    let c := s.data.toList.getD t.toNat 0
    if 1 < c.toNat then (false, 0, 4) else (c.toNat == 1, t + 1, 0)
def tbV (s : ByteArray) (t : Int) : Value := .tuple #[.bool (tbR s t).1, .int .i64 (tbR s t).2.1, .int .i64 (tbR s t).2.2]
theorem tbV_of {s : ByteArray} {t : Int} {b : Bool} {to e : Int} (h : tbR s t = (b, to, e)) : tbV s t = .tuple #[.bool b, .int .i64 to, .int .i64 e] := by simp only [tbV, h]
theorem getD_byte {s : ByteArray} {a : Nat} (h : a < s.size) : s.data.toList.getD a 0 = s[a] := by
  have : a < s.data.toList.length := by rw [size_list]; exact h
  rw [List.getD_eq_getElem?_getD, List.getElem?_eq_getElem this]
  rfl

set_option maxRecDepth 100000 in
theorem takeBool_any (s : ByteArray) (t : Int) (w : World) (h : s.size ≤ 140737488351232) :
    Calls Try.prog 26 #[.string s, .int .i64 t] w fun e w' => e = .returned (tbV s t) ∧ w = w' := by
  have HO := Lib.hid (outside_any s t w)
  by_cases ht : t < 0 ∨ (s.size : Int) < t
  · have HV := Lib.hid (tbV_of (show tbR s t = (false, 0, 1) by rw [tbR, if_pos ht]))
    rw [show outB s t = true by simpa [outB] using ht] at HO
    clear ht
    go_enter Try.func26, Try.ntmps26
    go_wp2_with fail
    refine HO.out.mono ?_
    rintro e w' ⟨rfl, rfl⟩
    go_wp2_with fail
    go_ret3
    exact ⟨by rw [HV.out]; rfl, rfl⟩
  · rw [show outB s t = false by simp [outB]; omega] at HO
    obtain ⟨a, rfl⟩ := Int.eq_ofNat_of_zero_le (show 0 ≤ t by omega)
    by_cases h1 : a = s.size
    · subst h1
      have HV := Lib.hid (tbV_of (show tbR s (s.size : Int) = (false, 0, 5) by rw [tbR, if_neg ht, if_pos rfl]))
      clear ht
      go_enter Try.func26, Try.ntmps26
      go_wp2_with fail
      refine HO.out.mono ?_
      rintro e w' ⟨rfl, rfl⟩
      go_wp2_with fail
      go_ret3
      exact ⟨by rw [HV.out]; rfl, rfl⟩
    · have hlt : a < s.size := by omega
      have hne : ((a : Int) == (s.size : Int)) = false := by simp; omega
      obtain ⟨c, hc⟩ : ∃ c, s[a].toNat = c := ⟨_, rfl⟩
      have hc256 : c < 256 := by rw [← hc]; exact s[a].toNat_lt
      have HR := Lib.hid (show tbR s (a : Int) = if 1 < c then (false, 0, 4) else (c == 1, (a : Int) + 1, 0) by
        rw [tbR, if_neg ht, if_neg (by omega), Int.toNat_natCast]
        simp only [getD_byte hlt, hc])
      clear ht h1
      by_cases h2 : 1 < c
      · rw [if_pos h2] at HR
        have HV := Lib.hid (tbV_of HR.out)
        go_enter Try.func26, Try.ntmps26
        go_wp2_with fail
        refine HO.out.mono ?_
        rintro e w' ⟨rfl, rfl⟩
        go_wp2_with fail
        go_ret3
        exact ⟨by rw [HV.out]; rfl, rfl⟩
      · rw [if_neg h2] at HR
        have HV := Lib.hid (tbV_of HR.out)
        by_cases h3 : c = 1
        · subst h3
          go_enter Try.func26, Try.ntmps26
          go_wp2_with fail
          refine HO.out.mono ?_
          rintro e w' ⟨rfl, rfl⟩
          go_wp2_with fail
          go_ret3
          exact ⟨by rw [HV.out]; rfl, rfl⟩
        · obtain rfl : c = 0 := by omega
          go_enter Try.func26, Try.ntmps26
          go_wp2_with fail
          refine HO.out.mono ?_
          rintro e w' ⟨rfl, rfl⟩
          go_wp2_with fail
          go_ret3
          exact ⟨by rw [HV.out]; rfl, rfl⟩

set_option maxRecDepth 100000 in
theorem rtakeBool_any (s : ByteArray) (t : Int) (w : World) (h : s.size ≤ 140737488351232) :
    Calls Try.prog 27 #[.string s, .int .i64 t] w fun e w' => e = .returned (tbV s t) ∧ w = w' := by
  by_cases ht : t < 0 ∨ (s.size : Int) < t
  · have HV := Lib.hid (tbV_of (show tbR s t = (false, 0, 1) by rw [tbR, if_pos ht]))
    by_cases h0 : t < 0
    · clear ht
      go_enter Try.func27, Try.ntmps27
      go_wp2_with fail
      go_ret3
      exact ⟨by rw [HV.out]; rfl, rfl⟩
    · have h1 : (s.size : Int) < t := by omega
      clear ht
      go_enter Try.func27, Try.ntmps27
      go_wp2_with fail
      go_ret3
      exact ⟨by rw [HV.out]; rfl, rfl⟩
  · obtain ⟨a, rfl⟩ := Int.eq_ofNat_of_zero_le (show 0 ≤ t by omega)
    have hob : decide ((s.size : Int) < (a : Int)) = false := by simp; omega
    by_cases h1 : a = s.size
    · subst h1
      have HV := Lib.hid (tbV_of (show tbR s (s.size : Int) = (false, 0, 5) by rw [tbR, if_neg ht, if_pos rfl]))
      clear ht
      go_enter Try.func27, Try.ntmps27
      go_wp2_with fail
      go_ret3
      exact ⟨by rw [HV.out]; rfl, rfl⟩
    · have hlt : a < s.size := by omega
      have hne : ((a : Int) == (s.size : Int)) = false := by simp; omega
      obtain ⟨c, hc⟩ : ∃ c, s[a].toNat = c := ⟨_, rfl⟩
      have hc256 : c < 256 := by rw [← hc]; exact s[a].toNat_lt
      have HR := Lib.hid (show tbR s (a : Int) = if 1 < c then (false, 0, 4) else (c == 1, (a : Int) + 1, 0) by
        rw [tbR, if_neg ht, if_neg (by omega), Int.toNat_natCast]
        simp only [getD_byte hlt, hc])
      clear ht h1
      by_cases h2 : 1 < c
      · rw [if_pos h2] at HR
        have HV := Lib.hid (tbV_of HR.out)
        go_enter Try.func27, Try.ntmps27
        go_wp2_with fail
        go_ret3
        exact ⟨by rw [HV.out]; rfl, rfl⟩
      · rw [if_neg h2] at HR
        have HV := Lib.hid (tbV_of HR.out)
        by_cases h3 : c = 1
        · subst h3
          go_enter Try.func27, Try.ntmps27
          go_wp2_with fail
          go_ret3
          exact ⟨by rw [HV.out]; rfl, rfl⟩
        · obtain rfl : c = 0 := by omega
          go_enter Try.func27, Try.ntmps27
          go_wp2_with fail
          go_ret3
          exact ⟨by rw [HV.out]; rfl, rfl⟩

/-! TakeCount. -/
def tc (s : ByteArray) (t most : Int) : Nat × Nat × Nat :=
  let r := tu s t
  if r.2.2 ≠ 0 then (0, 0, r.2.2) else if most < 0 ∨ most < (r.1 : Int) then (0, 0, 2) else if s.size - r.2.1 < r.1 then (0, 0, 5) else r
def tcV (s : ByteArray) (t most : Int) : Value := .tuple #[.int .i64 ((tc s t most).1 : Int), .int .i64 ((tc s t most).2.1 : Int), .int .i64 ((tc s t most).2.2 : Int)]
theorem tcV_of {s : ByteArray} {t most : Int} {n to e : Nat} (h : tc s t most = (n, to, e)) : tcV s t most = .tuple #[.int .i64 (n : Int), .int .i64 (to : Int), .int .i64 (e : Int)] := by simp only [tcV, h]
theorem tc_cases {s : ByteArray} {t most : Int} {n to e : Nat} (h : tu s t = (n, to, e)) :
    tc s t most = if e ≠ 0 then (0, 0, e) else if most < 0 ∨ most < (n : Int) then (0, 0, 2) else if s.size - to < n then (0, 0, 5) else (n, to, e) := by
  unfold tc
  rw [h]

set_option maxRecDepth 100000 in
theorem takeCount_any (s : ByteArray) (t most : Int) (w : World) (h : s.size ≤ 140737488351232) (hm : most ≤ 9223372036854775807) :
    Calls Try.prog 30 #[.string s, .int .i64 t, .int .i64 most] w fun e w' => e = .returned (tcV s t most) ∧ Below w.heap.size w w' := by
  obtain ⟨⟨n, to, e⟩, hT⟩ : ∃ r, tu s t = r := ⟨_, rfl⟩
  have HU := Lib.hid (takeUint_any s t w h)
  rw [tuV_of hT] at HU
  have HC := Lib.hid (tc_cases (most := most) hT)
  obtain ⟨hn, hto, _, _, _⟩ := tu_facts hT
  have hn : (n : Int) ≤ 18446744073709551615 := by omega
  clear hT
  by_cases he : e = 0
  · subst he
    rw [if_neg (by omega)] at HC
    by_cases h1 : most < 0
    · rw [if_pos (.inl h1)] at HC
      have HV := Lib.hid (tcV_of HC.out)
      go_enter Try.func30, Try.ntmps30
      go_wp2_with fail
      refine HU.out.mono ?_
      rintro e w' ⟨rfl, hb⟩
      have HB := Lib.hid hb
      clear hb
      go_wp2_with fail
      go_ret3
      exact ⟨by rw [HV.out]; rfl, HB.out⟩
    · have h1' : 0 ≤ most := by omega
      by_cases h2 : most < (n : Int)
      · rw [if_pos (.inr h2)] at HC
        have HV := Lib.hid (tcV_of HC.out)
        go_enter Try.func30, Try.ntmps30
        go_wp2_with fail
        refine HU.out.mono ?_
        rintro e w' ⟨rfl, hb⟩
        have HB := Lib.hid hb
        clear hb
        go_wp2_with fail
        go_ret3
        exact ⟨by rw [HV.out]; rfl, HB.out⟩
      · rw [if_neg (by omega)] at HC
        have h3 : decide (most < (n : Int)) = false := by simp; omega
        by_cases h4 : s.size - to < n
        · rw [if_pos h4] at HC
          have HV := Lib.hid (tcV_of HC.out)
          have h5 : (s.size : Int) - (to : Int) < (n : Int) := by omega
          clear h4
          go_enter Try.func30, Try.ntmps30
          go_wp2_with fail
          refine HU.out.mono ?_
          rintro e w' ⟨rfl, hb⟩
          have HB := Lib.hid hb
          clear hb
          go_wp2_with fail
          go_ret3
          exact ⟨by rw [HV.out]; rfl, HB.out⟩
        · rw [if_neg h4] at HC
          have HV := Lib.hid (tcV_of HC.out)
          have h5 : decide ((s.size : Int) - (to : Int) < (n : Int)) = false := by simp; omega
          have h6 : (n : Int) ≤ (s.size : Int) - (to : Int) := by omega
          clear h4
          go_enter Try.func30, Try.ntmps30
          go_wp2_with fail
          refine HU.out.mono ?_
          rintro e w' ⟨rfl, hb⟩
          have HB := Lib.hid hb
          clear hb
          go_wp2_with fail
          go_ret3
          exact ⟨by rw [HV.out]; rfl, HB.out⟩
  · rw [if_pos he] at HC
    have HV := Lib.hid (tcV_of HC.out)
    have h1 : ((e : Int) != 0) = true := by simp; omega
    clear he
    go_enter Try.func30, Try.ntmps30
    go_wp2_with fail
    refine HU.out.mono ?_
    rintro e w' ⟨rfl, hb⟩
    have HB := Lib.hid hb
    clear hb
    go_wp2_with fail
    go_ret3
    exact ⟨by rw [HV.out]; rfl, HB.out⟩

set_option maxRecDepth 100000 in
theorem rtakeCount_any (s : ByteArray) (t most : Int) (w : World) (h : s.size ≤ 140737488351232) (hm : most ≤ 9223372036854775807) :
    Calls Try.prog 31 #[.string s, .int .i64 t, .int .i64 most] w fun e w' => e = .returned (tcV s t most) ∧ w = w' := by
  obtain ⟨⟨n, to, e⟩, hT⟩ : ∃ r, tu s t = r := ⟨_, rfl⟩
  have HU := Lib.hid (rtakeUint_any s t w h)
  rw [tuV_of hT] at HU
  have HC := Lib.hid (tc_cases (most := most) hT)
  obtain ⟨hn, hto, _, _, _⟩ := tu_facts hT
  have hn : (n : Int) ≤ 18446744073709551615 := by omega
  clear hT
  by_cases he : e = 0
  · subst he
    rw [if_neg (by omega)] at HC
    by_cases h1 : most < 0
    · rw [if_pos (.inl h1)] at HC
      have HV := Lib.hid (tcV_of HC.out)
      go_enter Try.func31, Try.ntmps31
      go_wp2_with fail
      refine HU.out.mono ?_
      rintro e w' ⟨rfl, rfl⟩
      go_wp2_with fail
      go_ret3
      exact ⟨by rw [HV.out]; rfl, rfl⟩
    · have h1' : 0 ≤ most := by omega
      have h1d : decide (most < 0) = false := by simp; omega
      by_cases h2 : most < (n : Int)
      · rw [if_pos (.inr h2)] at HC
        have HV := Lib.hid (tcV_of HC.out)
        go_enter Try.func31, Try.ntmps31
        go_wp2_with fail
        refine HU.out.mono ?_
        rintro e w' ⟨rfl, rfl⟩
        go_wp2_with fail
        go_ret3
        exact ⟨by rw [HV.out]; rfl, rfl⟩
      · rw [if_neg (by omega)] at HC
        have h3 : decide (most < (n : Int)) = false := by simp; omega
        by_cases h4 : s.size - to < n
        · rw [if_pos h4] at HC
          have HV := Lib.hid (tcV_of HC.out)
          have h5 : (s.size : Int) - (to : Int) < (n : Int) := by omega
          clear h4
          go_enter Try.func31, Try.ntmps31
          go_wp2_with fail
          refine HU.out.mono ?_
          rintro e w' ⟨rfl, rfl⟩
          go_wp2_with fail
          go_ret3
          exact ⟨by rw [HV.out]; rfl, rfl⟩
        · rw [if_neg h4] at HC
          have HV := Lib.hid (tcV_of HC.out)
          have h5 : decide ((s.size : Int) - (to : Int) < (n : Int)) = false := by simp; omega
          have h6 : (n : Int) ≤ (s.size : Int) - (to : Int) := by omega
          clear h4
          go_enter Try.func31, Try.ntmps31
          go_wp2_with fail
          refine HU.out.mono ?_
          rintro e w' ⟨rfl, rfl⟩
          go_wp2_with fail
          go_ret3
          exact ⟨by rw [HV.out]; rfl, rfl⟩
  · rw [if_pos he] at HC
    have HV := Lib.hid (tcV_of HC.out)
    have h1 : ((e : Int) != 0) = true := by simp; omega
    clear he
    go_enter Try.func31, Try.ntmps31
    go_wp2_with fail
    refine HU.out.mono ?_
    rintro e w' ⟨rfl, rfl⟩
    go_wp2_with fail
    go_ret3
    exact ⟨by rw [HV.out]; rfl, rfl⟩

/-! TakeText. -/
def ttV (s : ByteArray) (t most : Int) : Value :=
  let r := tc s t most
  if r.2.2 ≠ 0 then .tuple #[.string ⟨#[]⟩, .int .i64 0, .int .i64 (r.2.2 : Int)] else .tuple #[.string (str (part s r.2.1 (r.2.1 + r.1))), .int .i64 ((r.2.1 + r.1 : Nat) : Int), .int .i64 0]
theorem tc_facts {s : ByteArray} {t most : Int} {n to e : Nat} (h : tc s t most = (n, to, e)) :
    n ≤ s.size ∧ to ≤ s.size ∧ e ≤ 5 ∧ (¬ e = 0 → n = 0 ∧ to = 0) ∧ (e = 0 → to + n ≤ s.size ∧ 0 ≤ t ∧ t < (to : Int) ∧ (n : Int) ≤ most ∧ tu s t = (n, to, 0)) := by
  obtain ⟨⟨n', to', e'⟩, hT⟩ : ∃ r, tu s t = r := ⟨_, rfl⟩
  have hf := tu_facts hT
  rw [tc_cases hT] at h
  split at h
  · simp only [Prod.mk.injEq] at h
    obtain ⟨rfl, rfl, rfl⟩ := h
    exact ⟨by omega, by omega, hf.2.2.1, fun _ => ⟨rfl, rfl⟩, fun h => by omega⟩
  · split at h
    · simp only [Prod.mk.injEq] at h
      obtain ⟨rfl, rfl, rfl⟩ := h
      exact ⟨by omega, by omega, by omega, fun _ => ⟨rfl, rfl⟩, fun h => by omega⟩
    · split at h
      · simp only [Prod.mk.injEq] at h
        obtain ⟨rfl, rfl, rfl⟩ := h
        exact ⟨by omega, by omega, by omega, fun _ => ⟨rfl, rfl⟩, fun h => by omega⟩
      · simp only [Prod.mk.injEq] at h
        obtain ⟨rfl, rfl, rfl⟩ := h
        have h0 : e' = 0 := by omega
        subst h0
        have h5 := hf.2.2.2.2 rfl
        exact ⟨by omega, by omega, by omega, fun h => absurd rfl h, fun _ => ⟨by omega, h5.1, h5.2, by omega, hT⟩⟩

set_option maxRecDepth 100000 in
theorem takeText_any (s : ByteArray) (t most : Int) (w : World) (h : s.size ≤ 140737488351232) (hm : most ≤ 9223372036854775807) :
    Calls Try.prog 28 #[.string s, .int .i64 t, .int .i64 most] w fun e w' => e = .returned (ttV s t most) ∧ Below w.heap.size w w' := by
  obtain ⟨⟨n, to, e⟩, hT⟩ : ∃ r, tc s t most = r := ⟨_, rfl⟩
  have HU := Lib.hid (takeCount_any s t most w h hm)
  rw [tcV_of hT] at HU
  obtain ⟨h1, h2, _, h3, h4⟩ := tc_facts hT
  have HV : Hid (ttV s t most = if e ≠ 0 then .tuple #[.string ⟨#[]⟩, .int .i64 0, .int .i64 (e : Int)] else .tuple #[.string (str (part s to (to + n))), .int .i64 ((to : Int) + (n : Int)), .int .i64 0]) := by
    unfold Hid ttV
    simp only [hT]
    rw [show ((to + n : Nat) : Int) = (to : Int) + (n : Int) by omega]
  clear hT hm
  by_cases he : e = 0
  · subst he
    rw [if_neg (by omega)] at HV
    have h5 := (h4 rfl).1
    clear h3 h4
    have HC : Hid (∀ w, Calls Try.prog 40 #[.string s, .int .i64 (to : Int), .int .i64 ((to : Int) + (n : Int))] w (CutOut (part s to (to + n)) w)) := by
      intro w
      have := cut_any s to (to + n) w (by omega) h5
      rwa [show ((to + n : Nat) : Int) = (to : Int) + (n : Int) by omega] at this
    go_enter Try.func28, Try.ntmps28
    go_wp2_with fail
    refine HU.out.mono ?_
    rintro e w1 ⟨rfl, hb⟩
    have HB := Lib.hid hb
    clear hb
    go_wp2_with fail
    refine (HC.out _).mono ?_
    rintro e w2 ⟨g, rfl, hb, hcell⟩
    have HB2 := Lib.hid (HB.out.trans (hb.mono HB.out.size))
    have hbk := run_convert_bytes_back (P := Try.prog) w2 52 9 5 ⟨g, 0, none⟩ (part s to (to + n)).length (part s to (to + n)) Try.underlying52 Try.underlying5 Try.underlying9 (fun j hj => by have := hcell j hj; rw [← this]; simp only [Addr.add]; by_cases h0 : j = 0 <;> simp [h0])
    clear hb hcell
    go_wp2_with fail
    go_ret3
    exact ⟨by rw [HV.out]; rfl, HB2.out⟩
  · rw [if_pos he] at HV
    have h1 : ((e : Int) != 0) = true := by simp; omega
    clear he h3 h4
    go_enter Try.func28, Try.ntmps28
    go_wp2_with fail
    refine HU.out.mono ?_
    rintro e w' ⟨rfl, hb⟩
    have HB := Lib.hid hb
    clear hb
    go_wp2_with fail
    go_ret3
    exact ⟨by rw [HV.out]; rfl, HB.out⟩

theorem str_part (s : ByteArray) (a b : Nat) : str (part s a b) = s.extract a b := by
  apply ByteArray.ext
  apply Array.toList_inj.1
  rw [extract_part]
  simp [str]

set_option maxRecDepth 100000 in
theorem rtakeText_any (s : ByteArray) (t most : Int) (w : World) (h : s.size ≤ 140737488351232) (hm : most ≤ 9223372036854775807) :
    Calls Try.prog 29 #[.string s, .int .i64 t, .int .i64 most] w fun e w' => e = .returned (ttV s t most) ∧ w = w' := by
  obtain ⟨⟨n, to, e⟩, hT⟩ : ∃ r, tc s t most = r := ⟨_, rfl⟩
  have HU := Lib.hid (rtakeCount_any s t most w h hm)
  rw [tcV_of hT] at HU
  obtain ⟨h1, h2, _, h3, h4⟩ := tc_facts hT
  have HV : Hid (ttV s t most = if e ≠ 0 then .tuple #[.string ⟨#[]⟩, .int .i64 0, .int .i64 (e : Int)] else .tuple #[.string (s.extract to (to + n)), .int .i64 ((to : Int) + (n : Int)), .int .i64 0]) := by
    unfold Hid ttV
    simp only [hT]
    rw [show ((to + n : Nat) : Int) = (to : Int) + (n : Int) by omega, str_part]
  clear hT hm
  by_cases he : e = 0
  · subst he
    rw [if_neg (by omega)] at HV
    have h5 := (h4 rfl).1
    clear h3 h4
    go_enter Try.func29, Try.ntmps29
    go_wp2_with fail
    refine HU.out.mono ?_
    rintro e w1 ⟨rfl, rfl⟩
    go_wp2_with fail
    go_ret3
    exact ⟨by rw [HV.out]; rfl, rfl⟩
  · rw [if_pos he] at HV
    have h1 : ((e : Int) != 0) = true := by simp; omega
    clear he h3 h4
    go_enter Try.func29, Try.ntmps29
    go_wp2_with fail
    refine HU.out.mono ?_
    rintro e w' ⟨rfl, rfl⟩
    go_wp2_with fail
    go_ret3
    exact ⟨by rw [HV.out]; rfl, rfl⟩

end Go.Proofs.Ytpbmkapeieoiaaa.Takes
