/- Int: words' and the reference's. -/
import Derived.Test.YtnechpciaidkmaaDoorRword
import Derived.Test.YtnechpciaidkmaaDoorDebw
namespace Go.Proofs.YtnechpciaidkmaaDoor.Intw
open Go.RowKit Go.Lib Go.Proofs.YtnechpciaidkmaaDoor.Text Go.Proofs.YtnechpciaidkmaaDoor.Numt Go.Proofs.YtnechpciaidkmaaDoor.Kind Go.Proofs.YtnechpciaidkmaaDoor.Word Go.Proofs.YtnechpciaidkmaaDoor.Rword Go.Proofs.YtnechpciaidkmaaDoor.Debw

/-- The answer of below for digits that represent V. -/
def belowV (V : Nat) : Value := if V ≤ 9223372036854775808 then .tuple #[.int .i64 (-(V : Int)), .bool true] else .tuple #[.int .i64 0, .bool false]
theorem below_no {V : Nat} (h : 9223372036854775808 < V) : belowV V = .tuple #[.int .i64 0, .bool false] := by rw [belowV, if_neg (by omega)]
theorem below_yes {V : Nat} (h : V ≤ 9223372036854775808) : belowV V = .tuple #[.int .i64 (-(V : Int)), .bool true] := by rw [belowV, if_pos h]

theorem tdiv_min {d : Nat} (h : d ≤ 9) : (-9223372036854775808 + (d : Int)).tdiv 10 = -((9223372036854775808 - (d : Int)) / 10) := by
  have e : -9223372036854775808 + (d : Int) = -(9223372036854775808 - (d : Int)) := by omega
  rw [e, Int.neg_tdiv, Int.tdiv_eq_ediv_of_nonneg (by omega)]

set_option maxRecDepth 100000 in
theorem below_any (s : ByteArray) (w : World) (hs : s.size ≤ 9223372036854775807) (hd : s.data.toList.all isDig = true) :
    Calls Tryd.prog 41 #[.string s] w fun e w' => e = .returned (belowV (val 0 s.data.toList)) ∧ w' = w := by
  obtain ⟨V, hV⟩ : ∃ V, val 0 s.data.toList = V := ⟨_, rfl⟩
  rw [hV]
  have HV := Lib.hid hV
  have HD := Lib.hid hd
  clear hV hd
  go_enter Tryd.func41, Tryd.ntmps41
  go_wp2_with fail
  go_loop [4, 5] (fun n i => ∃ k a : Nat, n = .int .i64 (-(a : Int)) ∧ i = .int .i64 k ∧ k ≤ s.size ∧ a ≤ 9223372036854775808 ∧ val a (s.data.toList.drop k) = V) (fun _ i => s.size - (RowKit.intOf i).toNat)
  case atStart => exact ⟨0, 0, rfl, rfl, Nat.zero_le _, by decide, HV.out⟩
  case round =>
    obtain ⟨k, a, rfl, rfl, hk, ha, hr⟩ := hrel
    have HR := Lib.hid hr
    clear hr
    by_cases hlt : k < s.size
    · have hm : isDig (s[k]'hlt) = true := List.all_eq_true.1 HD.out _ (by
        have := drop_at s k hlt
        exact List.mem_of_mem_drop (i := k) (by rw [this]; simp))
      rw [drop_at s k hlt, val_cons] at HR
      obtain ⟨b, hb⟩ : ∃ b, s[k]'hlt = b := ⟨_, rfl⟩
      rw [hb] at HR hm
      simp only [isDig, Bool.and_eq_true, decide_eq_true_eq] at hm
      obtain ⟨d, hdd⟩ : ∃ d, b.toNat - 48 = d := ⟨_, rfl⟩
      rw [hdd] at HR
      have hbd : (b.toNat : Int) = (d : Int) + 48 := by omega
      have hd9 : d ≤ 9 := by omega
      by_cases hov : 9223372036854775808 < a * 10 + d
      · have hge := val_ge (s.data.toList.drop (k + 1)) (a * 10 + d)
        have HF := Lib.hid (show belowV V = .tuple #[.int .i64 0, .bool false] by rw [← HR.out]; exact below_no (by omega))
        have hq : ¬ (-9223372036854775808 + (d : Int)).tdiv 10 ≤ -(a : Int) := by rw [tdiv_min hd9]; omega
        go_wp2_with fail
        go_ret2
        exact ⟨by rw [HF.out]; rfl, rfl⟩
      · have hq : (-9223372036854775808 + (d : Int)).tdiv 10 ≤ -(a : Int) := by rw [tdiv_min hd9]; omega
        go_wp2_with fail
        go_round
        case rel => exact ⟨k + 1, a * 10 + d, by congr 1; omega, by simp, by omega, by omega, HR.out⟩
        case measure => simp [RowKit.intOf]; omega
    · have HF := Lib.hid (show a = V by rw [← HR.out, drop_end hlt, val_nil])
      go_wp2_with fail
      go_ret2
      exact ⟨by rw [← HF.out, below_yes ha]; rfl, rfl⟩

/-- The answer of Int, as the call hands it back. -/
def intV (l : (List UInt8)) : Value := .tuple #[.int .i64 (intR l).1, .int .i64 ((intR l).2 : Int)]
theorem intV_of {l : (List UInt8)} {n : Int} {e : Nat} (h : intR l = (n, e)) : intV l = .tuple #[.int .i64 n, .int .i64 (e : Int)] := by rw [intV, h]

theorem int_syntax {l : (List UInt8)} (h : decL l = false) : intR l = (0, 4) := by rw [intR, h, if_pos rfl]
theorem dec_neg (r : (List UInt8)) : decL (45 :: r) = (digsL r && !decide (r = [48])) := by
  rw [decL, strip_neg]
  have : negL (45 :: r) = true := rfl
  rw [this, Bool.true_and]
theorem dec_pos {l : (List UInt8)} (h : l.head? ≠ some 45) : decL l = digsL l := by
  rw [decL, strip_pos h]
  have : negL l = false := by simp [negL, h]
  rw [this, Bool.false_and, Bool.not_false, Bool.and_true]
theorem int_neg {r : (List UInt8)} (h : decL (45 :: r) = true) : intR (45 :: r) = if 9223372036854775808 < val 0 r then (0, 17) else (-(val 0 r : Int), 0) := by
  have hn : negL (45 :: r) = true := rfl
  rw [intR, h, if_neg (by decide), hn, if_pos rfl, strip_neg]
theorem int_pos {l : (List UInt8)} (h : decL l = true) (hh : l.head? ≠ some 45) : intR l = if 9223372036854775808 ≤ val 0 l then (0, 17) else ((val 0 l : Int), 0) := by
  have hn : negL l = false := by simp [negL, hh]
  rw [intR, h, if_neg (by decide), hn, if_neg (by decide), strip_pos hh]
theorem digs_all {l : (List UInt8)} (h : digsL l = true) : l.all isDig = true := by
  unfold digsL at h
  rw [Bool.and_eq_true] at h
  exact h.1
theorem tail_of {s : ByteArray} {b : UInt8} {r : (List UInt8)} (h : s.data.toList = b :: r) : (s.extract 1 s.size).data.toList = r := by
  have hs : s.size = r.length + 1 := by rw [Lib.size_eq, h]; rfl
  rw [Lib.extract_data, h, hs]
  simp

set_option maxRecDepth 100000 in
set_option maxHeartbeats 800000 in
theorem rint_any (s : ByteArray) (w : World) (hs : s.size ≤ 9223372036854775807) :
    Calls Tryd.prog 19 #[.string s] w fun e w' => e = .returned (intV s.data.toList) ∧ w' = w := by
  by_cases hneg : ∃ r, s.data.toList = 45 :: r
  · obtain ⟨r, hl⟩ := hneg
    have hsz : s.size = r.length + 1 := by rw [Lib.size_eq, hl]; rfl
    obtain ⟨hpos, hget⟩ := head_at hl
    obtain ⟨t, ht⟩ : ∃ t, s.extract 1 s.size = t := ⟨_, rfl⟩
    have htl := tail_of hl
    rw [ht] at htl
    have hts : t.size ≤ 9223372036854775807 := by rw [Lib.size_eq, htl]; omega
    have HDg := Lib.hid (fun w => rdigits_any t w hts)
    have HBl := Lib.hid (fun w h => below_any t w hts h)
    have hnum : (s[0]'hpos).toNat = 45 := by rw [hget]; rfl
    rw [hl]
    rw [htl] at HDg HBl
    have hdec := dec_neg r
    cases hD : digsL r with
    | false =>
      rw [hD] at HDg hdec
      have HF := Lib.hid (intV_of (int_syntax (l := 45 :: r) (by rw [hdec]; rfl)))
      have h1s : (1 : Int) ≤ s.size := by omega
      clear hl hget hdec HBl hD hsz
      go_enter Tryd.func19, Tryd.ntmps19
      go_wp2_with fail
      refine (HDg.out _).mono ?_
      rintro e w' ⟨rfl, rfl⟩
      go_wp2_with fail
      go_ret2
      exact ⟨by rw [HF.out]; rfl, rfl⟩
    | true =>
      rw [hD] at HDg hdec
      have HDG := Lib.hid (digs_all hD)
      by_cases h48 : r = [48]
      · have HF := Lib.hid (intV_of (int_syntax (l := 45 :: r) (by rw [hdec]; simp [h48])))
        have h1s : (1 : Int) ≤ s.size := by omega
        have hq : (t.toList == [48]) = true := by rw [ByteArray.toList_eq, htl, h48]; rfl
        clear hl hget hdec HBl hD hsz
        go_enter Tryd.func19, Tryd.ntmps19
        go_wp2_with fail
        refine (HDg.out _).mono ?_
        rintro e w' ⟨rfl, rfl⟩
        go_wp2_with fail
        go_ret2
        exact ⟨by rw [HF.out]; rfl, rfl⟩
      · have hd : decL (45 :: r) = true := by rw [hdec]; simp [h48]
        have hi := int_neg hd
        have h1s : (1 : Int) ≤ s.size := by omega
        have hq : (t.toList == [48]) = false := by rw [ByteArray.toList_eq, htl]; simpa using h48
        have HBl' := Lib.hid (fun w => HBl.out w HDG.out)
        obtain ⟨V, hV⟩ : ∃ V, val 0 r = V := ⟨_, rfl⟩
        rw [hV] at hi HBl'
        by_cases h63 : 9223372036854775808 < V
        · rw [below_no h63] at HBl'
          have HF := Lib.hid (intV_of (hi.trans (if_pos h63)))
          clear hl hget hdec HBl hD hsz hi hd hV
          go_enter Tryd.func19, Tryd.ntmps19
          go_wp2_with fail
          refine (HDg.out _).mono ?_
          rintro e w' ⟨rfl, rfl⟩
          go_wp2_with fail
          refine (HBl'.out _).mono ?_
          rintro e w' ⟨rfl, rfl⟩
          go_wp2_with fail
          go_ret2
          exact ⟨by rw [HF.out]; rfl, rfl⟩
        · rw [below_yes (by omega)] at HBl'
          have HF := Lib.hid (intV_of (hi.trans (if_neg h63)))
          clear hl hget hdec HBl hD hsz hi hd hV
          go_enter Tryd.func19, Tryd.ntmps19
          go_wp2_with fail
          refine (HDg.out _).mono ?_
          rintro e w' ⟨rfl, rfl⟩
          go_wp2_with fail
          refine (HBl'.out _).mono ?_
          rintro e w' ⟨rfl, rfl⟩
          go_wp2_with fail
          go_ret2
          exact ⟨by rw [HF.out]; rfl, rfl⟩
  · have hh : s.data.toList.head? ≠ some 45 := by
      intro h
      cases hl : s.data.toList with
      | nil => rw [hl] at h; cases h
      | cons b r =>
        rw [hl] at h
        simp only [List.head?_cons, Option.some.injEq] at h
        exact hneg ⟨r, by rw [hl, h]⟩
    have h0 : s.size = 0 ∨ ∃ h : 0 < s.size, ((s[0]'h).toNat : Int) ≠ 45 := by
      by_cases h : 0 < s.size
      · refine .inr ⟨h, fun e => ?_⟩
        have hd0 := drop_at s 0 h
        rw [List.drop_zero] at hd0
        have : s[0]'h = 45 := UInt8.toNat_inj.1 (show (s[0]'h).toNat = 45 by omega)
        exact hneg ⟨_, by rw [hd0, this]⟩
      · exact .inl (by omega)
    have HDg := Lib.hid (fun w => rdigits_any s w hs)
    have HBl := Lib.hid (fun w h => below_any s w hs h)
    have hdec := dec_pos hh
    cases hD : digsL s.data.toList with
    | false =>
      rw [hD] at HDg hdec
      have HF := Lib.hid (intV_of (int_syntax hdec))
      clear hdec HBl hD hneg hh
      rcases h0 with h0 | ⟨h0, h1⟩
      · go_enter Tryd.func19, Tryd.ntmps19
        go_wp2_with fail
        refine (HDg.out _).mono ?_
        rintro e w' ⟨rfl, rfl⟩
        go_wp2_with fail
        go_ret2
        exact ⟨by rw [HF.out]; rfl, rfl⟩
      · have hq : (((s[0]'h0).toNat : Int) == 45) = false := by simpa using h1
        clear h1
        go_enter Tryd.func19, Tryd.ntmps19
        go_wp2_with fail
        refine (HDg.out _).mono ?_
        rintro e w' ⟨rfl, rfl⟩
        go_wp2_with fail
        go_ret2
        exact ⟨by rw [HF.out]; rfl, rfl⟩
    | true =>
      rw [hD] at HDg hdec
      have hi := int_pos hdec hh
      have HBl' := Lib.hid (fun w => HBl.out w (digs_all hD))
      obtain ⟨V, hV⟩ : ∃ V, val 0 s.data.toList = V := ⟨_, rfl⟩
      rw [hV] at hi HBl'
      rcases h0 with h0 | ⟨h0, h1⟩
      · exfalso
        have : s.data.toList = [] := List.length_eq_zero_iff.1 (by rw [← Lib.size_eq]; exact h0)
        rw [this] at hD
        cases hD
      · have hq : (((s[0]'h0).toNat : Int) == 45) = false := by simpa using h1
        clear h1 HBl
        by_cases h63 : 9223372036854775808 < V
        · rw [below_no h63] at HBl'
          have HF := Lib.hid (intV_of (hi.trans (if_pos (by omega))))
          clear hdec hD hi hV hneg hh
          go_enter Tryd.func19, Tryd.ntmps19
          go_wp2_with fail
          refine (HDg.out _).mono ?_
          rintro e w' ⟨rfl, rfl⟩
          go_wp2_with fail
          refine (HBl'.out _).mono ?_
          rintro e w' ⟨rfl, rfl⟩
          go_wp2_with fail
          go_ret2
          exact ⟨by rw [HF.out]; rfl, rfl⟩
        · rw [below_yes (by omega)] at HBl'
          by_cases heq : V = 9223372036854775808
          · have HF := Lib.hid (intV_of (hi.trans (if_pos (by omega))))
            have hq2 : (-(V : Int) == -9223372036854775808) = true := by simp; omega
            clear hdec hD hi hV hneg hh heq
            go_enter Tryd.func19, Tryd.ntmps19
            go_wp2_with fail
            refine (HDg.out _).mono ?_
            rintro e w' ⟨rfl, rfl⟩
            go_wp2_with fail
            refine (HBl'.out _).mono ?_
            rintro e w' ⟨rfl, rfl⟩
            go_wp2_with fail
            go_ret2
            exact ⟨by rw [HF.out]; rfl, rfl⟩
          · have HF := Lib.hid (intV_of (hi.trans (if_neg (by omega))))
            have hq2 : (-(V : Int) == -9223372036854775808) = false := by simp; omega
            have HN := Lib.hid (show V ≤ 9223372036854775807 by omega)
            clear hdec hD hi hV hneg hh
            go_enter Tryd.func19, Tryd.ntmps19
            go_wp2_with fail
            refine (HDg.out _).mono ?_
            rintro e w' ⟨rfl, rfl⟩
            go_wp2_with fail
            refine (HBl'.out _).mono ?_
            rintro e w' ⟨rfl, rfl⟩
            go_wp2_with fail
            go_ret2
            refine ⟨?_, rfl⟩
            rw [HF.out]
            first | rfl | simp

set_option maxRecDepth 100000 in
theorem int_any (s : ByteArray) (w : World) (hs : s.size ≤ 100000) (hdeb : Deb w) :
    Calls Tryd.prog 18 #[.string s] w fun e w' => e = .returned (intV s.data.toList) ∧ Below w.heap.size w w' := by
  have HDg := Lib.hid (fun w => dec_any s w)
  have HDB := Lib.hid hdeb
  clear hdeb
  cases hD : decL s.data.toList with
  | false =>
    rw [hD] at HDg
    have HF := Lib.hid (intV_of (int_syntax hD))
    clear hD
    go_enter Tryd.func18, Tryd.ntmps18
    go_wp2_with fail
    refine (HDg.out _).mono ?_
    rintro e w' ⟨rfl, hb⟩
    have HB := Lib.hid hb
    clear hb
    go_wp2_with fail
    go_ret2
    exact ⟨by rw [HF.out]; rfl, HB.out⟩
  | true =>
    rw [hD] at HDg
    rcases atoi_dec hD with ⟨v, ha, hi⟩ | ⟨ha, hi⟩
    · have HA := Lib.hid (fun w => Tryd.strconv_Atoi_ok s (by omega) v ha w)
      have HF := Lib.hid (intV_of hi)
      clear hD ha hi
      go_enter Tryd.func18, Tryd.ntmps18
      go_wp2_with fail
      refine (HDg.out _).mono ?_
      rintro e w1 ⟨rfl, hb⟩
      have HB := Lib.hid hb
      clear hb
      go_wp2_with fail
      refine (HA.out _).mono ?_
      rintro e w2 ⟨rfl, hb⟩
      have HB2 := Lib.hid (show Below w1.heap.size w1 w2 by
        rcases hb with rfl | ⟨t, rfl⟩
        · exact Below.refl _ _
        · exact Lib.bytesWorld_below _ _ _)
      clear hb
      go_wp2_with fail
      go_ret2
      exact ⟨by rw [HF.out]; rfl, bel_next HB.out HB2.out⟩
    · have HF := Lib.hid (intV_of hi)
      have hA : ∀ w, Deb w → Calls Tryd.prog 39 #[.string s] w fun e w' => ∃ a N, e = .returned (.tuple #[.int .i64 a, .iface 76 (.pointer (some ⟨N, 0, none⟩))]) ∧ Below w.heap.size w w' := by
        intro w hd
        obtain ⟨_, _, ev, hv, hev⟩ := hd
        exact (Tryd.strconv_Atoi_range s (by omega) ha ev w hv hev).mono fun e w' ⟨N, h1, _, _, h4⟩ => ⟨_, N, h1, h4⟩
      have HA := Lib.hid hA
      clear hA
      clear hD ha hi
      go_enter Tryd.func18, Tryd.ntmps18
      go_wp2_with fail
      refine (HDg.out _).mono ?_
      rintro e w1 ⟨rfl, hb⟩
      have HB := Lib.hid hb
      clear hb
      go_wp2_with fail
      refine (HA.out _ (deb_next HDB.out HB.out)).mono ?_
      rintro e w2 ⟨a, N, rfl, hb⟩
      have HB2 := Lib.hid hb
      clear hb
      go_wp2_with fail
      go_ret2
      exact ⟨by rw [HF.out]; rfl, bel_next HB.out HB2.out⟩

end Go.Proofs.YtnechpciaidkmaaDoor.Intw
