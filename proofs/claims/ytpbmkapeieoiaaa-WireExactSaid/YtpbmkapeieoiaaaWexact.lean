/- The walk of WireExact. -/
import Derived.Test.YtpbmkapeieoiaaaIs
namespace Go.Proofs.Ytpbmkapeieoiaaa.Exact
open Go.RowKit hiding intOf
open Go.Lib Go.Proofs.Ytpbmkapeieoiaaa.Var Go.Proofs.Ytpbmkapeieoiaaa.Uints Go.Proofs.Ytpbmkapeieoiaaa.Takes Go.Proofs.Ytpbmkapeieoiaaa.Build Go.Proofs.Ytpbmkapeieoiaaa.Facts Go.Proofs.Ytpbmkapeieoiaaa.Ints Go.Proofs.Ytpbmkapeieoiaaa.Reads

theorem text_exact {s : ByteArray} {t m : Int} {k to : Nat} (h : tc s t m = (k, to, 0)) : ∃ a : Nat, t = (a : Int) ∧ a ≤ to + k ∧ to + k ≤ s.size ∧ s.extract a (to + k) = textS (str (Takes.part s to (to + k))) ∧ ((str (Takes.part s to (to + k))).size : Int) ≤ m := by
  obtain ⟨a, ha, h1, h2, h3, h4⟩ := tc_exact h
  have hl := part_length (s := s) (a := to) (b := to + k) (by omega) h2
  refine ⟨a, ha, by omega, h2, ?_, by rw [str_size, hl]; omega⟩
  rw [ext_str (part_part h1 (show to ≤ to + k by omega)).symm, h4]
  unfold textS
  rw [str_size, hl, show to + k - to = k by omega]
  show str _ = ByteArray.mk _ ++ ByteArray.mk _
  rw [ByteArray.mk_append_mk]
  rfl
theorem ttV_ok {s : ByteArray} {t m : Int} {k to : Nat} (h : tc s t m = (k, to, 0)) : ttV s t m = .tuple #[.string (str (Takes.part s to (to + k))), .int .i64 ((to + k : Nat) : Int), .int .i64 0] := by
  simp [ttV, h]
theorem ttV_err {s : ByteArray} {t m : Int} {k to e : Nat} (h : tc s t m = (k, to, e)) (he : e ≠ 0) : ttV s t m = .tuple #[.string ⟨#[]⟩, .int .i64 0, .int .i64 (e : Int)] := by
  simp [ttV, h, he]

/-- The decoded number's part, as the test asks for it. -/
theorem num_is {s : ByteArray} {t : Int} {n to : Nat} (h : tu s t = (n, to, 0)) (w : World) : Calls Try.prog 35 #[.string s, .int .i64 t, .int .i64 (to : Int), .string (enc n)] w fun e w' => e = .returned (.bool true) ∧ w = w' := by
  obtain ⟨a, rfl, h1, h2, h3⟩ := tu_exact h
  exact is_any s a to _ w h1 h2 (ext_str h3)
theorem bool_is {s : ByteArray} {t : Int} {b : Bool} {to : Int} (h : tbR s t = (b, to, 0)) (w : World) : Calls Try.prog 35 #[.string s, .int .i64 t, .int .i64 to, .string (boolS b)] w fun e w' => e = .returned (.bool true) ∧ w = w' := by
  obtain ⟨a, rfl, h1, rfl, h3⟩ := tb_exact h
  exact is_any s a (a + 1) _ w (by omega) (by omega) h3
theorem text_is {s : ByteArray} {t m : Int} {k to : Nat} (h : tc s t m = (k, to, 0)) (w : World) : Calls Try.prog 35 #[.string s, .int .i64 t, .int .i64 ((to + k : Nat) : Int), .string (textS (str (Takes.part s to (to + k))))] w fun e w' => e = .returned (.bool true) ∧ w = w' := by
  obtain ⟨a, rfl, h1, h2, h3, _⟩ := text_exact h
  exact is_any s a (to + k) _ w h1 h2 h3
theorem list_is {s : ByteArray} {t m : Int} {l : List Int} {to : Nat} (h : tl s t m = (l, to, 0)) (w : World) : Calls Try.prog 35 #[.string s, .int .i64 t, .int .i64 (to : Int), .string (listS l)] w fun e w' => e = .returned (.bool true) ∧ w = w' := by
  obtain ⟨a, rfl, h1, h2, _, h3⟩ := tl_exact h
  exact is_any s a to _ w h1 h2 (ext_str h3)
theorem tc_of_tu {s : ByteArray} {t m : Int} {n to e : Nat} (h : tu s t = (n, to, e)) (he : e ≠ 0) : tc s t m = (0, 0, e) := by
  rw [tc_cases h, if_pos he]
theorem tl_of_tc {s : ByteArray} {t m : Int} {n to e : Nat} (h : tc s t m = (n, to, e)) (he : e ≠ 0) : tl s t m = ([], 0, e) := tl_bad h he

theorem text_le {s : ByteArray} {t m : Int} {k to : Nat} (h : tc s t m = (k, to, 0)) : ((str (Takes.part s to (to + k))).size : Int) ≤ m := by
  obtain ⟨_, _, _, _, _, h⟩ := text_exact h
  exact h
theorem tl_le {s : ByteArray} {t m : Int} {l : List Int} {to : Nat} (h : tl s t m = (l, to, 0)) : (l.length : Int) ≤ m := by
  obtain ⟨_, _, _, _, h, _⟩ := tl_exact h
  exact h
theorem tl_len {s : ByteArray} {t m : Int} {k toc tol : Nat} {L : List Int} (hC : tc s t m = (k, toc, 0)) (hL : tl s t m = (L, tol, 0)) (h : s.size ≤ 2000) : L.length ≤ 100000 := by
  rw [tl_go hC] at hL
  obtain ⟨vs, g1, g2, _⟩ := tis_exact s k [] toc L tol (tc_facts hC).2.1 hL
  have := (tc_facts hC).1
  rw [g1]
  simp
  omega

set_option maxRecDepth 100000 in
set_option maxHeartbeats 1500000 in
theorem walk_near (s : ByteArray) (t m : Int) (w : World) (h : s.size ≤ 2000) (hm : m ≤ 9223372036854775807) :
    Calls Try.prog 7 #[.string s, .int .i64 t, .int .i64 m] w fun e w' => e = .returned (.bool true) ∧ Below w.heap.size w w' := by
  have H1 := Lib.hid (fun w => takeUint_any s t w (by omega))
  have H2 := Lib.hid (fun w => takeInt_any s t w (by omega))
  have H3 := Lib.hid (fun w => takeBool_any s t w (by omega))
  have H4 := Lib.hid (fun w => takeText_any s t m w (by omega) hm)
  have H5 := Lib.hid (fun w => takeInts_any s t m w (by omega) hm)
  obtain ⟨⟨n, to, e⟩, hT⟩ : ∃ r, tu s t = r := ⟨_, rfl⟩
  obtain ⟨⟨q, tob, eb⟩, hB⟩ : ∃ r, tbR s t = r := ⟨_, rfl⟩
  obtain ⟨⟨k, toc, ec⟩, hC⟩ : ∃ r, tc s t m = r := ⟨_, rfl⟩
  obtain ⟨⟨L, tol, el⟩, hL⟩ : ∃ r, tl s t m = r := ⟨_, rfl⟩
  rw [tuV_of hT] at H1
  rw [tiV_of hT] at H2
  rw [tbV_of hB] at H3
  rw [hL] at H5
  have hn := (tu_facts hT).1
  have HN := Lib.hid hn
  have hz := unzig_range hn
  have HU := Lib.hid (fun w => uint_any n w hn)
  have HI := Lib.hid (fun w => int_any (unzig n) w hz.1 hz.2)
  rw [show intS (unzig n) = enc n by unfold intS; rw [zigzag_unzig]] at HI
  obtain ⟨z, hzz⟩ : ∃ z, unzig n = z := ⟨_, rfl⟩
  rw [hzz] at HI H2
  have HB' := Lib.hid (fun w => bool_any q w)
  have HBEL := Lib.hid (Below.refl w.heap.size w)
  clear hz hn hzz
  by_cases heb : eb = 0
  · subst heb
    have I3 := Lib.hid (fun w => bool_is hB w)
    clear hB
    by_cases he : e = 0
    · subst he
      have I1 := Lib.hid (fun w => num_is hT w)
      clear hT
      by_cases hec : ec = 0
      · subst hec
        have I4 := Lib.hid (fun w => text_is hC w)
        rw [ttV_ok hC] at H4
        have hts := text_le hC
        have hT2 : (str (Takes.part s toc (toc + k))).size ≤ s.size := by
          rw [str_size]
          have := size_list s
          simp only [Takes.part, List.length_take, List.length_drop, this]
          omega
        obtain ⟨T, hTT⟩ : ∃ T, str (Takes.part s toc (toc + k)) = T := ⟨_, rfl⟩
        rw [hTT] at I4 H4 hts hT2
        obtain ⟨tk, htk⟩ : ∃ tk : Int, ((toc + k : Nat) : Int) = tk := ⟨_, rfl⟩
        rw [htk] at I4 H4
        have HX := Lib.hid (fun w => text_any T w (by omega))
        have q4 : decide ((T.size : Int) ≤ m) = true := by simpa using hts
        clear hTT hts hT2 htk
        by_cases hel : el = 0
        · subst hel
          have I5 := Lib.hid (fun w => list_is hL w)
          have hlm := tl_le hL
          have q5 : decide ((L.length : Int) ≤ m) = true := by simpa using hlm
          have HLL := Lib.hid (show L.length ≤ 100000 from tl_len hC hL h)
          clear hL hlm hC
          go_enter Try.func7, Try.ntmps7
          go_wp2_with fail
          refine (H1.out _).mono ?_
          rintro e w' ⟨rfl, bb⟩
          replace HBEL := Lib.hid (bel_next HBEL.out bb)
          clear bb
          go_wp2_with fail
          refine (H2.out _).mono ?_
          rintro e w' ⟨rfl, bb⟩
          replace HBEL := Lib.hid (bel_next HBEL.out bb)
          clear bb
          go_wp2_with fail
          refine (H3.out _).mono ?_
          rintro e w' ⟨rfl, rfl⟩
          go_wp2_with fail
          refine (H4.out _).mono ?_
          rintro e w' ⟨rfl, bb⟩
          replace HBEL := Lib.hid (bel_next HBEL.out bb)
          clear bb
          go_wp2_with fail
          refine (H5.out _).mono ?_
          rintro e w' ⟨v, rfl, R, bb⟩
          obtain ⟨al, cl, rfl, hml⟩ := rshape R
          have HR := Lib.hid R
          replace HBEL := Lib.hid (bel_next HBEL.out bb)
          clear bb R
          go_wp2_with fail
          refine (HU.out _).mono ?_
          rintro e w' ⟨rfl, bb⟩
          replace HBEL := Lib.hid (bel_next HBEL.out bb)
          replace HR := Lib.hid (next HR.out bb)
          clear bb
          go_wp2_with fail
          refine (I1.out _).mono ?_
          rintro e w' ⟨rfl, rfl⟩
          go_wp2_with fail
          refine (HI.out _).mono ?_
          rintro e w' ⟨rfl, bb⟩
          replace HBEL := Lib.hid (bel_next HBEL.out bb)
          replace HR := Lib.hid (next HR.out bb)
          clear bb
          go_wp2_with fail
          refine (I1.out _).mono ?_
          rintro e w' ⟨rfl, rfl⟩
          go_wp2_with fail
          refine (HB'.out _).mono ?_
          rintro e w' ⟨rfl, rfl⟩
          go_wp2_with fail
          refine (I3.out _).mono ?_
          rintro e w' ⟨rfl, rfl⟩
          go_wp2_with fail
          refine (HX.out _).mono ?_
          rintro e w' ⟨rfl, bb⟩
          replace HBEL := Lib.hid (bel_next HBEL.out bb)
          replace HR := Lib.hid (next HR.out bb)
          clear bb
          go_wp2_with fail
          refine (I4.out _).mono ?_
          rintro e w' ⟨rfl, rfl⟩
          go_wp2_with fail
          refine (ints_any HR.out HLL.out).mono ?_
          rintro e w' ⟨rfl, bb⟩
          replace HBEL := Lib.hid (bel_next HBEL.out bb)
          clear bb
          go_wp2_with fail
          refine (I5.out _).mono ?_
          rintro e w' ⟨rfl, rfl⟩
          go_wp2_with fail
          refine (alive_any _).mono ?_
          rintro e w' ⟨rfl, bb⟩
          replace HBEL := Lib.hid (bel_next HBEL.out bb)
          clear bb
          go_wp2_with fail
          go_ret
          exact ⟨rfl, HBEL.out⟩
        · have q5 : ((el : Int) != 0) = true := by simp; omega
          clear hL hC hel
          go_enter Try.func7, Try.ntmps7
          go_wp2_with fail
          refine (H1.out _).mono ?_
          rintro e w' ⟨rfl, bb⟩
          replace HBEL := Lib.hid (bel_next HBEL.out bb)
          clear bb
          go_wp2_with fail
          refine (H2.out _).mono ?_
          rintro e w' ⟨rfl, bb⟩
          replace HBEL := Lib.hid (bel_next HBEL.out bb)
          clear bb
          go_wp2_with fail
          refine (H3.out _).mono ?_
          rintro e w' ⟨rfl, rfl⟩
          go_wp2_with fail
          refine (H4.out _).mono ?_
          rintro e w' ⟨rfl, bb⟩
          replace HBEL := Lib.hid (bel_next HBEL.out bb)
          clear bb
          go_wp2_with fail
          refine (H5.out _).mono ?_
          rintro e w' ⟨v, rfl, R, bb⟩
          obtain ⟨al, cl, rfl, hml⟩ := rshape R
          have HR := Lib.hid R
          replace HBEL := Lib.hid (bel_next HBEL.out bb)
          clear bb R
          go_wp2_with fail
          refine (HU.out _).mono ?_
          rintro e w' ⟨rfl, bb⟩
          replace HBEL := Lib.hid (bel_next HBEL.out bb)
          replace HR := Lib.hid (next HR.out bb)
          clear bb
          go_wp2_with fail
          refine (I1.out _).mono ?_
          rintro e w' ⟨rfl, rfl⟩
          go_wp2_with fail
          refine (HI.out _).mono ?_
          rintro e w' ⟨rfl, bb⟩
          replace HBEL := Lib.hid (bel_next HBEL.out bb)
          replace HR := Lib.hid (next HR.out bb)
          clear bb
          go_wp2_with fail
          refine (I1.out _).mono ?_
          rintro e w' ⟨rfl, rfl⟩
          go_wp2_with fail
          refine (HB'.out _).mono ?_
          rintro e w' ⟨rfl, rfl⟩
          go_wp2_with fail
          refine (I3.out _).mono ?_
          rintro e w' ⟨rfl, rfl⟩
          go_wp2_with fail
          refine (HX.out _).mono ?_
          rintro e w' ⟨rfl, bb⟩
          replace HBEL := Lib.hid (bel_next HBEL.out bb)
          replace HR := Lib.hid (next HR.out bb)
          clear bb
          go_wp2_with fail
          refine (I4.out _).mono ?_
          rintro e w' ⟨rfl, rfl⟩
          go_wp2_with fail
          refine (alive_any _).mono ?_
          rintro e w' ⟨rfl, bb⟩
          replace HBEL := Lib.hid (bel_next HBEL.out bb)
          clear bb
          go_wp2_with fail
          go_ret
          exact ⟨rfl, HBEL.out⟩
      · rw [ttV_err hC hec] at H4
        have hL2 := tl_of_tc hC hec
        rw [hL] at hL2
        obtain ⟨rfl, rfl, rfl⟩ : L = [] ∧ tol = 0 ∧ el = ec := by simpa using hL2
        have q4 : ((el : Int) != 0) = true := by simp; omega
        clear hL hL2 hC hec
        go_enter Try.func7, Try.ntmps7
        go_wp2_with fail
        refine (H1.out _).mono ?_
        rintro e w' ⟨rfl, bb⟩
        replace HBEL := Lib.hid (bel_next HBEL.out bb)
        clear bb
        go_wp2_with fail
        refine (H2.out _).mono ?_
        rintro e w' ⟨rfl, bb⟩
        replace HBEL := Lib.hid (bel_next HBEL.out bb)
        clear bb
        go_wp2_with fail
        refine (H3.out _).mono ?_
        rintro e w' ⟨rfl, rfl⟩
        go_wp2_with fail
        refine (H4.out _).mono ?_
        rintro e w' ⟨rfl, bb⟩
        replace HBEL := Lib.hid (bel_next HBEL.out bb)
        clear bb
        go_wp2_with fail
        refine (H5.out _).mono ?_
        rintro e w' ⟨v, rfl, R, bb⟩
        obtain ⟨al, cl, rfl, hml⟩ := rshape R
        have HR := Lib.hid R
        replace HBEL := Lib.hid (bel_next HBEL.out bb)
        clear bb R
        go_wp2_with fail
        refine (HU.out _).mono ?_
        rintro e w' ⟨rfl, bb⟩
        replace HBEL := Lib.hid (bel_next HBEL.out bb)
        replace HR := Lib.hid (next HR.out bb)
        clear bb
        go_wp2_with fail
        refine (I1.out _).mono ?_
        rintro e w' ⟨rfl, rfl⟩
        go_wp2_with fail
        refine (HI.out _).mono ?_
        rintro e w' ⟨rfl, bb⟩
        replace HBEL := Lib.hid (bel_next HBEL.out bb)
        replace HR := Lib.hid (next HR.out bb)
        clear bb
        go_wp2_with fail
        refine (I1.out _).mono ?_
        rintro e w' ⟨rfl, rfl⟩
        go_wp2_with fail
        refine (HB'.out _).mono ?_
        rintro e w' ⟨rfl, rfl⟩
        go_wp2_with fail
        refine (I3.out _).mono ?_
        rintro e w' ⟨rfl, rfl⟩
        go_wp2_with fail
        refine (alive_any _).mono ?_
        rintro e w' ⟨rfl, bb⟩
        replace HBEL := Lib.hid (bel_next HBEL.out bb)
        clear bb
        go_wp2_with fail
        go_ret
        exact ⟨rfl, HBEL.out⟩
    · have hC2 := tc_of_tu (m := m) hT he
      rw [hC] at hC2
      obtain ⟨rfl, rfl, rfl⟩ : k = 0 ∧ toc = 0 ∧ ec = e := by simpa using hC2
      rw [ttV_err hC he] at H4
      have hL2 := tl_of_tc hC he
      rw [hL] at hL2
      obtain ⟨rfl, rfl, rfl⟩ : L = [] ∧ tol = 0 ∧ el = ec := by simpa using hL2
      have q1 : ((el : Int) == 0) = false := by simp; omega
      have q4 : ((el : Int) != 0) = true := by simp; omega
      clear hL hL2 hC hC2 hT he
      go_enter Try.func7, Try.ntmps7
      go_wp2_with fail
      refine (H1.out _).mono ?_
      rintro e w' ⟨rfl, bb⟩
      replace HBEL := Lib.hid (bel_next HBEL.out bb)
      clear bb
      go_wp2_with fail
      refine (H2.out _).mono ?_
      rintro e w' ⟨rfl, bb⟩
      replace HBEL := Lib.hid (bel_next HBEL.out bb)
      clear bb
      go_wp2_with fail
      refine (H3.out _).mono ?_
      rintro e w' ⟨rfl, rfl⟩
      go_wp2_with fail
      refine (H4.out _).mono ?_
      rintro e w' ⟨rfl, bb⟩
      replace HBEL := Lib.hid (bel_next HBEL.out bb)
      clear bb
      go_wp2_with fail
      refine (H5.out _).mono ?_
      rintro e w' ⟨v, rfl, R, bb⟩
      obtain ⟨al, cl, rfl, hml⟩ := rshape R
      have HR := Lib.hid R
      replace HBEL := Lib.hid (bel_next HBEL.out bb)
      clear bb R
      go_wp2_with fail
      refine (HB'.out _).mono ?_
      rintro e w' ⟨rfl, rfl⟩
      go_wp2_with fail
      refine (I3.out _).mono ?_
      rintro e w' ⟨rfl, rfl⟩
      go_wp2_with fail
      refine (alive_any _).mono ?_
      rintro e w' ⟨rfl, bb⟩
      replace HBEL := Lib.hid (bel_next HBEL.out bb)
      clear bb
      go_wp2_with fail
      go_ret
      exact ⟨rfl, HBEL.out⟩
  · have q3 : (eb == 0) = false := by simpa using heb
    clear hB heb
    by_cases he : e = 0
    · subst he
      have I1 := Lib.hid (fun w => num_is hT w)
      clear hT
      by_cases hec : ec = 0
      · subst hec
        have I4 := Lib.hid (fun w => text_is hC w)
        rw [ttV_ok hC] at H4
        have hts := text_le hC
        have hT2 : (str (Takes.part s toc (toc + k))).size ≤ s.size := by
          rw [str_size]
          have := size_list s
          simp only [Takes.part, List.length_take, List.length_drop, this]
          omega
        obtain ⟨T, hTT⟩ : ∃ T, str (Takes.part s toc (toc + k)) = T := ⟨_, rfl⟩
        rw [hTT] at I4 H4 hts hT2
        obtain ⟨tk, htk⟩ : ∃ tk : Int, ((toc + k : Nat) : Int) = tk := ⟨_, rfl⟩
        rw [htk] at I4 H4
        have HX := Lib.hid (fun w => text_any T w (by omega))
        have q4 : decide ((T.size : Int) ≤ m) = true := by simpa using hts
        clear hTT hts hT2 htk
        by_cases hel : el = 0
        · subst hel
          have I5 := Lib.hid (fun w => list_is hL w)
          have hlm := tl_le hL
          have q5 : decide ((L.length : Int) ≤ m) = true := by simpa using hlm
          have HLL := Lib.hid (show L.length ≤ 100000 from tl_len hC hL h)
          clear hL hlm hC
          go_enter Try.func7, Try.ntmps7
          go_wp2_with fail
          refine (H1.out _).mono ?_
          rintro e w' ⟨rfl, bb⟩
          replace HBEL := Lib.hid (bel_next HBEL.out bb)
          clear bb
          go_wp2_with fail
          refine (H2.out _).mono ?_
          rintro e w' ⟨rfl, bb⟩
          replace HBEL := Lib.hid (bel_next HBEL.out bb)
          clear bb
          go_wp2_with fail
          refine (H3.out _).mono ?_
          rintro e w' ⟨rfl, rfl⟩
          go_wp2_with fail
          refine (H4.out _).mono ?_
          rintro e w' ⟨rfl, bb⟩
          replace HBEL := Lib.hid (bel_next HBEL.out bb)
          clear bb
          go_wp2_with fail
          refine (H5.out _).mono ?_
          rintro e w' ⟨v, rfl, R, bb⟩
          obtain ⟨al, cl, rfl, hml⟩ := rshape R
          have HR := Lib.hid R
          replace HBEL := Lib.hid (bel_next HBEL.out bb)
          clear bb R
          go_wp2_with fail
          refine (HU.out _).mono ?_
          rintro e w' ⟨rfl, bb⟩
          replace HBEL := Lib.hid (bel_next HBEL.out bb)
          replace HR := Lib.hid (next HR.out bb)
          clear bb
          go_wp2_with fail
          refine (I1.out _).mono ?_
          rintro e w' ⟨rfl, rfl⟩
          go_wp2_with fail
          refine (HI.out _).mono ?_
          rintro e w' ⟨rfl, bb⟩
          replace HBEL := Lib.hid (bel_next HBEL.out bb)
          replace HR := Lib.hid (next HR.out bb)
          clear bb
          go_wp2_with fail
          refine (I1.out _).mono ?_
          rintro e w' ⟨rfl, rfl⟩
          go_wp2_with fail
          refine (HX.out _).mono ?_
          rintro e w' ⟨rfl, bb⟩
          replace HBEL := Lib.hid (bel_next HBEL.out bb)
          replace HR := Lib.hid (next HR.out bb)
          clear bb
          go_wp2_with fail
          refine (I4.out _).mono ?_
          rintro e w' ⟨rfl, rfl⟩
          go_wp2_with fail
          refine (ints_any HR.out HLL.out).mono ?_
          rintro e w' ⟨rfl, bb⟩
          replace HBEL := Lib.hid (bel_next HBEL.out bb)
          clear bb
          go_wp2_with fail
          refine (I5.out _).mono ?_
          rintro e w' ⟨rfl, rfl⟩
          go_wp2_with fail
          refine (alive_any _).mono ?_
          rintro e w' ⟨rfl, bb⟩
          replace HBEL := Lib.hid (bel_next HBEL.out bb)
          clear bb
          go_wp2_with fail
          go_ret
          exact ⟨rfl, HBEL.out⟩
        · have q5 : ((el : Int) != 0) = true := by simp; omega
          clear hL hC hel
          go_enter Try.func7, Try.ntmps7
          go_wp2_with fail
          refine (H1.out _).mono ?_
          rintro e w' ⟨rfl, bb⟩
          replace HBEL := Lib.hid (bel_next HBEL.out bb)
          clear bb
          go_wp2_with fail
          refine (H2.out _).mono ?_
          rintro e w' ⟨rfl, bb⟩
          replace HBEL := Lib.hid (bel_next HBEL.out bb)
          clear bb
          go_wp2_with fail
          refine (H3.out _).mono ?_
          rintro e w' ⟨rfl, rfl⟩
          go_wp2_with fail
          refine (H4.out _).mono ?_
          rintro e w' ⟨rfl, bb⟩
          replace HBEL := Lib.hid (bel_next HBEL.out bb)
          clear bb
          go_wp2_with fail
          refine (H5.out _).mono ?_
          rintro e w' ⟨v, rfl, R, bb⟩
          obtain ⟨al, cl, rfl, hml⟩ := rshape R
          have HR := Lib.hid R
          replace HBEL := Lib.hid (bel_next HBEL.out bb)
          clear bb R
          go_wp2_with fail
          refine (HU.out _).mono ?_
          rintro e w' ⟨rfl, bb⟩
          replace HBEL := Lib.hid (bel_next HBEL.out bb)
          replace HR := Lib.hid (next HR.out bb)
          clear bb
          go_wp2_with fail
          refine (I1.out _).mono ?_
          rintro e w' ⟨rfl, rfl⟩
          go_wp2_with fail
          refine (HI.out _).mono ?_
          rintro e w' ⟨rfl, bb⟩
          replace HBEL := Lib.hid (bel_next HBEL.out bb)
          replace HR := Lib.hid (next HR.out bb)
          clear bb
          go_wp2_with fail
          refine (I1.out _).mono ?_
          rintro e w' ⟨rfl, rfl⟩
          go_wp2_with fail
          refine (HX.out _).mono ?_
          rintro e w' ⟨rfl, bb⟩
          replace HBEL := Lib.hid (bel_next HBEL.out bb)
          replace HR := Lib.hid (next HR.out bb)
          clear bb
          go_wp2_with fail
          refine (I4.out _).mono ?_
          rintro e w' ⟨rfl, rfl⟩
          go_wp2_with fail
          refine (alive_any _).mono ?_
          rintro e w' ⟨rfl, bb⟩
          replace HBEL := Lib.hid (bel_next HBEL.out bb)
          clear bb
          go_wp2_with fail
          go_ret
          exact ⟨rfl, HBEL.out⟩
      · rw [ttV_err hC hec] at H4
        have hL2 := tl_of_tc hC hec
        rw [hL] at hL2
        obtain ⟨rfl, rfl, rfl⟩ : L = [] ∧ tol = 0 ∧ el = ec := by simpa using hL2
        have q4 : ((el : Int) != 0) = true := by simp; omega
        clear hL hL2 hC hec
        go_enter Try.func7, Try.ntmps7
        go_wp2_with fail
        refine (H1.out _).mono ?_
        rintro e w' ⟨rfl, bb⟩
        replace HBEL := Lib.hid (bel_next HBEL.out bb)
        clear bb
        go_wp2_with fail
        refine (H2.out _).mono ?_
        rintro e w' ⟨rfl, bb⟩
        replace HBEL := Lib.hid (bel_next HBEL.out bb)
        clear bb
        go_wp2_with fail
        refine (H3.out _).mono ?_
        rintro e w' ⟨rfl, rfl⟩
        go_wp2_with fail
        refine (H4.out _).mono ?_
        rintro e w' ⟨rfl, bb⟩
        replace HBEL := Lib.hid (bel_next HBEL.out bb)
        clear bb
        go_wp2_with fail
        refine (H5.out _).mono ?_
        rintro e w' ⟨v, rfl, R, bb⟩
        obtain ⟨al, cl, rfl, hml⟩ := rshape R
        have HR := Lib.hid R
        replace HBEL := Lib.hid (bel_next HBEL.out bb)
        clear bb R
        go_wp2_with fail
        refine (HU.out _).mono ?_
        rintro e w' ⟨rfl, bb⟩
        replace HBEL := Lib.hid (bel_next HBEL.out bb)
        replace HR := Lib.hid (next HR.out bb)
        clear bb
        go_wp2_with fail
        refine (I1.out _).mono ?_
        rintro e w' ⟨rfl, rfl⟩
        go_wp2_with fail
        refine (HI.out _).mono ?_
        rintro e w' ⟨rfl, bb⟩
        replace HBEL := Lib.hid (bel_next HBEL.out bb)
        replace HR := Lib.hid (next HR.out bb)
        clear bb
        go_wp2_with fail
        refine (I1.out _).mono ?_
        rintro e w' ⟨rfl, rfl⟩
        go_wp2_with fail
        refine (alive_any _).mono ?_
        rintro e w' ⟨rfl, bb⟩
        replace HBEL := Lib.hid (bel_next HBEL.out bb)
        clear bb
        go_wp2_with fail
        go_ret
        exact ⟨rfl, HBEL.out⟩
    · have hC2 := tc_of_tu (m := m) hT he
      rw [hC] at hC2
      obtain ⟨rfl, rfl, rfl⟩ : k = 0 ∧ toc = 0 ∧ ec = e := by simpa using hC2
      rw [ttV_err hC he] at H4
      have hL2 := tl_of_tc hC he
      rw [hL] at hL2
      obtain ⟨rfl, rfl, rfl⟩ : L = [] ∧ tol = 0 ∧ el = ec := by simpa using hL2
      have q1 : ((el : Int) == 0) = false := by simp; omega
      have q4 : ((el : Int) != 0) = true := by simp; omega
      clear hL hL2 hC hC2 hT he
      go_enter Try.func7, Try.ntmps7
      go_wp2_with fail
      refine (H1.out _).mono ?_
      rintro e w' ⟨rfl, bb⟩
      replace HBEL := Lib.hid (bel_next HBEL.out bb)
      clear bb
      go_wp2_with fail
      refine (H2.out _).mono ?_
      rintro e w' ⟨rfl, bb⟩
      replace HBEL := Lib.hid (bel_next HBEL.out bb)
      clear bb
      go_wp2_with fail
      refine (H3.out _).mono ?_
      rintro e w' ⟨rfl, rfl⟩
      go_wp2_with fail
      refine (H4.out _).mono ?_
      rintro e w' ⟨rfl, bb⟩
      replace HBEL := Lib.hid (bel_next HBEL.out bb)
      clear bb
      go_wp2_with fail
      refine (H5.out _).mono ?_
      rintro e w' ⟨v, rfl, R, bb⟩
      obtain ⟨al, cl, rfl, hml⟩ := rshape R
      have HR := Lib.hid R
      replace HBEL := Lib.hid (bel_next HBEL.out bb)
      clear bb R
      go_wp2_with fail
      refine (alive_any _).mono ?_
      rintro e w' ⟨rfl, bb⟩
      replace HBEL := Lib.hid (bel_next HBEL.out bb)
      clear bb
      go_wp2_with fail
      go_ret
      exact ⟨rfl, HBEL.out⟩

set_option maxRecDepth 100000 in
theorem walk_out (s : ByteArray) (t m : Int) (w : World) (h : 2000 < s.size) (hs : s.size ≤ maxLen) :
    Calls Try.prog 7 #[.string s, .int .i64 t, .int .i64 m] w fun e w' => e = .returned (.bool true) ∧ Below w.heap.size w w' := by
  unfold maxLen at hs
  go_enter Try.func7, Try.ntmps7
  go_wp2_with fail
  refine (alive_any _).mono ?_
  rintro e w7 ⟨rfl, b⟩
  have B7 := Lib.hid b
  clear b
  go_wp2_with fail
  go_ret
  exact ⟨rfl, B7.out⟩

end Go.Proofs.Ytpbmkapeieoiaaa.Exact
