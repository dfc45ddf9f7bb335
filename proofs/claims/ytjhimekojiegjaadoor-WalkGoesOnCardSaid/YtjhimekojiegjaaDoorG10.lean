/- Texts of this proof, merged: Wins. -/
import Derived.Test.YtjhimekojiegjaaDoorG05

/- The call of the reference's insert (walk). -/
namespace Go.Proofs.YtjhimekojiegjaaDoor.Wins
open Go.RowKit Go.Lib Go.Proofs.YtjhimekojiegjaaDoor.Reads Go.Proofs.YtjhimekojiegjaaDoor.Rows2 Go.Proofs.YtjhimekojiegjaaDoor.Lay Go.Proofs.YtjhimekojiegjaaDoor.Layf Go.Proofs.YtjhimekojiegjaaDoor.Ldup Go.Proofs.YtjhimekojiegjaaDoor.Lext Go.Proofs.YtjhimekojiegjaaDoor.Way Go.Proofs.YtjhimekojiegjaaDoor.Wrf Go.Proofs.YtjhimekojiegjaaDoor.Wlst Go.Proofs.YtjhimekojiegjaaDoor.Wbra Go.Proofs.YtjhimekojiegjaaDoor.Wmea
open Go.Proofs.YtjhimekojiegjaaDoor.Text hiding lineL joinR

theorem ins_less {x s : Int × Int} {r : List (Int × Int)} (h : lessB x s = true) : insertF (x :: r) s = x :: insertF r s := by rw [insertF, if_pos h]
theorem ins_same {x : Int × Int} {r : List (Int × Int)} (h : lessB x x = false) : insertF (x :: r) x = x :: r := by rw [insertF, if_neg (by simp [h]), if_pos rfl]
theorem ins_more {x s : Int × Int} {r : List (Int × Int)} (h : lessB x s = false) (h2 : x ≠ s) : insertF (x :: r) s = s :: x :: r := by rw [insertF, if_neg (by simp [h]), if_neg h2]

/-- What holds at the head of the loop of insert. -/
def IRel (l q : List (Int × Int)) (s : Int × Int) (W : World) (vout vj : Value) (wr : World) : Prop :=
  ∃ j : Nat, vj = .int .i64 (j : Int) ∧ j ≤ l.length ∧ l.take j ++ insertF (l.drop j) s = q ∧ wr.ownsRow W.heap.size 52 2 vout (l.take j).length ((l.take j).flatMap pCells) ∧ Below W.heap.size W wr

theorem flat_at2 {l : List (Int × Int)} {i : Nat} {u : Value} (h : (l.flatMap pCells)[i]? = some u) : ∃ (k : Nat) (x : Int × Int), l[k]? = some x ∧ ((i = k * 2 ∧ u = .int .i64 x.1) ∨ (i = k * 2 + 1 ∧ u = .int .i64 x.2)) := by
  induction l generalizing i with
  | nil => simp at h
  | cons y r ih =>
    rw [List.flatMap_cons] at h
    rcases i with _ | _ | i
    · refine ⟨0, y, rfl, .inl ⟨rfl, ?_⟩⟩
      simpa [pCells] using h.symm
    · refine ⟨0, y, rfl, .inr ⟨rfl, ?_⟩⟩
      simpa [pCells] using h.symm
    · have h2 : (r.flatMap pCells)[i]? = some u := by simpa [pCells] using h
      obtain ⟨k, x, hx, hk⟩ := ih h2
      refine ⟨k + 1, x, by simpa using hx, ?_⟩
      rcases hk with ⟨hk, hu⟩ | ⟨hk, hu⟩
      · exact .inl ⟨by omega, hu⟩
      · exact .inr ⟨by omega, hu⟩
/-- The cells of a slice from place j on. -/
theorem tail_cells {wr : World} {b off : Nat} {l : List (Int × Int)} (h : ∀ (k : Nat) (x : Int × Int), l[k]? = some x → wr.cell? ⟨b, off + k * 2, none⟩ = some (.int .i64 x.1) ∧ wr.cell? ⟨b, off + k * 2 + 1, none⟩ = some (.int .i64 x.2)) (j : Nat) :
    ∀ i u, ((l.drop j).flatMap pCells)[i]? = some u → wr.cell? ((⟨b, off + j * 2, none⟩ : Addr).add i) = some u := by
  intro i u hu
  obtain ⟨k, x, hx, hk⟩ := flat_at2 hu
  rw [List.getElem?_drop] at hx
  obtain ⟨c0, c1⟩ := h _ x hx
  rw [Lnam.add_mk]
  rcases hk with ⟨rfl, rfl⟩ | ⟨rfl, rfl⟩
  · rw [show off + j * 2 + k * 2 = off + (j + k) * 2 by omega]
    exact c0
  · rw [show off + j * 2 + (k * 2 + 1) = off + (j + k) * 2 + 1 by omega]
    exact c1

set_option maxRecDepth 100000 in
set_option maxHeartbeats 3200000 in
theorem winsert_any {l : List (Int × Int)} (s : Int × Int) {v : Value} {w : World} (h : Grid (In w) w v 2 (l.map pCells)) (hsn : v = .slice none 0 0 ∨ ∃ b off n c, v = .slice (some ⟨b, off, none⟩) n c) (hn : l.length ≤ 1000) :
    Calls Tryd.prog 52 #[v, pV s] w (MadeOut pCells 2 (insertF l s) w) := by
  have b0 := (Below.refl w.heap.size w).alloc (Nat.le_refl _) (.cells #[.int .i64 s.1, .int .i64 s.2] 52)
  have HG := Lib.hid (h.keep (keep_next b0))
  obtain ⟨q, hq⟩ : ∃ q, insertF l s = q := ⟨_, rfl⟩
  rw [hq]
  have HQ := Lib.hid (show l.take 0 ++ insertF (l.drop 0) s = q from hq)
  have B0 := Lib.hid b0
  have hcw : ∀ j, (w.alloc (.cells #[.int .i64 s.1, .int .i64 s.2] 52)).cell? ⟨w.heap.size, j, none⟩ = (#[.int .i64 s.1, .int .i64 s.2] : Array Value)[j]? := fun j => by rw [World.cell?_alloc_at _ _ _ _ rfl]
  have HCW := Lib.hid hcw
  have HS0 : Hid (w.heap.size < (w.alloc (.cells #[.int .i64 s.1, .int .i64 s.2] 52)).heap.size) := by simp [Hid]
  obtain ⟨i0, hi0, hz0, hz1, hz2⟩ := info_parts infoG
  have HI0 := Lib.hid hi0
  have HZ0 := Lib.hid hz0
  have HZ1 := Lib.hid hz1
  have HZ2 := Lib.hid hz2
  obtain ⟨s1, s2⟩ := s
  simp only at HCW HS0 B0 HG
  unfold pV
  clear hi0 hz0 hz1 hz2 hq b0 hcw
  have hshape := pairs_shape h
  obtain ⟨a, cap, rfl, hm, _⟩ := hshape
  have hcap : l.length ≤ cap ∧ (cap : Int) ≤ 9223372036854775807 := by
    obtain ⟨_, _, he, h2, h3, _⟩ := h
    simp only [Value.slice.injEq] at he
    obtain ⟨_, _, rfl⟩ := he
    rw [List.length_map] at h2
    unfold maxLen at h3
    omega
  obtain ⟨hcap, hcap2⟩ := hcap
  clear h
  go_enter Tryd.func52, Tryd.ntmps52
  go_wp2_with fail
  obtain ⟨W, hW⟩ : ∃ W, w.alloc (.cells #[.int .i64 s1, .int .i64 s2] 52) = W := ⟨_, rfl⟩
  rw [hW] at HG HCW HS0 B0 ⊢
  clear hW
  obtain ⟨_, _, he, _, hc⟩ := pairs_shape HG.out
  cases he
  have HC := Lib.hid hc
  clear hc
  go_loopw [5, 6] (fun vout vj wr => IRel l q (s1, s2) W vout vj wr) (fun _ vj _ => l.length - (RowKit.intOf vj).toNat)
  case atStart => exact ⟨0, rfl, Nat.zero_le _, HQ.out, World.ownsRow_nil _ _ _ _, Below.refl _ _⟩
  case round =>
    obtain ⟨j, rfl, hj, hr, ho, hb⟩ := hrel
    have HJ := Lib.hid hr
    have HO := Lib.hid ho
    have HB := Lib.hid hb
    have y0 := (hb.cell (p := ⟨w.heap.size, 0, none⟩) HS0.out).trans (HCW.out 0)
    have y1 := (hb.cell (p := ⟨w.heap.size, 1, none⟩) HS0.out).trans (HCW.out 1)
    simp at y0 y1
    have hlt0 : w.heap.size < wr.heap.size := Nat.lt_of_lt_of_le HS0.out hb.size
    have htl : (l.take j).length ≤ 1000 := by rw [List.length_take]; omega
    have HTL := Lib.hid htl
    clear hr ho hb htl
    by_cases hlt : j < l.length
    · obtain ⟨x, hx⟩ := at_lt hlt
      obtain ⟨b, off, rfl, hbl, c0, c1⟩ := HC.out j x hx
      have d0 := (HB.out.cell (p := ⟨b, off + j * 2, none⟩) hbl).trans c0
      have d1 := (HB.out.cell (p := ⟨b, off + j * 2 + 1, none⟩) hbl).trans c1
      have hbl2 : b < wr.heap.size := Nat.lt_of_lt_of_le hbl HB.out.size
      have HXX := Lib.hid hx
      rw [Layf.drop_at hx] at HJ
      obtain ⟨x1, x2⟩ := x
      simp only at d0 d1
      clear hx c0 c1 hbl
      by_cases hlq : lessB (x1, x2) (s1, s2) = true
      · have HF := Lib.hid (show l.take (j + 1) ++ insertF (l.drop (j + 1)) (s1, s2) = q by
          rw [← HJ.out, ins_less hlq, take_next HXX.out, List.append_assoc]
          rfl)
        have HTK := Lib.hid (take_next HXX.out)
        have hcase : x1 < s1 ∨ (¬ x1 < s1 ∧ x1 = s1 ∧ x2 < s2) := by
          simp only [lessB, Bool.or_eq_true, Bool.and_eq_true, decide_eq_true_eq] at hlq
          omega
        clear hlq
        rcases hcase with h1 | ⟨h1, rfl, h2⟩
        all_goals
          go_wp2_with fail
          go_quiet (fail)
          go_wp2_with (at_builtin; refine wp_append_row rfl (.tmp 41) (.tmp 46) 46 rfl W 52 i0 (.agg #[.int .i64 0, .int .i64 0]) 2 16 Tryd.underlying46 HI0.out HZ0.out HZ1.out HZ2.out rfl (by decide) pCells p_len p_one (x1, x2) rfl rfl (by simp) rfl (Lele.own_below HO.out (below_drewN (Below.refl _ _) _)) (below_drewN HB.out _) (by have := HTL.out; omega) (by have := HTL.out; unfold maxLen; omega) ?_; intro v5 w5 o5 f5; have O5 := Lib.hid o5; have F5 := Lib.hid f5; clear o5 f5)
          go_roundw
          case rel => exact ⟨j + 1, by simp, hlt, HF.out, by rw [HTK.out]; exact O5.out, F5.out⟩
          case measure => simp [RowKit.intOf]; omega
      · have hlf : lessB (x1, x2) (s1, s2) = false := by simpa using hlq
        have HT := Lib.hid (fun (wx : World) (b' : Below W.heap.size W wx) => tail_cells (b := b) (off := off) (l := l) (wr := wx) (fun k x hx => by
          obtain ⟨_, _, e', hb9, c0, c1⟩ := HC.out k x hx
          cases e'
          exact ⟨(b'.cell (p := ⟨b, off + k * 2, none⟩) hb9).trans c0, (b'.cell (p := ⟨b, off + k * 2 + 1, none⟩) hb9).trans c1⟩) j)
        have HDL : Hid ((l.drop j).length + j = l.length) := by rw [List.length_drop]; show _ = _; omega
        have hjl : ((j : Int) == (l.length : Int)) = false := by simp; omega
        have hcj : ¬ cap = j := by omega
        by_cases hxs : (x1, x2) = (s1, s2)
        · cases hxs
          have HF := Lib.hid (show l.take j ++ l.drop j = q by rw [← HJ.out, ins_same hlf, ← Layf.drop_at HXX.out])
          clear hlf hlq
          go_wp2_with fail
          go_quiet (fail)
          go_wp2_with fail
          go_quiet (fail)
          go_wp2_with (at_builtin; refine wp_append_rows rfl (.tmp 66) (.tmp 69) 46 rfl W 52 i0 (.agg #[.int .i64 0, .int .i64 0]) 2 16 Tryd.underlying46 HI0.out HZ0.out HZ1.out HZ2.out rfl (by decide) pCells p_len p_one (l.drop j) rfl rfl (by rw [List.length_drop]) (HT.out _ (below_drewN HB.out _)) (Lele.own_below HO.out (below_drewN (Below.refl _ _) _)) (below_drewN HB.out _) (by have := HTL.out; have := HDL.out; omega) (by have := HTL.out; have := HDL.out; unfold maxLen; omega) ?_; intro v6 w6 o6 f6; have O6 := Lib.hid o6; have F6 := Lib.hid f6; clear o6 f6)
          go_ret
          rw [← HF.out]
          exact made_own pCells p_len B0.out O6.out F6.out
        · have HF := Lib.hid (show l.take j ++ [(s1, s2)] ++ l.drop j = q by
            rw [← HJ.out, ins_more hlf hxs, ← Layf.drop_at HXX.out, List.append_assoc]
            rfl)
          have hne := Ljoi.ne_cases hxs
          have hcase : (s1 = x1 ∧ (x2 == s2) = false ∧ decide (x2 < s2) = false) ∨ (decide (x1 < s1) = false ∧ (x1 == s1) = false) := by
            simp only [lessB, Bool.or_eq_false_iff, Bool.and_eq_false_iff, decide_eq_false_iff_not] at hlf
            simp only [beq_eq_false_iff_ne, beq_iff_eq, decide_eq_false_iff_not] at hne ⊢
            omega
          clear hlf hlq hne hxs
          have HTL2 : Hid ((l.take j ++ [(s1, s2)]).length ≤ 1001) := by
            have := HTL.out
            rw [List.length_append]
            show _ ≤ _
            simpa using this
          rcases hcase with ⟨rfl, h2, h3⟩ | ⟨h1, h2⟩
          all_goals
            go_wp2_with fail
            go_quiet (fail)
            go_wp2_with fail
            go_quiet (fail)
            go_wp2_with (first
              | (at_builtin; refine wp_append_row rfl (.tmp 62) (.tmp 64) 46 rfl W 52 i0 (.agg #[.int .i64 0, .int .i64 0]) 2 16 Tryd.underlying46 HI0.out HZ0.out HZ1.out HZ2.out rfl (by decide) pCells p_len p_one (s1, s2) rfl rfl (by simp) rfl (by first | exact Lele.own_below HO.out (below_drewN (Below.refl _ _) _) | exact Lele.own_below HO.out (below_drewN (below_drewN (Below.refl _ _) _) _)) (by first | exact below_drewN HB.out _ | exact below_drewN (below_drewN HB.out _) _) (by have := HTL.out; omega) (by have := HTL.out; unfold maxLen; omega) ?_; intro v5 w5 o5 f5; have O5 := Lib.hid o5; have F5 := Lib.hid f5; clear o5 f5)
              | (at_builtin; refine wp_append_rows rfl (.tmp 66) (.tmp 69) 46 rfl W 52 i0 (.agg #[.int .i64 0, .int .i64 0]) 2 16 Tryd.underlying46 HI0.out HZ0.out HZ1.out HZ2.out rfl (by decide) pCells p_len p_one (l.drop j) rfl rfl (by rw [List.length_drop]) (HT.out _ F5.out) O5.out F5.out (by have := HTL2.out; have := HDL.out; omega) (by have := HTL2.out; have := HDL.out; unfold maxLen; omega) ?_; intro v6 w6 o6 f6; have O6 := Lib.hid o6; have F6 := Lib.hid f6; clear o6 f6))
            go_ret
            rw [← HF.out]
            exact made_own pCells p_len B0.out O6.out F6.out
    · have he : j = l.length := by omega
      subst he
      have HF := Lib.hid (show l ++ [(s1, s2)] = q by
        rw [← HJ.out, List.drop_length, List.take_length]
        rfl)
      have ho := HO.out
      rw [List.take_length] at ho
      have HO2 := Lib.hid ho
      have hjl : ((l.length : Int) == (l.length : Int)) = true := by simp
      clear ho hj hlt
      rcases hsn with hsn | ⟨b, off, n, c, hsn⟩
      · simp only [Value.slice.injEq] at hsn
        obtain ⟨rfl, hl0, rfl⟩ := hsn
        rw [hl0]
        go_wp2_with fail
        go_quiet (fail)
        go_wp2_with fail
        go_quiet (fail)
        go_wp2_with (first
          | (at_builtin; refine wp_append_row rfl (.tmp 62) (.tmp 64) 46 rfl W 52 i0 (.agg #[.int .i64 0, .int .i64 0]) 2 16 Tryd.underlying46 HI0.out HZ0.out HZ1.out HZ2.out rfl (by decide) pCells p_len p_one (s1, s2) rfl rfl (by simp) rfl (by first | exact Lele.own_below HO2.out (below_drewN (Below.refl _ _) _) | exact Lele.own_below HO2.out (below_drewN (below_drewN (Below.refl _ _) _) _)) (by first | exact below_drewN HB.out _ | exact below_drewN (below_drewN HB.out _) _) (by omega) (by unfold maxLen; omega) ?_; intro v5 w5 o5 f5; have O5 := Lib.hid o5; have F5 := Lib.hid f5; clear o5 f5)
          | (at_builtin; refine wp_append_nil rfl (.tmp 66) (.tmp 69) 46 rfl W.heap.size 52 i0 2 Tryd.underlying46 HI0.out rfl rfl O5.out ?_))
        go_ret
        rw [← HF.out]
        exact made_own pCells p_len B0.out O5.out F5.out
      · simp only [Value.slice.injEq] at hsn
        obtain ⟨rfl, hln, hcc⟩ := hsn
        clear hln hcc
        by_cases hcn : cap = l.length
        all_goals
          go_wp2_with fail
          go_quiet (fail)
          go_wp2_with fail
          go_quiet (fail)
          go_wp2_with (first
            | (at_builtin; refine wp_append_row rfl (.tmp 62) (.tmp 64) 46 rfl W 52 i0 (.agg #[.int .i64 0, .int .i64 0]) 2 16 Tryd.underlying46 HI0.out HZ0.out HZ1.out HZ2.out rfl (by decide) pCells p_len p_one (s1, s2) rfl rfl (by simp) rfl (by first | exact Lele.own_below HO2.out (below_drewN (Below.refl _ _) _) | exact Lele.own_below HO2.out (below_drewN (below_drewN (Below.refl _ _) _) _)) (by first | exact below_drewN HB.out _ | exact below_drewN (below_drewN HB.out _) _) (by omega) (by unfold maxLen; omega) ?_; intro v5 w5 o5 f5; have O5 := Lib.hid o5; have F5 := Lib.hid f5; clear o5 f5)
            | (at_builtin; refine wp_append_rows rfl (.tmp 66) (.tmp 69) 46 rfl W 52 i0 (.agg #[.int .i64 0, .int .i64 0]) 2 16 Tryd.underlying46 HI0.out HZ0.out HZ1.out HZ2.out rfl (by decide) pCells p_len p_one [] rfl rfl (by simp) (by intro j u hu; simp at hu) O5.out F5.out (by rw [List.length_append, List.length_singleton, List.length_nil]; omega) (by rw [List.length_append, List.length_singleton, List.length_nil]; unfold maxLen; omega) ?_; intro v6 w6 o6 f6; have O6 := Lib.hid o6; have F6 := Lib.hid f6; clear o6 f6))
          go_ret
          rw [← HF.out]
          have o6 := O6.out
          rw [List.append_nil] at o6
          exact made_own pCells p_len B0.out o6 F6.out

end Go.Proofs.YtjhimekojiegjaaDoor.Wins
