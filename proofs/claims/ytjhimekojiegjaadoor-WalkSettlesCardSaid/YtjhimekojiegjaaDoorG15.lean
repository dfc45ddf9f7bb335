/- Texts of this proof, merged: Wplp, Wprt, Wpls. -/
import Derived.Test.YtjhimekojiegjaaDoorG13
import Derived.Test.YtjhimekojiegjaaDoorG12

/- Parts of a way. Plain, and slices of it. -/
namespace Go.Proofs.YtjhimekojiegjaaDoor.Wplp
open Go.RowKit Go.Lib Go.Proofs.YtjhimekojiegjaaDoor.Lay Go.Proofs.YtjhimekojiegjaaDoor.Layf Go.Proofs.YtjhimekojiegjaaDoor.Lnam Go.Proofs.YtjhimekojiegjaaDoor.Lcon Go.Proofs.YtjhimekojiegjaaDoor.Rows2 Go.Proofs.YtjhimekojiegjaaDoor.Way Go.Proofs.YtjhimekojiegjaaDoor.Wcnn Go.Proofs.YtjhimekojiegjaaDoor.Wsim Go.Proofs.YtjhimekojiegjaaDoor.Wval Go.Proofs.YtjhimekojiegjaaDoor.Wplr Go.Proofs.YtjhimekojiegjaaDoor.Wmea Go.Proofs.YtjhimekojiegjaaDoor.Wlst

def partF {α : Type} (l : List α) (i j : Nat) : List α := (l.take j).drop i
theorem part_len {α : Type} {l : List α} {i j : Nat} (h : j ≤ l.length) : (partF l i j).length = j - i := by
  rw [partF, List.length_drop, List.length_take]
  omega
theorem part_map {α β : Type} (f : α → β) (l : List α) (i j : Nat) : (partF l i j).map f = partF (l.map f) i j := by rw [partF, partF, List.map_drop, List.map_take]
theorem part_at {α : Type} {l : List α} {i j k : Nat} {x : α} (h : (partF l i j)[k]? = some x) : l[i + k]? = some x := by
  rw [partF, List.getElem?_drop, List.getElem?_take] at h
  split at h
  · exact h
  · cases h
theorem part_sub {α : Type} (l : List α) (i j : Nat) : List.Sublist (partF l i j) l := (List.drop_sublist _ _).trans (List.take_sublist _ _)

theorem grid_cut {ok : Nat → Prop} {w : World} {a : Option Addr} {n cap sz l m : Nat} {rows : List (List Value)} (h : Grid ok w (.slice a n cap) sz rows) (hl : l ≤ m) (hm : m ≤ n) : Grid ok w (sliced a l m cap sz) sz (partF rows l m) := by
  obtain ⟨a', cap', he, h1, h2, h3⟩ := h
  simp only [Value.slice.injEq] at he
  obtain ⟨rfl, rfl, rfl⟩ := he
  have e : (partF rows l m).length = m - l := part_len hm
  refine ⟨if cap = l then a else a.map (·.add (l * sz)), cap - l, by rw [e]; rfl, by omega, by omega, ?_⟩
  rcases h3 with rfl | ⟨b, off, rfl, hb, hc⟩
  · exact .inl (by simp [partF])
  · by_cases hq : cap = l
    · exact .inl (List.eq_nil_of_length_eq_zero (by omega))
    · refine .inr ⟨b, off + l * sz, by rw [if_neg hq]; simp [add_mk], hb, fun i r hr j x hx => ?_⟩
      have := hc (l + i) r (part_at hr) j x hx
      rwa [show off + l * sz + i * sz + j = off + (l + i) * sz + j by rw [Nat.add_mul]; omega]

set_option maxRecDepth 100000 in
theorem cut_three {w : World} {a : Option Addr} {cap : Nat} {way : List Stp} (h : Grid (In w) w (.slice a way.length cap) 3 (way.map stCells)) {i j : Nat} (hi : i ≤ j) (hj : j ≤ way.length) :
    (∃ u, (∀ w' : World, (Instr.slice 38 (.slice a way.length cap) none (some (.int .i64 (i : Int))) none).run Tryd.prog w' = .ok u w') ∧ Grid (In w) w u 3 ((partF way 0 i).map stCells)) ∧
    (∃ u, (∀ w' : World, (Instr.slice 38 (.slice a way.length cap) (some (.int .i64 (i : Int))) (some (.int .i64 (j : Int))) none).run Tryd.prog w' = .ok u w') ∧ Grid (In w) w u 3 ((partF way i j).map stCells)) ∧
    (∃ u, (∀ w' : World, (Instr.slice 38 (.slice a way.length cap) (some (.int .i64 (j : Int))) none none).run Tryd.prog w' = .ok u w') ∧ Grid (In w) w u 3 ((partF way j way.length).map stCells)) := by
  obtain ⟨i0, hif, hz0, hz1, hz2⟩ := info_parts infoT
  have hcap : way.length ≤ cap := by
    obtain ⟨_, _, he, h2, _, _⟩ := h
    simp only [Value.slice.injEq] at he
    obtain ⟨_, _, rfl⟩ := he
    rwa [List.length_map] at h2
  have hel : Tryd.prog.elem 38 = 30 := by kernel_rfl
  have hsz : Tryd.prog.cellsOf 30 = 3 := by kernel_rfl
  refine ⟨⟨sliced a 0 i cap 3, fun w' => ?_, ?_⟩, ⟨sliced a i j cap 3, fun w' => ?_, ?_⟩, ⟨sliced a j way.length cap 3, fun w' => ?_, ?_⟩⟩
  · rw [run_slice_h w' _ a way.length cap Tryd.underlying38 .i64 (i : Int) (by omega) (by omega), hel, Go.run_sizeOf w' hif, hsz]
    rfl
  · rw [part_map]
    exact grid_cut h (Nat.zero_le _) (by omega)
  · rw [run_slice_lh w' _ a way.length cap Tryd.underlying38 .i64 .i64 (i : Int) (j : Int) (by omega) (by omega) (by omega), hel, Go.run_sizeOf w' hif, hsz]
    rfl
  · rw [part_map]
    exact grid_cut h hi hj
  · rw [run_slice_l w' _ a way.length cap Tryd.underlying38 .i64 (j : Int) (by omega) (by omega), hel, Go.run_sizeOf w' hif, hsz]
    rfl
  · rw [part_map]
    exact grid_cut h hj (Nat.le_refl _)

/-! What the statement says of parts. -/
theorem part_all {α : Type} (l : List α) {i j : Nat} (hi : i ≤ j) : partF l 0 i ++ partF l i j ++ partF l j l.length = l := by
  simp only [partF, List.drop_zero, List.take_length]
  rw [show l.take i = (l.take j).take i by rw [List.take_take, Nat.min_eq_left hi], List.take_append_drop, List.take_append_drop]
theorem part_sum (els : List Elem) (way : List Stp) {i j : Nat} (hi : i ≤ j) : lengthF els (partF way 0 i) + lengthF els (partF way i j) + lengthF els (partF way j way.length) = lengthF els way := by
  simp only [length_sum]
  rw [← sum_append, ← sum_append, part_all way hi]
theorem sum_low {els : List Elem} (hle : ∀ x ∈ els, 0 ≤ x.len ∧ x.len ≤ 1000000) : ∀ (way : List Stp), 0 ≤ sumL els way ∧ sumL els way ≤ 1000000 * (way.length : Int)
  | [] => by simp [sumL]
  | s :: r => by
    have h1 := len_bound hle s
    have h2 := sum_low hle r
    rw [sumL, List.length_cons]
    omega
theorem part_valid {L : Lay} {way : List Stp} {i j : Nat} (hi : i < j) (hj : j ≤ way.length) (h : validF L way = true) : validF L (partF way i j) = true := by
  rw [valid_parts] at h ⊢
  simp only [Bool.and_eq_true, decide_eq_true_eq] at h ⊢
  obtain ⟨h1, h2, h3, h4, h5⟩ := h
  have hl : (partF way i j).length = j - i := part_len hj
  refine ⟨by omega, by omega, ?_, ?_, ?_⟩
  · rw [Bool.not_eq_true', List.any_eq_false] at h3 ⊢
    exact fun x hx => h3 x ((part_sub way i j).subset hx)
  · rw [con_iff] at h4 ⊢
    intro k a b ha hb
    exact h4 (i + k) a b (part_at ha) (by have := part_at hb; rwa [show i + (k + 1) = i + k + 1 by omega] at this)
  · rw [sim_iff] at h5 ⊢
    exact ⟨h5.1.sublist ((part_sub way i j).map _), fun x hx => absurd hx (by simp)⟩

end Go.Proofs.YtjhimekojiegjaaDoor.Wplp

/- WalkParts: the walk. -/
namespace Go.Proofs.YtjhimekojiegjaaDoor.Wprt
open Go.RowKit Go.Lib Go.Proofs.YtjhimekojiegjaaDoor.Reads Go.Proofs.YtjhimekojiegjaaDoor.Rows2 Go.Proofs.YtjhimekojiegjaaDoor.Lay Go.Proofs.YtjhimekojiegjaaDoor.Layf Go.Proofs.YtjhimekojiegjaaDoor.Ldup Go.Proofs.YtjhimekojiegjaaDoor.Lext Go.Proofs.YtjhimekojiegjaaDoor.Ljoi Go.Proofs.YtjhimekojiegjaaDoor.Lnmd Go.Proofs.YtjhimekojiegjaaDoor.Lcon Go.Proofs.YtjhimekojiegjaaDoor.Way Go.Proofs.YtjhimekojiegjaaDoor.Wrf Go.Proofs.YtjhimekojiegjaaDoor.Wlst Go.Proofs.YtjhimekojiegjaaDoor.Wbra Go.Proofs.YtjhimekojiegjaaDoor.Wmea Go.Proofs.YtjhimekojiegjaaDoor.Wsou Go.Proofs.YtjhimekojiegjaaDoor.Wali Go.Proofs.YtjhimekojiegjaaDoor.Wstp Go.Proofs.YtjhimekojiegjaaDoor.Wmsr Go.Proofs.YtjhimekojiegjaaDoor.Wplr Go.Proofs.YtjhimekojiegjaaDoor.Wplp
open Go.Proofs.YtjhimekojiegjaaDoor.Rtab (RTab rtab_next)
open Go.Proofs.YtjhimekojiegjaaDoor.Text hiding lineL joinR

set_option maxRecDepth 100000 in
set_option maxHeartbeats 12800000 in
theorem parts_law (L : Lay) {way : List Stp} {f t : Int} {vs ve vj vg vb v : Value} (w : World) (h : LayAt (In w) w L vs ve vj vg vb) (hj : L.joints.length ≤ 4398046510976) (hv : Grid (In w) w v 3 (way.map stCells)) (hd : RTab w) :
    Calls Tryd.prog 6 #[layV L vs ve vj vg vb, v, .int .i64 f, .int .i64 t] w (BoolOut true w) := by
  obtain ⟨a2, cap2, rfl, hm2, _⟩ := way_cells hv
  have b0 := (Below.refl w.heap.size w).alloc (Nat.le_refl _) (.cells #[.string (bs L.name), vs, ve, vj, vg, vb] 28)
  have h0 := h.next b0
  have d0 := rtab_next hd b0
  have v0 := grid_next hv b0
  have HX := lbox_new w 28 L vs ve vj vg vb
  have hs0 : w.heap.size < (w.alloc (.cells #[.string (bs L.name), vs, ve, vj, vg, vb] 28)).heap.size := by simp
  clear h hd hv
  unfold layV
  go_enter Tryd.func6, Tryd.ntmps6
  go_wp2_with fail
  obtain ⟨W, hW⟩ : ∃ W, w.alloc (.cells #[.string (bs L.name), vs, ve, vj, vg, vb] 28) = W := ⟨_, rfl⟩
  rw [hW] at b0 h0 d0 v0 HX hs0 ⊢
  clear hW
  have B0 := Lib.hid b0
  have HLY := Lib.hid (fun w' (b : Below W.heap.size W w') => h0.next b)
  have HDY := Lib.hid (fun w' (b : Below W.heap.size W w') => rtab_next d0 b)
  have HVY := Lib.hid (fun w' (b : Below W.heap.size W w') => grid_next v0 b)
  have HV0 := Lib.hid v0
  have HK : Hid (∀ w', Below W.heap.size W w' → w'.cell? ⟨w.heap.size, 0, none⟩ = some (.string (bs L.name)) ∧ w'.cell? ⟨w.heap.size, 1, none⟩ = some vs ∧ w'.cell? ⟨w.heap.size, 2, none⟩ = some ve ∧ w'.cell? ⟨w.heap.size, 3, none⟩ = some vj ∧ w'.cell? ⟨w.heap.size, 4, none⟩ = some vg ∧ w'.cell? ⟨w.heap.size, 5, none⟩ = some vb) := fun w' b => HX.next b hs0
  have C1 := Lib.hid (sound_any L (n := way.length) (cap := cap2) (a := a2) W h0 hj hm2)
  unfold layV at C1
  clear HX h0 d0 v0 b0 hj
  obtain ⟨x0, x1, x2, x3, x4, x5⟩ := HK.out W (Below.refl _ _)
  obtain ⟨q, hq⟩ : ∃ q, soundB L way.length = q := ⟨_, rfl⟩
  rw [hq] at C1
  have HQ := Lib.hid hq
  clear hq
  go_wp2_with fail
  refine C1.out.mono ?_
  rintro e w1 ⟨rfl, b⟩
  have E0 := Lib.hid b
  clear b C1 x0 x1 x2 x3 x4 x5 hs0
  have hcase : q = false ∨ (q = true ∧ decide (f < 0) = true) ∨ (q = true ∧ decide (f < 0) = false ∧ decide (t < f) = true) ∨ (q = true ∧ decide (f < 0) = false ∧ decide (t < f) = false ∧ decide ((way.length : Int) < t) = true) ∨ (q = true ∧ decide (f < 0) = false ∧ decide (t < f) = false ∧ decide ((way.length : Int) < t) = false) := by
    simp only [decide_eq_true_eq, decide_eq_false_iff_not]
    cases q
    · simp
    · simp only [true_and, Bool.true_eq_false, false_or]
      omega
  rcases hcase with rfl | ⟨rfl, g1⟩ | ⟨rfl, g1, g2⟩ | ⟨rfl, g1, g2, g3⟩ | ⟨rfl, g1, g2, g3⟩
  · have HA := Lib.hid (alive_any w1 (HDY.out w1 E0.out))
    go_wp2_with fail
    refine HA.out.mono ?_
    rintro e w2 ⟨rfl, b⟩
    have B2 := Lib.hid (bel_next (bel_next B0.out E0.out) b)
    clear b
    go_wp2_with fail
    go_ret
    exact ⟨rfl, B2.out⟩
  · have HA := Lib.hid (alive_any w1 (HDY.out w1 E0.out))
    go_wp2_with fail
    refine HA.out.mono ?_
    rintro e w2 ⟨rfl, b⟩
    have B2 := Lib.hid (bel_next (bel_next B0.out E0.out) b)
    clear b
    go_wp2_with fail
    go_ret
    exact ⟨rfl, B2.out⟩
  · have HA := Lib.hid (alive_any w1 (HDY.out w1 E0.out))
    go_wp2_with fail
    refine HA.out.mono ?_
    rintro e w2 ⟨rfl, b⟩
    have B2 := Lib.hid (bel_next (bel_next B0.out E0.out) b)
    clear b
    go_wp2_with fail
    go_ret
    exact ⟨rfl, B2.out⟩
  · have HA := Lib.hid (alive_any w1 (HDY.out w1 E0.out))
    go_wp2_with fail
    refine HA.out.mono ?_
    rintro e w2 ⟨rfl, b⟩
    have B2 := Lib.hid (bel_next (bel_next B0.out E0.out) b)
    clear b
    go_wp2_with fail
    go_ret
    exact ⟨rfl, B2.out⟩
  · obtain ⟨hn, hc⟩ := sound_check HQ.out
    have hle := els_len hc
    have k1 : 0 ≤ f := by simpa using g1
    have k2 : f ≤ t := by simpa using g2
    have k3 : t ≤ (way.length : Int) := by simpa using g3
    obtain ⟨i, rfl⟩ := Int.eq_ofNat_of_zero_le k1
    obtain ⟨j, rfl⟩ := Int.eq_ofNat_of_zero_le (Int.le_trans k1 k2)
    have hij : i ≤ j := by omega
    have hjn : j ≤ way.length := by omega
    obtain ⟨⟨v1, hs1, c1⟩, ⟨v2, hs2, c2⟩, ⟨v3, hs3, c3⟩⟩ := cut_three HV0.out hij hjn
    have CA := Lib.hid (fun w' (b : Below W.heap.size W w') => Wple.plength_any L w' (HLY.out w' b) (grid_next c1 b) (by rw [part_len (by omega)]; omega) hle)
    have CB := Lib.hid (fun w' (b : Below W.heap.size W w') => Wple.plength_any L w' (HLY.out w' b) (grid_next c2 b) (by rw [part_len (by omega)]; omega) hle)
    have CC := Lib.hid (fun w' (b : Below W.heap.size W w') => Wple.plength_any L w' (HLY.out w' b) (grid_next c3 b) (by rw [part_len (by omega)]; omega) hle)
    have CD := Lib.hid (fun w' (b : Below W.heap.size W w') => Wple.plength_any L w' (HLY.out w' b) (HVY.out w' b) (by omega) hle)
    have CE := Lib.hid (fun w' (b : Below W.heap.size W w') => Wval.pvalid_any L w' (HLY.out w' b) (HVY.out w' b) (HDY.out w' b))
    have CF := Lib.hid (fun w' (b : Below W.heap.size W w') => Wval.pvalid_any L w' (HLY.out w' b) (grid_next c2 b) (HDY.out w' b))
    have HA := Lib.hid (fun w' (b : Below W.heap.size W w') => alive_any w' (HDY.out w' b))
    have HPV := Lib.hid (fun (h1 : i < j) (h2 : validF L way = true) => part_valid h1 hjn h2)
    have m1 := sum_low hle (partF way 0 i)
    have m2 := sum_low hle (partF way i j)
    have m3 := sum_low hle (partF way j way.length)
    rw [part_len (by omega), ← length_sum] at m1 m2 m3
    rw [← part_sum L.els way hij] at CD
    obtain ⟨p1, hp1⟩ : ∃ q, lengthF L.els (partF way 0 i) = q := ⟨_, rfl⟩
    obtain ⟨p2, hp2⟩ : ∃ q, lengthF L.els (partF way i j) = q := ⟨_, rfl⟩
    obtain ⟨p3, hp3⟩ : ∃ q, lengthF L.els (partF way j way.length) = q := ⟨_, rfl⟩
    rw [hp1] at CA CD m1
    rw [hp2] at CB CD m2
    rw [hp3] at CC CD m3
    have n1 : 0 ≤ p1 ∧ p1 ≤ 200000000 := by omega
    have n2 : 0 ≤ p2 ∧ p2 ≤ 200000000 := by omega
    have n3 : 0 ≤ p3 ∧ p3 ≤ 200000000 := by omega
    obtain ⟨n1a, n1b⟩ := n1
    obtain ⟨n2a, n2b⟩ := n2
    obtain ⟨n3a, n3b⟩ := n3
    have hneq : (p1 + p2 + p3 != p1 + p2 + p3) = false := by simp
    obtain ⟨qv, hqv⟩ : ∃ q, validF L way = q := ⟨_, rfl⟩
    rw [hqv] at CE HPV
    unfold layV at CA CB CC CD CE CF
    clear m1 m2 m3 hp1 hp2 hp3 hqv hn hc hle c1 c2 c3 k1 k2 k3 HV0 HQ HVY
    have E1 := E0
    obtain ⟨x0, x1, x2, x3, x4, x5⟩ := HK.out _ E1.out
    go_upto_region 3 with fail
    go_region_held3 (fun w' => w'.cell? ⟨w.heap.size, 0, none⟩ = some (.string (bs L.name)) ∧ w'.cell? ⟨w.heap.size, 1, none⟩ = some vs ∧ w'.cell? ⟨w.heap.size, 2, none⟩ = some ve ∧ w'.cell? ⟨w.heap.size, 3, none⟩ = some vj ∧ w'.cell? ⟨w.heap.size, 4, none⟩ = some vg ∧ w'.cell? ⟨w.heap.size, 5, none⟩ = some vb)
      (first
        | with_reducible exact HK.out _ E4.out
        | with_reducible exact HK.out _ E3.out
        | with_reducible exact HK.out _ E2.out
        | go_keep)
      (first
        | (go_at_call 18; (with_reducible refine (CA.out _ E1.out.drew).mono ?_); rintro e u2 ⟨rfl, b⟩; have E2 := Lib.hid (E1.out.drew.trans (b.mono E1.out.drew.size)); clear b)
        | (go_at_call 18; (with_reducible refine (CB.out _ E2.out).mono ?_); rintro e u3 ⟨rfl, b⟩; have E3 := Lib.hid (E2.out.trans (b.mono E2.out.size)); clear b)
        | (go_at_call 18; (with_reducible refine (CC.out _ E3.out).mono ?_); rintro e u4 ⟨rfl, b⟩; have E4 := Lib.hid (E3.out.trans (b.mono E3.out.size)); clear b))
    clear x0 x1 x2 x3 x4 x5
    obtain ⟨x0, x1, x2, x3, x4, x5⟩ := HK.out _ E4.out
    have C5 := Lib.hid (CD.out _ E4.out)
    go_wp2_with fail
    refine C5.out.mono ?_
    rintro e w5 ⟨rfl, b⟩
    have E5 := Lib.hid (E4.out.trans (b.mono E4.out.size))
    clear b C5 x0 x1 x2 x3 x4 x5
    cases qv with
    | false =>
      obtain ⟨x0, x1, x2, x3, x4, x5⟩ := HK.out _ E5.out
      have k0 := cell_regrown x0
      have k1 := cell_regrown x1
      have k2 := cell_regrown x2
      have k3 := cell_regrown x3
      have k4 := cell_regrown x4
      have k5 := cell_regrown x5
      have C6 := Lib.hid (fun d os => Calls.regrown_of (w := w5) (d := d) (os := os) (CE.out _ (bel_next E5.out (below_regrown w5 d os))))
      have C7 := Lib.hid (fun d os => Calls.regrown_of (w := w5) (d := d) (os := os) (HA.out _ (bel_next E5.out (below_regrown w5 d os))))
      clear x0 x1 x2 x3 x4 x5
      go_wp2_with fail
      refine wp_region_quiet_below (by kernel_rfl) (by kernel_rfl) ?_
      repeat (go_big_quiet_step (first | with_reducible exact C6.out _ _ | with_reducible exact C7.out _ _))
      refine wpQuiet_nil ?_
      intro w6 hw'
      obtain ⟨⟨dq, osq⟩, hw''⟩ := hw'
      have b6 : Below w5.heap.size w5 w6 := by
        rw [hw'']
        exact below_regrown w5 dq osq
      have E7 := Lib.hid (bel_next E5.out b6)
      clear hw'' b6 k0 k1 k2 k3 k4 k5 C6 C7
      go_wp2_with fail
      go_ret
      exact ⟨rfl, bel_next B0.out E7.out⟩
    | true =>
      by_cases hlt : i < j
      · have heq : ((i : Int) == (j : Int)) = false := beq_eq_false_iff_ne.2 (by omega)
        have hpv := HPV.out hlt rfl
        rw [hpv] at CF
        clear hpv hlt
        obtain ⟨x0, x1, x2, x3, x4, x5⟩ := HK.out _ E5.out
        go_upto_region 6 with fail
        go_region_held3 (fun w' => w'.cell? ⟨w.heap.size, 0, none⟩ = some (.string (bs L.name)) ∧ w'.cell? ⟨w.heap.size, 1, none⟩ = some vs ∧ w'.cell? ⟨w.heap.size, 2, none⟩ = some ve ∧ w'.cell? ⟨w.heap.size, 3, none⟩ = some vj ∧ w'.cell? ⟨w.heap.size, 4, none⟩ = some vg ∧ w'.cell? ⟨w.heap.size, 5, none⟩ = some vb)
          (first
            | with_reducible exact HK.out _ E8.out
            | with_reducible exact HK.out _ E7.out
            | with_reducible exact HK.out _ E6.out
            | go_keep)
          (first
            | (go_at_call 16; (with_reducible refine (CE.out _ E5.out.drew).mono ?_); rintro e u6 ⟨rfl, b⟩; have E6 := Lib.hid (E5.out.drew.trans (b.mono E5.out.drew.size)); clear b)
            | (go_at_call 16; (with_reducible refine (CF.out _ E6.out).mono ?_); rintro e u7 ⟨rfl, b⟩; have E7 := Lib.hid (E6.out.trans (b.mono E6.out.size)); clear b)
            | (go_at_call 10; (with_reducible refine (HA.out _ E7.out).mono ?_); rintro e u8 ⟨rfl, b⟩; have E8 := Lib.hid (E7.out.trans (b.mono E7.out.size)); clear b))
        clear x0 x1 x2 x3 x4 x5
        go_wp2_with fail
        go_ret
        exact ⟨rfl, bel_next B0.out E8.out⟩
      · have he : i = j := by omega
        subst he
        have heq : ((i : Int) == (i : Int)) = true := by simp
        obtain ⟨x0, x1, x2, x3, x4, x5⟩ := HK.out _ E5.out
        have k0 := cell_regrown x0
        have k1 := cell_regrown x1
        have k2 := cell_regrown x2
        have k3 := cell_regrown x3
        have k4 := cell_regrown x4
        have k5 := cell_regrown x5
        have C6 := Lib.hid (fun d os => Calls.regrown_of (w := w5) (d := d) (os := os) (CE.out _ (bel_next E5.out (below_regrown w5 d os))))
        have C7 := Lib.hid (fun d os => Calls.regrown_of (w := w5) (d := d) (os := os) (HA.out _ (bel_next E5.out (below_regrown w5 d os))))
        clear x0 x1 x2 x3 x4 x5
        go_wp2_with fail
        refine wp_region_quiet_below (by kernel_rfl) (by kernel_rfl) ?_
        repeat (go_big_quiet_step (first | with_reducible exact C6.out _ _ | with_reducible exact C7.out _ _))
        refine wpQuiet_nil ?_
        intro w6 hw'
        obtain ⟨⟨dq, osq⟩, hw''⟩ := hw'
        have b6 : Below w5.heap.size w5 w6 := by
          rw [hw'']
          exact below_regrown w5 dq osq
        have E7 := Lib.hid (bel_next E5.out b6)
        clear hw'' b6 k0 k1 k2 k3 k4 k5 C6 C7
        go_wp2_with fail
        go_ret
        exact ⟨rfl, bel_next B0.out E7.out⟩

end Go.Proofs.YtjhimekojiegjaaDoor.Wprt

/- What the settings of a way say. Plain. -/
namespace Go.Proofs.YtjhimekojiegjaaDoor.Wpls
open Go.Proofs.YtjhimekojiegjaaDoor.Lay Go.Proofs.YtjhimekojiegjaaDoor.Layf Go.Proofs.YtjhimekojiegjaaDoor.Lcon Go.Proofs.YtjhimekojiegjaaDoor.Rows2 Go.Proofs.YtjhimekojiegjaaDoor.Way Go.Proofs.YtjhimekojiegjaaDoor.Wele Go.Proofs.YtjhimekojiegjaaDoor.Wcnn Go.Proofs.YtjhimekojiegjaaDoor.Wsim Go.Proofs.YtjhimekojiegjaaDoor.Wval Go.Proofs.YtjhimekojiegjaaDoor.Wplm Go.Proofs.YtjhimekojiegjaaDoor.Wplr Go.Proofs.YtjhimekojiegjaaDoor.Wpst
open Go.Proofs.YtjhimekojiegjaaDoor.Rail (needF outF out_need)

/-- The last position that is set for this element. -/
def posR (e p : Int) : List (Int × Int) → Int
  | [] => p
  | x :: r => posR e (if x.1 = e then x.2 else p) r
theorem pos_one {e q : Int} : ∀ {l : List (Int × Int)} {p : Int}, (∀ x ∈ l, x.1 = e → x.2 = q) → (p = q ∨ ∃ x ∈ l, x.1 = e) → posR e p l = q
  | [], p, _, h => by
    rcases h with rfl | ⟨x, hx, _⟩
    · rfl
    · cases hx
  | x :: r, p, h, h2 => by
    rw [posR]
    refine pos_one (fun y hy => h y (List.mem_cons_of_mem _ hy)) ?_
    by_cases hx : x.1 = e
    · exact .inl (by rw [if_pos hx]; exact h x List.mem_cons_self hx)
    · rw [if_neg hx]
      rcases h2 with h2 | ⟨y, hy, hye⟩
      · exact .inl h2
      · rcases List.mem_cons.1 hy with rfl | hy
        · exact absurd hye hx
        · exact .inr ⟨y, hy, hye⟩

/-- Points among these steps. -/
def ptsR (els : List Elem) : List Stp → Nat
  | [] => 0
  | s :: r => (if (elG els s.1).kind = 2 then 1 else 0) + ptsR els r
theorem pts_le (els : List Elem) : ∀ (way : List Stp), ptsR els way ≤ way.length
  | [] => Nat.le_refl _
  | s :: r => by
    have := pts_le els r
    rw [ptsR, List.length_cons]
    split <;> omega
theorem raw_len (els : List Elem) : ∀ {way : List Stp}, (∀ s ∈ way, (needS els s).2 = true) → (rawR els [] way).length = ptsR els way
  | [], _ => rfl
  | s :: r, h => by
    have hs := h s List.mem_cons_self
    have np := need_pos _ _ _ (show (needF (elG els s.1).kind s.2.1 s.2.2).2 = true by rw [needG]; exact hs)
    rw [needG] at np
    have ih := raw_len els (way := r) fun t ht => h t (List.mem_cons_of_mem _ ht)
    rw [rawR, ptsR]
    by_cases hk : (elG els s.1).kind = 2
    · rw [if_pos ⟨hs, np.2 hk⟩, if_pos hk, raw_acc, List.length_append, ih]
      simp
    · rw [if_neg fun hh => hk (np.1 hh.2), if_neg hk, ih]
      omega
theorem raw_nodup (els : List Elem) : ∀ {way : List Stp}, (way.map (·.1)).Nodup → (rawR els [] way).Nodup
  | [], _ => List.nodup_nil
  | s :: r, h => by
    rw [List.map_cons, List.nodup_cons] at h
    have ih := raw_nodup els h.2
    rw [rawR]
    split
    · rw [raw_acc, List.nil_append, List.singleton_append, List.nodup_cons]
      refine ⟨fun hm => ?_, ih⟩
      obtain ⟨t, ht, _, _, he⟩ := (raw_mem els).1 hm
      simp only [Prod.mk.injEq] at he
      exact h.1 (he.1 ▸ List.mem_map.2 ⟨t, ht, rfl⟩)
    · exact ih
theorem nodup_le {α : Type} [DecidableEq α] : ∀ {l m : List α}, l.Nodup → (∀ x ∈ l, x ∈ m) → l.length ≤ m.length
  | [], m, _, _ => by simp
  | x :: r, m, h, hm => by
    rw [List.nodup_cons] at h
    have hx := hm x List.mem_cons_self
    have ih := nodup_le (l := r) (m := m.erase x) h.2 (fun y hy => by
      have hne : y ≠ x := fun e => h.1 (e ▸ hy)
      exact (List.mem_erase_of_ne hne).2 (hm y (List.mem_cons_of_mem _ hy)))
    rw [List.length_erase_of_mem hx] at ih
    have := List.length_pos_of_mem hx
    rw [List.length_cons]
    omega
theorem str_nodup {l : List (Int × Int)} (h : Str l) : l.Nodup := by
  show l.Pairwise (· ≠ ·)
  refine List.Pairwise.imp ?_ h
  intro a b hab he
  subst he
  exact less_irr hab
theorem one_step : ∀ {l : List Stp} {a b : Stp}, (l.map (·.1)).Nodup → a ∈ l → b ∈ l → a.1 = b.1 → a = b
  | x :: r, a, b, h, ha, hb, he => by
    rw [List.map_cons, List.nodup_cons] at h
    rcases List.mem_cons.1 ha with ha2 | ha2
    · rcases List.mem_cons.1 hb with hb2 | hb2
      · rw [ha2, hb2]
      · exact absurd (List.mem_map.2 ⟨b, hb2, by rw [← he, ha2]⟩) h.1
    · rcases List.mem_cons.1 hb with hb2 | hb2
      · exact absurd (List.mem_map.2 ⟨a, ha2, by rw [he, hb2]⟩) h.1
      · exact one_step h.2 ha2 hb2 he

theorem settles {L : Lay} {way : List Stp} (h : validF L way = true) :
    (∀ s ∈ way, inB L.els s.1 = true ∧ outF (elG L.els s.1).kind s.2.1 (posR s.1 0 (settingsF L.els way)) = (s.2.2, true)) ∧ (settingsF L.els way).length = ptsR L.els way := by
  rw [valid_parts] at h
  simp only [Bool.and_eq_true, decide_eq_true_eq] at h
  obtain ⟨_, _, h3, _, h5⟩ := h
  rw [Bool.not_eq_true', List.any_eq_false] at h3
  have hn : ∀ s ∈ way, (needS L.els s).2 = true := fun s hs => by simpa using h3 s hs
  have hd := (sim_iff.1 h5).1
  obtain ⟨s1, s2⟩ := settings_str L.els way
  refine ⟨fun s hs => ⟨?_, ?_⟩, ?_⟩
  · cases hq : inB L.els s.1 with
    | true => rfl
    | false =>
      have := hn s hs
      rw [need_none hq] at this
      cases this
  · have hk : (needF (elG L.els s.1).kind s.2.1 s.2.2).2 = true ∧ ((needF (elG L.els s.1).kind s.2.1 s.2.2).1 = 0 ∨ (needF (elG L.els s.1).kind s.2.1 s.2.2).1 = posR s.1 0 (settingsF L.els way)) := by
      rw [needG]
      refine ⟨hn s hs, ?_⟩
      by_cases hz : (needS L.els s).1 = 0
      · exact .inl hz
      · refine .inr (pos_one (fun x hx he => ?_) (.inr ⟨_, (s2 _).2 ((raw_mem L.els).2 ⟨s, hs, hn s hs, hz, rfl⟩), rfl⟩)).symm
        obtain ⟨t, ht, _, _, hx2⟩ := (raw_mem L.els).1 ((s2 x).1 hx)
        rw [hx2] at he ⊢
        have := one_step hd ht hs he
        rw [this]
    have := (out_need _ _ _ _).2 hk
    exact Prod.ext this.2 this.1
  · rw [← raw_len L.els hn]
    exact Nat.le_antisymm (nodup_le (str_nodup s1) fun x hx => (s2 x).1 hx) (nodup_le (raw_nodup L.els hd) fun x hx => (s2 x).2 hx)

end Go.Proofs.YtjhimekojiegjaaDoor.Wpls
