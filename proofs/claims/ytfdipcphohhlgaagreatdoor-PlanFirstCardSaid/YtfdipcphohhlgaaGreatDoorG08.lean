/- Texts of this proof, merged: Lbal, Lcon, Plnf, Plna. -/
import Derived.Test.YtfdipcphohhlgaaGreatDoorG07
import Derived.Test.YtfdipcphohhlgaaGreatDoorG01

/- The calls of the reference's balises and Check. -/
namespace Go.Proofs.YtfdipcphohhlgaaGreatDoor.Lbal
open Go.RowKit Go.Lib Go.Proofs.YtfdipcphohhlgaaGreatDoor.Text Go.Proofs.YtfdipcphohhlgaaGreatDoor.Reads Go.Proofs.YtfdipcphohhlgaaGreatDoor.Rows2 Go.Proofs.YtfdipcphohhlgaaGreatDoor.Lay Go.Proofs.YtfdipcphohhlgaaGreatDoor.Layf Go.Proofs.YtfdipcphohhlgaaGreatDoor.Ldup Go.Proofs.YtfdipcphohhlgaaGreatDoor.Lext Go.Proofs.YtfdipcphohhlgaaGreatDoor.Ljoi Go.Proofs.YtfdipcphohhlgaaGreatDoor.Lnmd Go.Proofs.YtfdipcphohhlgaaGreatDoor.Lnam Go.Proofs.YtfdipcphohhlgaaGreatDoor.Lmem Go.Proofs.YtfdipcphohhlgaaGreatDoor.Lele Go.Proofs.YtfdipcphohhlgaaGreatDoor.Lsig

theorem bal_no {els : List Elem} {b : Bal} (h : b.id < 1 ∨ 1073741824 < b.id ∨ b.el < 0 ∨ (els.length : Int) ≤ b.el ∨ b.off < 0) : balB els b = false := by
  unfold balB
  cases hx : els[b.el.toNat]? with
  | none => rfl
  | some x =>
    have := (List.getElem?_eq_some_iff.1 hx).1
    exact decide_eq_false (by omega)
theorem bal_at {els : List Elem} {b : Bal} {x : Elem} (h1 : 1 ≤ b.id) (h2 : b.id ≤ 1073741824) (h3 : 0 ≤ b.el) (h5 : 0 ≤ b.off) (hx : els[b.el.toNat]? = some x) : balB els b = decide (b.off ≤ x.len) := by
  simp [balB, hx, h1, h2, h3, h5]
/-- What holds at the head of the loop over the balises. -/
def BRel (L : Lay) (G : Bool) (W : World) (vout vj : Value) (wr : World) : Prop :=
  ∃ j : Nat, vj = .int .i64 (j : Int) ∧ j ≤ L.bals.length ∧ (L.bals.drop j).all (balB L.els) = G ∧ (∀ x ∈ (L.bals.take j).map (·.id), (Lit.int .i64 x).wf = true) ∧ wr.ownsRow W.heap.size 3 1 vout ((L.bals.take j).map (·.id)).length (((L.bals.take j).map (·.id)).map (Value.int .i64)) ∧ Below W.heap.size W wr
theorem brel_next {L : Lay} {G : Bool} {W w1 w2 : World} {v v' : Value} {j : Nat} {x : Bal} {o : Obj} (hx : L.bals[j]? = some x) (hG : (L.bals.drop (j + 1)).all (balB L.els) = G) (hw : ∀ x ∈ (L.bals.take j).map (·.id), (Lit.int .i64 x).wf = true) (h1 : 1 ≤ x.id) (h2 : x.id ≤ 1073741824)
    (ho : w1.ownsRow W.heap.size 3 1 v ((L.bals.take j).map (·.id)).length (((L.bals.take j).map (·.id)).map (Value.int .i64))) (hb : Below W.heap.size W w1)
    (h3 : w2.ownsRow W.heap.size 3 1 v' (((L.bals.take j).map (·.id)).length + 1) (((L.bals.take j).map (·.id)).map (Value.int .i64) ++ [.int .i64 x.id])) (hg : (w1.alloc o).grownBy w2 v.ownBlock) : BRel L G W v' (.int .i64 ((j : Int) + 1)) w2 := by
  obtain ⟨hj, e⟩ := List.getElem?_eq_some_iff.1 hx
  have ht : (L.bals.take (j + 1)).map (·.id) = (L.bals.take j).map (·.id) ++ [x.id] := by
    rw [List.take_succ_eq_append_getElem hj, List.map_append, e]
    rfl
  refine ⟨j + 1, by simp, hj, hG, ?_, ?_, (hb.alloc hb.size o).grown hg (by have := hb.size; simp; omega) (fun g hg => (ho.lt g hg).1)⟩
  · rw [ht]
    intro y hy
    rcases List.mem_append.1 hy with hy | hy
    · exact hw y hy
    · rw [List.mem_singleton.1 hy]; exact WalkArith.wf_i64 (by omega)
  · rw [ht, List.map_append, List.length_append]
    exact h3
theorem bbox_new (w : World) (u1 u2 u3 : Int) : (w.alloc (.cells #[.int .i64 u1, .int .i64 u2, .int .i64 u3] 59)).heap.size = w.heap.size + 1 := by simp

theorem elements_joints {L : Lay} (h : elementsF L = 0) : L.joints.all (jointB L.els) = true := by
  unfold elementsF at h
  split at h
  · cases h
  · split at h
    · cases h
    · split at h
      · cases h
      · rename_i h3
        simpa using h3

set_option maxRecDepth 100000 in
set_option maxHeartbeats 3200000 in
theorem rbalises_any (L : Lay) {vs ve vj vg vb : Value} (w : World) (h : LayAt (In w) w L vs ve vj vg vb) (hn4 : L.bals.length ≤ 1000) :
    Calls Tryz.prog 57 #[layV L vs ve vj vg vb] w (NumOut (balisesF L) w) := by
  obtain ⟨a, cap, rfl, hm, _⟩ := h.el
  obtain ⟨a3, cap3, rfl, hm3, _⟩ := h.bl
  have B0 := Lib.hid ((Below.refl w.heap.size w).alloc (Nat.le_refl _) (.cells #[.string (bs L.name), vs, .slice a L.els.length cap, vj, vg, .slice a3 L.bals.length cap3] 28))
  have HH := Lib.hid (h.box (.cells #[.string (bs L.name), vs, .slice a L.els.length cap, vj, vg, .slice a3 L.bals.length cap3] 28))
  have HX := Lib.hid (lbox_new w 28 L vs (.slice a L.els.length cap) vj vg (.slice a3 L.bals.length cap3))
  have HS0 : Hid (w.heap.size < (w.alloc (.cells #[.string (bs L.name), vs, .slice a L.els.length cap, vj, vg, .slice a3 L.bals.length cap3] 28)).heap.size) := by simp [Hid]
  clear h
  unfold layV
  go_enter Tryz.func57, Tryz.ntmps57
  go_wp2_with fail
  obtain ⟨W, hW⟩ : ∃ W, w.alloc (.cells #[.string (bs L.name), vs, .slice a L.els.length cap, vj, vg, .slice a3 L.bals.length cap3] 28) = W := ⟨_, rfl⟩
  rw [hW] at B0 HH HX HS0 ⊢
  clear hW
  obtain ⟨a', cap', he, _, hel⟩ := HH.out.el
  cases he
  have HE := Lib.hid hel
  obtain ⟨a', cap', he, _, hbl⟩ := HH.out.bl
  cases he
  have HJ := Lib.hid hbl
  clear hel hbl
  obtain ⟨J, hJ⟩ : ∃ J, L.bals.all (balB L.els) = J := ⟨_, rfl⟩
  have HJA := Lib.hid hJ
  clear hJ
  obtain ⟨i0, hi, hz0, hz1, hz2⟩ := info_parts infoI
  have HI0 := Lib.hid hi
  have HZ0 := Lib.hid hz0
  have HZ1 := Lib.hid hz1
  have HZ2 := Lib.hid hz2
  clear hi hz0 hz1 hz2
  go_loopw [3, 9] (fun vout vj wr => BRel L J W vout vj wr) (fun _ vj _ => L.bals.length - (RowKit.intOf vj).toNat)
  case atStart => exact ⟨0, rfl, Nat.zero_le _, HJA.out, by simp, World.ownsRow_nil _ _ _ _, Below.refl _ _⟩
  case round =>
    obtain ⟨j, rfl, hj, hr, hw, ho, hb⟩ := hrel
    have HR := Lib.hid hr
    have HO := Lib.hid ho
    have HB := Lib.hid hb
    have HWF := Lib.hid hw
    clear hr ho hb hw
    obtain ⟨x0, x1, x2, x3, x4, x5⟩ := HX.out.next HB.out HS0.out
    have hlt0 : w.heap.size < wr.heap.size := Nat.lt_of_lt_of_le HS0.out HB.out.size
    by_cases hlt : j < L.bals.length
    · obtain ⟨x, hx⟩ := at_lt hlt
      obtain ⟨b, off, rfl, c0, c1, c2⟩ := HJ.out wr HB.out j x hx
      have HXX := Lib.hid hx
      rw [Go.Proofs.YtfdipcphohhlgaaGreatDoor.Layf.drop_at hx, List.all_cons] at HR
      clear hx
      obtain ⟨d, e, o⟩ := x
      simp only at c0 c1 c2
      have HBO := Lib.hid (bel_next B0.out (HB.out.alloc HB.out.size (.cells #[.int .i64 d, .int .i64 e, .int .i64 o] 59)))
      have bad : (d < 1 ∨ 1073741824 < d ∨ e < 0 ∨ (L.els.length : Int) ≤ e ∨ o < 0) → Hid (balisesF L = 1) := fun hb => balises_arg (L := L) (by
        rw [HJA.out]
        have := HR.out
        rwa [bal_no (b := ⟨d, e, o⟩) hb, Bool.false_and, eq_comm] at this)
      by_cases h1 : d < 1
      · have HF := bad (.inl h1)
        have k1 : decide (d < 1) = true := decide_eq_true h1
        clear bad
        go_wp2_with fail
        go_quiet (fail)
        go_wp2_with fail
        go_ret
        exact ⟨by rw [HF.out]; rfl, below_drewN HBO.out _⟩
      · have k1 : decide (d < 1) = false := decide_eq_false h1
        by_cases h2 : 1073741824 < d
        · have HF := bad (.inr (.inl h2))
          have k2 : decide (1073741824 < d) = true := decide_eq_true h2
          clear bad
          go_wp2_with fail
          go_quiet (fail)
          go_wp2_with fail
          go_ret
          exact ⟨by rw [HF.out]; rfl, below_drewN HBO.out _⟩
        · have k2 : decide (1073741824 < d) = false := decide_eq_false h2
          by_cases h3 : e < 0
          · have HF := bad (.inr (.inr (.inl h3)))
            have k3 : decide (e < 0) = true := decide_eq_true h3
            clear bad
            go_wp2_with fail
            go_quiet (fail)
            go_wp2_with fail
            go_ret
            exact ⟨by rw [HF.out]; rfl, below_drewN HBO.out _⟩
          · have k3 : decide (e < 0) = false := decide_eq_false h3
            by_cases h4 : (L.els.length : Int) ≤ e
            · have HF := bad (.inr (.inr (.inr (.inl h4))))
              have k4 : decide ((L.els.length : Int) ≤ e) = true := decide_eq_true h4
              clear bad
              go_wp2_with fail
              go_quiet (fail)
              go_wp2_with fail
              go_ret
              exact ⟨by rw [HF.out]; rfl, below_drewN HBO.out _⟩
            · have k4 : decide ((L.els.length : Int) ≤ e) = false := decide_eq_false h4
              by_cases h5 : o < 0
              · have HF := bad (.inr (.inr (.inr (.inr h5))))
                have k5 : decide (o < 0) = true := decide_eq_true h5
                clear bad
                go_wp2_with fail
                go_quiet (fail)
                go_wp2_with fail
                go_ret
                exact ⟨by rw [HF.out]; rfl, below_drewN HBO.out _⟩
              · have k5 : decide (o < 0) = false := decide_eq_false h5
                obtain ⟨i, rfl⟩ := Int.eq_ofNat_of_zero_le (show 0 ≤ e by omega)
                obtain ⟨y, hy⟩ := at_lt (l := L.els) (k := i) (by omega)
                obtain ⟨bb, oo, rfl, _, _, s2, _⟩ := HE.out wr HB.out i y hy
                have HV := Lib.hid (bal_at (els := L.els) (b := ⟨d, (i : Int), o⟩) (x := y) (by simp only; omega) (by simp only; omega) (by simp only; omega) (by simp only; omega) (by simpa using hy))
                have hbb : bb < wr.heap.size := block_lt_of_cell s2
                obtain ⟨ny, ky, ly, gy, py, oy, sy⟩ := y
                simp only at s2 HV
                have g0 : (0 : Int) ≤ (i : Int) := by omega
                have g2 : i < L.els.length := by omega
                have m1 : decide (L.els.length ≤ i) = false := decide_eq_false (by omega)
                have m2 : decide ((i : Int) < 0) = false := decide_eq_false (by omega)
                have g1 : (i : Int) < (L.els.length : Int) := by omega
                clear bad hy h3 h4 k3 k4
                by_cases h6 : ly < o
                · have HF := Lib.hid (balises_arg (L := L) (by rw [HJA.out]; have := HR.out; rwa [HV.out, decide_eq_false (by omega), Bool.false_and, eq_comm] at this))
                  have k6 : decide (ly < o) = true := decide_eq_true h6
                  go_wp2_with fail
                  go_quiet (fail)
                  go_wp2_with fail
                  go_ret
                  exact ⟨by rw [HF.out]; rfl, below_drewN HBO.out _⟩
                · have k6 : decide (ly < o) = false := decide_eq_false h6
                  have HF := Lib.hid (show (L.bals.drop (j + 1)).all (balB L.els) = J by have := HR.out; rwa [HV.out, decide_eq_true (by omega), Bool.true_and] at this)
                  have hnl : ((L.bals.take j).map (·.id)).length ≤ 1000 := by rw [List.length_map, List.length_take]; omega
                  go_wp2_with fail
                  go_quiet (fail)
                  have bq := below_drewN ((Below.refl wr.heap.size wr).alloc (Nat.le_refl _) (.cells #[.int .i64 d, .int .i64 (i : Int), .int .i64 o] 59)) nq
                  have y0 : ((wr.alloc (.cells #[.int .i64 d, .int .i64 (i : Int), .int .i64 o] 59)).drewN nq).cell? ⟨wr.heap.size, 0, none⟩ = some (.int .i64 d) := by
                    show (wr.alloc (.cells #[.int .i64 d, .int .i64 (i : Int), .int .i64 o] 59)).cell? ⟨wr.heap.size, 0, none⟩ = _
                    rw [World.cell?_alloc_at _ _ _ _ rfl]
                    rfl
                  have HXX2 := Lib.hid (show L.bals[j]? = some ⟨d, (i : Int), o⟩ from HXX.out)
                  obtain ⟨W7, hW7⟩ : ∃ W7, (wr.alloc (.cells #[.int .i64 d, .int .i64 (i : Int), .int .i64 o] 59)).drewN nq = W7 := ⟨_, rfl⟩
                  rw [hW7] at bq y0 ⊢
                  have HO4 := Lib.hid (own_below HO.out bq)
                  have HS4 := Lib.hid (Nat.le_trans HB.out.size bq.size)
                  have HBJ := Lib.hid (bel_next HB.out bq)
                  have HD1 := Lib.hid (show 1 ≤ d by omega)
                  have HD2 := Lib.hid (show d ≤ 1073741824 by omega)
                  clear hW7 bq x0 x1 x2 x3 x4 x5
                  go_wp2_with (at_builtin; refine wpList_append_own_at _ rfl (.tmp 51) (.tmp 54) 68 rfl W.heap.size 3 i0 (.int .i64 0) 1 8 Tryz.underlying68 HI0.out HZ0.out HZ1.out HZ2.out rfl (by decide) _ _ _ rfl (HO4.out.alloc _) ⟨W7.heap.size, 0, none⟩ 1 1 [.int .i64 d] rfl rfl (cell_one_new _ _ _) (by intro u hu; simp at hu; subst hu; rfl) (by unfold maxLen; omega) (by omega) (by have := HS4.out; simp; omega) ?_; intro v5 w5 h1own hg1 _ _; have R1 := Lib.hid h1own; have R2 := Lib.hid hg1; clear h1own hg1)
                  go_roundw
                  case rel => exact brel_next HXX2.out HF.out HWF.out HD1.out HD2.out HO4.out HBJ.out R1.out R2.out
                  case measure => simp [RowKit.intOf]; omega
    · have he : j = L.bals.length := by omega
      subst he
      have HAJ := Lib.hid (show L.bals.all (balB L.els) = true by
        rw [HJA.out, ← HR.out, List.drop_length]
        rfl)
      have ho := HO.out
      have hw := HWF.out
      rw [List.take_length] at ho hw
      have HE2 := Lib.hid (numbers_any (l := L.bals.map (·.id)) (w := wr) (reads_own ho hw (Nat.le_refl _)))
      obtain ⟨q, hq⟩ : ∃ q, dupB (L.bals.map (·.id)) = q := ⟨_, rfl⟩
      have HQ := Lib.hid hq
      rw [hq] at HE2
      clear hq ho hw hj hlt
      cases q
      · have HF := Lib.hid (balises_ok HAJ.out HQ.out)
        go_wp2_with fail
        refine HE2.out.mono ?_
        rintro e w6 ⟨rfl, b6⟩
        have B6 := Lib.hid (bel_next (bel_next B0.out HB.out) b6)
        clear b6
        go_wp2_with fail
        go_ret
        exact ⟨by rw [HF.out]; rfl, B6.out⟩
      · have HF := Lib.hid (balises_dup HAJ.out HQ.out)
        go_wp2_with fail
        refine HE2.out.mono ?_
        rintro e w6 ⟨rfl, b6⟩
        have B6 := Lib.hid (bel_next (bel_next B0.out HB.out) b6)
        clear b6
        go_wp2_with fail
        go_ret
        exact ⟨by rw [HF.out]; rfl, B6.out⟩

set_option maxRecDepth 100000 in
set_option maxHeartbeats 1600000 in
theorem rcheck_any (L : Lay) {vs ve vj vg vb : Value} (w : World) (h : LayAt (In w) w L vs ve vj vg vb) (hn : L.secs.length ≤ 1000) (hn2 : L.els.length ≤ 1000) (hn3 : L.sigs.length ≤ 1000) (hn4 : L.bals.length ≤ 1000) (hn5 : L.joints.length ≤ 1000) :
    Calls Tryz.prog 19 #[layV L vs ve vj vg vb] w (NumOut (checkF L) w) := by
  have B0 := Lib.hid ((Below.refl w.heap.size w).alloc (Nat.le_refl _) (.cells #[.string (bs L.name), vs, ve, vj, vg, vb] 28))
  have HH := Lib.hid (h.box (.cells #[.string (bs L.name), vs, ve, vj, vg, vb] 28))
  have HX := Lib.hid (lbox_new w 28 L vs ve vj vg vb)
  have HS0 : Hid (w.heap.size < (w.alloc (.cells #[.string (bs L.name), vs, ve, vj, vg, vb] 28)).heap.size) := by simp [Hid]
  clear h
  obtain ⟨W, hW⟩ : ∃ W, w.alloc (.cells #[.string (bs L.name), vs, ve, vj, vg, vb] 28) = W := ⟨_, rfl⟩
  rw [hW] at B0 HH HX HS0
  have HW := Lib.hid hW
  clear hW
  have H1 := Lib.hid (fun w' (b : Below W.heap.size W w') => rnamed_any L w' (HH.out.next b) hn hn2 hn3 hn4)
  have H2 := Lib.hid (fun w' (b : Below W.heap.size W w') => relements_any L w' (HH.out.next b) hn hn2 hn5)
  have H3 := Lib.hid (fun w' (b : Below W.heap.size W w') => rsignals_any L w' (HH.out.next b) hn3)
  have H4 := Lib.hid (fun w' (b : Below W.heap.size W w') => rbalises_any L w' (HH.out.next b) hn4)
  have HC := Lib.hid (show checkF L = if namedF L ≠ 0 then namedF L else if elementsF L ≠ 0 then elementsF L else if signalsF L ≠ 0 then signalsF L else balisesF L from rfl)
  obtain ⟨r, hr⟩ : ∃ r, checkF L = r := ⟨_, rfl⟩
  rw [hr] at HC ⊢
  have HJS := Lib.hid (fun h : elementsF L = 0 => elements_joints h)
  obtain ⟨a, ha⟩ : ∃ a, namedF L = a := ⟨_, rfl⟩
  obtain ⟨b, hb⟩ : ∃ a, elementsF L = a := ⟨_, rfl⟩
  obtain ⟨c, hc⟩ : ∃ a, signalsF L = a := ⟨_, rfl⟩
  obtain ⟨d, hd⟩ : ∃ a, balisesF L = a := ⟨_, rfl⟩
  rw [ha] at H1 HC
  rw [hb] at H2 HC HJS
  rw [hc] at H3 HC
  rw [hd] at H4 HC
  clear hr ha hb hc hd hn hn2 hn3 hn4 hn5
  unfold layV
  have fin : ∀ (x : Int) (w' : World), Below W.heap.size W w' → x = r → NumOut r w (.returned (.int .i64 x)) w' := fun x w' hb hx => ⟨by rw [hx], bel_next B0.out hb⟩
  have FIN := Lib.hid fin
  clear fin
  go_enter Tryz.func19, Tryz.ntmps19
  go_wp2_with fail
  rw [HW.out]
  obtain ⟨x0, x1, x2, x3, x4, x5⟩ := HX.out
  refine (H1.out W (Below.refl _ _)).mono ?_
  rintro e w1 ⟨rfl, b1⟩
  have B1 := Lib.hid b1
  obtain ⟨y0, y1, y2, y3, y4, y5⟩ := HX.out.next b1 HS0.out
  clear b1
  by_cases h1 : a = 0
  · subst h1
    go_wp2_with fail
    refine (H2.out w1 B1.out).mono ?_
    rintro e w2 ⟨rfl, b2⟩
    have B2 := Lib.hid (bel_next B1.out b2)
    obtain ⟨z0, z1, z2, z3, z4, z5⟩ := HX.out.next B2.out HS0.out
    clear b2
    by_cases h2 : b = 0
    · subst h2
      have hj := HJS.out rfl
      go_wp2_with fail
      refine (H3.out w2 B2.out hj).mono ?_
      rintro e w3 ⟨rfl, b3⟩
      have B3 := Lib.hid (bel_next B2.out b3)
      obtain ⟨t0, t1, t2, t3, t4, t5⟩ := HX.out.next B3.out HS0.out
      clear b3 hj
      by_cases h3 : c = 0
      · subst h3
        have HF := Lib.hid (show d = r by have := HC.out; simpa using this.symm)
        go_wp2_with fail
        refine (H4.out w3 B3.out).mono ?_
        rintro e w4 ⟨rfl, b4⟩
        have B4 := Lib.hid (bel_next B3.out b4)
        clear b4
        go_wp2_with fail
        go_ret
        exact FIN.out _ _ B4.out HF.out
      · have HF := Lib.hid (show c = r by have := HC.out; rw [if_neg (by simp), if_neg (by simp), if_pos h3] at this; exact this.symm)
        have hq : (c != 0) = true := by simp [h3]
        go_wp2_with fail
        go_ret
        exact FIN.out _ _ B3.out HF.out
    · have HF := Lib.hid (show b = r by have := HC.out; rw [if_neg (by simp), if_pos h2] at this; exact this.symm)
      have hq : (b != 0) = true := by simp [h2]
      go_wp2_with fail
      go_ret
      exact FIN.out _ _ B2.out HF.out
  · have HF := Lib.hid (show a = r by have := HC.out; rw [if_pos h1] at this; exact this.symm)
    have hq : (a != 0) = true := by simp [h1]
    go_wp2_with fail
    go_ret
    exact FIN.out _ _ B1.out HF.out

end Go.Proofs.YtfdipcphohhlgaaGreatDoor.Lbal

/- What follows from a layout's being valid: plain mathematics, of no program. -/
namespace Go.Proofs.YtfdipcphohhlgaaGreatDoor.Lcon
open Go.Proofs.YtfdipcphohhlgaaGreatDoor.Lay Go.Proofs.YtfdipcphohhlgaaGreatDoor.Numt Go.Proofs.YtfdipcphohhlgaaGreatDoor.Layf

theorem check_split {L : Lay} : checkF L = 0 ↔ namedF L = 0 ∧ elementsF L = 0 ∧ signalsF L = 0 ∧ balisesF L = 0 := by
  unfold checkF
  constructor
  · intro h
    split at h
    · contradiction
    split at h
    · contradiction
    split at h
    · contradiction
    · exact ⟨by omega, by omega, by omega, h⟩
  · rintro ⟨h1, h2, h3, h4⟩
    rw [if_neg (by omega), if_neg (by omega), if_neg (by omega), h4]
theorem named_split {L : Lay} : namedF L = 0 ↔ limitB L = true ∧ (allNames L).all nameL = true ∧ dupN L = false := by
  unfold namedF
  cases limitB L <;> cases (allNames L).all nameL <;> cases dupN L <;> simp
theorem elements_split {L : Lay} : elementsF L = 0 ↔ L.els.all (rightB L.secs.length) = true ∧ heldR L 0 L.secs.length = true ∧ L.joints.all (jointB L.els) = true ∧ dupB (endsOf L.joints) = false := by
  unfold elementsF
  cases L.els.all (rightB L.secs.length) <;> cases heldR L 0 L.secs.length <;> cases L.joints.all (jointB L.els) <;> cases dupB (endsOf L.joints) <;> simp
theorem signals_split {L : Lay} : signalsF L = 0 ↔ L.sigs.all (sigB L.els) = true ∧ dupB (L.sigs.map (·.spot)) = false ∧ (L.sigs.map (·.spot)).all (safeB L) = true := by
  unfold signalsF
  cases L.sigs.all (sigB L.els) <;> cases dupB (L.sigs.map (·.spot)) <;> cases (L.sigs.map (·.spot)).all (safeB L) <;> simp
theorem balises_split {L : Lay} : balisesF L = 0 ↔ L.bals.all (balB L.els) = true ∧ dupB (L.bals.map (·.id)) = false := by
  unfold balisesF
  cases L.bals.all (balB L.els) <;> cases dupB (L.bals.map (·.id)) <;> simp

theorem dup_nodup {α : Type} [DecidableEq α] : ∀ {l : List α}, dupB l = false ↔ l.Nodup
  | [] => by simp [dupB]
  | x :: l => by simp [dupB, dup_nodup (l := l)]
theorem dup_sub {α : Type} [DecidableEq α] {l m : List α} (h : List.Sublist m l) (hd : dupB l = false) : dupB m = false := dup_nodup.2 ((dup_nodup.1 hd).sublist h)
theorem all_sub {α : Type} {p : α → Bool} {l m : List α} (h : List.Sublist m l) (ha : l.all p = true) : m.all p = true := by
  rw [List.all_eq_true] at ha ⊢
  exact fun x hx => ha x (h.subset hx)

/-! The joined end of a joined end. -/
theorem join_mem {e : Int × Int} : ∀ {js : List ((Int × Int) × (Int × Int))}, (joinR e js).2 = true → (joinR e js).1 ∈ endsOf js
  | [], h => by cases h
  | (a, b) :: l, h => by
    rw [joinR] at h ⊢
    split
    · simp [endsOf]
    · rename_i h1
      rw [if_neg h1] at h
      split
      · simp [endsOf]
      · rename_i h2
        rw [if_neg h2] at h
        have := join_mem h
        simp only [endsOf, List.flatMap_cons, List.mem_append] at this ⊢
        exact .inr this
theorem join_back {e : Int × Int} : ∀ {js : List ((Int × Int) × (Int × Int))}, dupB (endsOf js) = false → (joinR e js).2 = true → joinR (joinR e js).1 js = (e, true) ∧ (joinR e js).1 ≠ e
  | [], _, h => by cases h
  | (a, b) :: l, hd, h => by
    have hd' : dupB (a :: b :: endsOf l) = false := hd
    simp only [dupB, Bool.or_eq_false_iff, decide_eq_false_iff_not, List.mem_cons, not_or] at hd'
    obtain ⟨⟨hab, ha⟩, hb, hl⟩ := hd'
    by_cases h1 : a = e
    · subst h1
      rw [joinR_a]
      exact ⟨joinR_b hab, fun h => hab h.symm⟩
    by_cases h2 : b = e
    · subst h2
      rw [joinR_b h1]
      exact ⟨joinR_a, h1⟩
    rw [joinR_no h1 h2] at h ⊢
    obtain ⟨i1, i2⟩ := join_back hl h
    have hm := join_mem h
    refine ⟨?_, i2⟩
    have x1 : a ≠ (joinR e l).1 := fun h => ha (by rw [h]; exact hm)
    have x2 : b ≠ (joinR e l).1 := fun h => hb (by rw [h]; exact hm)
    rw [joinR_no x1 x2]
    exact i1
theorem joined_back {L : Lay} {e f : Int × Int} (hc : checkF L = 0) (h : joinedF L e = (f, true)) : joinedF L f = (e, true) ∧ f ≠ e := by
  obtain ⟨_, he, _, _⟩ := check_split.1 hc
  obtain ⟨_, _, _, hd⟩ := elements_split.1 he
  have h2 : (joinR e L.joints).2 = true := by rw [show joinR e L.joints = (f, true) from h]
  have := join_back hd h2
  rw [show joinR e L.joints = (f, true) from h] at this
  exact this

/-! The first part that meets a condition. -/
def firstI {α : Type} (p : α → Bool) : Nat → List α → Int
  | _, [] => -1
  | i, x :: l => if p x = true then (i : Int) else firstI p (i + 1) l
theorem firstI_yes {α : Type} {p : α → Bool} {i : Nat} {x : α} {l : List α} (h : p x = true) : firstI p i (x :: l) = (i : Int) := by rw [firstI, if_pos h]
theorem firstI_no {α : Type} {p : α → Bool} {i : Nat} {x : α} {l : List α} (h : p x = false) : firstI p i (x :: l) = firstI p (i + 1) l := by rw [firstI, if_neg (by simp [h])]
theorem firstI_mem {α : Type} {p : α → Bool} : ∀ {l : List α} {i : Nat}, 0 ≤ firstI p i l → ∃ x ∈ l, p x = true
  | [], _, h => by simp [firstI] at h
  | x :: l, i, h => by
    cases hp : p x with
    | true => exact ⟨x, List.mem_cons_self, hp⟩
    | false =>
      rw [firstI_no hp] at h
      obtain ⟨y, hy, hq⟩ := firstI_mem h
      exact ⟨y, List.mem_cons_of_mem _ hy, hq⟩
theorem firstI_at {α : Type} {p : α → Bool} : ∀ {l : List α} {i k : Nat} {x : α}, l[k]? = some x → p x = true → (∀ j y, j < k → l[j]? = some y → p y = false) → firstI p i l = ((i + k : Nat) : Int)
  | [], _, _, _, h, _, _ => by simp at h
  | y :: l, i, 0, x, h, hp, _ => by
    cases h
    rw [firstI_yes hp]
    rfl
  | y :: l, i, k + 1, x, h, hp, hn => by
    rw [firstI_no (hn 0 y (by omega) rfl), firstI_at (l := l) (k := k) (x := x) h hp fun j z hj hz => hn (j + 1) z (by omega) hz]
    congr 1
    omega
def isSpot (e : Int × Int) (s : Sig) : Bool := decide (s.spot = e)
def signalF (L : Lay) (e : Int × Int) : Int := firstI (isSpot e) 0 L.sigs
def isName (n : List UInt8) (x : Elem) : Bool := decide (x.name = n)
def elementF (L : Lay) (n : List UInt8) : Int := firstI (isName n) 0 L.els
def sectionF (L : Lay) (i : Int) : Int := if i < 0 ∨ (L.els.length : Int) ≤ i then -1 else ((secAt L.els i).getD (-1))
theorem section_at {L : Lay} {i : Nat} {x : Elem} (h : L.els[i]? = some x) : sectionF L (i : Int) = x.sec := by
  have := (List.getElem?_eq_some_iff.1 h).1
  simp [sectionF, secAt, h]
  omega
/-- At a joined end with a signal another section begins. -/
theorem signal_safe {L : Lay} {e : Int × Int} (hc : checkF L = 0) (h : 0 ≤ signalF L e) : safeB L e = true := by
  obtain ⟨_, _, hs, _⟩ := check_split.1 hc
  obtain ⟨_, _, hs⟩ := signals_split.1 hs
  obtain ⟨s, hm, hp⟩ := firstI_mem h
  have he : s.spot = e := of_decide_eq_true hp
  rw [← he]
  exact List.all_eq_true.1 hs _ (List.mem_map_of_mem hm)
theorem joined_exists {L : Lay} {e f : Int × Int} (hc : checkF L = 0) (h : joinedF L e = (f, true)) : existsB L.els f = true := by
  obtain ⟨_, he, _, _⟩ := check_split.1 hc
  obtain ⟨_, _, hj, _⟩ := elements_split.1 he
  have h2 : (Layf.joinR e L.joints).2 = true := by rw [show joinR e L.joints = (f, true) from h]
  have := Lsig.join_exists hj h2
  rwa [show joinR e L.joints = (f, true) from h] at this
theorem sections_apart {L : Lay} {e f : Int × Int} (hc : checkF L = 0) (h : joinedF L e = (f, true)) (he : existsB L.els e = true) (hg : 0 ≤ signalF L e) : sectionF L f.1 ≠ sectionF L e.1 := by
  have hs := signal_safe hc hg
  have hf := joined_exists hc h
  obtain ⟨i, x, hi, hx, _⟩ := Lsig.exists_at he
  obtain ⟨j, y, hj, hy, _⟩ := Lsig.exists_at hf
  unfold safeB at hs
  rw [h] at hs
  simp [secAt, hi, hj, hx, hy] at hs
  rw [hi, hj, section_at hx, section_at hy]
  exact hs
/-- Each element is found by its name. -/
theorem element_name {L : Lay} {i : Nat} {x : Elem} (hc : checkF L = 0) (h : L.els[i]? = some x) : elementF L x.name = (i : Int) := by
  obtain ⟨hn, _, _, _⟩ := check_split.1 hc
  obtain ⟨_, _, hd⟩ := named_split.1 hn
  have hd : dupB (L.els.map (·.name)) = false := by
    simp only [dupN, Bool.or_eq_false_iff] at hd
    exact hd.2.1
  unfold elementF
  rw [firstI_at h (by simp [isName]) fun j y hj hy => ?_]
  · simp
  · cases hq : isName x.name y with
    | false => rfl
    | true =>
      exfalso
      have e : y.name = x.name := of_decide_eq_true hq
      have : dupB (L.els.map (·.name)) = true := dup_iff.2 ⟨j, i, x.name, hj, by simp [hy, e], by simp [h]⟩
      rw [hd] at this
      cases this
theorem right_at {L : Lay} {x : Elem} (hc : checkF L = 0) (h : x ∈ L.els) : rightB L.secs.length x = true := by
  obtain ⟨_, he, _, _⟩ := check_split.1 hc
  exact List.all_eq_true.1 (elements_split.1 he).1 _ h

/-! Points have a slow speed. -/
def isSlow (x : Elem) : Bool := decide (0 < x.slow)
theorem pick_congr {α : Type} {p q : α → Bool} : ∀ {l : List α} {i : Nat}, (∀ x ∈ l, p x = q x) → pick p i l = pick q i l
  | [], _, _ => rfl
  | x :: l, i, h => by
    rw [pick, pick, h x List.mem_cons_self, pick_congr fun y hy => h y (List.mem_cons_of_mem _ hy)]
theorem points_slow {L : Lay} (hc : checkF L = 0) : pointsF L = pick isSlow 0 L.els := by
  refine pick_congr fun x hx => ?_
  have h := of_decide_eq_true (right_at hc hx)
  unfold isPoint isSlow
  rw [Bool.eq_iff_iff, beq_iff_eq, decide_eq_true_eq]
  omega

/-! Each element is a member of one section. -/
def sumTo (f : Nat → Nat) : Nat → Nat
  | 0 => 0
  | n + 1 => sumTo f n + f n
theorem sumTo_add (f g : Nat → Nat) : ∀ n, sumTo (fun s => f s + g s) n = sumTo f n + sumTo g n
  | 0 => rfl
  | n + 1 => by rw [sumTo, sumTo, sumTo, sumTo_add f g n]; omega
theorem sumTo_zero {f : Nat → Nat} : ∀ {n : Nat}, (∀ s, s < n → f s = 0) → sumTo f n = 0
  | 0, _ => rfl
  | n + 1, h => by rw [sumTo, sumTo_zero fun s hs => h s (by omega), h n (by omega)]
theorem sumTo_one {f : Nat → Nat} {k : Nat} : ∀ {n : Nat}, k < n → f k = 1 → (∀ s, s < n → s ≠ k → f s = 0) → sumTo f n = 1
  | 0, h, _, _ => by omega
  | n + 1, h, h1, h2 => by
    rw [sumTo]
    by_cases hk : k = n
    · subst hk
      rw [sumTo_zero fun s hs => h2 s (by omega) (by omega), h1]
    · rw [sumTo_one (k := k) (by omega) h1 fun s hs hne => h2 s (by omega) hne, h2 n (by omega) (by omega)]
theorem sumTo_congr {f g : Nat → Nat} : ∀ {n : Nat}, (∀ s, s < n → f s = g s) → sumTo f n = sumTo g n
  | 0, _ => rfl
  | n + 1, h => by rw [sumTo, sumTo, sumTo_congr fun s hs => h s (by omega), h n (by omega)]
/-- All members of the first n sections. -/
def allMem (L : Lay) : Nat → List Int
  | 0 => []
  | n + 1 => allMem L n ++ membersF L (n : Int)
theorem allMem_len (L : Lay) : ∀ n, (allMem L n).length = sumTo (fun s => (membersF L (s : Int)).length) n
  | 0 => rfl
  | n + 1 => by rw [allMem, sumTo, List.length_append, allMem_len L n]
theorem allMem_count (L : Lay) (x : Int) : ∀ n, (allMem L n).count x = sumTo (fun s => (membersF L (s : Int)).count x) n
  | 0 => rfl
  | n + 1 => by rw [allMem, sumTo, List.count_append, allMem_count L x n]
theorem pick_count {α : Type} {p : α → Bool} : ∀ {l : List α} {i k : Nat}, (pick p i l).count ((i + k : Nat) : Int) = match l[k]? with | some x => if p x = true then 1 else 0 | none => 0
  | [], i, k => by simp [pick]
  | x :: l, i, 0 => by
    have h0 : (pick p (i + 1) l).count (i : Int) = 0 := List.count_eq_zero.2 fun h => by
      have : ∀ {l : List α} {j : Nat} {a : Int}, a ∈ pick p j l → (j : Int) ≤ a := by
        intro l
        induction l with
        | nil => intro j a h; simp [pick] at h
        | cons y l ih =>
          intro j a h
          rw [pick] at h
          split at h
          · rcases List.mem_cons.1 h with rfl | h
            · exact Int.le_refl _
            · have := ih h
              omega
          · have := ih h
            omega
      have := this h
      omega
    rw [pick]
    cases hp : p x <;> simp [hp, h0]
  | x :: l, i, k + 1 => by
    have ih := pick_count (p := p) (l := l) (i := i + 1) (k := k)
    rw [show i + 1 + k = i + (k + 1) by omega] at ih
    rw [pick, List.getElem?_cons_succ, ← ih]
    split
    · rw [List.count_cons_of_ne (by omega)]
    · rfl
theorem members_one {L : Lay} {i : Nat} {x : Elem} (hc : checkF L = 0) (h : L.els[i]? = some x) : (allMem L L.secs.length).count (i : Int) = 1 := by
  have hr := of_decide_eq_true (right_at hc (List.mem_of_getElem? h))
  rw [allMem_count]
  have hcnt : ∀ s : Nat, (membersF L (s : Int)).count (i : Int) = if isMember L.secs.length (s : Int) x = true then 1 else 0 := fun s => by
    have := pick_count (p := isMember L.secs.length (s : Int)) (l := L.els) (i := 0) (k := i)
    rw [h, Nat.zero_add] at this
    exact this
  rw [sumTo_congr fun s _ => hcnt s]
  refine sumTo_one (k := x.sec.toNat) (by omega) ?_ fun s hs hne => ?_
  · rw [if_pos]
    simp [isMember]
    omega
  · rw [if_neg]
    simp [isMember]
    omega
theorem pick_len {α : Type} {p : α → Bool} : ∀ {l : List α} {i j : Nat}, (pick p i l).length = (pick p j l).length
  | [], _, _ => rfl
  | x :: l, i, j => by
    rw [pick, pick]
    split
    · rw [List.length_cons, List.length_cons, pick_len (l := l) (i := i + 1) (j := j + 1)]
    · exact pick_len
theorem pick_all {n : Nat} : ∀ {l : List Elem}, (∀ x ∈ l, 0 ≤ x.sec ∧ x.sec < (n : Int)) → sumTo (fun s => (pick (isMember n (s : Int)) 0 l).length) n = l.length
  | [], _ => sumTo_zero fun _ _ => rfl
  | x :: l, h => by
    have ih := pick_all (n := n) (l := l) fun y hy => h y (List.mem_cons_of_mem _ hy)
    have hx := h x List.mem_cons_self
    rw [sumTo_congr (g := fun s => (if isMember n (s : Int) x = true then 1 else 0) + (pick (isMember n (s : Int)) 0 l).length) fun s _ => by
      rw [pick]
      split
      · rw [List.length_cons, pick_len (j := 0)]; omega
      · rw [pick_len (j := 0)]; omega]
    rw [sumTo_add, ih, sumTo_one (k := x.sec.toNat) (by omega) (by rw [if_pos]; simp [isMember]; omega) fun s hs hne => by rw [if_neg]; simp [isMember]; omega]
    rw [List.length_cons]
    omega
theorem members_all {L : Lay} (hc : checkF L = 0) : (allMem L L.secs.length).length = L.els.length := by
  rw [allMem_len]
  refine pick_all fun x hx => ?_
  have hr := of_decide_eq_true (right_at hc hx)
  omega
theorem held_at {L : Lay} : ∀ {n i s : Nat}, heldR L i n = true → i ≤ s → s < i + n → membersF L (s : Int) ≠ []
  | 0, i, s, _, h1, h2 => by omega
  | n + 1, i, s, h, h1, h2 => by
    rw [heldR] at h
    simp only [Bool.and_eq_true, Bool.not_eq_true', decide_eq_false_iff_not] at h
    by_cases e : s = i
    · subst e; exact h.1
    · exact held_at h.2 (by omega) (by omega)
theorem members_some {L : Lay} (hc : checkF L = 0) {s : Nat} (h : s < L.secs.length) : membersF L (s : Int) ≠ [] := by
  obtain ⟨_, he, _, _⟩ := check_split.1 hc
  exact held_at (elements_split.1 he).2.1 (Nat.zero_le _) (by omega)
theorem pick_at {α : Type} {p : α → Bool} : ∀ {l : List α} {i : Nat} {a : Int}, a ∈ pick p i l → ∃ (k : Nat) (x : α), a = ((i + k : Nat) : Int) ∧ l[k]? = some x ∧ p x = true
  | [], _, _, h => by simp [pick] at h
  | x :: l, i, a, h => by
    rw [pick] at h
    have rest : a ∈ pick p (i + 1) l → ∃ (k : Nat) (y : α), a = ((i + k : Nat) : Int) ∧ (x :: l)[k]? = some y ∧ p y = true := fun h => by
      obtain ⟨k, y, e, hy, hp⟩ := pick_at h
      exact ⟨k + 1, y, by rw [e]; congr 1; omega, by simpa using hy, hp⟩
    split at h
    · rename_i hp
      rcases List.mem_cons.1 h with rfl | h
      · exact ⟨0, x, rfl, rfl, hp⟩
      · exact rest h
    · exact rest h
/-- A member of a section is an element of it. -/
theorem member_at {L : Lay} {s a : Int} (h : a ∈ membersF L s) : ∃ (k : Nat) (x : Elem), a = (k : Int) ∧ L.els[k]? = some x ∧ x.sec = s := by
  obtain ⟨k, x, e, hx, hp⟩ := pick_at h
  refine ⟨k, x, by rw [e, Nat.zero_add], hx, ?_⟩
  simp only [isMember, Bool.and_eq_true, beq_iff_eq] at hp
  exact hp.1

/-! What stays valid when something is removed. -/
theorem held_congr {L M : Lay} (h1 : M.secs = L.secs) (h2 : M.els = L.els) : ∀ n i, heldR M i n = heldR L i n
  | 0, _ => rfl
  | n + 1, i => by
    rw [heldR, heldR, held_congr h1 h2 n (i + 1)]
    unfold membersF
    rw [h1, h2]
theorem remove_bals {L : Lay} {m : List Bal} (hm : List.Sublist m L.bals) (hc : checkF L = 0) : checkF { L with bals := m } = 0 := by
  obtain ⟨hn, he, hs, hb⟩ := check_split.1 hc
  obtain ⟨n1, n2, n3⟩ := named_split.1 hn
  obtain ⟨e1, e2, e3, e4⟩ := elements_split.1 he
  obtain ⟨s1, s2, s3⟩ := signals_split.1 hs
  obtain ⟨b1, b2⟩ := balises_split.1 hb
  refine check_split.2 ⟨named_split.2 ⟨?_, n2, n3⟩, elements_split.2 ⟨e1, ?_, e3, e4⟩, signals_split.2 ⟨s1, s2, s3⟩, balises_split.2 ⟨all_sub hm b1, dup_sub (hm.map _) b2⟩⟩
  · have := of_decide_eq_true n1
    have := hm.length_le
    refine decide_eq_true ?_
    simp only
    omega
  · exact (held_congr (L := L) (M := { L with bals := m }) rfl rfl _ _).trans e2
theorem remove_sigs {L : Lay} {m : List Sig} (hm : List.Sublist m L.sigs) (hc : checkF L = 0) : checkF { L with sigs := m } = 0 := by
  obtain ⟨hn, he, hs, hb⟩ := check_split.1 hc
  obtain ⟨n1, n2, n3⟩ := named_split.1 hn
  obtain ⟨e1, e2, e3, e4⟩ := elements_split.1 he
  obtain ⟨s1, s2, s3⟩ := signals_split.1 hs
  obtain ⟨b1, b2⟩ := balises_split.1 hb
  refine check_split.2 ⟨named_split.2 ⟨?_, ?_, ?_⟩, elements_split.2 ⟨e1, ?_, e3, e4⟩, signals_split.2 ⟨all_sub hm s1, dup_sub (hm.map _) s2, all_sub (hm.map _) s3⟩, balises_split.2 ⟨b1, b2⟩⟩
  · have := of_decide_eq_true n1
    have := hm.length_le
    refine decide_eq_true ?_
    simp only
    omega
  · refine all_sub ?_ n2
    exact List.Sublist.cons_cons _ ((List.Sublist.refl _).append ((List.Sublist.refl _).append (hm.map _)))
  · simp only [dupN, Bool.or_eq_false_iff] at n3 ⊢
    exact ⟨n3.1, n3.2.1, dup_sub (hm.map _) n3.2.2⟩
  · exact (held_congr (L := L) (M := { L with sigs := m }) rfl rfl _ _).trans e2
theorem join_skip {e a b : Int × Int} (h1 : a ≠ e) (h2 : b ≠ e) : ∀ {l m : List ((Int × Int) × (Int × Int))}, joinR e (l ++ (a, b) :: m) = joinR e (l ++ m)
  | [], m => joinR_no h1 h2
  | (c, d) :: l, m => by
    rw [List.cons_append, List.cons_append, joinR, joinR, join_skip h1 h2]
theorem signal_none {L : Lay} {e : Int × Int} : ∀ {l : List Sig} {i : Nat}, firstI (isSpot e) i l < 0 → ∀ s ∈ l, s.spot ≠ e
  | [], _, _, s, hs => by simp at hs
  | x :: l, i, h, s, hs => by
    cases hp : isSpot e x with
    | true =>
      rw [firstI_yes hp] at h
      omega
    | false =>
      rw [firstI_no hp] at h
      rcases List.mem_cons.1 hs with rfl | hs
      · exact of_decide_eq_false hp
      · exact signal_none (L := L) h s hs
theorem remove_joint {L : Lay} {l m : List ((Int × Int) × (Int × Int))} {a b : Int × Int} (hj : L.joints = l ++ (a, b) :: m) (ha : signalF L a < 0) (hb' : signalF L b < 0) (hc : checkF L = 0) : checkF { L with joints := l ++ m } = 0 := by
  obtain ⟨hn, he, hs, hb⟩ := check_split.1 hc
  obtain ⟨n1, n2, n3⟩ := named_split.1 hn
  obtain ⟨e1, e2, e3, e4⟩ := elements_split.1 he
  obtain ⟨s1, s2, s3⟩ := signals_split.1 hs
  obtain ⟨b1, b2⟩ := balises_split.1 hb
  have hsub : List.Sublist (l ++ m) L.joints := by
    rw [hj]
    exact (List.Sublist.refl _).append (List.sublist_cons_self _ _)
  refine check_split.2 ⟨named_split.2 ⟨n1, n2, n3⟩, elements_split.2 ⟨e1, ?_, all_sub hsub e3, ?_⟩, signals_split.2 ⟨s1, s2, ?_⟩, balises_split.2 ⟨b1, b2⟩⟩
  · exact (held_congr (L := L) (M := { L with joints := l ++ m }) rfl rfl _ _).trans e2
  · refine dup_sub ?_ e4
    show List.Sublist (endsOf (l ++ m)) (endsOf L.joints)
    rw [hj]
    simp only [endsOf, List.flatMap_append, List.flatMap_cons]
    exact (List.Sublist.refl _).append (List.sublist_append_right _ _)
  · rw [List.all_eq_true] at s3 ⊢
    intro e h
    have h3 := s3 e h
    obtain ⟨s, hs, rfl⟩ := List.mem_map.1 h
    have q1 := signal_none (L := L) ha s hs
    have q2 := signal_none (L := L) hb' s hs
    unfold safeB joinedF at h3 ⊢
    rw [hj, join_skip (fun h => q1 h.symm) (fun h => q2 h.symm)] at h3
    exact h3

end Go.Proofs.YtfdipcphohhlgaaGreatDoor.Lcon

/- Layouts as lines of words: plain mathematics, of no program. -/
namespace Go.Proofs.YtfdipcphohhlgaaGreatDoor.Plnf
open Go.Lib Go.Proofs.YtfdipcphohhlgaaGreatDoor.Lay Go.Proofs.YtfdipcphohhlgaaGreatDoor.Layf Go.Proofs.YtfdipcphohhlgaaGreatDoor.Lcon Go.Proofs.YtfdipcphohhlgaaGreatDoor.Numt
open Go.Proofs.YtfdipcphohhlgaaGreatDoor.Text hiding lineL joinR

/-! The words of the forms. -/
def kLay : List UInt8 := [108, 97, 121, 111, 117, 116]
def kSec : List UInt8 := [115, 101, 99, 116, 105, 111, 110]
def kTrk : List UInt8 := [116, 114, 97, 99, 107]
def kPts : List UInt8 := [112, 111, 105, 110, 116, 115]
def kCrs : List UInt8 := [99, 114, 111, 115, 115]
def kJnt : List UInt8 := [106, 111, 105, 110, 116]
def kSig : List UInt8 := [115, 105, 103, 110, 97, 108]
def kBal : List UInt8 := [98, 97, 108, 105, 115, 101]

/-! The lines of a layout. -/
def secName (L : Lay) (i : Int) : List UInt8 := (L.secs[i.toNat]?).getD []
def elName (L : Lay) (i : Int) : List UInt8 := ((L.els[i.toNat]?).map (·.name)).getD []
def elL (L : Lay) (x : Elem) : List (List UInt8) :=
  if x.kind = 2 then [kPts, x.name, secName L x.sec, itoa x.len, itoa x.grade, itoa x.speed, itoa x.slow]
  else [if x.kind = 3 then kCrs else kTrk, x.name, secName L x.sec, itoa x.len, itoa x.grade, itoa x.speed]
def jtL (L : Lay) (j : (Int × Int) × (Int × Int)) : List (List UInt8) := [kJnt, elName L j.1.1, itoa j.1.2, elName L j.2.1, itoa j.2.2]
def sgL (L : Lay) (s : Sig) : List (List UInt8) := [kSig, s.name, elName L s.spot.1, itoa s.spot.2, itoa s.over]
def blL (L : Lay) (b : Bal) : List (List UInt8) := [kBal, itoa b.id, elName L b.el, itoa b.off]
def scL (s : List UInt8) : List (List UInt8) := [kSec, s]
def linesOf (L : Lay) : List (List (List UInt8)) := [kLay, L.name] :: (L.secs.map scL ++ (L.els.map (elL L) ++ (L.joints.map (jtL L) ++ (L.sigs.map (sgL L) ++ L.bals.map (blL L)))))
/-- What Print answers. -/
def printF (L : Lay) : List UInt8 × Int := if checkF L = 0 then ((Text.joinR (linesOf L)).1, ((Text.joinR (linesOf L)).2 : Int)) else ([], checkF L)

/-! What a line says. -/
def rankL (w : List UInt8) : Option Nat :=
  if w = kLay then some 0 else if w = kSec then some 1 else if w = kTrk ∨ w = kPts ∨ w = kCrs then some 2 else if w = kJnt then some 3 else if w = kSig then some 4 else if w = kBal then some 5 else none
def numB (w : List UInt8) : Bool := decide ((intR w).2 = 0)
def intN (w : List UInt8) : Int := (intR w).1
def isSec (w s : List UInt8) : Bool := decide (s = w)
/-- The first section with a name. -/
def secF (L : Lay) (w : List UInt8) : Int := firstI (isSec w) 0 L.secs
/-- The error of a line, and the layout with what it says. -/
def readL (L : Lay) (ws : List (List UInt8)) : Int × Lay :=
  match ws with
  | [k, n] => if k = kLay then (0, { L with name := n }) else if k = kSec then (0, { L with secs := L.secs ++ [n] }) else (4, L)
  | [k, n, s, a, b, c] =>
    if k = kTrk ∨ k = kCrs then
      if (numB a && (numB b && numB c)) = false then (4, L) else if secF L s < 0 then (9, L)
      else (0, { L with els := L.els ++ [⟨n, if k = kCrs then 3 else 1, intN a, intN b, intN c, 0, secF L s⟩] })
    else (4, L)
  | [k, n, s, a, b, c, d] =>
    if k = kPts then
      if (numB a && (numB b && (numB c && numB d))) = false then (4, L) else if secF L s < 0 then (9, L)
      else (0, { L with els := L.els ++ [⟨n, 2, intN a, intN b, intN c, intN d, secF L s⟩] })
    else (4, L)
  | [k, p, q, r, t] =>
    if k = kJnt then
      if (numB q && numB t) = false then (4, L) else if elementF L p < 0 ∨ elementF L r < 0 then (9, L)
      else (0, { L with joints := L.joints ++ [((elementF L p, intN q), (elementF L r, intN t))] })
    else if k = kSig then
      if (numB r && numB t) = false then (4, L) else if elementF L q < 0 then (9, L)
      else (0, { L with sigs := L.sigs ++ [⟨p, (elementF L q, intN r), intN t⟩] })
    else (4, L)
  | [k, i, e, o] =>
    if k = kBal then
      if (numB i && numB o) = false then (4, L) else if elementF L e < 0 then (9, L)
      else (0, { L with bals := L.bals ++ [⟨intN i, elementF L e, intN o⟩] })
    else (4, L)
  | _ => (4, L)
/-- .. in its place: the error, the form's rank, the layout. -/
def stepL (i last : Nat) (L : Lay) (ws : List (List UInt8)) : Int × (Nat × Lay) :=
  match rankL (ws.headD []) with
  | none => (4, (last, L))
  | some k => if decide (k = 0) = decide (i = 0) ∧ last ≤ k then ((readL L ws).1, (k, (readL L ws).2)) else (4, (last, L))
/-- Line by line: the error and its line (from 1), the last rank, the layout. -/
def runL (i last : Nat) (L : Lay) : List (List (List UInt8)) → (Int × Nat) × (Nat × Lay)
  | [] => ((0, 0), (last, L))
  | ws :: r => if (stepL i last L ws).1 = 0 then runL (i + 1) (stepL i last L ws).2.1 (stepL i last L ws).2.2 r else (((stepL i last L ws).1, i + 1), (last, L))
def zeroL : Lay := ⟨[], [], [], [], [], []⟩
/-- What Parse answers to lines: the layout, the line, the error. -/
def parseL (ls : List (List (List UInt8))) : Lay × (Nat × Int) :=
  if ls = [] then (zeroL, (1, 4))
  else if (runL 0 0 zeroL ls).1.1 = 0 then
    (if checkF (runL 0 0 zeroL ls).2.2 = 0 then ((runL 0 0 zeroL ls).2.2, (0, 0)) else (zeroL, (0, checkF (runL 0 0 zeroL ls).2.2)))
  else (zeroL, ((runL 0 0 zeroL ls).1.2, (runL 0 0 zeroL ls).1.1))
/-- .. to a text. -/
def parseF (s : List UInt8) : Lay × (Nat × Int) := if (linesR s).2.2 = 0 then parseL (linesR s).1 else (zeroL, ((linesR s).2.1, ((linesR s).2.2 : Int)))

/-! Lines one behind the other. -/
theorem run_nil (i last : Nat) (L : Lay) : runL i last L [] = ((0, 0), (last, L)) := rfl
theorem run_cons {i last k : Nat} {L L' : Lay} {ws : List (List UInt8)} {r : List (List (List UInt8))} (h : stepL i last L ws = (0, (k, L'))) : runL i last L (ws :: r) = runL (i + 1) k L' r := by
  rw [runL, h, if_pos rfl]
theorem run_stop {i last : Nat} {L : Lay} {ws : List (List UInt8)} {r : List (List (List UInt8))} (h : (stepL i last L ws).1 ≠ 0) : runL i last L (ws :: r) = (((stepL i last L ws).1, i + 1), (last, L)) := by
  rw [runL, if_neg h]
theorem run_append (b : List (List (List UInt8))) : ∀ (a : List (List (List UInt8))) (i last : Nat) (L : Lay), runL i last L (a ++ b) = if (runL i last L a).1.1 = 0 then runL (i + a.length) (runL i last L a).2.1 (runL i last L a).2.2 b else runL i last L a
  | [], i, last, L => by rw [run_nil, List.nil_append, if_pos rfl]; rfl
  | ws :: a, i, last, L => by
    rw [List.cons_append]
    by_cases h : (stepL i last L ws).1 = 0
    · obtain ⟨e, k, L', hs⟩ : ∃ e k L', stepL i last L ws = (e, (k, L')) := ⟨_, _, _, rfl⟩
      rw [hs] at h
      simp only at h
      subst h
      rw [run_cons hs, run_cons hs, run_append b a (i + 1) k L', List.length_cons, show i + 1 + a.length = i + (a.length + 1) by omega]
    · rw [run_stop h, run_stop h, if_neg h]
/-- The line of an error: between the first and the last. -/
theorem run_line : ∀ (a : List (List (List UInt8))) (i last : Nat) (L : Lay), (runL i last L a).1.1 ≠ 0 → i + 1 ≤ (runL i last L a).1.2 ∧ (runL i last L a).1.2 ≤ i + a.length
  | [], i, last, L, h => absurd rfl h
  | ws :: a, i, last, L, h => by
    by_cases h0 : (stepL i last L ws).1 = 0
    · obtain ⟨e, k, L', hs⟩ : ∃ e k L', stepL i last L ws = (e, (k, L')) := ⟨_, _, _, rfl⟩
      rw [hs] at h0
      simp only at h0
      subst h0
      rw [run_cons hs] at h ⊢
      have := run_line a (i + 1) k L' h
      rw [List.length_cons]
      omega
    · rw [run_stop h0, List.length_cons]
      exact ⟨Nat.le_refl _, show i + 1 ≤ i + (a.length + 1) by omega⟩
/-- What stands before the line of an error has none. -/
theorem run_before : ∀ (a : List (List (List UInt8))) (i last : Nat) (L : Lay), (runL i last L a).1.1 ≠ 0 → (runL i last L (a.take ((runL i last L a).1.2 - i - 1))).1.1 = 0
  | [], i, last, L, h => absurd rfl h
  | ws :: a, i, last, L, h => by
    by_cases h0 : (stepL i last L ws).1 = 0
    · obtain ⟨e, k, L', hs⟩ : ∃ e k L', stepL i last L ws = (e, (k, L')) := ⟨_, _, _, rfl⟩
      rw [hs] at h0
      simp only at h0
      subst h0
      rw [run_cons hs] at h ⊢
      have h1 := run_line a (i + 1) k L' h
      have h2 := run_before a (i + 1) k L' h
      obtain ⟨m, hm⟩ : ∃ m, (runL (i + 1) k L' a).1.2 - i - 1 = m + 1 := ⟨(runL (i + 1) k L' a).1.2 - i - 2, by omega⟩
      rw [hm, List.take_succ_cons, run_cons hs, show m = (runL (i + 1) k L' a).1.2 - (i + 1) - 1 by omega]
      exact h2
    · rw [run_stop h0, show i + 1 - i - 1 = 0 by omega, List.take_zero]
      rfl
/-- .. and whatever follows it does not matter. -/
theorem run_after (more : List (List (List UInt8))) : ∀ (a : List (List (List UInt8))) (i last : Nat) (L : Lay), (runL i last L a).1.1 ≠ 0 → (runL i last L (a.take ((runL i last L a).1.2 - i) ++ more)).1 = (runL i last L a).1
  | [], i, last, L, h => absurd rfl h
  | ws :: a, i, last, L, h => by
    by_cases h0 : (stepL i last L ws).1 = 0
    · obtain ⟨e, k, L', hs⟩ : ∃ e k L', stepL i last L ws = (e, (k, L')) := ⟨_, _, _, rfl⟩
      rw [hs] at h0
      simp only at h0
      subst h0
      rw [run_cons hs] at h ⊢
      have h1 := run_line a (i + 1) k L' h
      have h2 := run_after more a (i + 1) k L' h
      obtain ⟨m, hm⟩ : ∃ m, (runL (i + 1) k L' a).1.2 - i = m + 1 := ⟨(runL (i + 1) k L' a).1.2 - i - 1, by omega⟩
      rw [hm, List.take_succ_cons, List.cons_append, run_cons hs, show m = (runL (i + 1) k L' a).1.2 - (i + 1) by omega]
      exact h2
    · rw [run_stop h0, show i + 1 - i = 0 + 1 by omega, List.take_succ_cons, List.take_zero, List.singleton_append, run_stop h0]

end Go.Proofs.YtfdipcphohhlgaaGreatDoor.Plnf

/- A text of lines that is accepted is that of its layout: plain mathematics, of no program. -/
namespace Go.Proofs.YtfdipcphohhlgaaGreatDoor.Plna
open Go.Lib Go.Proofs.YtfdipcphohhlgaaGreatDoor.Lay Go.Proofs.YtfdipcphohhlgaaGreatDoor.Layf Go.Proofs.YtfdipcphohhlgaaGreatDoor.Lcon Go.Proofs.YtfdipcphohhlgaaGreatDoor.Numt Go.Proofs.YtfdipcphohhlgaaGreatDoor.Plnf
open Go.Proofs.YtfdipcphohhlgaaGreatDoor.Text hiding lineL joinR

theorem first_spot {α : Type} {p : α → Bool} : ∀ {l : List α} {i : Nat}, 0 ≤ firstI p i l → ∃ (k : Nat) (x : α), firstI p i l = ((i + k : Nat) : Int) ∧ l[k]? = some x ∧ p x = true
  | [], _, h => by simp [firstI] at h
  | x :: l, i, h => by
    cases hp : p x with
    | true => exact ⟨0, x, by rw [firstI_yes hp]; rfl, rfl, hp⟩
    | false =>
      rw [firstI_no hp] at h ⊢
      obtain ⟨k, y, h1, h2, h3⟩ := first_spot h
      exact ⟨k + 1, y, by rw [h1, show i + 1 + k = i + (k + 1) by omega], by simpa using h2, h3⟩
theorem sec_back {L : Lay} {s : List UInt8} (h : ¬ secF L s < 0) : secName L (secF L s) = s := by
  obtain ⟨k, x, h1, h2, h3⟩ := first_spot (p := isSec s) (l := L.secs) (i := 0) (by show 0 ≤ secF L s; omega)
  have e : secF L s = ((0 + k : Nat) : Int) := h1
  unfold secName
  rw [e, Nat.zero_add, Int.toNat_natCast, h2]
  exact of_decide_eq_true h3
theorem el_back {L : Lay} {s : List UInt8} (h : ¬ elementF L s < 0) : elName L (elementF L s) = s := by
  obtain ⟨k, x, h1, h2, h3⟩ := first_spot (p := isName s) (l := L.els) (i := 0) (by show 0 ≤ elementF L s; omega)
  have e : elementF L s = ((0 + k : Nat) : Int) := h1
  unfold elName
  rw [e, Nat.zero_add, Int.toNat_natCast, h2]
  exact of_decide_eq_true h3
theorem num_back {w : List UInt8} (h : numB w = true) : itoa (intN w) = w := by
  have h0 : (intR w).2 = 0 := of_decide_eq_true h
  exact itoa_of_int (show intR w = (intN w, 0) by rw [← h0]; rfl)

/-- What is empty yet, behind a form of this rank. -/
def Ord (last : Nat) (L : Lay) : Prop := (last < 1 → L.secs = []) ∧ (last < 2 → L.els = []) ∧ (last < 3 → L.joints = []) ∧ (last < 4 → L.sigs = []) ∧ (last < 5 → L.bals = [])
theorem ord_le {a b : Nat} {L : Lay} (h : Ord a L) (hab : a ≤ b) : Ord b L :=
  ⟨fun h2 => h.1 (by omega), fun h2 => h.2.1 (by omega), fun h2 => h.2.2.1 (by omega), fun h2 => h.2.2.2.1 (by omega), fun h2 => h.2.2.2.2 (by omega)⟩

theorem rk_lay : rankL kLay = some 0 := by decide
theorem rk_sec : rankL kSec = some 1 := by decide
theorem rk_trk : rankL kTrk = some 2 := by decide
theorem rk_pts : rankL kPts = some 2 := by decide
theorem rk_crs : rankL kCrs = some 2 := by decide
theorem rk_jnt : rankL kJnt = some 3 := by decide
theorem rk_sig : rankL kSig = some 4 := by decide
theorem rk_bal : rankL kBal = some 5 := by decide
theorem not_some {L L' : Lay} {e : Int} (he : e ≠ 0) (h : (e, L) = (0, L')) : False := he (Prod.mk.inj h).1

theorem read_lines {L L' : Lay} {ws : List (List UInt8)} {k : Nat} (hr : rankL (ws.headD []) = some k) (hk : 1 ≤ k) (h : readL L ws = (0, L')) (ho : Ord k L) : linesOf L' = linesOf L ++ [ws] ∧ Ord k L' := by
  obtain ⟨o1, o2, o3, o4, o5⟩ := ho
  unfold readL at h
  split at h
  · rename_i w n
    simp only [List.headD_cons] at hr
    split at h
    · rename_i hw
      rw [hw, rk_lay] at hr
      cases hr
      omega
    · split at h
      · rename_i hw
        subst hw
        rw [rk_sec] at hr
        cases hr
        cases h
        have e2 := o2 (by omega)
        have e3 := o3 (by omega)
        have e4 := o4 (by omega)
        have e5 := o5 (by omega)
        refine ⟨?_, fun h => absurd h (by omega), fun _ => e2, fun _ => e3, fun _ => e4, fun _ => e5⟩
        simp [linesOf, e2, e3, e4, e5, scL]
      · exact (not_some (by decide) h).elim
  · rename_i w n s a b c
    simp only [List.headD_cons] at hr
    split at h
    · rename_i hw
      split at h
      · exact (not_some (by decide) h).elim
      · rename_i hn
        split at h
        · exact (not_some (by decide) h).elim
        · rename_i hs
          simp only [Bool.not_eq_false, Bool.and_eq_true] at hn
          obtain ⟨ha, hb, hc⟩ := hn
          have hk2 : k = 2 := by
            rcases hw with rfl | rfl
            · rw [rk_trk] at hr; exact (Option.some.inj hr).symm
            · rw [rk_crs] at hr; exact (Option.some.inj hr).symm
          subst hk2
          cases h
          have e3 := o3 (by omega)
          have e4 := o4 (by omega)
          have e5 := o5 (by omega)
          refine ⟨?_, fun h => absurd h (by omega), fun h => absurd h (by omega), fun _ => e3, fun _ => e4, fun _ => e5⟩
          have hl : elL L ⟨n, if w = kCrs then 3 else 1, intN a, intN b, intN c, 0, secF L s⟩ = [w, n, s, a, b, c] := by
            rcases hw with rfl | rfl
            · unfold elL
              simp only [show ¬ kTrk = kCrs by decide, if_false, show ¬ (1 : Int) = 2 by decide, show ¬ (1 : Int) = 3 by decide, sec_back hs, num_back ha, num_back hb, num_back hc]
            · unfold elL
              simp only [if_true, show ¬ (3 : Int) = 2 by decide, if_false, sec_back hs, num_back ha, num_back hb, num_back hc]
          show [kLay, L.name] :: (L.secs.map scL ++ ((L.els ++ [_]).map (elL L) ++ (L.joints.map _ ++ (L.sigs.map _ ++ L.bals.map _)))) = linesOf L ++ [_]
          rw [List.map_append, List.map_singleton, hl]
          simp [linesOf, e3, e4, e5]
    · exact (not_some (by decide) h).elim
  · rename_i w n s a b c d
    simp only [List.headD_cons] at hr
    split at h
    · rename_i hw
      split at h
      · exact (not_some (by decide) h).elim
      · rename_i hn
        split at h
        · exact (not_some (by decide) h).elim
        · rename_i hs
          simp only [Bool.not_eq_false, Bool.and_eq_true] at hn
          obtain ⟨ha, hb, hc, hd⟩ := hn
          subst hw
          rw [rk_pts] at hr
          cases hr
          cases h
          have e3 := o3 (by omega)
          have e4 := o4 (by omega)
          have e5 := o5 (by omega)
          refine ⟨?_, fun h => absurd h (by omega), fun h => absurd h (by omega), fun _ => e3, fun _ => e4, fun _ => e5⟩
          have hl : elL L ⟨n, 2, intN a, intN b, intN c, intN d, secF L s⟩ = [kPts, n, s, a, b, c, d] := by
            unfold elL
            simp only [if_true, sec_back hs, num_back ha, num_back hb, num_back hc, num_back hd]
          show [kLay, L.name] :: (L.secs.map scL ++ ((L.els ++ [_]).map (elL L) ++ (L.joints.map _ ++ (L.sigs.map _ ++ L.bals.map _)))) = linesOf L ++ [_]
          rw [List.map_append, List.map_singleton, hl]
          simp [linesOf, e3, e4, e5]
    · exact (not_some (by decide) h).elim
  · rename_i w p q r t
    simp only [List.headD_cons] at hr
    split at h
    · rename_i hw
      split at h
      · exact (not_some (by decide) h).elim
      · rename_i hn
        split at h
        · exact (not_some (by decide) h).elim
        · rename_i hs
          simp only [Bool.not_eq_false, Bool.and_eq_true] at hn
          obtain ⟨ha, hb⟩ := hn
          rw [not_or] at hs
          subst hw
          rw [rk_jnt] at hr
          cases hr
          cases h
          have e4 := o4 (by omega)
          have e5 := o5 (by omega)
          refine ⟨?_, fun h => absurd h (by omega), fun h => absurd h (by omega), fun h => absurd h (by omega), fun _ => e4, fun _ => e5⟩
          have hl : jtL L ((elementF L p, intN q), (elementF L r, intN t)) = [kJnt, p, q, r, t] := by
            unfold jtL
            simp only [el_back hs.1, el_back hs.2, num_back ha, num_back hb]
          show [kLay, L.name] :: (L.secs.map scL ++ (L.els.map (elL L) ++ ((L.joints ++ [_]).map (jtL L) ++ (L.sigs.map _ ++ L.bals.map _)))) = linesOf L ++ [_]
          rw [List.map_append, List.map_singleton, hl]
          simp [linesOf, e4, e5]
    · split at h
      · rename_i hw
        split at h
        · exact (not_some (by decide) h).elim
        · rename_i hn
          split at h
          · exact (not_some (by decide) h).elim
          · rename_i hs
            simp only [Bool.not_eq_false, Bool.and_eq_true] at hn
            obtain ⟨ha, hb⟩ := hn
            subst hw
            rw [rk_sig] at hr
            cases hr
            cases h
            have e5 := o5 (by omega)
            refine ⟨?_, fun h => absurd h (by omega), fun h => absurd h (by omega), fun h => absurd h (by omega), fun h => absurd h (by omega), fun _ => e5⟩
            have hl : sgL L ⟨p, (elementF L q, intN r), intN t⟩ = [kSig, p, q, r, t] := by
              unfold sgL
              simp only [el_back hs, num_back ha, num_back hb]
            show [kLay, L.name] :: (L.secs.map scL ++ (L.els.map (elL L) ++ (L.joints.map (jtL L) ++ ((L.sigs ++ [_]).map (sgL L) ++ L.bals.map _)))) = linesOf L ++ [_]
            rw [List.map_append, List.map_singleton, hl]
            simp [linesOf, e5]
      · exact (not_some (by decide) h).elim
  · rename_i w a e b
    simp only [List.headD_cons] at hr
    split at h
    · rename_i hw
      split at h
      · exact (not_some (by decide) h).elim
      · rename_i hn
        split at h
        · exact (not_some (by decide) h).elim
        · rename_i hs
          simp only [Bool.not_eq_false, Bool.and_eq_true] at hn
          obtain ⟨ha, hb⟩ := hn
          subst hw
          rw [rk_bal] at hr
          cases hr
          cases h
          refine ⟨?_, fun h => absurd h (by omega), fun h => absurd h (by omega), fun h => absurd h (by omega), fun h => absurd h (by omega), fun h => absurd h (by omega)⟩
          have hl : blL L ⟨intN a, elementF L e, intN b⟩ = [kBal, a, e, b] := by
            unfold blL
            simp only [el_back hs, num_back ha, num_back hb]
          show [kLay, L.name] :: (L.secs.map scL ++ (L.els.map (elL L) ++ (L.joints.map (jtL L) ++ (L.sigs.map (sgL L) ++ (L.bals ++ [_]).map (blL L))))) = linesOf L ++ [_]
          rw [List.map_append, List.map_singleton, hl]
          simp [linesOf]
    · exact (not_some (by decide) h).elim
  · exact (not_some (by decide) h).elim

/-- What a step that goes on is. -/
theorem step_ok {i last k : Nat} {L L' : Lay} {ws : List (List UInt8)} (h : stepL i last L ws = (0, (k, L'))) : rankL (ws.headD []) = some k ∧ (k = 0 ↔ i = 0) ∧ last ≤ k ∧ readL L ws = (0, L') := by
  unfold stepL at h
  split at h
  · cases h
  · rename_i k' hr
    split at h
    · rename_i hc
      simp only [Prod.mk.injEq] at h
      obtain ⟨h1, rfl, rfl⟩ := h
      exact ⟨hr, decide_eq_decide.1 hc.1, hc.2, Prod.ext h1 rfl⟩
    · cases h
theorem run_ok {i last : Nat} {L : Lay} {ws : List (List UInt8)} {r : List (List (List UInt8))} (h : (runL i last L (ws :: r)).1.1 = 0) : ∃ k L', stepL i last L ws = (0, (k, L')) ∧ runL i last L (ws :: r) = runL (i + 1) k L' r := by
  by_cases h0 : (stepL i last L ws).1 = 0
  · obtain ⟨e, k, L', hs⟩ : ∃ e k L', stepL i last L ws = (e, (k, L')) := ⟨_, _, _, rfl⟩
    rw [hs] at h0
    simp only at h0
    subst h0
    exact ⟨k, L', hs, run_cons hs⟩
  · rw [run_stop h0] at h
    exact absurd h h0
theorem run_lines : ∀ (ls : List (List (List UInt8))) (i last : Nat) (L : Lay), 1 ≤ i → Ord last L → (runL i last L ls).1.1 = 0 → linesOf (runL i last L ls).2.2 = linesOf L ++ ls
  | [], i, last, L, _, _, _ => by rw [run_nil, List.append_nil]
  | ws :: r, i, last, L, hi, ho, h => by
    obtain ⟨k, L', hs, he⟩ := run_ok h
    rw [he] at h ⊢
    obtain ⟨h1, h2, h3, h4⟩ := step_ok hs
    have hk : 1 ≤ k := by
      rcases Nat.eq_zero_or_pos k with hk | hk
      · have := h2.1 hk; omega
      · exact hk
    obtain ⟨e1, e2⟩ := read_lines h1 hk h4 (ord_le ho h3)
    rw [run_lines r (i + 1) k L' (by omega) e2 h, e1, List.append_assoc]
    rfl
theorem rank_zero {w : List UInt8} (h : rankL w = some 0) : w = kLay := by
  unfold rankL at h
  split at h
  · assumption
  · repeat (split at h; · cases h)
    cases h
theorem read_first {L' : Lay} {ws : List (List UInt8)} (hr : rankL (ws.headD []) = some 0) (h : readL zeroL ws = (0, L')) : linesOf L' = [ws] ∧ Ord 0 L' := by
  have hw := rank_zero hr
  unfold readL at h
  split at h
  · rename_i w n
    simp only [List.headD_cons] at hw
    subst hw
    rw [if_pos rfl] at h
    cases h
    exact ⟨rfl, fun _ => rfl, fun _ => rfl, fun _ => rfl, fun _ => rfl, fun _ => rfl⟩
  all_goals
    first
      | exact (not_some (by decide) h).elim
      | (simp only [List.headD_cons] at hw
         subst hw
         simp only [show ¬ (kLay = kTrk ∨ kLay = kCrs) by decide, show ¬ kLay = kPts by decide, show ¬ kLay = kJnt by decide, show ¬ kLay = kSig by decide, show ¬ kLay = kBal by decide, if_false] at h
         exact (not_some (by decide) h).elim)
/-- What is accepted is what the layout prints. -/
theorem accepted {ls : List (List (List UInt8))} {L : Lay} {n : Nat} (h : parseL ls = (L, (n, 0))) : linesOf L = ls ∧ checkF L = 0 ∧ n = 0 := by
  unfold parseL at h
  cases ls with
  | nil => simp at h
  | cons ws r =>
    rw [if_neg (by simp)] at h
    split at h
    · rename_i h0
      split at h
      · rename_i hc
        simp only [Prod.mk.injEq, and_true] at h
        obtain ⟨rfl, rfl⟩ := h
        obtain ⟨k, L', hs, he⟩ := run_ok h0
        obtain ⟨h1, h2, h3, h4⟩ := step_ok hs
        have hk : k = 0 := h2.2 rfl
        subst hk
        obtain ⟨e1, e2⟩ := read_first h1 h4
        refine ⟨?_, hc, rfl⟩
        rw [he] at h0 ⊢
        rw [run_lines r (0 + 1) 0 L' (by omega) e2 h0, e1]
        rfl
      · rename_i hc
        simp only [Prod.mk.injEq] at h
        exact absurd h.2.2 hc
    · rename_i h0
      simp only [Prod.mk.injEq] at h
      exact absurd h.2.2 h0
/-- A text that is accepted is what Print answers to its layout. -/
theorem print_of_parse {s : List UInt8} {L : Lay} {n : Nat} (h : parseF s = (L, (n, 0))) : printF L = (s, 0) ∧ checkF L = 0 := by
  unfold parseF at h
  split at h
  · rename_i h0
    obtain ⟨h1, h2, _⟩ := accepted h
    obtain ⟨ls, m, e⟩ : ∃ ls m, linesR s = (ls, m, 0) := ⟨(linesR s).1, (linesR s).2.1, by rw [← h0]⟩
    rw [e] at h1
    have hj := join_of_lines e
    refine ⟨?_, h2⟩
    unfold printF
    rw [if_pos h2, h1, hj]
    rfl
  · rename_i h0
    simp only [Prod.mk.injEq] at h
    omega

end Go.Proofs.YtfdipcphohhlgaaGreatDoor.Plna
