/- The calls of the reference's balises and Check. -/
import Derived.Test.YtkoldgammeojkaaDoorLsig
namespace Go.Proofs.YtkoldgammeojkaaDoor.Lbal
open Go.RowKit Go.Lib Go.Proofs.YtkoldgammeojkaaDoor.Text Go.Proofs.YtkoldgammeojkaaDoor.Reads Go.Proofs.YtkoldgammeojkaaDoor.Rows2 Go.Proofs.YtkoldgammeojkaaDoor.Lay Go.Proofs.YtkoldgammeojkaaDoor.Layf Go.Proofs.YtkoldgammeojkaaDoor.Ldup Go.Proofs.YtkoldgammeojkaaDoor.Lext Go.Proofs.YtkoldgammeojkaaDoor.Ljoi Go.Proofs.YtkoldgammeojkaaDoor.Lnmd Go.Proofs.YtkoldgammeojkaaDoor.Lnam Go.Proofs.YtkoldgammeojkaaDoor.Lmem Go.Proofs.YtkoldgammeojkaaDoor.Lele Go.Proofs.YtkoldgammeojkaaDoor.Lsig

theorem bal_no {els : List Elem} {b : Bal} (h : b.id < 1 ∨ 1073741824 < b.id ∨ b.el < 0 ∨ (els.length : Int) ≤ b.el ∨ b.off < 0) : balB els b = false := by
  unfold balB
  cases hx : els[b.el.toNat]? with
  | none => rfl
  | some x =>
    have := (List.getElem?_eq_some_iff.1 hx).1
    exact decide_eq_false (by omega)
theorem bal_at {els : List Elem} {b : Bal} {x : Elem} (h1 : 1 ≤ b.id) (h2 : b.id ≤ 1073741824) (h3 : 0 ≤ b.el) (h5 : 0 ≤ b.off) (hx : els[b.el.toNat]? = some x) : balB els b = decide (b.off ≤ x.len) := by
  simp [balB, hx, h1, h2, h3, h5]
/-- What holds at the head of the loop over the balises. -/
def BRel (L : Lay) (G : Bool) (W : World) (vout vj : Value) (wr : World) : Prop :=
  ∃ j : Nat, vj = .int .i64 (j : Int) ∧ j ≤ L.bals.length ∧ (L.bals.drop j).all (balB L.els) = G ∧ (∀ x ∈ (L.bals.take j).map (·.id), (Lit.int .i64 x).wf = true) ∧ wr.ownsRow W.heap.size 3 1 vout ((L.bals.take j).map (·.id)).length (((L.bals.take j).map (·.id)).map (Value.int .i64)) ∧ Below W.heap.size W wr
theorem brel_next {L : Lay} {G : Bool} {W w1 w2 : World} {v v' : Value} {j : Nat} {x : Bal} {o : Obj} (hx : L.bals[j]? = some x) (hG : (L.bals.drop (j + 1)).all (balB L.els) = G) (hw : ∀ x ∈ (L.bals.take j).map (·.id), (Lit.int .i64 x).wf = true) (h1 : 1 ≤ x.id) (h2 : x.id ≤ 1073741824)
    (ho : w1.ownsRow W.heap.size 3 1 v ((L.bals.take j).map (·.id)).length (((L.bals.take j).map (·.id)).map (Value.int .i64))) (hb : Below W.heap.size W w1)
    (h3 : w2.ownsRow W.heap.size 3 1 v' (((L.bals.take j).map (·.id)).length + 1) (((L.bals.take j).map (·.id)).map (Value.int .i64) ++ [.int .i64 x.id])) (hg : (w1.alloc o).grownBy w2 v.ownBlock) : BRel L G W v' (.int .i64 ((j : Int) + 1)) w2 := by
  obtain ⟨hj, e⟩ := List.getElem?_eq_some_iff.1 hx
  have ht : (L.bals.take (j + 1)).map (·.id) = (L.bals.take j).map (·.id) ++ [x.id] := by
    rw [List.take_succ_eq_append_getElem hj, List.map_append, e]
    rfl
  refine ⟨j + 1, by simp, hj, hG, ?_, ?_, (hb.alloc hb.size o).grown hg (by have := hb.size; simp; omega) (fun g hg => (ho.lt g hg).1)⟩
  · rw [ht]
    intro y hy
    rcases List.mem_append.1 hy with hy | hy
    · exact hw y hy
    · rw [List.mem_singleton.1 hy]; exact WalkArith.wf_i64 (by omega)
  · rw [ht, List.map_append, List.length_append]
    exact h3
theorem bbox_new (w : World) (u1 u2 u3 : Int) : (w.alloc (.cells #[.int .i64 u1, .int .i64 u2, .int .i64 u3] 74)).heap.size = w.heap.size + 1 := by simp

theorem elements_joints {L : Lay} (h : elementsF L = 0) : L.joints.all (jointB L.els) = true := by
  unfold elementsF at h
  split at h
  · cases h
  · split at h
    · cases h
    · split at h
      · cases h
      · rename_i h3
        simpa using h3

set_option maxRecDepth 100000 in
set_option maxHeartbeats 3200000 in
theorem rbalises_any (L : Lay) {vs ve vj vg vb : Value} (w : World) (h : LayAt (In w) w L vs ve vj vg vb) (hn4 : L.bals.length ≤ 1000) :
    Calls Tryd.prog 14 #[layV L vs ve vj vg vb] w (NumOut (balisesF L) w) := by
  obtain ⟨a, cap, rfl, hm, _⟩ := h.el
  obtain ⟨a3, cap3, rfl, hm3, _⟩ := h.bl
  have B0 := Lib.hid ((Below.refl w.heap.size w).alloc (Nat.le_refl _) (.cells #[.string (bs L.name), vs, .slice a L.els.length cap, vj, vg, .slice a3 L.bals.length cap3] 28))
  have HH := Lib.hid (h.box (.cells #[.string (bs L.name), vs, .slice a L.els.length cap, vj, vg, .slice a3 L.bals.length cap3] 28))
  have HX := Lib.hid (lbox_new w 28 L vs (.slice a L.els.length cap) vj vg (.slice a3 L.bals.length cap3))
  have HS0 : Hid (w.heap.size < (w.alloc (.cells #[.string (bs L.name), vs, .slice a L.els.length cap, vj, vg, .slice a3 L.bals.length cap3] 28)).heap.size) := by simp [Hid]
  clear h
  unfold layV
  go_enter Tryd.func14, Tryd.ntmps14
  go_wp2_with fail
  obtain ⟨W, hW⟩ : ∃ W, w.alloc (.cells #[.string (bs L.name), vs, .slice a L.els.length cap, vj, vg, .slice a3 L.bals.length cap3] 28) = W := ⟨_, rfl⟩
  rw [hW] at B0 HH HX HS0 ⊢
  clear hW
  obtain ⟨a', cap', he, _, hel⟩ := HH.out.el
  cases he
  have HE := Lib.hid hel
  obtain ⟨a', cap', he, _, hbl⟩ := HH.out.bl
  cases he
  have HJ := Lib.hid hbl
  clear hel hbl
  obtain ⟨J, hJ⟩ : ∃ J, L.bals.all (balB L.els) = J := ⟨_, rfl⟩
  have HJA := Lib.hid hJ
  clear hJ
  obtain ⟨i0, hi, hz0, hz1, hz2⟩ := info_parts infoI
  have HI0 := Lib.hid hi
  have HZ0 := Lib.hid hz0
  have HZ1 := Lib.hid hz1
  have HZ2 := Lib.hid hz2
  clear hi hz0 hz1 hz2
  go_loopw [3, 9] (fun vout vj wr => BRel L J W vout vj wr) (fun _ vj _ => L.bals.length - (RowKit.intOf vj).toNat)
  case atStart => exact ⟨0, rfl, Nat.zero_le _, HJA.out, by simp, World.ownsRow_nil _ _ _ _, Below.refl _ _⟩
  case round =>
    obtain ⟨j, rfl, hj, hr, hw, ho, hb⟩ := hrel
    have HR := Lib.hid hr
    have HO := Lib.hid ho
    have HB := Lib.hid hb
    have HWF := Lib.hid hw
    clear hr ho hb hw
    obtain ⟨x0, x1, x2, x3, x4, x5⟩ := HX.out.next HB.out HS0.out
    have hlt0 : w.heap.size < wr.heap.size := Nat.lt_of_lt_of_le HS0.out HB.out.size
    by_cases hlt : j < L.bals.length
    · obtain ⟨x, hx⟩ := at_lt hlt
      obtain ⟨b, off, rfl, c0, c1, c2⟩ := HJ.out wr HB.out j x hx
      have HXX := Lib.hid hx
      rw [drop_at hx, List.all_cons] at HR
      clear hx
      obtain ⟨d, e, o⟩ := x
      simp only at c0 c1 c2
      have HBO := Lib.hid (bel_next B0.out (HB.out.alloc HB.out.size (.cells #[.int .i64 d, .int .i64 e, .int .i64 o] 74)))
      have bad : (d < 1 ∨ 1073741824 < d ∨ e < 0 ∨ (L.els.length : Int) ≤ e ∨ o < 0) → Hid (balisesF L = 1) := fun hb => balises_arg (L := L) (by
        rw [HJA.out]
        have := HR.out
        rwa [bal_no (b := ⟨d, e, o⟩) hb, Bool.false_and, eq_comm] at this)
      by_cases h1 : d < 1
      · have HF := bad (.inl h1)
        have k1 : decide (d < 1) = true := decide_eq_true h1
        clear bad
        go_wp2_with fail
        go_quiet (fail)
        go_wp2_with fail
        go_ret
        exact ⟨by rw [HF.out]; rfl, below_drewN HBO.out _⟩
      · have k1 : decide (d < 1) = false := decide_eq_false h1
        by_cases h2 : 1073741824 < d
        · have HF := bad (.inr (.inl h2))
          have k2 : decide (1073741824 < d) = true := decide_eq_true h2
          clear bad
          go_wp2_with fail
          go_quiet (fail)
          go_wp2_with fail
          go_ret
          exact ⟨by rw [HF.out]; rfl, below_drewN HBO.out _⟩
        · have k2 : decide (1073741824 < d) = false := decide_eq_false h2
          by_cases h3 : e < 0
          · have HF := bad (.inr (.inr (.inl h3)))
            have k3 : decide (e < 0) = true := decide_eq_true h3
            clear bad
            go_wp2_with fail
            go_quiet (fail)
            go_wp2_with fail
            go_ret
            exact ⟨by rw [HF.out]; rfl, below_drewN HBO.out _⟩
          · have k3 : decide (e < 0) = false := decide_eq_false h3
            by_cases h4 : (L.els.length : Int) ≤ e
            · have HF := bad (.inr (.inr (.inr (.inl h4))))
              have k4 : decide ((L.els.length : Int) ≤ e) = true := decide_eq_true h4
              clear bad
              go_wp2_with fail
              go_quiet (fail)
              go_wp2_with fail
              go_ret
              exact ⟨by rw [HF.out]; rfl, below_drewN HBO.out _⟩
            · have k4 : decide ((L.els.length : Int) ≤ e) = false := decide_eq_false h4
              by_cases h5 : o < 0
              · have HF := bad (.inr (.inr (.inr (.inr h5))))
                have k5 : decide (o < 0) = true := decide_eq_true h5
                clear bad
                go_wp2_with fail
                go_quiet (fail)
                go_wp2_with fail
                go_ret
                exact ⟨by rw [HF.out]; rfl, below_drewN HBO.out _⟩
              · have k5 : decide (o < 0) = false := decide_eq_false h5
                obtain ⟨i, rfl⟩ := Int.eq_ofNat_of_zero_le (show 0 ≤ e by omega)
                obtain ⟨y, hy⟩ := at_lt (l := L.els) (k := i) (by omega)
                obtain ⟨bb, oo, rfl, _, _, s2, _⟩ := HE.out wr HB.out i y hy
                have HV := Lib.hid (bal_at (els := L.els) (b := ⟨d, (i : Int), o⟩) (x := y) (by simp only; omega) (by simp only; omega) (by simp only; omega) (by simp only; omega) (by simpa using hy))
                have hbb : bb < wr.heap.size := block_lt_of_cell s2
                obtain ⟨ny, ky, ly, gy, py, oy, sy⟩ := y
                simp only at s2 HV
                have g0 : (0 : Int) ≤ (i : Int) := by omega
                have g2 : i < L.els.length := by omega
                have m1 : decide (L.els.length ≤ i) = false := decide_eq_false (by omega)
                have m2 : decide ((i : Int) < 0) = false := decide_eq_false (by omega)
                have g1 : (i : Int) < (L.els.length : Int) := by omega
                clear bad hy h3 h4 k3 k4
                by_cases h6 : ly < o
                · have HF := Lib.hid (balises_arg (L := L) (by rw [HJA.out]; have := HR.out; rwa [HV.out, decide_eq_false (by omega), Bool.false_and, eq_comm] at this))
                  have k6 : decide (ly < o) = true := decide_eq_true h6
                  go_wp2_with fail
                  go_quiet (fail)
                  go_wp2_with fail
                  go_ret
                  exact ⟨by rw [HF.out]; rfl, below_drewN HBO.out _⟩
                · have k6 : decide (ly < o) = false := decide_eq_false h6
                  have HF := Lib.hid (show (L.bals.drop (j + 1)).all (balB L.els) = J by have := HR.out; rwa [HV.out, decide_eq_true (by omega), Bool.true_and] at this)
                  have hnl : ((L.bals.take j).map (·.id)).length ≤ 1000 := by rw [List.length_map, List.length_take]; omega
                  go_wp2_with fail
                  go_quiet (fail)
                  have bq := below_drewN ((Below.refl wr.heap.size wr).alloc (Nat.le_refl _) (.cells #[.int .i64 d, .int .i64 (i : Int), .int .i64 o] 74)) nq
                  have y0 : ((wr.alloc (.cells #[.int .i64 d, .int .i64 (i : Int), .int .i64 o] 74)).drewN nq).cell? ⟨wr.heap.size, 0, none⟩ = some (.int .i64 d) := by
                    show (wr.alloc (.cells #[.int .i64 d, .int .i64 (i : Int), .int .i64 o] 74)).cell? ⟨wr.heap.size, 0, none⟩ = _
                    rw [World.cell?_alloc_at _ _ _ _ rfl]
                    rfl
                  have HXX2 := Lib.hid (show L.bals[j]? = some ⟨d, (i : Int), o⟩ from HXX.out)
                  obtain ⟨W7, hW7⟩ : ∃ W7, (wr.alloc (.cells #[.int .i64 d, .int .i64 (i : Int), .int .i64 o] 74)).drewN nq = W7 := ⟨_, rfl⟩
                  rw [hW7] at bq y0 ⊢
                  have HO4 := Lib.hid (own_below HO.out bq)
                  have HS4 := Lib.hid (Nat.le_trans HB.out.size bq.size)
                  have HBJ := Lib.hid (bel_next HB.out bq)
                  have HD1 := Lib.hid (show 1 ≤ d by omega)
                  have HD2 := Lib.hid (show d ≤ 1073741824 by omega)
                  clear hW7 bq x0 x1 x2 x3 x4 x5
                  go_wp2_with (at_builtin; refine wpList_append_own_at _ rfl (.tmp 51) (.tmp 54) 60 rfl W.heap.size 3 i0 (.int .i64 0) 1 8 Tryd.underlying60 HI0.out HZ0.out HZ1.out HZ2.out rfl (by decide) _ _ _ rfl (HO4.out.alloc _) ⟨W7.heap.size, 0, none⟩ 1 1 [.int .i64 d] rfl rfl (cell_one_new _ _ _) (by intro u hu; simp at hu; subst hu; rfl) (by unfold maxLen; omega) (by omega) (by have := HS4.out; simp; omega) ?_; intro v5 w5 h1own hg1 _ _; have R1 := Lib.hid h1own; have R2 := Lib.hid hg1; clear h1own hg1)
                  go_roundw
                  case rel => exact brel_next HXX2.out HF.out HWF.out HD1.out HD2.out HO4.out HBJ.out R1.out R2.out
                  case measure => simp [RowKit.intOf]; omega
    · have he : j = L.bals.length := by omega
      subst he
      have HAJ := Lib.hid (show L.bals.all (balB L.els) = true by
        rw [HJA.out, ← HR.out, List.drop_length]
        rfl)
      have ho := HO.out
      have hw := HWF.out
      rw [List.take_length] at ho hw
      have HE2 := Lib.hid (numbers_any (l := L.bals.map (·.id)) (w := wr) (reads_own ho hw (Nat.le_refl _)))
      obtain ⟨q, hq⟩ : ∃ q, dupB (L.bals.map (·.id)) = q := ⟨_, rfl⟩
      have HQ := Lib.hid hq
      rw [hq] at HE2
      clear hq ho hw hj hlt
      cases q
      · have HF := Lib.hid (balises_ok HAJ.out HQ.out)
        go_wp2_with fail
        refine HE2.out.mono ?_
        rintro e w6 ⟨rfl, b6⟩
        have B6 := Lib.hid (bel_next (bel_next B0.out HB.out) b6)
        clear b6
        go_wp2_with fail
        go_ret
        exact ⟨by rw [HF.out]; rfl, B6.out⟩
      · have HF := Lib.hid (balises_dup HAJ.out HQ.out)
        go_wp2_with fail
        refine HE2.out.mono ?_
        rintro e w6 ⟨rfl, b6⟩
        have B6 := Lib.hid (bel_next (bel_next B0.out HB.out) b6)
        clear b6
        go_wp2_with fail
        go_ret
        exact ⟨by rw [HF.out]; rfl, B6.out⟩

theorem limit_parts {L : Lay} (h : limitB L = true) : L.els.length ≤ 32 ∧ L.secs.length ≤ 24 ∧ L.sigs.length ≤ 20 ∧ L.bals.length ≤ 24 := by
  simp only [limitB, decide_eq_true_eq] at h
  exact ⟨h.2.1, h.2.2.2.1, h.2.2.2.2.1, h.2.2.2.2.2⟩
theorem limit_named {L : Lay} (h : namedF L = 0) : limitB L = true := by
  cases hl : limitB L with
  | true => rfl
  | false => rw [named_limit hl] at h; exact absurd h (by decide)

set_option maxRecDepth 100000 in
set_option maxHeartbeats 1600000 in
theorem rcheck_big (L : Lay) {vs ve vj vg vb : Value} (w : World) (h : LayAt (In w) w L vs ve vj vg vb) (hn5 : L.joints.length ≤ 4398046510976) :
    Calls Tryd.prog 5 #[layV L vs ve vj vg vb] w (NumOut (checkF L) w) := by
  have B0 := Lib.hid ((Below.refl w.heap.size w).alloc (Nat.le_refl _) (.cells #[.string (bs L.name), vs, ve, vj, vg, vb] 28))
  have HH := Lib.hid (h.box (.cells #[.string (bs L.name), vs, ve, vj, vg, vb] 28))
  have HX := Lib.hid (lbox_new w 28 L vs ve vj vg vb)
  have HS0 : Hid (w.heap.size < (w.alloc (.cells #[.string (bs L.name), vs, ve, vj, vg, vb] 28)).heap.size) := by simp [Hid]
  clear h
  obtain ⟨W, hW⟩ : ∃ W, w.alloc (.cells #[.string (bs L.name), vs, ve, vj, vg, vb] 28) = W := ⟨_, rfl⟩
  rw [hW] at B0 HH HX HS0
  have HW := Lib.hid hW
  clear hW
  have H1 := Lib.hid (fun w' (b : Below W.heap.size W w') => rnamed_any L w' (HH.out.next b))
  have H2 := Lib.hid (fun (hl : limitB L = true) w' (b : Below W.heap.size W w') => relements_any L w' (HH.out.next b) (by have := limit_parts hl; omega) (by have := limit_parts hl; omega) hn5)
  have H3 := Lib.hid (fun (hl : limitB L = true) w' (b : Below W.heap.size W w') => rsignals_any L w' (HH.out.next b) (by have := limit_parts hl; omega))
  have H4 := Lib.hid (fun (hl : limitB L = true) w' (b : Below W.heap.size W w') => rbalises_any L w' (HH.out.next b) (by have := limit_parts hl; omega))
  have HC := Lib.hid (show checkF L = if namedF L ≠ 0 then namedF L else if elementsF L ≠ 0 then elementsF L else if signalsF L ≠ 0 then signalsF L else balisesF L from rfl)
  obtain ⟨r, hr⟩ : ∃ r, checkF L = r := ⟨_, rfl⟩
  rw [hr] at HC ⊢
  have HJS := Lib.hid (fun h : elementsF L = 0 => elements_joints h)
  have HLB := Lib.hid (fun h : namedF L = 0 => limit_named h)
  obtain ⟨a, ha⟩ : ∃ a, namedF L = a := ⟨_, rfl⟩
  obtain ⟨b, hb⟩ : ∃ a, elementsF L = a := ⟨_, rfl⟩
  obtain ⟨c, hc⟩ : ∃ a, signalsF L = a := ⟨_, rfl⟩
  obtain ⟨d, hd⟩ : ∃ a, balisesF L = a := ⟨_, rfl⟩
  rw [ha] at H1 HC HLB
  rw [hb] at H2 HC HJS
  rw [hc] at H3 HC
  rw [hd] at H4 HC
  clear hr ha hb hc hd hn5
  unfold layV
  have fin : ∀ (x : Int) (w' : World), Below W.heap.size W w' → x = r → NumOut r w (.returned (.int .i64 x)) w' := fun x w' hb hx => ⟨by rw [hx], bel_next B0.out hb⟩
  have FIN := Lib.hid fin
  clear fin
  go_enter Tryd.func5, Tryd.ntmps5
  go_wp2_with fail
  rw [HW.out]
  obtain ⟨x0, x1, x2, x3, x4, x5⟩ := HX.out
  refine (H1.out W (Below.refl _ _)).mono ?_
  rintro e w1 ⟨rfl, b1⟩
  have B1 := Lib.hid b1
  obtain ⟨y0, y1, y2, y3, y4, y5⟩ := HX.out.next b1 HS0.out
  clear b1
  by_cases h1 : a = 0
  · subst h1
    have hlim := Lib.hid (HLB.out rfl)
    go_wp2_with fail
    refine (H2.out hlim.out w1 B1.out).mono ?_
    rintro e w2 ⟨rfl, b2⟩
    have B2 := Lib.hid (bel_next B1.out b2)
    obtain ⟨z0, z1, z2, z3, z4, z5⟩ := HX.out.next B2.out HS0.out
    clear b2
    by_cases h2 : b = 0
    · subst h2
      have hj := HJS.out rfl
      go_wp2_with fail
      refine (H3.out hlim.out w2 B2.out hj).mono ?_
      rintro e w3 ⟨rfl, b3⟩
      have B3 := Lib.hid (bel_next B2.out b3)
      obtain ⟨t0, t1, t2, t3, t4, t5⟩ := HX.out.next B3.out HS0.out
      clear b3 hj
      by_cases h3 : c = 0
      · subst h3
        have HF := Lib.hid (show d = r by have := HC.out; simpa using this.symm)
        go_wp2_with fail
        refine (H4.out hlim.out w3 B3.out).mono ?_
        rintro e w4 ⟨rfl, b4⟩
        have B4 := Lib.hid (bel_next B3.out b4)
        clear b4
        go_wp2_with fail
        go_ret
        exact FIN.out _ _ B4.out HF.out
      · have HF := Lib.hid (show c = r by have := HC.out; rw [if_neg (by simp), if_neg (by simp), if_pos h3] at this; exact this.symm)
        have hq : (c != 0) = true := by simp [h3]
        go_wp2_with fail
        go_ret
        exact FIN.out _ _ B3.out HF.out
    · have HF := Lib.hid (show b = r by have := HC.out; rw [if_neg (by simp), if_pos h2] at this; exact this.symm)
      have hq : (b != 0) = true := by simp [h2]
      go_wp2_with fail
      go_ret
      exact FIN.out _ _ B2.out HF.out
  · have HF := Lib.hid (show a = r by have := HC.out; rw [if_pos h1] at this; exact this.symm)
    have hq : (a != 0) = true := by simp [h1]
    go_wp2_with fail
    go_ret
    exact FIN.out _ _ B1.out HF.out

theorem rcheck_any (L : Lay) {vs ve vj vg vb : Value} (w : World) (h : LayAt (In w) w L vs ve vj vg vb) (_hn : L.secs.length ≤ 1000) (_hn2 : L.els.length ≤ 1000) (_hn3 : L.sigs.length ≤ 1000) (_hn4 : L.bals.length ≤ 1000) (hn5 : L.joints.length ≤ 1000) :
    Calls Tryd.prog 5 #[layV L vs ve vj vg vb] w (NumOut (checkF L) w) := rcheck_big L w h (by omega)

end Go.Proofs.YtkoldgammeojkaaDoor.Lbal
