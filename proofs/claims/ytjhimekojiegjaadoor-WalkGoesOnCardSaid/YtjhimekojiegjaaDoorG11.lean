/- Texts of this proof, merged: Wrst, Wplm, Wrvl. -/
import Derived.Test.YtjhimekojiegjaaDoorG10
import Derived.Test.YtjhimekojiegjaaDoorG09
import Derived.Test.YtjhimekojiegjaaDoorG05
import Derived.Deep.DeepCutAuto

/- The call of the reference's Settings (walk). -/
namespace Go.Proofs.YtjhimekojiegjaaDoor.Wrst
open Go.RowKit Go.Lib Go.Proofs.YtjhimekojiegjaaDoor.Reads Go.Proofs.YtjhimekojiegjaaDoor.Rows2 Go.Proofs.YtjhimekojiegjaaDoor.Lay Go.Proofs.YtjhimekojiegjaaDoor.Layf Go.Proofs.YtjhimekojiegjaaDoor.Ldup Go.Proofs.YtjhimekojiegjaaDoor.Lext Go.Proofs.YtjhimekojiegjaaDoor.Lnmd Go.Proofs.YtjhimekojiegjaaDoor.Way Go.Proofs.YtjhimekojiegjaaDoor.Wrf Go.Proofs.YtjhimekojiegjaaDoor.Wlst Go.Proofs.YtjhimekojiegjaaDoor.Wbra Go.Proofs.YtjhimekojiegjaaDoor.Wmea Go.Proofs.YtjhimekojiegjaaDoor.Wins
open Go.Proofs.YtjhimekojiegjaaDoor.Text hiding lineL joinR

theorem ins_len : ∀ (l : List (Int × Int)) (s : Int × Int), 1 ≤ (insertF l s).length ∧ (insertF l s).length ≤ l.length + 1
  | [], s => ⟨Nat.le_refl _, Nat.le_refl _⟩
  | x :: r, s => by
    rw [insertF]
    have ih := ins_len r s
    split
    · simp only [List.length_cons]; omega
    · split <;> simp
theorem set_yes {els : List Elem} {acc : List (Int × Int)} {s : Stp} {r : List Stp} (h : (needS els s).2 = true) (h2 : (needS els s).1 ≠ 0) : setR els acc (s :: r) = setR els (insertF acc (s.1, (needS els s).1)) r := by rw [setR, if_pos ⟨h, h2⟩]
theorem set_no {els : List Elem} {acc : List (Int × Int)} {s : Stp} {r : List Stp} (h : (needS els s).2 = false ∨ (needS els s).1 = 0) : setR els acc (s :: r) = setR els acc r := by
  rw [setR, if_neg]
  rintro ⟨h1, h2⟩
  rcases h with h | h
  · rw [h] at h1; cases h1
  · exact h2 h

/-- What holds at the head of the loop of Settings. -/
def RRel (L : Lay) (way : List Stp) (r : List (Int × Int)) (W : World) (vout vj : Value) (wr : World) : Prop :=
  ∃ (j : Nat) (acc : List (Int × Int)), vj = .int .i64 (j : Int) ∧ j ≤ way.length ∧ setR L.els acc (way.drop j) = r ∧ acc.length ≤ j ∧ Grid (fun b => W.heap.size ≤ b ∧ b < wr.heap.size) wr vout 2 (acc.map pCells) ∧ (vout = .slice none 0 0 ∨ ∃ b off n c, vout = .slice (some ⟨b, off, none⟩) n c) ∧ Below W.heap.size W wr

theorem made_some {l : List (Int × Int)} {w w' : World} {v : Value} {ok : Nat → Prop} (h : Grid ok w' v 2 (l.map pCells)) (hl : 1 ≤ l.length) (_ : w = w) : ∃ b off n c, v = .slice (some ⟨b, off, none⟩) n c := by
  obtain ⟨a, cap, rfl, _, _, _, h5⟩ := h.shape
  obtain ⟨x, hx⟩ := at_lt (l := l) (k := 0) hl
  obtain ⟨b, off, rfl, _, _⟩ := h5 0 _ (by rw [List.getElem?_map, hx]; rfl)
  exact ⟨b, off, _, cap, rfl⟩

set_option maxRecDepth 100000 in
set_option maxHeartbeats 3200000 in
theorem wsettings_any (L : Lay) {way : List Stp} {vs ve vj vg vb v : Value} (w : World) (h : LayAt (In w) w L vs ve vj vg vb) (hv : Grid (In w) w v 3 (way.map stCells)) (hn : way.length ≤ 900) :
    Calls Tryd.prog 25 #[layV L vs ve vj vg vb, v] w (MadeOut pCells 2 (settingsF L.els way) w) := by
  obtain ⟨a2, cap2, rfl, hm2, _⟩ := way_cells hv
  obtain ⟨r, hr⟩ : ∃ r, settingsF L.els way = r := ⟨_, rfl⟩
  rw [hr]
  have HR := Lib.hid (show setR L.els [] (way.drop 0) = r by rw [List.drop_zero]; exact hr)
  have b0 := (Below.refl w.heap.size w).alloc (Nat.le_refl _) (.cells #[.string (bs L.name), vs, ve, vj, vg, vb] 28)
  have HH := Lib.hid (h.next b0)
  have HV := Lib.hid (hv.keep (keep_next b0))
  have B0 := Lib.hid b0
  have HX := Lib.hid (lbox_new w 28 L vs ve vj vg vb)
  have HS0 : Hid (w.heap.size < (w.alloc (.cells #[.string (bs L.name), vs, ve, vj, vg, vb] 28)).heap.size) := by simp [Hid]
  clear h hv hr b0
  unfold layV
  go_enter Tryd.func25, Tryd.ntmps25
  go_wp2_with fail
  obtain ⟨W, hW⟩ : ∃ W, w.alloc (.cells #[.string (bs L.name), vs, ve, vj, vg, vb] 28) = W := ⟨_, rfl⟩
  rw [hW] at B0 HH HX HS0 HV ⊢
  clear hW
  obtain ⟨_, _, he, _, hcw⟩ := way_cells HV.out
  cases he
  have HC := Lib.hid hcw
  clear hcw
  go_loopw [5, 6] (fun vout vj2 wr => RRel L way r W vout vj2 wr) (fun _ vj2 _ => way.length - (RowKit.intOf vj2).toNat)
  case atStart => exact ⟨0, [], rfl, Nat.zero_le _, HR.out, Nat.le_refl _, grid_nil _ _ _, .inl rfl, Below.refl _ _⟩
  case round =>
    obtain ⟨j, acc, rfl, hj, hr, ha, ho, hsn, hb⟩ := hrel
    have HJ := Lib.hid hr
    have HA := Lib.hid ha
    have HO := Lib.hid ho
    have HSN := Lib.hid hsn
    have HB := Lib.hid hb
    obtain ⟨ag, cg, hvo, _, _, _, _⟩ := ho.shape
    rw [List.length_map] at hvo
    subst hvo
    clear hr ha ho hb hsn
    by_cases hlt : j < way.length
    · obtain ⟨x, hx⟩ := at_lt hlt
      rw [Layf.drop_at hx] at HJ
      have HCX := Lib.hid hx
      obtain ⟨x0, x1, x2, x3, x4, x5⟩ := HX.out.next HB.out HS0.out
      obtain ⟨b, off, rfl, hbl, c0, c1, c2⟩ := HC.out wr HB.out j x hx
      obtain ⟨s1, s2, s3⟩ := x
      simp only at c0 c1 c2
      have hlt0 : w.heap.size < wr.heap.size := Nat.lt_of_lt_of_le HS0.out HB.out.size
      have hbl2 : b < wr.heap.size := Nat.lt_of_lt_of_le hbl HB.out.size
      have k0 := cell_regrown x0
      have k1 := cell_regrown x1
      have k2 := cell_regrown x2
      have k3 := cell_regrown x3
      have k4 := cell_regrown x4
      have k5 := cell_regrown x5
      have k6 := cell_regrown c0
      have k7 := cell_regrown c1
      have k8 := cell_regrown c2
      have HY := Lib.hid (fun h h2 => set_yes (els := L.els) (acc := acc) (s := (s1, s2, s3)) (r := way.drop (j + 1)) h h2)
      have HNO := Lib.hid (fun h => set_no (els := L.els) (acc := acc) (s := (s1, s2, s3)) (r := way.drop (j + 1)) h)
      obtain ⟨⟨r1, r2⟩, hrr⟩ : ∃ q, needS L.els (s1, s2, s3) = q := ⟨_, rfl⟩
      have C1 := Lib.hid (fun d os => Calls.regrown_of (w := wr) (d := d) (os := os) (wneed_any L (s1, s2, s3) _ (HH.out.next (bel_next HB.out (below_regrown wr d os)))))
      rw [hrr] at C1 HY HNO
      unfold layV stV at C1
      try simp only at C1
      simp only at HY HNO
      clear hx x0 x1 x2 x3 x4 x5 c0 c1 c2 hrr
      go_wp2_with fail
      refine wp_region_quiet_below (by kernel_rfl) (by kernel_rfl) ?_
      repeat (go_big_quiet_step (with_reducible exact C1.out _ _))
      refine wpQuiet_nil ?_
      intro w6 hw'
      obtain ⟨⟨dq, osq⟩, hw''⟩ := hw'
      have b6 : Below wr.heap.size wr w6 := by
        rw [hw'']
        exact below_regrown wr dq osq
      have B6 := Lib.hid (bel_next HB.out b6)
      have HO6 := Lib.hid (HO.out.keep (ok' := fun b => W.heap.size ≤ b ∧ b < w6.heap.size) fun b hb => ⟨⟨hb.1, Nat.lt_of_lt_of_le hb.2 b6.size⟩, b6.block b hb.2⟩)
      clear hw'' b6 k0 k1 k2 k3 k4 k5 k6 k7 k8 C1
      obtain ⟨_, _, e', _, c0, c1, c2⟩ := HC.out _ B6.out j _ HCX.out
      cases e'
      simp only at c0 c1 c2
      cases r2 with
      | false =>
        have HF := Lib.hid (show setR L.els acc (way.drop (j + 1)) = r by rw [← HJ.out, HNO.out (.inl rfl)])
        go_wp2_with fail
        go_roundw
        case rel => exact ⟨j + 1, acc, by simp, hlt, HF.out, Nat.le_succ_of_le HA.out, HO6.out, HSN.out, B6.out⟩
        case measure => simp [RowKit.intOf]; omega
      | true =>
        by_cases hp : r1 = 0
        · subst hp
          have HF := Lib.hid (show setR L.els acc (way.drop (j + 1)) = r by rw [← HJ.out, HNO.out (.inr rfl)])
          have hpq : ((0 : Int) != 0) = false := rfl
          go_wp2_with fail
          go_roundw
          case rel => exact ⟨j + 1, acc, by simp, hlt, HF.out, Nat.le_succ_of_le HA.out, HO6.out, HSN.out, B6.out⟩
          case measure => simp [RowKit.intOf]; omega
        · have hpq : (r1 != 0) = true := by simpa using hp
          have HF := Lib.hid (show setR L.els (insertF acc (s1, r1)) (way.drop (j + 1)) = r by
            rw [← HJ.out]
            first
              | exact (HY.out trivial hp).symm
              | exact (HY.out hp).symm
              | exact (HY.out rfl hp).symm)
          have C3 := Lib.hid (winsert_any (s1, r1) (HO6.out.keep fun b hb => ⟨hb.2, rfl⟩) HSN.out (by have := HA.out; omega))
          unfold pV at C3
          try simp only at C3
          clear hp
          go_wp2_with fail
          with_reducible refine C3.out.mono ?_
          rintro e w7 ⟨v7, rfl, g7, b7⟩
          obtain ⟨b8, off8, n8, c8, hv8⟩ := made_some (w := w7) g7 (ins_len acc (s1, r1)).1 rfl
          subst hv8
          have HO7 := Lib.hid (g7.keep (ok' := fun b => W.heap.size ≤ b ∧ b < w7.heap.size) (w' := w7) fun b hb => ⟨⟨Nat.le_trans B6.out.size hb.1, hb.2⟩, rfl⟩)
          have B7 := Lib.hid (bel_next B6.out b7)
          have HL7 := Lib.hid (ins_len acc (s1, r1)).2
          clear g7 b7
          go_wp2_with fail
          go_roundw
          case rel => exact ⟨j + 1, insertF acc (s1, r1), by simp, hlt, HF.out, Nat.le_trans HL7.out (Nat.succ_le_succ HA.out), HO7.out, .inr ⟨_, _, _, _, rfl⟩, B7.out⟩
          case measure => simp [RowKit.intOf]; omega
    · have he : j = way.length := by omega
      subst he
      have HF := Lib.hid (show acc = r by rw [← HJ.out, List.drop_length]; rfl)
      go_wp2_with fail
      go_ret
      rw [← HF.out]
      exact ⟨_, rfl, HO.out.keep fun b hb => ⟨⟨Nat.le_trans B0.out.size hb.1, hb.2⟩, rfl⟩, bel_next B0.out HB.out⟩

end Go.Proofs.YtjhimekojiegjaaDoor.Wrst

/- Settings: sorting and making one of equals gives what inserting gives. Plain. -/
namespace Go.Proofs.YtjhimekojiegjaaDoor.Wplm
open Go.Sort Go.Proofs.YtjhimekojiegjaaDoor.Way Go.Proofs.YtjhimekojiegjaaDoor.Wcmp Go.Proofs.YtjhimekojiegjaaDoor.Wcpt Go.Proofs.YtjhimekojiegjaaDoor.Wsrt Go.Proofs.YtjhimekojiegjaaDoor.Wpst Go.Proofs.YtjhimekojiegjaaDoor.Wrst Go.Proofs.YtjhimekojiegjaaDoor.Wins Go.Proofs.YtjhimekojiegjaaDoor.Lay

abbrev Str (l : List (Int × Int)) : Prop := l.Pairwise fun x y => lessB x y = true

theorem raw_acc (els : List Elem) : ∀ (way : List Stp) (acc : List (Int × Int)), rawR els acc way = acc ++ rawR els [] way
  | [], acc => by simp [rawR]
  | s :: r, acc => by
    rw [rawR, rawR]
    split
    · rw [raw_acc els r (acc ++ _), raw_acc els r ([] ++ _)]
      simp
    · exact raw_acc els r acc
theorem set_fold (els : List Elem) : ∀ (way : List Stp) (acc : List (Int × Int)), setR els acc way = (rawR els [] way).foldl insertF acc
  | [], acc => rfl
  | s :: r, acc => by
    rw [setR, rawR]
    split
    · rw [raw_acc els r ([] ++ _), set_fold els r]
      rfl
    · exact set_fold els r acc

theorem less_trans {x y z : Int × Int} (h : lessB x y = true) (k : lessB y z = true) : lessB x z = true := by
  rw [less_iff] at *
  omega
theorem less_irr {x : Int × Int} (h : lessB x x = true) : False := by
  rw [less_iff] at h
  omega
theorem less_tri {x s : Int × Int} (h : lessB x s = false) (hne : x ≠ s) : lessB s x = true := by
  rw [less_not] at h
  rw [less_iff]
  have : ¬ (x.1 = s.1 ∧ x.2 = s.2) := fun e => hne (Prod.ext e.1 e.2)
  omega
theorem ins_mem {x s : Int × Int} : ∀ {l : List (Int × Int)}, x ∈ insertF l s ↔ x = s ∨ x ∈ l
  | [] => by simp [insertF]
  | y :: r => by
    rw [insertF]
    split
    · rw [List.mem_cons, ins_mem, List.mem_cons]
      constructor
      · rintro (h | h | h)
        · exact .inr (.inl h)
        · exact .inl h
        · exact .inr (.inr h)
      · rintro (h | h | h)
        · exact .inr (.inl h)
        · exact .inl h
        · exact .inr (.inr h)
    · split
      · rename_i h
        constructor
        · exact .inr
        · rintro (h2 | h2)
          · rw [h2, ← h]; exact List.mem_cons_self
          · exact h2
      · rw [List.mem_cons]
theorem ins_str {s : Int × Int} : ∀ {l : List (Int × Int)}, Str l → Str (insertF l s)
  | [], _ => by simp [insertF]
  | y :: r, h => by
    have h := List.pairwise_cons.1 h
    rw [insertF]
    split
    · rename_i hy
      refine List.pairwise_cons.2 ?_
      refine ⟨fun z hz => ?_, ins_str h.2⟩
      rcases ins_mem.1 hz with rfl | hz
      · exact hy
      · exact h.1 z hz
    · rename_i hy
      split
      · exact List.pairwise_cons.2 h
      · rename_i hne
        have hs : lessB s y = true := less_tri (by simpa using hy) hne
        refine List.pairwise_cons.2 ⟨fun z hz => ?_, List.pairwise_cons.2 h⟩
        rcases List.mem_cons.1 hz with rfl | hz
        · exact hs
        · exact less_trans hs (h.1 z hz)
theorem fold_str : ∀ (r : List (Int × Int)) {acc : List (Int × Int)}, Str acc → Str (r.foldl insertF acc) ∧ ∀ x, x ∈ r.foldl insertF acc ↔ x ∈ r ∨ x ∈ acc
  | [], acc, h => ⟨h, fun x => by simp⟩
  | s :: r, acc, h => by
    obtain ⟨h1, h2⟩ := fold_str r (ins_str (s := s) h)
    refine ⟨h1, fun x => ?_⟩
    rw [List.foldl_cons, h2, ins_mem, List.mem_cons]
    constructor
    · rintro (h | h | h)
      · exact .inl (.inr h)
      · exact .inl (.inl h)
      · exact .inr h
    · rintro ((h | h) | h)
      · exact .inr (.inl h)
      · exact .inl h
      · exact .inr (.inr h)
theorem str_eq : ∀ {l m : List (Int × Int)}, Str l → Str m → (∀ x, x ∈ l ↔ x ∈ m) → l = m
  | [], [], _, _, _ => rfl
  | [], y :: m, _, _, h => absurd ((h y).2 List.mem_cons_self) (by simp)
  | x :: l, [], _, _, h => absurd ((h x).1 List.mem_cons_self) (by simp)
  | x :: l, y :: m, hl, hm, h => by
    have hl := List.pairwise_cons.1 hl
    have hm := List.pairwise_cons.1 hm
    have e : x = y := by
      rcases List.mem_cons.1 ((h x).1 List.mem_cons_self) with e | e
      · exact e
      · rcases List.mem_cons.1 ((h y).2 List.mem_cons_self) with e2 | e2
        · exact e2.symm
        · exact absurd (less_trans (hm.1 x e) (hl.1 y e2)) less_irr
    subst e
    congr 1
    refine str_eq hl.2 hm.2 fun z => ?_
    constructor
    · intro hz
      rcases List.mem_cons.1 ((h z).1 (List.mem_cons_of_mem _ hz)) with rfl | e
      · exact absurd (hl.1 z hz) less_irr
      · exact e
    · intro hz
      rcases List.mem_cons.1 ((h z).2 (List.mem_cons_of_mem _ hz)) with rfl | e
      · exact absurd (hm.1 z hz) less_irr
      · exact e

/-- Not greater. -/
def leB (x y : Int × Int) : Bool := !(ltOf cmpS) y x
theorem le_iff {x y : Int × Int} : leB x y = true ↔ lessB y x = false := by
  unfold leB
  rw [ltS]
  simp
theorem comp_str : ∀ {l : List (Int × Int)} {p : Int × Int}, (p :: l).Pairwise (fun x y => leB x y = true) → Str (p :: compR p l) ∧ ∀ x, x ∈ p :: compR p l ↔ x ∈ p :: l
  | [], p, _ => ⟨by simp [compR], fun x => by simp [compR]⟩
  | y :: r, p, h => by
    have h2 := List.pairwise_cons.1 h
    rw [compR]
    split
    · rename_i e
      subst e
      obtain ⟨h3, h4⟩ := comp_str h2.2
      refine ⟨h3, fun x => ?_⟩
      rw [h4, List.mem_cons, List.mem_cons, List.mem_cons]
      constructor
      · rintro (h | h)
        · exact .inl h
        · exact .inr (.inr h)
      · rintro (h | h | h)
        · exact .inl h
        · exact .inl h
        · exact .inr h
    · rename_i hne
      obtain ⟨h3, h4⟩ := comp_str h2.2
      have hpy : lessB p y = true := less_tri (le_iff.1 (h2.1 y List.mem_cons_self)) hne
      refine ⟨List.pairwise_cons.2 ⟨fun z hz => ?_, h3⟩, fun x => ?_⟩
      · rcases List.mem_cons.1 hz with rfl | hz
        · exact hpy
        · exact less_trans hpy ((List.pairwise_cons.1 h3).1 z hz)
      · rw [List.mem_cons, h4, List.mem_cons (a := x) (b := p)]
theorem sort_le (l : List (Int × Int)) : (sortF l).Pairwise fun x y => leB x y = true := by
  refine List.pairwise_mergeSort (le := leB) (fun a b c h k => ?_) (fun a b => ?_) l
  · rw [le_iff, less_not] at *
    omega
  · simp only [Bool.or_eq_true, le_iff, less_not]
    omega
theorem sort_mem {l : List (Int × Int)} {x : Int × Int} : x ∈ sortF l ↔ x ∈ l := List.mem_mergeSort
theorem compF_str (l : List (Int × Int)) : Str (compF (sortF l)) ∧ ∀ x, x ∈ compF (sortF l) ↔ x ∈ l := by
  have hs := sort_le l
  have hm := fun x => sort_mem (l := l) (x := x)
  cases h : sortF l with
  | nil =>
    rw [h] at hm
    exact ⟨by simp [compF], fun x => by rw [compF]; exact hm x⟩
  | cons p r =>
    rw [h] at hs hm
    obtain ⟨h1, h2⟩ := comp_str hs
    exact ⟨h1, fun x => (h2 x).trans (hm x)⟩
/-- Both lists of settings are one. -/
theorem pset_eq (els : List Elem) (way : List Stp) : psetF els way = settingsF els way := by
  obtain ⟨a1, a2⟩ := compF_str (rawR els [] way)
  obtain ⟨b1, b2⟩ := fold_str (rawR els [] way) (acc := []) (by simp)
  rw [psetF, settingsF, set_fold]
  exact str_eq a1 b1 fun x => by rw [a2, b2]; simp
/-- What is set, and in which order. -/
theorem settings_str (els : List Elem) (way : List Stp) : Str (settingsF els way) ∧ ∀ x, x ∈ settingsF els way ↔ x ∈ rawR els [] way := by
  obtain ⟨b1, b2⟩ := fold_str (rawR els [] way) (acc := []) (by simp)
  rw [settingsF, set_fold]
  exact ⟨b1, fun x => by rw [b2]; simp⟩
theorem raw_mem (els : List Elem) {x : Int × Int} : ∀ {way : List Stp}, x ∈ rawR els [] way ↔ ∃ s ∈ way, (needS els s).2 = true ∧ (needS els s).1 ≠ 0 ∧ x = (s.1, (needS els s).1)
  | [] => by simp [rawR]
  | s :: r => by
    rw [rawR]
    split
    · rename_i h
      rw [raw_acc, List.mem_append, raw_mem els]
      constructor
      · rintro (h2 | ⟨t, ht, h3⟩)
        · exact ⟨s, List.mem_cons_self, h.1, h.2, by simpa using h2⟩
        · exact ⟨t, List.mem_cons_of_mem _ ht, h3⟩
      · rintro ⟨t, ht, h3⟩
        rcases List.mem_cons.1 ht with rfl | ht
        · exact .inl (by simpa using h3.2.2)
        · exact .inr ⟨t, ht, h3⟩
    · rename_i h
      rw [raw_mem els]
      constructor
      · rintro ⟨t, ht, h3⟩
        exact ⟨t, List.mem_cons_of_mem _ ht, h3⟩
      · rintro ⟨t, ht, h3⟩
        rcases List.mem_cons.1 ht with rfl | ht
        · exact absurd ⟨h3.1, h3.2.1⟩ h
        · exact ⟨t, ht, h3⟩

end Go.Proofs.YtjhimekojiegjaaDoor.Wplm

/- The call of the reference's Valid (walk). -/
namespace Go.Proofs.YtjhimekojiegjaaDoor.Wrvl
open Go.RowKit Go.Lib Go.Proofs.YtjhimekojiegjaaDoor.Reads Go.Proofs.YtjhimekojiegjaaDoor.Rows2 Go.Proofs.YtjhimekojiegjaaDoor.Lay Go.Proofs.YtjhimekojiegjaaDoor.Layf Go.Proofs.YtjhimekojiegjaaDoor.Ldup Go.Proofs.YtjhimekojiegjaaDoor.Lext Go.Proofs.YtjhimekojiegjaaDoor.Ljoi Go.Proofs.YtjhimekojiegjaaDoor.Lnmd Go.Proofs.YtjhimekojiegjaaDoor.Way Go.Proofs.YtjhimekojiegjaaDoor.Wrf Go.Proofs.YtjhimekojiegjaaDoor.Wlst Go.Proofs.YtjhimekojiegjaaDoor.Wbra Go.Proofs.YtjhimekojiegjaaDoor.Wmea
open Go.Proofs.YtjhimekojiegjaaDoor.Text hiding lineL joinR

theorem goes_need {L : Lay} {bef : List Stp} {s : Stp} {r : List Stp} (h : (needS L.els s).2 = false) : goesR L bef (s :: r) = false := by rw [goesR, goesB, h]; rfl
theorem last_take {α : Type} {l : List α} {j : Nat} {p : α} (h : l[j]? = some p) : (l.take (j + 1)).getLast? = some p := by rw [take_next h]; simp
theorem goes_next {L : Lay} {bef : List Stp} {p s : Stp} {r : List Stp} (hl : bef.getLast? = some p) (h : nextS L p ≠ ((s.1, s.2.1), true)) : goesR L bef (s :: r) = false := by
  rw [goesR, goesB, hl]
  simp only [decide_eq_false h, Bool.false_and, Bool.and_false]
theorem goes_twice {L : Lay} {bef : List Stp} {p s : Stp} {r : List Stp} (hp : p ∈ bef) (h : p.1 = s.1) : goesR L bef (s :: r) = false := by
  have e : (bef.all fun p => decide (p.1 ≠ s.1)) = false := by
    rw [List.all_eq_false]
    exact ⟨p, hp, by simp [h]⟩
  rw [goesR, goesB, e]
  simp
theorem goes_on0 {L : Lay} {s : Stp} {r : List Stp} (h : (needS L.els s).2 = true) : goesR L [] (s :: r) = goesR L [s] r := by rw [goesR, goesB, h]; rfl
theorem goes_on {L : Lay} {bef : List Stp} {p s : Stp} {r : List Stp} (h : (needS L.els s).2 = true) (hl : bef.getLast? = some p) (hn : nextS L p = ((s.1, s.2.1), true)) (ha : ∀ x ∈ bef, x.1 ≠ s.1) : goesR L bef (s :: r) = goesR L (bef ++ [s]) r := by
  have e : (bef.all fun p => decide (p.1 ≠ s.1)) = true := by
    rw [List.all_eq_true]
    intro x hx
    simpa using ha x hx
  rw [goesR, goesB, h, hl]
  simp only [decide_eq_true hn, e, Bool.true_and, Bool.and_self]

set_option maxRecDepth 100000 in
set_option maxHeartbeats 6400000 in
theorem wvalid_any (L : Lay) {way : List Stp} {vs ve vj vg vb v : Value} (w : World) (h : LayAt (In w) w L vs ve vj vg vb) (hv : Grid (In w) w v 3 (way.map stCells)) :
    Calls Tryd.prog 17 #[layV L vs ve vj vg vb, v] w (BoolOut (validF L way) w) := by
  obtain ⟨a2, cap2, rfl, hm2, _⟩ := way_cells hv
  have b0 := (Below.refl w.heap.size w).alloc (Nat.le_refl _) (.cells #[.string (bs L.name), vs, ve, vj, vg, vb] 28)
  by_cases h1 : way.length = 0
  · have hnot : ¬ (1 ≤ way.length ∧ way.length ≤ 64) := by omega
    have HF := Lib.hid (show validF L way = false by rw [validF, decide_eq_false hnot]; rfl)
    have B0 := Lib.hid b0
    clear h hv b0 hnot
    rw [h1]
    unfold layV
    go_enter Tryd.func17, Tryd.ntmps17
    go_wp2_with fail
    go_ret
    exact ⟨by rw [HF.out]; rfl, B0.out⟩
  by_cases h2 : 64 < way.length
  · have hnot : ¬ (1 ≤ way.length ∧ way.length ≤ 64) := by omega
    have HF := Lib.hid (show validF L way = false by rw [validF, decide_eq_false hnot]; rfl)
    have B0 := Lib.hid b0
    have hd : ((way.length : Int) == 0) = false := beq_eq_false_iff_ne.2 (by omega)
    clear h hv b0 hnot
    unfold layV
    go_enter Tryd.func17, Tryd.ntmps17
    go_wp2_with fail
    go_ret
    exact ⟨by rw [HF.out]; rfl, B0.out⟩
  have hd : ((way.length : Int) == 0) = false := beq_eq_false_iff_ne.2 (by omega)
  obtain ⟨r, hr⟩ : ∃ r, goesR L [] way = r := ⟨_, rfl⟩
  have hyes : 1 ≤ way.length ∧ way.length ≤ 64 := by omega
  have HQ := Lib.hid (show validF L way = r by rw [validF, decide_eq_true hyes, hr]; rfl)
  clear hyes
  have HR := Lib.hid (show goesR L (way.take 0) (way.drop 0) = r from hr)
  have HH := Lib.hid (h.next b0)
  have HV := Lib.hid (hv.keep (keep_next b0))
  have B0 := Lib.hid b0
  have HX := Lib.hid (lbox_new w 28 L vs ve vj vg vb)
  have HS0 : Hid (w.heap.size < (w.alloc (.cells #[.string (bs L.name), vs, ve, vj, vg, vb] 28)).heap.size) := by simp [Hid]
  clear h hv hr b0
  rw [HQ.out]
  unfold layV
  go_enter Tryd.func17, Tryd.ntmps17
  go_wp2_with fail
  obtain ⟨W, hW⟩ : ∃ W, w.alloc (.cells #[.string (bs L.name), vs, ve, vj, vg, vb] 28) = W := ⟨_, rfl⟩
  rw [hW] at B0 HH HX HS0 HV ⊢
  clear hW
  obtain ⟨_, _, he, _, hcw⟩ := way_cells HV.out
  cases he
  have HC := Lib.hid hcw
  clear hcw
  go_loopw [5] (fun vj2 wr => ∃ j : Nat, vj2 = .int .i64 (j : Int) ∧ j ≤ way.length ∧ goesR L (way.take j) (way.drop j) = r ∧ Below W.heap.size W wr) (fun vj2 _ => way.length - (RowKit.intOf vj2).toNat)
  case atStart => exact ⟨0, rfl, Nat.zero_le _, HR.out, Below.refl _ _⟩
  case round =>
    obtain ⟨j, rfl, hj, hr, hb⟩ := hrel
    have HJ := Lib.hid hr
    have HB := Lib.hid hb
    clear hr hb
    by_cases hlt : j < way.length
    · obtain ⟨x, hx⟩ := at_lt hlt
      rw [Layf.drop_at hx] at HJ
      have HCX := Lib.hid hx
      obtain ⟨x0, x1, x2, x3, x4, x5⟩ := HX.out.next HB.out HS0.out
      obtain ⟨b, off, rfl, hbl, c0, c1, c2⟩ := HC.out wr HB.out j x hx
      have HTK := Lib.hid (take_next hx)
      obtain ⟨s1, s2, s3⟩ := x
      simp only at c0 c1 c2
      have hlt0 : w.heap.size < wr.heap.size := Nat.lt_of_lt_of_le HS0.out HB.out.size
      have hbl2 : b < wr.heap.size := Nat.lt_of_lt_of_le hbl HB.out.size
      have k0 := cell_regrown x0
      have k1 := cell_regrown x1
      have k2 := cell_regrown x2
      have k3 := cell_regrown x3
      have k4 := cell_regrown x4
      have k5 := cell_regrown x5
      have k6 := cell_regrown c0
      have k7 := cell_regrown c1
      have k8 := cell_regrown c2
      have HNF := Lib.hid (fun h => goes_need (L := L) (bef := way.take j) (s := (s1, s2, s3)) (r := way.drop (j + 1)) h)
      have HNT := Lib.hid (fun p h hl hn ha => goes_on (L := L) (bef := way.take j) (p := p) (s := (s1, s2, s3)) (r := way.drop (j + 1)) h hl hn ha)
      have HN0 := Lib.hid (fun h => goes_on0 (L := L) (s := (s1, s2, s3)) (r := way.drop (j + 1)) h)
      obtain ⟨⟨r1, r2⟩, hrr⟩ : ∃ q, needS L.els (s1, s2, s3) = q := ⟨_, rfl⟩
      have C1 := Lib.hid (fun d os => Calls.regrown_of (w := wr) (d := d) (os := os) (wneed_any L (s1, s2, s3) _ (HH.out.next (bel_next HB.out (below_regrown wr d os)))))
      rw [hrr] at C1
      have HRR := Lib.hid hrr
      unfold layV stV at C1
      try simp only at C1
      clear hx x0 x1 x2 x3 x4 x5 c0 c1 c2 hrr
      go_wp2_with fail
      refine wp_region_quiet_below (by kernel_rfl) (by kernel_rfl) ?_
      repeat (go_big_quiet_step (with_reducible exact C1.out _ _))
      refine wpQuiet_nil ?_
      intro w6 hw'
      obtain ⟨⟨dq, osq⟩, hw''⟩ := hw'
      have b6 : Below wr.heap.size wr w6 := by
        rw [hw'']
        exact below_regrown wr dq osq
      have B6 := Lib.hid (bel_next HB.out b6)
      clear hw'' b6 k0 k1 k2 k3 k4 k5 k6 k7 k8 C1 hbl2 hlt0
      cases r2 with
      | false =>
        have HF := Lib.hid (show r = false by rw [← HJ.out]; exact HNF.out (by rw [HRR.out]))
        go_wp2_with fail
        go_ret
        exact ⟨by rw [HF.out]; rfl, bel_next B0.out B6.out⟩
      | true =>
        rcases j with _ | j
        · have HF := Lib.hid (show goesR L (way.take 1) (way.drop 1) = r by
            rw [HTK.out]
            exact (HN0.out (by rw [HRR.out])).symm.trans HJ.out)
          go_wp2_with fail
          go_loopw [10] (fun vk wk => vk = .int .i64 0 ∧ wk = w6) (fun _ _ => 0)
          case atStart => exact ⟨rfl, rfl⟩
          case round =>
            obtain ⟨rfl, rfl⟩ := hrel
            go_wp2_with fail
            go_roundw
            case rel => exact ⟨1, by simp, by omega, HF.out, B6.out⟩
            case measure => simp [RowKit.intOf]; omega
        · obtain ⟨p, hp⟩ := at_lt (l := way) (k := j) (by omega)
          have HP := Lib.hid hp
          have HLT := Lib.hid (last_take hp)
          obtain ⟨p1, p2, p3⟩ := p
          have HK : Hid (∀ w', Below W.heap.size W w' → w'.cell? ⟨w.heap.size, 0, none⟩ = some (.string (bs L.name)) ∧ w'.cell? ⟨w.heap.size, 1, none⟩ = some vs ∧ w'.cell? ⟨w.heap.size, 2, none⟩ = some ve ∧ w'.cell? ⟨w.heap.size, 3, none⟩ = some vj ∧ w'.cell? ⟨w.heap.size, 4, none⟩ = some vg ∧ w'.cell? ⟨w.heap.size, 5, none⟩ = some vb ∧ w'.cell? ⟨b, off + j * 3, none⟩ = some (.int .i64 p1) ∧ w'.cell? ⟨b, off + j * 3 + 1, none⟩ = some (.int .i64 p2) ∧ w'.cell? ⟨b, off + j * 3 + 2, none⟩ = some (.int .i64 p3)) := fun w' b' => by
            obtain ⟨x0, x1, x2, x3, x4, x5⟩ := HX.out.next b' HS0.out
            obtain ⟨_, _, e', _, d0, d1, d2⟩ := HC.out w' b' j _ HP.out
            cases e'
            exact ⟨x0, x1, x2, x3, x4, x5, d0, d1, d2⟩
          have C2 := Lib.hid (fun w' (b' : Below W.heap.size W w') => wnext_any L (p1, p2, p3) w' (HH.out.next b'))
          obtain ⟨⟨⟨n1, n2⟩, n3⟩, hn⟩ : ∃ q, nextS L (p1, p2, p3) = q := ⟨_, rfl⟩
          rw [hn] at C2
          have HNX := Lib.hid hn
          unfold layV stV EndOut pV at C2
          try simp only at C2
          obtain ⟨x0, x1, x2, x3, x4, x5, y0, y1, y2⟩ := HK.out _ B6.out
          have hi0 : (0 : Int) ≤ (j : Int) := by omega
          have hi1 : (j : Int) < (way.length : Int) := by omega
          have hi2 : IntKind.i64.wrap (j : Int) = (j : Int) := by simp [IntKind.wrap, IntKind.bits, IntKind.signed]; omega
          clear hp hn
          go_upto_region 10 with fail
          go_cut [8, 9] (fun v8 v9 wx => ∃ A, v8 = .pointer (some ⟨A, 0, none⟩) ∧ v9 = .bool n3 ∧ wx.cell? ⟨A, 0, none⟩ = some (.int .i64 n1) ∧ wx.cell? ⟨A, 1, none⟩ = some (.int .i64 n2) ∧ A < wx.heap.size ∧ Below W.heap.size W wx)
          case first =>
            go_region_held3 (fun w' => w'.cell? ⟨w.heap.size, 0, none⟩ = some (.string (bs L.name)) ∧ w'.cell? ⟨w.heap.size, 1, none⟩ = some vs ∧ w'.cell? ⟨w.heap.size, 2, none⟩ = some ve ∧ w'.cell? ⟨w.heap.size, 3, none⟩ = some vj ∧ w'.cell? ⟨w.heap.size, 4, none⟩ = some vg ∧ w'.cell? ⟨w.heap.size, 5, none⟩ = some vb ∧ w'.cell? ⟨b, off + j * 3, none⟩ = some (.int .i64 p1) ∧ w'.cell? ⟨b, off + j * 3 + 1, none⟩ = some (.int .i64 p2) ∧ w'.cell? ⟨b, off + j * 3 + 2, none⟩ = some (.int .i64 p3))
              (first
                | with_reducible exact HK.out _ E7.out
                | with_reducible exact HK.out _ (E7.out.alloc E7.out.size _)
                | with_reducible exact HK.out _ ((E7.out.setCell B6.out.size _).setCell B6.out.size _)
                | with_reducible exact HK.out _ (B6.out.alloc B6.out.size _).drew
                | go_keep)
              (first
                | (go_at_call 12; (with_reducible refine (C2.out _ B6.out.drew).mono ?_); rintro e w7 ⟨rfl, b7⟩; have E7 := Lib.hid (B6.out.drew.trans (b7.mono B6.out.drew.size)); clear b7)
                | (go_at_call 12; (with_reducible refine (C2.out _ (B6.out.alloc B6.out.size _).drew).mono ?_); rintro e w7 ⟨rfl, b7⟩; have E7 := Lib.hid ((B6.out.alloc B6.out.size _).drew.trans (b7.mono (B6.out.alloc B6.out.size _).drew.size)); have HLT7 := Lib.hid (Nat.lt_of_lt_of_le (show w6.heap.size < ((w6.alloc (.cells #[.int .i64 0, .int .i64 0] 32)).drew).heap.size by simp) b7.size); have g3 := (b7.block w6.heap.size (by simp)).trans (heap_alloc_new w6 _); have g4 := cell_of_row w7 _ 0 _ _ _ g3; have g5 := cell_of_row w7 _ 1 _ _ _ g3; have g6 := frozen_of_row w7 _ 0 _ _ g3; have g7 := frozen_of_row w7 _ 1 _ _ g3; clear b7 g3))
            · go_wp2_with fail
              go_meet
              exact ⟨_, rfl, rfl, by rw [World.cell?_alloc_at _ _ _ _ rfl]; rfl, by rw [World.cell?_alloc_at _ _ _ _ rfl]; rfl, by simp, E7.out.alloc E7.out.size _⟩
            · go_wp2_with fail
              go_meet
              exact ⟨_, rfl, rfl, by rw [World.cell?_setCell_other _ _ _ _ (by simp)]; exact World.cell?_setCell_same' _ _ _ (by rw [g4]; rfl), World.cell?_setCell_same' _ _ _ (by rw [World.cell?_setCell_other _ _ _ _ (by simp), g5]; rfl), by simpa [World.setCell] using HLT7.out, (E7.out.setCell B6.out.size _).setCell B6.out.size _⟩
          case rest =>
            obtain ⟨A, rfl, rfl, f0, f1, hA, hb7⟩ := hcut
            have B7 := Lib.hid hb7
            obtain ⟨_, _, e', hbW, c0, c1, c2⟩ := HC.out _ hb7 (j + 1) _ HCX.out
            cases e'
            simp only at c0 c1 c2
            have hblx := Nat.lt_of_lt_of_le hbW hb7.size
            have HNE := Lib.hid (fun h => goes_next (L := L) (bef := way.take (j + 1)) (s := (s1, s2, s3)) (r := way.drop (j + 1 + 1)) HLT.out h)
            rw [HNX.out] at HNE
            clear hb7 x0 x1 x2 x3 x4 x5 y0 y1 y2 hi0 hi1 hi2
            cases n3 with
            | false =>
              have HF := Lib.hid (show r = false by rw [← HJ.out]; exact HNE.out (by simp))
              go_wp2_with fail
              go_quiet (fail)
              go_wp2_with fail
              go_ret
              exact ⟨by rw [HF.out]; rfl, below_drewN (bel_next B0.out B7.out) _⟩
            | true =>
              by_cases hq1 : n1 = s1
              · subst hq1
                have e1 : (n1 != n1) = false := by simp
                by_cases hq2 : n2 = s2
                · subst hq2
                  have e2 : (n2 != n2) = false := by simp
                  have HGO := Lib.hid (fun ha => (HNT.out (p1, p2, p3) (by rw [HRR.out]) HLT.out HNX.out ha).symm.trans HJ.out)
                  rw [← HTK.out] at HGO
                  clear e1 e2
                  go_wp2_with fail
                  go_quiet (fail)
                  go_wp2_with fail
                  go_loopw [10] (fun vk wk => ∃ k : Nat, vk = .int .i64 (k : Int) ∧ k ≤ j + 1 ∧ (∀ x ∈ way.take k, x.1 ≠ n1) ∧ Below W.heap.size W wk) (fun vk _ => j + 1 - (RowKit.intOf vk).toNat)
                  case atStart => exact ⟨0, rfl, by omega, by simp, below_drewN B7.out _⟩
                  case round =>
                    obtain ⟨k, rfl, hk, hall, hb⟩ := hrel
                    have HAL := Lib.hid hall
                    have BK := Lib.hid hb
                    clear hall hb c0 c1 c2 f0 f1 hblx hA
                    by_cases hkl : k < j + 1
                    · obtain ⟨q, hq⟩ := at_lt (l := way) (k := k) (by omega)
                      obtain ⟨_, _, e', _, g0, _, _⟩ := HC.out _ BK.out k _ hq
                      cases e'
                      obtain ⟨_, _, e', _, c0, _, _⟩ := HC.out _ BK.out (j + 1) _ HCX.out
                      cases e'
                      have HTQ := Lib.hid (take_next hq)
                      have HQ9 := Lib.hid hq
                      obtain ⟨q1, q2, q3⟩ := q
                      simp only at g0 c0
                      have hkw : k < way.length := by omega
                      clear hq
                      by_cases hqe : q1 = n1
                      · have HF := Lib.hid (show r = false by
                          rw [← HJ.out]
                          refine goes_twice (p := (q1, q2, q3)) (List.mem_of_getElem? (i := k) ?_) hqe
                          rw [List.getElem?_take_of_lt hkl]
                          exact HQ9.out)
                        subst hqe
                        go_wp2_with fail
                        go_quiet (fail)
                        go_wp2_with fail
                        go_ret
                        exact ⟨by rw [HF.out]; rfl, below_drewN (bel_next B0.out BK.out) _⟩
                      · have hqf : (q1 == n1) = false := by simpa using hqe
                        have HAN : Hid (∀ x ∈ way.take (k + 1), x.1 ≠ n1) := fun x hx => by
                          rw [HTQ.out] at hx
                          rcases List.mem_append.1 hx with hx | hx
                          · exact HAL.out x hx
                          · rw [List.mem_singleton.1 hx]; exact hqe
                        clear hqe
                        go_wp2_with fail
                        go_quiet (fail)
                        go_wp2_with fail
                        go_roundw
                        case rel => exact ⟨k + 1, by simp, by omega, HAN.out, below_drewN BK.out _⟩
                        case measure => simp [RowKit.intOf]; omega
                    · have hke : k = j + 1 := by omega
                      subst hke
                      have HG2 := Lib.hid (HGO.out HAL.out)
                      go_wp2_with fail
                      go_roundw
                      case rel => exact ⟨j + 1 + 1, by simp, by omega, HG2.out, BK.out⟩
                      case measure => simp [RowKit.intOf]; omega
                · have e2 : (n2 != s2) = true := by simpa using hq2
                  have HF := Lib.hid (show r = false by rw [← HJ.out]; exact HNE.out (by simp [hq2]))
                  clear hq2
                  go_wp2_with fail
                  go_quiet (fail)
                  go_wp2_with fail
                  go_ret
                  exact ⟨by rw [HF.out]; rfl, below_drewN (bel_next B0.out B7.out) _⟩
              · have e1 : (n1 != s1) = true := by simpa using hq1
                have HF := Lib.hid (show r = false by rw [← HJ.out]; exact HNE.out (by simp [hq1]))
                clear hq1
                go_wp2_with fail
                go_quiet (fail)
                go_wp2_with fail
                go_ret
                exact ⟨by rw [HF.out]; rfl, below_drewN (bel_next B0.out B7.out) _⟩
    · have he : j = way.length := by omega
      subst he
      have HF := Lib.hid (show r = true by rw [← HJ.out, List.drop_length]; rfl)
      go_wp2_with fail
      go_ret
      exact ⟨by rw [HF.out]; rfl, bel_next B0.out HB.out⟩

end Go.Proofs.YtjhimekojiegjaaDoor.Wrvl
