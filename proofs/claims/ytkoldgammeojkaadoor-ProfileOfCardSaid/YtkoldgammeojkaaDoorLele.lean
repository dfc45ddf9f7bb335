/- The call of the reference's elements. -/
import Derived.Test.YtkoldgammeojkaaDoorLnmd
import Derived.Test.YtkoldgammeojkaaDoorLmem
namespace Go.Proofs.YtkoldgammeojkaaDoor.Lele
open Go.RowKit Go.Lib Go.Proofs.YtkoldgammeojkaaDoor.Text Go.Proofs.YtkoldgammeojkaaDoor.Reads Go.Proofs.YtkoldgammeojkaaDoor.Rows2 Go.Proofs.YtkoldgammeojkaaDoor.Lay Go.Proofs.YtkoldgammeojkaaDoor.Layf Go.Proofs.YtkoldgammeojkaaDoor.Ldup Go.Proofs.YtkoldgammeojkaaDoor.Lext Go.Proofs.YtkoldgammeojkaaDoor.Ljoi Go.Proofs.YtkoldgammeojkaaDoor.Lnmd Go.Proofs.YtkoldgammeojkaaDoor.Lnam Go.Proofs.YtkoldgammeojkaaDoor.Lmem

theorem infoE : (Tryd.prog.info? 64).map (fun i => (i.zero, i.size, i.bytes)) = some (some (.agg #[.int .i64 0, .int .i64 0]), 2, 16) := by kernel_rfl
theorem flat_at {ps : List (Int × Int)} {i j : Nat} {r : List Value} {x : Value} (h : (ps.map pCells)[i]? = some r) (hx : r[j]? = some x) : (ps.flatMap pCells)[i * 2 + j]? = some x := by
  induction ps generalizing i with
  | nil => simp at h
  | cons p ps ih =>
    rw [List.flatMap_cons]
    cases i with
    | zero =>
      simp only [List.map_cons, List.getElem?_cons_zero, Option.some.injEq] at h
      subst h
      have hj : j < (pCells p).length := (List.getElem?_eq_some_iff.1 hx).1
      rw [Nat.zero_mul, Nat.zero_add, List.getElem?_append_left hj]
      exact hx
    | succ i =>
      simp only [List.map_cons, List.getElem?_cons_succ] at h
      rw [List.getElem?_append_right (by simp [pCells]; omega)]
      rw [show (i + 1) * 2 + j - (pCells p).length = i * 2 + j by simp [pCells]; omega]
      exact ih h
theorem flat_len (ps : List (Int × Int)) : (ps.flatMap pCells).length = ps.length * 2 := by
  induction ps with
  | nil => rfl
  | cons p ps ih => rw [List.flatMap_cons, List.length_append, ih]; simp [pCells]; omega
/-- A slice of ends of the call's own. -/
theorem grid_own {B : Nat} {w : World} {e : TypeId} {v : Value} {ps : List (Int × Int)} (h : w.ownsRow B e 2 v ps.length (ps.flatMap pCells)) : Grid (fun b => B ≤ b ∧ b < w.heap.size) w v 2 (ps.map pCells) := by
  have hx := h
  obtain ⟨_, hor⟩ := hx
  rcases hor with ⟨rfl, h0⟩ | ⟨g, cap, cur, rfl, hg, hh, hn, hcap, _, _⟩
  · have := List.length_eq_zero_iff.1 h0
    subst this
    exact grid_nil _ _ _
  · refine ⟨_, cap, by simp, by simpa using hn, hcap, .inr ⟨g, 0, rfl, ⟨(h.lt g rfl).1, (h.lt g rfl).2⟩, fun i r hr j x hx => ?_⟩⟩
    have := h.cells (g := g) rfl (i * 2 + j) x (flat_at hr hx)
    rw [add_mk] at this
    rw [← this, Nat.add_assoc]

theorem own_below {B n sz : Nat} {e : TypeId} {v : Value} {xs : List Value} {w w' : World} (h : w.ownsRow B e sz v n xs) (hb : Below w.heap.size w w') : w'.ownsRow B e sz v n xs :=
  h.kept (row := none) ⟨hb.os, hb.tape, hb.output, hb.size, fun j hj _ => hb.block j hj⟩ (by cases hv : v.ownBlock <;> simp)
/-- The cells of a literal slice, in a block of its own. -/
theorem cells_new (w : World) (cs : Array Value) (T : TypeId) : ∀ j u, cs.toList[j]? = some u → (w.alloc (.cells cs T)).cell? ((⟨w.heap.size, 0, none⟩ : Addr).add j) = some u := by
  intro j u hu
  rw [add_mk, World.cell?_alloc_at _ _ _ _ rfl, Nat.zero_add, ← hu, Array.getElem?_toList]
theorem jbox_at (wr : World) (u1 u2 v1 v2 : Int) {w' : World} (b : Below (wr.alloc (.cells #[.int .i64 u1, .int .i64 u2, .int .i64 v1, .int .i64 v2] 66)).heap.size (wr.alloc (.cells #[.int .i64 u1, .int .i64 u2, .int .i64 v1, .int .i64 v2] 66)) w') :
    w'.cell? ⟨wr.heap.size, 0, none⟩ = some (.int .i64 u1) ∧ w'.cell? ⟨wr.heap.size, 1, none⟩ = some (.int .i64 u2) ∧ w'.cell? ⟨wr.heap.size, 2, none⟩ = some (.int .i64 v1) ∧ w'.cell? ⟨wr.heap.size, 3, none⟩ = some (.int .i64 v2) := by
  refine ⟨?_, ?_, ?_, ?_⟩
  all_goals
    rw [b.cell (by simp), World.cell?_alloc_at _ _ _ _ rfl]
    rfl
/-- What holds at the head of the loop over the joints. -/
def JRel (L : Lay) (G : Bool) (W : World) (vout vj : Value) (wr : World) : Prop :=
  ∃ j : Nat, vj = .int .i64 (j : Int) ∧ j ≤ L.joints.length ∧ (L.joints.drop j).all (jointB L.els) = G ∧ wr.ownsRow W.heap.size 64 2 vout (endsOf (L.joints.take j)).length ((endsOf (L.joints.take j)).flatMap pCells) ∧ Below W.heap.size W wr
theorem ends_next {js : List ((Int × Int) × (Int × Int))} {j : Nat} {x : (Int × Int) × (Int × Int)} (h : js[j]? = some x) : endsOf (js.take (j + 1)) = endsOf (js.take j) ++ [x.1, x.2] := by
  obtain ⟨hj, rfl⟩ := List.getElem?_eq_some_iff.1 h
  rw [List.take_succ_eq_append_getElem hj, endsOf, List.flatMap_append]
  rfl
theorem ends_len (js : List ((Int × Int) × (Int × Int))) : (endsOf js).length = js.length * 2 := by
  induction js with
  | nil => rfl
  | cons x js ih => rw [endsOf, List.flatMap_cons, List.length_append]; rw [endsOf] at ih; rw [ih]; simp; omega
theorem jrel_next {L : Lay} {G : Bool} {W w1 w2 : World} {v v' : Value} {j : Nat} {x : (Int × Int) × (Int × Int)} {o : Obj} (hx : L.joints[j]? = some x) (hG : (L.joints.drop (j + 1)).all (jointB L.els) = G) (ho : w1.ownsRow W.heap.size 64 2 v (endsOf (L.joints.take j)).length ((endsOf (L.joints.take j)).flatMap pCells)) (hb : Below W.heap.size W w1)
    (h1 : w2.ownsRow W.heap.size 64 2 v' ((endsOf (L.joints.take j)).length + 2) ((endsOf (L.joints.take j)).flatMap pCells ++ jCells x)) (hg : (w1.alloc o).grownBy w2 v.ownBlock) : JRel L G W v' (.int .i64 ((j : Int) + 1)) w2 := by
  refine ⟨j + 1, by simp, (List.getElem?_eq_some_iff.1 hx).1, hG, ?_, (hb.alloc hb.size o).grown hg (by have := hb.size; simp; omega) (fun g hg => (ho.lt g hg).1)⟩
  rw [ends_next hx, List.flatMap_append, List.length_append]
  exact h1

set_option maxRecDepth 100000 in
set_option maxHeartbeats 3200000 in
theorem relements_any (L : Lay) {vs ve vj vg vb : Value} (w : World) (h : LayAt (In w) w L vs ve vj vg vb) (hn : L.secs.length ≤ 1000) (hn2 : L.els.length ≤ 1000) (hn4 : L.joints.length ≤ 4398046510976) :
    Calls Tryd.prog 12 #[layV L vs ve vj vg vb] w (NumOut (elementsF L) w) := by
  obtain ⟨a, cap, rfl, hm, _⟩ := h.el
  obtain ⟨a3, cap3, rfl, hm3, _⟩ := h.jt
  obtain ⟨a2, cap2, rfl, hm2, _⟩ := h.sn
  have B0 := Lib.hid ((Below.refl w.heap.size w).alloc (Nat.le_refl _) (.cells #[.string (bs L.name), .slice a2 L.secs.length cap2, .slice a L.els.length cap, .slice a3 L.joints.length cap3, vg, vb] 28))
  have HH := Lib.hid (h.box (.cells #[.string (bs L.name), .slice a2 L.secs.length cap2, .slice a L.els.length cap, .slice a3 L.joints.length cap3, vg, vb] 28))
  have HX := Lib.hid (lbox_new w 28 L (.slice a2 L.secs.length cap2) (.slice a L.els.length cap) (.slice a3 L.joints.length cap3) vg vb)
  have HS0 : Hid (w.heap.size < (w.alloc (.cells #[.string (bs L.name), .slice a2 L.secs.length cap2, .slice a L.els.length cap, .slice a3 L.joints.length cap3, vg, vb] 28)).heap.size) := by simp [Hid]
  clear h
  unfold layV
  go_enter Tryd.func12, Tryd.ntmps12
  go_wp2_with fail
  obtain ⟨W, hW⟩ : ∃ W, w.alloc (.cells #[.string (bs L.name), .slice a2 L.secs.length cap2, .slice a L.els.length cap, .slice a3 L.joints.length cap3, vg, vb] 28) = W := ⟨_, rfl⟩
  rw [hW] at B0 HH HX HS0 ⊢
  clear hW
  obtain ⟨a', cap', he, _, hel⟩ := HH.out.el
  cases he
  have HE := Lib.hid hel
  obtain ⟨a', cap', he, _, hjt⟩ := HH.out.jt
  cases he
  have HJ := Lib.hid hjt
  clear hel hjt
  obtain ⟨G, hG⟩ : ∃ G, L.els.all (rightB L.secs.length) = G := ⟨_, rfl⟩
  have HG := Lib.hid hG
  clear hG
  go_loopw [12] (fun vk wr => ∃ k : Nat, vk = .int .i64 (k : Int) ∧ k ≤ L.els.length ∧ (L.els.drop k).all (rightB L.secs.length) = G ∧ Below W.heap.size W wr) (fun vk _ => L.els.length - (RowKit.intOf vk).toNat)
  case atStart => exact ⟨0, rfl, Nat.zero_le _, HG.out, Below.refl _ _⟩
  case round =>
    obtain ⟨k, rfl, hk, hr, hb⟩ := hrel
    have HR := Lib.hid hr
    have HB := Lib.hid hb
    obtain ⟨x0, x1, x2, x3, x4, x5⟩ := HX.out.next hb HS0.out
    have hlt0 : w.heap.size < wr.heap.size := Nat.lt_of_lt_of_le HS0.out hb.size
    clear hr hb
    by_cases hlt : k < L.els.length
    · obtain ⟨x, hx⟩ := at_lt hlt
      obtain ⟨b, off, rfl, c0, c1, c2, c3, c4, c5, c6⟩ := HE.out wr HB.out k x hx
      rw [drop_at hx, List.all_cons] at HR
      clear hx
      have HC := Lib.hid (fun w' (b' : Below wr.heap.size wr w') => right_any L x w' ((HH.out.next HB.out).next b'))
      obtain ⟨q, hq⟩ : ∃ q, rightB L.secs.length x = q := ⟨_, rfl⟩
      rw [hq] at HC HR
      obtain ⟨nm, kd, ln, gr, sp, sl, sc⟩ := x
      simp only at c0 c1 c2 c3 c4 c5 c6
      have HBA := Lib.hid ((Below.refl wr.heap.size wr).alloc (Nat.le_refl _) (.cells #[.string (bs nm), .int .i64 kd, .int .i64 ln, .int .i64 gr, .int .i64 sp, .int .i64 sl, .int .i64 sc] 51))
      clear hq
      cases q
      · have HF := Lib.hid (elements_right (L := L) (by rw [HG.out]; have := HR.out; rwa [Bool.false_and, eq_comm] at this))
        go_wp2_with fail
        refine (HC.out _ HBA.out).mono ?_
        rintro e w1 ⟨rfl, b1⟩
        have B1 := Lib.hid (bel_next (bel_next B0.out HB.out) (bel_next HBA.out b1))
        clear b1
        go_wp2_with fail
        go_ret
        exact ⟨by rw [HF.out]; rfl, B1.out⟩
      · have HF := Lib.hid (show (L.els.drop (k + 1)).all (rightB L.secs.length) = G by have := HR.out; rwa [Bool.true_and] at this)
        go_wp2_with fail
        refine (HC.out _ HBA.out).mono ?_
        rintro e w1 ⟨rfl, b1⟩
        have B1 := Lib.hid (bel_next HB.out (bel_next HBA.out b1))
        clear b1
        go_wp2_with fail
        go_roundw
        case rel => exact ⟨k + 1, by simp, by omega, HF.out, B1.out⟩
        case measure => simp [RowKit.intOf]; omega
    · have he : k = L.els.length := by omega
      subst he
      have HA := Lib.hid (show L.els.all (rightB L.secs.length) = true by
        rw [HG.out, ← HR.out, List.drop_length]
        rfl)
      clear hk hlt
      obtain ⟨W1, rfl⟩ : ∃ W1 : World, W1 = wr := ⟨_, rfl⟩
      have HB1 := Lib.hid HB.out
      go_wp2_with fail
      clear HB x0 x1 x2 x3 x4 x5 hlt0
      obtain ⟨D, hD⟩ : ∃ D, heldR L 0 L.secs.length = D := ⟨_, rfl⟩
      have HD := Lib.hid hD
      clear hD
      go_loopw [24] (fun vk wr => ∃ k n : Nat, vk = .int .i64 (k : Int) ∧ k + n = L.secs.length ∧ heldR L k n = D ∧ Below W.heap.size W wr) (fun vk _ => L.secs.length - (RowKit.intOf vk).toNat)
      case atStart => exact ⟨0, L.secs.length, rfl, by omega, HD.out, HB1.out⟩
      case round =>
        obtain ⟨k, n, rfl, hk, hr, hb⟩ := hrel
        have HR := Lib.hid hr
        have HB := Lib.hid hb
        obtain ⟨x0, x1, x2, x3, x4, x5⟩ := HX.out.next hb HS0.out
        clear hr hb
        rcases n with _ | n
        · have he : k = L.secs.length := by omega
          subst he
          have HDT := Lib.hid (show heldR L 0 L.secs.length = true by
            rw [HD.out, ← HR.out]
            rfl)
          obtain ⟨W2, rfl⟩ : ∃ W2 : World, W2 = wr := ⟨_, rfl⟩
          have HB2 := Lib.hid HB.out
          go_wp2_with fail
          clear HB hk x0 x1 x2 x3 x4 x5
          obtain ⟨J, hJ⟩ : ∃ J, L.joints.all (jointB L.els) = J := ⟨_, rfl⟩
          have HJA := Lib.hid hJ
          clear hJ
          obtain ⟨i0, hi, hz0, hz1, hz2⟩ := info_parts infoE
          have HI0 := Lib.hid hi
          have HZ0 := Lib.hid hz0
          have HZ1 := Lib.hid hz1
          have HZ2 := Lib.hid hz2
          clear hi hz0 hz1 hz2
          have HS2 := Lib.hid (Nat.lt_of_lt_of_le HS0.out HB2.out.size)
          go_loopw [6, 36] (fun vout vj wr => JRel L J W2 vout vj wr) (fun _ vj _ => L.joints.length - (RowKit.intOf vj).toNat)
          case atStart => exact ⟨0, rfl, Nat.zero_le _, HJA.out, World.ownsRow_nil _ _ _ _, Below.refl _ _⟩
          case round =>
            obtain ⟨j, rfl, hj, hr, ho, hb⟩ := hrel
            have HR := Lib.hid hr
            have HO := Lib.hid ho
            have HB := Lib.hid hb
            have HBW := Lib.hid (HB2.out.trans (hb.mono HB2.out.size))
            clear hr ho hb
            obtain ⟨x0, x1, x2, x3, x4, x5⟩ := HX.out.next HBW.out HS0.out
            have hlt0 : w.heap.size < wr.heap.size := Nat.lt_of_lt_of_le HS0.out HBW.out.size
            by_cases hlt : j < L.joints.length
            · obtain ⟨x, hx⟩ := at_lt hlt
              obtain ⟨b, off, rfl, c0, c1, c2, c3⟩ := HJ.out wr HBW.out j x hx
              have HXX := Lib.hid hx
              rw [drop_at hx, List.all_cons] at HR
              clear hx
              obtain ⟨⟨u1, u2⟩, ⟨v1, v2⟩⟩ := x
              simp only at c0 c1 c2 c3
              have HBA := Lib.hid ((Below.refl wr.heap.size wr).alloc (Nat.le_refl _) (.cells #[.int .i64 u1, .int .i64 u2, .int .i64 v1, .int .i64 v2] 66))
              have K1 := Lib.hid (fun w' (b' : Below wr.heap.size wr w') => rexists_any L (u1, u2) w' ((HH.out.next HBW.out).next b'))
              have K2 := Lib.hid (fun w' (b' : Below wr.heap.size wr w') => rexists_any L (v1, v2) w' ((HH.out.next HBW.out).next b'))
              have hjb : jointB L.els ((u1, u2), (v1, v2)) = (existsB L.els (u1, u2) && (existsB L.els (v1, v2) && !decide ((u1, u2) = (v1, v2)))) := rfl
              rw [hjb] at HR
              obtain ⟨q1, hq1⟩ : ∃ q, existsB L.els (u1, u2) = q := ⟨_, rfl⟩
              obtain ⟨q2, hq2⟩ : ∃ q, existsB L.els (v1, v2) = q := ⟨_, rfl⟩
              rw [hq1] at K1 HR
              rw [hq2] at K2 HR
              clear hjb hq1 hq2
              have bx := Lib.hid (fun w' (b' : Below (wr.alloc (.cells #[.int .i64 u1, .int .i64 u2, .int .i64 v1, .int .i64 v2] 66)).heap.size (wr.alloc (.cells #[.int .i64 u1, .int .i64 u2, .int .i64 v1, .int .i64 v2] 66)) w') => jbox_at wr u1 u2 v1 v2 b')
              cases q1
              · have HF := Lib.hid (elements_joint (L := L) HA.out HDT.out (by rw [HJA.out]; have := HR.out; rwa [Bool.false_and, Bool.false_and, eq_comm] at this))
                go_wp2_with fail
                refine (K1.out _ HBA.out).mono ?_
                rintro e w3 ⟨rfl, b3⟩
                have B3 := Lib.hid (bel_next (bel_next B0.out HBW.out) (bel_next HBA.out b3))
                clear b3
                go_wp2_with fail
                go_ret
                exact ⟨by rw [HF.out]; rfl, B3.out⟩
              · go_wp2_with fail
                refine (K1.out _ HBA.out).mono ?_
                rintro e w3 ⟨rfl, b3⟩
                obtain ⟨y0, y1, y2, y3⟩ := bx.out w3 b3
                have B3 := Lib.hid (bel_next HBA.out b3)
                obtain ⟨z0, z1, z2, z3, z4, z5⟩ := HX.out.next (bel_next HBW.out B3.out) HS0.out
                have BJ := Lib.hid b3
                clear b3 x0 x1 x2 x3 x4 x5
                cases q2
                · have HF := Lib.hid (elements_joint (L := L) HA.out HDT.out (by rw [HJA.out]; have := HR.out; rwa [Bool.false_and, Bool.and_false, Bool.false_and, eq_comm] at this))
                  go_wp2_with fail
                  refine (K2.out _ B3.out).mono ?_
                  rintro e w4 ⟨rfl, b4⟩
                  have B4 := Lib.hid (bel_next (bel_next B0.out HBW.out) (bel_next B3.out b4))
                  clear b4
                  go_wp2_with fail
                  go_ret
                  exact ⟨by rw [HF.out]; rfl, B4.out⟩
                · go_wp2_with fail
                  refine (K2.out _ B3.out).mono ?_
                  rintro e w4 ⟨rfl, b4⟩
                  obtain ⟨p0, p1, p2, p3⟩ := bx.out w4 (bel_next BJ.out b4)
                  have B4 := Lib.hid (bel_next B3.out b4)
                  clear b4 y0 y1 y2 y3
                  by_cases hu : (u1, u2) = (v1, v2)
                  · have HF := Lib.hid (elements_joint (L := L) HA.out HDT.out (by rw [HJA.out]; have := HR.out; rwa [decide_eq_true hu, Bool.not_true, Bool.and_false, Bool.and_false, Bool.false_and, eq_comm] at this))
                    cases hu
                    go_wp2_with fail
                    go_ret
                    exact ⟨by rw [HF.out]; rfl, bel_next (bel_next B0.out HBW.out) B4.out⟩
                  · have HF := Lib.hid (show (L.joints.drop (j + 1)).all (jointB L.els) = J by
                      have := HR.out
                      rwa [decide_eq_false hu, Bool.not_false, Bool.true_and, Bool.true_and, Bool.true_and] at this)
                    have hc := ne_cases hu
                    have HO4 := Lib.hid (own_below HO.out B4.out)
                    have hnl : (endsOf (List.take j L.joints)).length ≤ 8796093021950 := by rw [ends_len, List.length_take]; omega
                    have HS4 := Lib.hid (Nat.le_trans HB.out.size B4.out.size)
                    have HBJ := Lib.hid (bel_next HB.out B4.out)
                    clear hu
                    rcases hc with hc | ⟨hc, hc2⟩
                    all_goals
                      go_wp2_with (at_builtin; refine wpList_append_own_at _ rfl (.tmp 59) (.tmp 64) 62 rfl W2.heap.size 64 i0 (.agg #[.int .i64 0, .int .i64 0]) 2 16 Tryd.underlying62 HI0.out HZ0.out HZ1.out HZ2.out rfl (by decide) _ _ _ rfl (HO4.out.alloc _) ⟨w4.heap.size, 0, none⟩ 2 2 [.int .i64 u1, .int .i64 u2, .int .i64 v1, .int .i64 v2] rfl rfl (cells_new w4 #[.int .i64 u1, .int .i64 u2, .int .i64 v1, .int .i64 v2] 64) (by intro u hu; simp at hu; rcases hu with rfl | rfl | rfl | rfl <;> rfl) (by unfold maxLen; omega) (by omega) (by have := HS4.out; simp; omega) ?_; intro v5 w5 h1own hg1 _ _; have R1 := Lib.hid h1own; have R2 := Lib.hid hg1; clear h1own hg1)
                      go_roundw
                      case rel => exact jrel_next HXX.out HF.out HO4.out HBJ.out R1.out R2.out
                      case measure => simp [RowKit.intOf]; omega
            · have he : j = L.joints.length := by omega
              subst he
              have HAJ := Lib.hid (show L.joints.all (jointB L.els) = true by
                rw [HJA.out, ← HR.out, List.drop_length]
                rfl)
              have ho := HO.out
              rw [List.take_length] at ho
              have HE2 := Lib.hid (ends_any (l := endsOf L.joints) (w := wr) ((grid_own ho).keep fun b hb => ⟨hb.2, rfl⟩))
              obtain ⟨q, hq⟩ : ∃ q, dupB (endsOf L.joints) = q := ⟨_, rfl⟩
              have HQ := Lib.hid hq
              rw [hq] at HE2
              clear hq ho hj hlt
              cases q
              · have HF := Lib.hid (elements_ok HA.out HDT.out HAJ.out HQ.out)
                go_wp2_with fail
                refine HE2.out.mono ?_
                rintro e w6 ⟨rfl, b6⟩
                have B6 := Lib.hid (bel_next (bel_next B0.out HBW.out) b6)
                clear b6
                go_wp2_with fail
                go_ret
                exact ⟨by rw [HF.out]; rfl, B6.out⟩
              · have HF := Lib.hid (elements_dup HA.out HDT.out HAJ.out HQ.out)
                go_wp2_with fail
                refine HE2.out.mono ?_
                rintro e w6 ⟨rfl, b6⟩
                have B6 := Lib.hid (bel_next (bel_next B0.out HBW.out) b6)
                clear b6
                go_wp2_with fail
                go_ret
                exact ⟨by rw [HF.out]; rfl, B6.out⟩
        · have hlt : k < L.secs.length := by omega
          have HM := Lib.hid (rmembers_any L (k : Int) wr (HH.out.next HB.out) hn2)
          obtain ⟨l, hl⟩ : ∃ l, membersF L (k : Int) = l := ⟨_, rfl⟩
          rw [held_step hl] at HR
          rw [hl] at HM
          clear hl
          by_cases h0 : l = []
          · subst h0
            have HF := Lib.hid (elements_held (L := L) HA.out (by rw [HD.out]; have := HR.out; rwa [decide_eq_true rfl, Bool.not_true, Bool.false_and, eq_comm] at this))
            go_wp2_with fail
            refine HM.out.mono ?_
            rintro e w1 ⟨v, rfl, R, b1⟩
            obtain ⟨A, C, rfl, _⟩ := R.empty
            have B1 := Lib.hid (bel_next (bel_next B0.out HB.out) b1)
            clear b1 R
            go_wp2_with fail
            go_ret
            exact ⟨by rw [HF.out]; rfl, B1.out⟩
          · have HF := Lib.hid (show heldR L (k + 1) n = D by
              have := HR.out
              rwa [decide_eq_false h0, Bool.not_false, Bool.true_and] at this)
            have hq : ((l.length : Int) == 0) = false := by
              have := List.length_pos_iff.2 h0
              simp
              exact h0
            go_wp2_with fail
            refine HM.out.mono ?_
            rintro e w1 ⟨v, rfl, R, b1⟩
            obtain ⟨A, C, rfl, _, _⟩ := ints_shape R
            have B1 := Lib.hid (bel_next HB.out b1)
            clear b1 R
            go_wp2_with fail
            go_roundw
            case rel => exact ⟨k + 1, n, by simp, by omega, HF.out, B1.out⟩
            case measure => simp [RowKit.intOf]; omega

end Go.Proofs.YtkoldgammeojkaaDoor.Lele
