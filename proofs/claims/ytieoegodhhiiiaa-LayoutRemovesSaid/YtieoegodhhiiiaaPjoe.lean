/- The program's joinedEnds: a map that gives for each end that is in a joint the other end. -/
import Derived.Test.YtieoegodhhiiiaaPdis
import Derived.BigRegion
namespace Go.Proofs.Ytieoegodhhiiiaa.Pjoe
open Go.RowKit Go.Lib Go.Proofs.Ytieoegodhhiiiaa.Reads Go.Proofs.Ytieoegodhhiiiaa.Rows2 Go.Proofs.Ytieoegodhhiiiaa.Lay Go.Proofs.Ytieoegodhhiiiaa.Layf Go.Proofs.Ytieoegodhhiiiaa.Ldup Go.Proofs.Ytieoegodhhiiiaa.Lext Go.Proofs.Ytieoegodhhiiiaa.Omap Go.Proofs.Ytieoegodhhiiiaa.Omapn Go.Proofs.Ytieoegodhhiiiaa.Lmap Go.Proofs.Ytieoegodhhiiiaa.Pdis
open Go.Proofs.Ytieoegodhhiiiaa.Text hiding lineL joinR

/-- What the map holds after these joints. -/
def mapOf (js : List ((Int × Int) × (Int × Int))) : (Int × Int) → Option (Int × Int) := js.foldl (fun f j => upd (upd f j.1 j.2) j.2 j.1) (fun _ => none)
theorem mapOf_snoc (js : List ((Int × Int) × (Int × Int))) (j : (Int × Int) × (Int × Int)) : mapOf (js ++ [j]) = upd (upd (mapOf js) j.1 j.2) j.2 j.1 := by simp [mapOf, List.foldl_append]
theorem ends_snoc (js : List ((Int × Int) × (Int × Int))) (j : (Int × Int) × (Int × Int)) : endsOf (js ++ [j]) = (endsOf js ++ [j.1]) ++ [j.2] := by simp [endsOf]
theorem join_mem (e : Int × Int) : ∀ js : List ((Int × Int) × (Int × Int)), (Layf.joinR e js).2 = decide (e ∈ endsOf js)
  | [] => by simp [Layf.joinR, endsOf]
  | (a, b) :: l => by
    rw [Layf.joinR]
    have hm : e ∈ endsOf ((a, b) :: l) ↔ e = a ∨ e = b ∨ e ∈ endsOf l := by simp [endsOf]
    by_cases h1 : a = e
    · rw [if_pos h1]
      exact (decide_eq_true (hm.2 (.inl h1.symm))).symm
    · rw [if_neg h1]
      by_cases h2 : b = e
      · rw [if_pos h2]
        exact (decide_eq_true (hm.2 (.inr (.inl h2.symm)))).symm
      · rw [if_neg h2, join_mem e l]
        refine decide_eq_decide.2 (Iff.trans ?_ hm.symm)
        exact ⟨fun h => .inr (.inr h), fun h => by
          rcases h with h | h | h
          · exact absurd h.symm h1
          · exact absurd h.symm h2
          · exact h⟩
theorem join_append (e : Int × Int) (m : List ((Int × Int) × (Int × Int))) : ∀ l : List ((Int × Int) × (Int × Int)), Layf.joinR e (l ++ m) = if (Layf.joinR e l).2 = true then Layf.joinR e l else Layf.joinR e m
  | [] => by simp [Layf.joinR]
  | (a, b) :: l => by
    rw [List.cons_append, Layf.joinR, Layf.joinR]
    by_cases h1 : a = e
    · rw [if_pos h1, if_pos h1]
      rfl
    · rw [if_neg h1, if_neg h1]
      by_cases h2 : b = e
      · rw [if_pos h2, if_pos h2]
        rfl
      · rw [if_neg h2, if_neg h2]
        exact join_append e m l
/-- Where no end is in two joints, the map is the function. -/
theorem map_join (e : Int × Int) : ∀ (n : Nat) (js : List ((Int × Int) × (Int × Int))), js.length = n → dupB (endsOf js) = false → mapOf js e = if (Layf.joinR e js).2 = true then some (Layf.joinR e js).1 else none
  | 0, js, hl, _ => by
    have := List.length_eq_zero_iff.1 hl
    subst this
    simp [mapOf, Layf.joinR]
  | n + 1, js, hl, hd => by
    obtain ⟨l, x, rfl⟩ : ∃ l x, js = l ++ [x] := ⟨js.dropLast, js.getLast (by intro h; rw [h] at hl; simp at hl), (List.dropLast_concat_getLast _).symm⟩
    obtain ⟨a, b⟩ := x
    rw [ends_snoc, dup_snoc, dup_snoc, Bool.or_eq_false_iff, Bool.or_eq_false_iff] at hd
    obtain ⟨⟨h0, h1⟩, h2⟩ := hd
    simp only [decide_eq_false_iff_not, List.mem_append, List.mem_singleton, not_or] at h1 h2
    have ih := map_join e n l (by simpa using hl) h0
    rw [mapOf_snoc, join_append]
    have hjm := join_mem e l
    unfold upd
    simp only
    by_cases hb : e = b
    · subst hb
      have hne : ¬ a = e := fun h => h2.2 h.symm
      rw [if_pos rfl, if_neg (show ¬ ((Layf.joinR e l).2 = true) by rw [hjm]; simpa using h2.1)]
      simp [Layf.joinR, hne]
    · rw [if_neg hb]
      by_cases ha : e = a
      · subst ha
        rw [if_pos rfl, if_neg (show ¬ ((Layf.joinR e l).2 = true) by rw [hjm]; simpa using h1)]
        simp [Layf.joinR]
      · rw [if_neg ha, ih]
        by_cases hm : (Layf.joinR e l).2 = true
        · rw [if_pos hm, if_pos hm, if_pos hm]
        · have ha' : ¬ a = e := fun h => ha h.symm
          have hb' : ¬ b = e := fun h => hb h.symm
          rw [if_neg hm, if_neg hm]
          simp [Layf.joinR, ha', hb']

/-- What holds at the head of the loop. -/
def JRel (js : List ((Int × Int) × (Int × Int))) (w : World) (b : Nat) (vj : Value) (wr : World) : Prop :=
  ∃ j n c : Nat, vj = .int .i64 (j : Int) ∧ j ≤ js.length ∧ n ≤ 2 * j ∧ IsC endEnd wr b n c (mapOf (js.take j)) ∧ Keys (mapOf (js.take j)) (endsOf (js.take j)) ∧ Cd (endsOf (js.take j)) c ∧ Below w.heap.size w wr
theorem jrel_next {js : List ((Int × Int) × (Int × Int))} {w wr w1 w2 : World} {b j n c : Nat} {x y : Int × Int} (hx : js[j]? = some (x, y)) (hn : n ≤ 2 * j) (hk : Keys (mapOf (js.take j)) (endsOf (js.take j))) (hc : Cd (endsOf (js.take j)) c) (hb : Below w.heap.size w wr) (hbb : w.heap.size ≤ b)
    {c1 c2 : Nat} (e1 : c1 = if (mapOf (js.take j) x).isSome = true then c else c + 1) (e2 : c2 = if (upd (mapOf (js.take j)) x y y).isSome = true then c1 else c1 + 1)
    (h2 : IsC endEnd w2 b (n + 1 + 1) c2 (upd (upd (mapOf (js.take j)) x y) y x)) (g1 : wr.grownBy w1 (some b)) (g2 : w1.grownBy w2 (some b)) : JRel js w b (.int .i64 ((j : Int) + 1)) w2 := by
  have hj := (List.getElem?_eq_some_iff.1 hx).1
  refine ⟨j + 1, n + 1 + 1, c2, by simp, hj, by omega, ?_, ?_, ?_, below_map (below_map hb g1 hbb) g2 hbb⟩
  · rw [take_more hx, mapOf_snoc]
    exact h2
  · rw [take_more hx, mapOf_snoc, ends_snoc]
    exact keys_snoc (keys_snoc hk)
  · rw [take_more hx, ends_snoc, e2, e1]
    exact cd_snoc (cd_snoc hc (hk x)) (keys_snoc hk y)
/-- What the call gives. -/
def MapOut (js : List ((Int × Int) × (Int × Int))) (w : World) (e : Ending) (w' : World) : Prop :=
  ∃ b n c, e = .returned (.map (some b)) ∧ IsC endEnd w' b n c (mapOf js) ∧ Cd (endsOf js) c ∧ Below w.heap.size w w'

theorem hx4 (wr : World) (a b c d : Int) : (wr.alloc (.cells #[.int .i64 a, .int .i64 b, .int .i64 c, .int .i64 d] 47)).cell? ⟨wr.heap.size, 0, none⟩ = some (.int .i64 a) ∧ (wr.alloc (.cells #[.int .i64 a, .int .i64 b, .int .i64 c, .int .i64 d] 47)).cell? ⟨wr.heap.size, 1, none⟩ = some (.int .i64 b) ∧ (wr.alloc (.cells #[.int .i64 a, .int .i64 b, .int .i64 c, .int .i64 d] 47)).cell? ⟨wr.heap.size, 2, none⟩ = some (.int .i64 c) ∧ (wr.alloc (.cells #[.int .i64 a, .int .i64 b, .int .i64 c, .int .i64 d] 47)).cell? ⟨wr.heap.size, 3, none⟩ = some (.int .i64 d) ∧
    wr.heap.size < (wr.alloc (.cells #[.int .i64 a, .int .i64 b, .int .i64 c, .int .i64 d] 47)).heap.size := by
  refine ⟨?_, ?_, ?_, ?_, by simp⟩
  all_goals
    rw [World.cell?_alloc_at _ _ _ _ rfl]
    rfl

set_option maxRecDepth 100000 in
set_option maxHeartbeats 1600000 in
theorem ends_any (L : Lay) {vs ve vj vg vb : Value} (w : World) (h : LayAt (In w) w L vs ve vj vg vb) (hn : L.joints.length ≤ 1000) :
    Calls Try.prog 24 #[layV L vs ve vj vg vb] w (MapOut L.joints w) := by
  obtain ⟨a, cap, rfl, hm, _⟩ := h.jt
  have b1 := (Below.refl w.heap.size w).alloc (Nat.le_refl _) (.cells #[.string (bs L.name), vs, ve, .slice a L.joints.length cap, vg, vb] 28)
  have H0 := h.next b1
  have hx := lbox_new w 28 L vs ve (.slice a L.joints.length cap) vg vb
  have hs : w.heap.size < (w.alloc (.cells #[.string (bs L.name), vs, ve, .slice a L.joints.length cap, vg, vb] 28)).heap.size := by simp
  have hmm := @run_makeMap Try.prog
  have JW := Lib.hid h.jwf
  clear h
  unfold layV
  go_enter Try.func24, Try.ntmps24
  go_wp2_with fail
  obtain ⟨W, hW⟩ : ∃ W, w.alloc (.cells #[.string (bs L.name), vs, ve, .slice a L.joints.length cap, vg, vb] 28) = W := ⟨_, rfl⟩
  have hsz : W.heap.size = w.heap.size + 1 := by rw [← hW]; simp
  rw [hW] at H0 b1 hx hs ⊢
  clear hW
  try rw [← hsz]
  have HSZ := Lib.hid hsz
  clear hsz
  have B0 := Lib.hid b1
  obtain ⟨a', cap', he, _, hel⟩ := H0.jt
  cases he
  have HE := Lib.hid hel
  clear hel H0 hx b1
  have HS := Lib.hid hs
  have HN := Lib.hid hn
  clear hs hn
  go_loopw [10] (fun vj wr => JRel L.joints W W.heap.size vj wr) (fun vj _ => L.joints.length - (RowKit.intOf vj).toNat)
  case atStart => exact ⟨0, 0, 0, rfl, Nat.zero_le _, Nat.le_refl _, by simpa [mapOf] using isC_made endEnd W, by simpa [mapOf, endsOf] using keys_nil, by simpa [endsOf] using cd_nil, (Below.refl _ _).alloc (Nat.le_refl _) _⟩
  case round =>
    obtain ⟨j, n, c, rfl, hj, hnj, hi, hk, hc, hb⟩ := hrel
    have HB := Lib.hid hb
    have HI := Lib.hid hi
    have HK := Lib.hid hk
    have HC := Lib.hid hc
    have hlt := IsC.lt _ hi
    clear hb hi hk hc
    by_cases hl : j < L.joints.length
    · obtain ⟨x, hx⟩ := at_lt hl
      obtain ⟨b, off, rfl, c0, c1, c2, c3⟩ := HE.out wr HB.out j x hx
      have HX := Lib.hid hx
      have HWF := Lib.hid (JW.out x (List.mem_of_getElem? hx))
      clear hx
      obtain ⟨⟨u1, u2⟩, ⟨v1, v2⟩⟩ := x
      simp only at c0 c1 c2 c3
      have hxc := hx4 wr u1 u2 v1 v2
      have hib := IsC.alloc endEnd HI.out (.cells #[.int .i64 u1, .int .i64 u2, .int .i64 v1, .int .i64 v2] 47)
      obtain ⟨Wx, hWx⟩ : ∃ Wx, wr.alloc (.cells #[.int .i64 u1, .int .i64 u2, .int .i64 v1, .int .i64 v2] 47) = Wx := ⟨_, rfl⟩
      rw [hWx] at hxc hib
      obtain ⟨w1, m1, i1, g1⟩ := IsC.update endEnd (t := 49) (w := Wx.drew) (IsC.drew endEnd hib) Try.underlying49 (show n < maxLen by have := HN.out; unfold maxLen; omega) (x := (u1, u2)) HWF.out.1 (v1, v2)
      obtain ⟨w2, m2, i2, g2⟩ := IsC.update endEnd (t := 49) i1 Try.underlying49 (show n + 1 < maxLen by have := HN.out; unfold maxLen; omega) (x := (v1, v2)) HWF.out.2 (u1, u2)
      change (Instr.mapUpdate 49 (.map (some W.heap.size)) (.agg #[.int .i64 u1, .int .i64 u2]) (.agg #[.int .i64 v1, .int .i64 v2])).run _ _ = _ at m1
      change (Instr.mapUpdate 49 (.map (some W.heap.size)) (.agg #[.int .i64 v1, .int .i64 v2]) (.agg #[.int .i64 u1, .int .i64 u2])).run _ _ = _ at m2
      obtain ⟨d0, d1, d2, d3, d4⟩ := hxc
      have k0 := (cell_same (g1.block wr.heap.size (by simpa using d4) (by intro e; have := Option.some.inj e; omega))).trans d0
      have k1 := (cell_same (p := ⟨wr.heap.size, 1, none⟩) (g1.block wr.heap.size (by simpa using d4) (by intro e; have := Option.some.inj e; omega))).trans d1
      have k2 := (cell_same (p := ⟨wr.heap.size, 2, none⟩) (g1.block wr.heap.size (by simpa using d4) (by intro e; have := Option.some.inj e; omega))).trans d2
      have k3 := (cell_same (p := ⟨wr.heap.size, 3, none⟩) (g1.block wr.heap.size (by simpa using d4) (by intro e; have := Option.some.inj e; omega))).trans d3
      have R2 := Lib.hid i2
      have G1 := Lib.hid g1
      have G2 := Lib.hid g2
      have HWX := Lib.hid hWx
      have BX := Lib.hid (show Below W.heap.size W Wx by rw [← hWx]; exact HB.out.alloc HB.out.size _)
      clear i1 i2 g1 g2 hib hWx
      go_wp2_with fail
      rw [HWX.out]
      go_region
      go_wp2_with fail
      go_roundw
      case rel => exact jrel_next HX.out hnj HK.out HC.out BX.out.drew (Nat.le_refl _) rfl rfl R2.out G1.out G2.out
      case measure => simp [RowKit.intOf]; omega
    · have he : j = L.joints.length := by omega
      subst he
      have hi := HI.out
      have hc := HC.out
      rw [List.take_length] at hi hc
      have R1 := Lib.hid hi
      have R2 := Lib.hid hc
      clear hi hc
      go_wp2_with fail
      go_ret
      exact ⟨_, _, _, rfl, R1.out, R2.out, bel_next B0.out HB.out⟩

end Go.Proofs.Ytieoegodhhiiiaa.Pjoe
