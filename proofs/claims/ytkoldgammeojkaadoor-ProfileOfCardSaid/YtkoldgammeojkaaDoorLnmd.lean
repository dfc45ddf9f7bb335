/- The call of the reference's named. -/
import Derived.Test.YtkoldgammeojkaaDoorLnam
import Derived.Test.YtkoldgammeojkaaDoorRname
import Derived.Deep.RegionHeld3
import Derived.Laws.OwnMore
namespace Go.Proofs.YtkoldgammeojkaaDoor.Lnmd
open Go.RowKit Go.Lib Go.Proofs.YtkoldgammeojkaaDoor.Text Go.Proofs.YtkoldgammeojkaaDoor.Numt Go.Proofs.YtkoldgammeojkaaDoor.Reads Go.Proofs.YtkoldgammeojkaaDoor.Rows2 Go.Proofs.YtkoldgammeojkaaDoor.Lay Go.Proofs.YtkoldgammeojkaaDoor.Layf Go.Proofs.YtkoldgammeojkaaDoor.Ldup Go.Proofs.YtkoldgammeojkaaDoor.Ljoi Go.Proofs.YtkoldgammeojkaaDoor.Lnam Go.Proofs.YtkoldgammeojkaaDoor.Rname

/-- A slice of one-cell elements that is appended: nil, or its cells. -/
def Src (w : World) (v : Value) (news : List Value) : Prop :=
  (v = .slice none 0 0 ∧ news = []) ∨ ∃ ad c, v = .slice (some ad) news.length c ∧ ∀ j u, news[j]? = some u → w.cell? (ad.add j) = some u
theorem src_of {ok : Nat → Prop} {w : World} {v : Value} {vs : List Value} (h : Row ok w v vs) (hs : Sn v) : Src w v vs := by
  obtain ⟨a, cap, rfl, h2, h3, h4⟩ := h
  rcases hs with e | ⟨ad, n, c, e⟩
  · simp only [Value.slice.injEq] at e
    exact .inl ⟨by rw [e.1, e.2.1, e.2.2], List.length_eq_zero_iff.1 e.2.1⟩
  · simp only [Value.slice.injEq] at e
    obtain ⟨rfl, _, _⟩ := e
    refine .inr ⟨ad, cap, rfl, fun j u hu => ?_⟩
    rcases h4 with rfl | ⟨b, off, e, _, hc⟩
    · simp at hu
    · cases e
      rw [add_mk]
      exact hc j u hu
/-- append of such a slice to a row of the call's own, as one step of a region that draws. -/
theorem step_append_src {P : Program} {ops : Array Oper} {o : Oper} {a : Act} {w : World} {K : Act → World → Prop} {Q : Exit → Act → World → Prop} {E : Prop}
    (hg : o.guard = none) (s x : Operand) (t : TypeId) (hop : o.op = Op.call { callee := Callee.builtin Builtin.append, args := #[s, x], argTypes := #[t, t] })
    (base : Nat) (e : TypeId) (i : TypeInfo) (z : Value) (bytes : Nat) (ht : P.underlying t = some (.slice e)) (hi : P.info? e = some i) (hz : i.zero = some z)
    (hsize : i.size = 1) (hby : i.bytes = bytes) (hzs : z.cells.size = 1)
    (v : Value) (n : Nat) (xs : List Value) (hs : a.eval s = v) (hown : w.ownsRow base e 1 v n xs)
    (xv : Value) (news : List Value) (hx : a.eval x = xv) (hsrc : Src w xv news) (h1 : ∀ u ∈ news, u.oneCell' = true)
    (h63 : n + news.length ≤ maxLen) (hbytes : (n + news.length) * bytes ≤ 140737488355328) (hbase : base ≤ w.heap.size)
    (h : ∀ v' w', w'.ownsRow base e 1 v' (n + news.length) (xs ++ news) → w.grownBy w' v.ownBlock → K (a.put o.dst v') w') :
    if Region.wanted o (yielded ops a.tmps) = true then Oper.wp P o a w K Q else E := by
  have hw : Region.wanted o (yielded ops a.tmps) = true := by simp [Region.wanted, hg]
  rw [if_pos hw]
  rcases hsrc with ⟨rfl, rfl⟩ | ⟨ad, c, rfl, hnews⟩
  · have hr := run_append_owned_none (P := P) (w := w) base t o.type e i 1 ht hi v n xs hown
    unfold Oper.wp execOp
    simp only [hop, resolve, invoke, builtin, Sem.run_bind, Sem.run_pure, Result.andThen_ok, List.map_toArray, List.map_cons, List.map_nil, hs, hx, hr]
    exact h v w (by simpa using hown) ⟨rfl, rfl, rfl, Nat.le_refl _, fun _ _ _ => rfl⟩
  · obtain ⟨v', w', hr, h2, h3, _, _⟩ := run_append_own_at (P := P) w base t o.type e i z 1 bytes ht hi hz hsize hby hzs (by decide) v n xs hown ad news.length c news (by simp) hnews h1 h63 hbytes hbase
    unfold Oper.wp execOp
    simp only [hop, resolve, invoke, builtin, Sem.run_bind, Sem.run_pure, Result.andThen_ok, List.map_toArray, List.map_cons, List.map_nil, hs, hx, hr]
    exact h v' w' h2 h3

/-- Behind names: what the region reads. -/
theorem reg_facts {L : Lay} {vs ve vj vg vb v0 v1 v2 : Value} {g : Nat} {w1 : World} {N0 N1 N2 : List (List UInt8)} (hx : LBox g w1 L vs ve vj vg vb) (hg : g < w1.heap.size) (r0 : Strs (In w1) w1 v0 N0) (r1 : Strs (In w1) w1 v1 N1) (r2 : Strs (In w1) w1 v2 N2) (s0 : Sn v0) (s1 : Sn v1) (s2 : Sn v2) :
    (w1.alloc (.cells #[v0, v1, v2] 55)).cell? ⟨g, 0, none⟩ = some (.string (bs L.name)) ∧ (w1.alloc (.cells #[v0, v1, v2] 55)).cell? ⟨w1.heap.size, 0, none⟩ = some v0 ∧ (w1.alloc (.cells #[v0, v1, v2] 55)).cell? ⟨w1.heap.size, 1, none⟩ = some v1 ∧ (w1.alloc (.cells #[v0, v1, v2] 55)).cell? ⟨w1.heap.size, 2, none⟩ = some v2 ∧
    (∀ w', Below (w1.alloc (.cells #[v0, v1, v2] 55)).heap.size (w1.alloc (.cells #[v0, v1, v2] 55)) w' → Src w' v0 (strV N0) ∧ Src w' v1 (strV N1) ∧ Src w' v2 (strV N2)) ∧
    (∀ w', Below (w1.alloc (.cells #[v0, v1, v2] 55)).heap.size (w1.alloc (.cells #[v0, v1, v2] 55)) w' → Strs (In w') w' v0 N0 ∧ Strs (In w') w' v1 N1 ∧ Strs (In w') w' v2 N2) ∧
    (w1.heap.size < (w1.alloc (.cells #[v0, v1, v2] 55)).heap.size ∧ Below w1.heap.size w1 (w1.alloc (.cells #[v0, v1, v2] 55))) := by
  have hb : Below w1.heap.size w1 (w1.alloc (.cells #[v0, v1, v2] 55)) := (Below.refl _ _).alloc (Nat.le_refl _) _
  have hk : ∀ w', Below (w1.alloc (.cells #[v0, v1, v2] 55)).heap.size (w1.alloc (.cells #[v0, v1, v2] 55)) w' → Below w1.heap.size w1 w' := fun w' h => bel_next hb h
  refine ⟨(hb.cell hg).trans hx.1, ?_, ?_, ?_, fun w' h => ?_, fun w' h => ?_, by simp, hb⟩
  · rw [World.cell?_alloc_at _ _ _ _ rfl]; rfl
  · rw [World.cell?_alloc_at _ _ _ _ rfl]; rfl
  · rw [World.cell?_alloc_at _ _ _ _ rfl]; rfl
  · have k := keep_next (hk w' h)
    exact ⟨src_of (ok := In w') (r0.1.keep k) s0, src_of (ok := In w') (r1.1.keep k) s1, src_of (ok := In w') (r2.1.keep k) s2⟩
  · have k := keep_next (hk w' h)
    exact ⟨r0.keep k, r1.keep k, r2.keep k⟩
theorem own_len {B : Nat} {w : World} {e : TypeId} {v : Value} {n : Nat} {xs : List Value} (h : w.ownsRow B e 1 v n xs) : ∃ A C, v = .slice A n C := by
  obtain ⟨h1, hor⟩ := h
  rcases hor with ⟨rfl, h0⟩ | ⟨g, cap, cur, rfl, _⟩
  · subst h0
    exact ⟨none, 0, rfl⟩
  · exact ⟨_, _, rfl⟩
/-- The list of all names. -/
theorem own_all {L : Lay} {N0 N1 N2 : List (List UInt8)} (h0 : L.secs = N0) (h1 : L.els.map (·.name) = N1) (h2 : L.sigs.map (·.name) = N2) {B : Nat} {w : World} {e : TypeId} {v : Value} {n : Nat} (h : w.ownsRow B e 1 v n ([.string (bs L.name)] ++ strV N0 ++ strV N1 ++ strV N2)) (hs : ∀ s ∈ allNames L, s.length ≤ maxLen) :
    (allNames L).length = n ∧ Strs (fun b => B ≤ b ∧ b < w.heap.size) w v (allNames L) := by
  have e1 : [.string (bs L.name)] ++ strV N0 ++ strV N1 ++ strV N2 = strV (allNames L) := by
    subst h0 h1 h2
    simp [allNames, strV]
  rw [e1] at h
  have hl : (allNames L).length = n := by
    have := h.1
    rw [strV_len] at this
    omega
  refine ⟨hl, strs_row (by rw [hl]; exact h) hs⟩
theorem below_first (W : World) (s : ByteArray) : Below W.heap.size W (W.alloc (.cells #[.string s] 9)).drew := ((Below.refl _ _).alloc (Nat.le_refl _) _).drew
theorem own_first (W : World) (s : ByteArray) : (W.alloc (.cells #[.string s] 9)).drew.ownsRow W.heap.size 9 1 (.slice (some ⟨W.heap.size, 0, none⟩) 1 1) 1 [.string s] :=
  (World.ownsRow_lit W #[.string s] 1 (Nat.le_refl _) (by unfold maxLen; omega) rfl).drew
/-- What a call gives that returns an error's number. -/
def NumOut (n : Int) (w : World) (e : Ending) (w' : World) : Prop := e = .returned (.int .i64 n) ∧ Below w.heap.size w w'

set_option maxRecDepth 100000 in
set_option maxHeartbeats 3200000 in
theorem rnamed_any (L : Lay) {vs ve vj vg vb : Value} (w : World) (h : LayAt (In w) w L vs ve vj vg vb) :
    Calls Tryd.prog 11 #[layV L vs ve vj vg vb] w (NumOut (namedF L) w) := by
  obtain ⟨a, cap, rfl, hm, _⟩ := h.el
  obtain ⟨a3, cap3, rfl, hm3, _⟩ := h.sg
  obtain ⟨a2, cap2, rfl, hm2, _⟩ := h.sn
  obtain ⟨a4, cap4, rfl, hm4, _⟩ := h.bl
  have B0 := Lib.hid ((Below.refl w.heap.size w).alloc (Nat.le_refl _) (.cells #[.string (bs L.name), .slice a2 L.secs.length cap2, .slice a L.els.length cap, vj, .slice a3 L.sigs.length cap3, .slice a4 L.bals.length cap4] 28))
  have HH := Lib.hid (h.box (.cells #[.string (bs L.name), .slice a2 L.secs.length cap2, .slice a L.els.length cap, vj, .slice a3 L.sigs.length cap3, .slice a4 L.bals.length cap4] 28))
  have HX := Lib.hid (lbox_new w 28 L (.slice a2 L.secs.length cap2) (.slice a L.els.length cap) vj (.slice a3 L.sigs.length cap3) (.slice a4 L.bals.length cap4))
  have HNM : Hid (∀ s ∈ allNames L, s.length ≤ maxLen) := by
    intro s hs
    simp only [allNames, List.mem_cons, List.mem_append, List.mem_map] at hs
    rcases hs with rfl | hs | ⟨x, hx, rfl⟩ | ⟨x, hx, rfl⟩
    · exact h.name
    · exact h.secs.2 s hs
    · exact h.elName x hx
    · exact h.sigName x hx
  have HS0 : Hid (w.heap.size < (w.alloc (.cells #[.string (bs L.name), .slice a2 L.secs.length cap2, .slice a L.els.length cap, vj, .slice a3 L.sigs.length cap3, .slice a4 L.bals.length cap4] 28)).heap.size) := by simp [Hid]
  clear h
  obtain ⟨W, hW⟩ : ∃ W, w.alloc (.cells #[.string (bs L.name), .slice a2 L.secs.length cap2, .slice a L.els.length cap, vj, .slice a3 L.sigs.length cap3, .slice a4 L.bals.length cap4] 28) = W := ⟨_, rfl⟩
  rw [hW] at B0 HH HX HS0
  have HW := Lib.hid hW
  clear hW
  unfold layV
  by_cases hl : limitB L = true
  · have hl' := hl
    simp only [limitB, decide_eq_true_eq] at hl'
    obtain ⟨l1, l2, l3, l4, l5, l6⟩ := hl'
    have HL := Lib.hid hl
    clear hl
    go_enter Tryd.func11, Tryd.ntmps11
    go_wp2_with fail
    rw [HW.out]
    refine (rnames_any L W HH.out (by omega) (by omega) (by omega)).mono ?_
    rintro e w1 ⟨v0, v1, v2, rfl, ⟨r0, s0⟩, ⟨r1, s1⟩, ⟨r2, s2⟩, b1⟩
    have B1 := Lib.hid (bel_next B0.out b1)
    have X1 := Lib.hid (HX.out.next b1 HS0.out)
    have G1 := Lib.hid (Nat.lt_of_lt_of_le HS0.out b1.size)
    obtain ⟨N0, h0⟩ : ∃ N, L.secs = N := ⟨_, rfl⟩
    obtain ⟨N1, h1⟩ : ∃ N, L.els.map (·.name) = N := ⟨_, rfl⟩
    obtain ⟨N2, h2⟩ : ∃ N, L.sigs.map (·.name) = N := ⟨_, rfl⟩
    have t0 : N0.length ≤ 24 := by rw [← h0]; exact l4
    have t1 : N1.length ≤ 32 := by rw [← h1, List.length_map]; exact l2
    have t2 : N2.length ≤ 20 := by rw [← h2, List.length_map]; exact l5
    rw [h0] at r0
    rw [h1] at r1
    rw [h2] at r2
    have HN0 := Lib.hid h0
    have HN1 := Lib.hid h1
    have HN2 := Lib.hid h2
    clear h0 h1 h2
    obtain ⟨A0, C0, rfl, _⟩ := r0.shape
    obtain ⟨A1, C1, rfl, _⟩ := r1.shape
    obtain ⟨A2, C2, rfl, _⟩ := r2.shape
    have Y := reg_facts X1.out G1.out r0 r1 r2 s0 s1 s2
    clear r0 r1 r2 s0 s1 s2 b1
    go_wp2_with fail
    obtain ⟨W2, hW2⟩ : ∃ W2, w1.alloc (.cells #[.slice A0 N0.length C0, .slice A1 N1.length C1, .slice A2 N2.length C2] 55) = W2 := ⟨_, rfl⟩
    rw [hW2] at Y ⊢
    have HW2 := Lib.hid hW2
    clear hW2
    obtain ⟨y0, y1, y2, y3, y4, y5, y6⟩ := Y
    have Y4 := Lib.hid y4
    have Y5 := Lib.hid y5
    have Y6 := Lib.hid y6
    clear y4 y5 y6 l1 l2 l3 l4 l5 l6
    obtain ⟨i0, hi, hz0, hz1, hz2⟩ := info_parts infoS
    have HI0 := Lib.hid hi
    have HZ0 := Lib.hid hz0
    have HZ1 := Lib.hid hz1
    have HZ2 := Lib.hid hz2
    clear hi hz0 hz1 hz2
    have glt : w.heap.size < W2.heap.size := Nat.lt_trans G1.out Y6.out.1
    have tlt : w1.heap.size < W2.heap.size := Y6.out.1
    have sl0 : (strV N0).length ≤ 24 := by rw [strV_len]; exact t0
    have sl1 : (strV N1).length ≤ 32 := by rw [strV_len]; exact t1
    have sl2 : (strV N2).length ≤ 20 := by rw [strV_len]; exact t2
    go_region_held3 (fun w' => w'.cell? ⟨w.heap.size, 0, none⟩ = some (.string (bs L.name)) ∧ w'.cell? ⟨w1.heap.size, 0, none⟩ = some (.slice A0 N0.length C0) ∧ w'.cell? ⟨w1.heap.size, 1, none⟩ = some (.slice A1 N1.length C1) ∧ w'.cell? ⟨w1.heap.size, 2, none⟩ = some (.slice A2 N2.length C2))
      (first
        | exact ⟨(hb3.cell glt).trans y0, (hb3.cell tlt).trans y1, (hb3.cell tlt).trans y2, (hb3.cell tlt).trans y3⟩
        | exact ⟨(hb2.cell glt).trans y0, (hb2.cell tlt).trans y1, (hb2.cell tlt).trans y2, (hb2.cell tlt).trans y3⟩
        | exact ⟨(hb1.cell glt).trans y0, (hb1.cell tlt).trans y1, (hb1.cell tlt).trans y2, (hb1.cell tlt).trans y3⟩
        | go_keep)
      (first
        | (refine step_append_src rfl (.tmp 50) (.tmp 52) 22 rfl W2.heap.size 9 i0 (.string ByteArray.empty) 16 Tryd.underlying22 HI0.out HZ0.out HZ1.out HZ2.out rfl _ _ _ rfl hown2 _ (strV N2) rfl (Y4.out _ hb2).2.2 (strV_one _) (by unfold maxLen; omega) (by omega) (by have := hb2.size; omega) ?_; intro x3 w5 hown3 hg3; obtain ⟨A3, C3, rfl⟩ := own_len hown3; have hb3 := hb2.grown hg3 hb2.size (fun g hg => (hown2.lt g hg).1))
        | (refine step_append_src rfl (.tmp 47) (.tmp 49) 22 rfl W2.heap.size 9 i0 (.string ByteArray.empty) 16 Tryd.underlying22 HI0.out HZ0.out HZ1.out HZ2.out rfl _ _ _ rfl hown1 _ (strV N1) rfl (Y4.out _ hb1).2.1 (strV_one _) (by unfold maxLen; omega) (by omega) (by have := hb1.size; omega) ?_; intro x2 w4 hown2 hg2; obtain ⟨Ax2, Cx2, rfl⟩ := own_len hown2; have hb2 := hb1.grown hg2 hb1.size (fun g hg => (hown1.lt g hg).1))
        | (refine step_append_src rfl (.tmp 44) (.tmp 46) 22 rfl W2.heap.size 9 i0 (.string ByteArray.empty) 16 Tryd.underlying22 HI0.out HZ0.out HZ1.out HZ2.out rfl _ _ _ rfl (own_first W2 (bs L.name)) _ (strV N0) rfl (Y4.out _ (below_first W2 (bs L.name))).1 (strV_one _) (by unfold maxLen; omega) (by omega) (by simp) ?_; intro x1 w3 hown1 hg1; obtain ⟨Ax1, Cx1, rfl⟩ := own_len hown1; have hb1 := (below_first W2 (bs L.name)).grown hg1 (by simp) (fun g hg => ((own_first W2 (bs L.name)).lt g hg).1)))
    clear hg1 hg2 hg3 hown1 hown2 hb1 hb2
    have R5 := own_all HN0.out HN1.out HN2.out hown3 HNM.out
    obtain ⟨M, hM⟩ : ∃ M, 1 + (strV N0).length + (strV N1).length + (strV N2).length = M := ⟨_, rfl⟩
    have hMi : (1 : Int) + ((strV N0).length : Int) + ((strV N1).length : Int) + ((strV N2).length : Int) = (M : Int) := by omega
    rw [hM] at R5 ⊢
    rw [hMi]
    clear hMi
    obtain ⟨AN, hAN⟩ : ∃ AN, allNames L = AN := ⟨_, rfl⟩
    rw [hAN] at R5
    have HAN := Lib.hid hAN
    have hM2 : M ≤ 80 := by omega
    obtain ⟨hMl, R6⟩ := R5
    have HML := Lib.hid hMl
    obtain ⟨A', C', he, _, _, _, hc⟩ := R6.shape
    rw [hMl] at he
    cases he
    have HC := Lib.hid hc
    obtain ⟨B5, hB5⟩ : ∃ B5, Lib.hid hb3 = B5 := ⟨_, rfl⟩
    clear hB5 hb3 hown3 hM hAN hMl R6 hc sl0 sl1 sl2 y0
    obtain ⟨W5, rfl⟩ : ∃ W5 : World, W5 = w5 := ⟨_, rfl⟩
    go_wp2_with fail
    obtain ⟨G, hG⟩ : ∃ G, AN.all nameL = G := ⟨_, rfl⟩
    have HG := Lib.hid hG
    clear hG
    go_loopw [55] (fun vk wr => ∃ k : Nat, vk = .int .i64 (k : Int) ∧ k ≤ M ∧ (AN.drop k).all nameL = G ∧ W5 = wr) (fun vk _ => M - (RowKit.intOf vk).toNat)
    case atStart => exact ⟨0, rfl, Nat.zero_le _, HG.out, rfl⟩
    case round =>
      obtain ⟨k, rfl, hk, hr, rfl⟩ := hrel
      have HR := Lib.hid hr
      clear hr
      by_cases hlt : k < M
      · obtain ⟨s, hs⟩ := at_lt (l := AN) (k := k) (by rw [HML.out]; exact hlt)
        obtain ⟨hsl, b, off, rfl, _, hcell⟩ := HC.out k s hs
        have HN := Lib.hid (rname_any (bs s) W5 (by rw [bs_size]; unfold maxLen at hsl; omega))
        rw [bs_list] at HN
        rw [drop_at hs, List.all_cons] at HR
        clear hs
        rcases Bool.eq_false_or_eq_true (nameL s) with h1 | h1
        · rw [h1] at HN HR
          have HF := Lib.hid (show (AN.drop (k + 1)).all nameL = G by have := HR.out; rwa [Bool.true_and] at this)
          go_wp2_with fail
          refine HN.out.mono ?_
          rintro e w' ⟨rfl, rfl⟩
          go_wp2_with fail
          go_roundw
          case rel => exact ⟨k + 1, by simp, by omega, HF.out, by simp⟩
          case measure => simp [RowKit.intOf]; omega
        · rw [h1] at HN HR
          have HF := Lib.hid (named_name HL.out (by rw [HAN.out, HG.out]; have := HR.out; rwa [Bool.false_and, eq_comm] at this))
          go_wp2_with fail
          refine HN.out.mono ?_
          rintro e w' ⟨rfl, rfl⟩
          go_wp2_with fail
          go_ret
          exact ⟨by rw [HF.out]; rfl, bel_next B1.out (bel_next Y6.out.2 B5.out)⟩
      · have he : k = M := by omega
        subst he
        have HA := Lib.hid (show (allNames L).all nameL = true by
          rw [HAN.out, HG.out, ← HR.out, List.drop_eq_nil_of_le (by rw [HML.out]; exact Nat.le_refl _)]
          rfl)
        obtain ⟨z0, z1, z2⟩ := Y5.out W5 B5.out
        have T0 := Lib.hid (texts_any z0)
        have T1 := Lib.hid (fun w' (b : Below W5.heap.size W5 w') => texts_any (z1.keep (keep_next b)))
        have T2 := Lib.hid (fun w' (b : Below W5.heap.size W5 w') => texts_any (z2.keep (keep_next b)))
        have c0 := (B5.out.cell (p := ⟨w1.heap.size, 0, none⟩) tlt).trans y1
        have Z1 := Lib.hid (fun w' (b : Below W5.heap.size W5 w') => (b.cell (p := ⟨w1.heap.size, 1, none⟩) (Nat.lt_of_lt_of_le tlt B5.out.size)).trans ((B5.out.cell (p := ⟨w1.heap.size, 1, none⟩) tlt).trans y2))
        have Z2 := Lib.hid (fun w' (b : Below W5.heap.size W5 w') => (b.cell (p := ⟨w1.heap.size, 2, none⟩) (Nat.lt_of_lt_of_le tlt B5.out.size)).trans ((B5.out.cell (p := ⟨w1.heap.size, 2, none⟩) tlt).trans y3))
        have HD : Hid (dupN L = (dupB N0 || (dupB N1 || dupB N2))) := by
          show _ = _
          rw [dupN, HN0.out, HN1.out, HN2.out]
        have BB := Lib.hid (bel_next B1.out (bel_next Y6.out.2 B5.out))
        obtain ⟨d0, h0⟩ : ∃ d, dupB N0 = d := ⟨_, rfl⟩
        obtain ⟨d1, h1⟩ : ∃ d, dupB N1 = d := ⟨_, rfl⟩
        obtain ⟨d2, h2⟩ : ∃ d, dupB N2 = d := ⟨_, rfl⟩
        rw [h0] at T0 HD
        rw [h1] at T1 HD
        rw [h2] at T2 HD
        clear z0 z1 z2 h0 h1 h2 y1 y2 y3 hk hlt
        go_wp2_with fail
        refine T0.out.mono ?_
        rintro e w6 ⟨rfl, b6⟩
        have B6 := Lib.hid b6
        have c1 := Z1.out w6 b6
        clear b6
        cases d0
        · go_wp2_with fail
          refine (T1.out w6 B6.out).mono ?_
          rintro e w7 ⟨rfl, b7⟩
          have B7 := Lib.hid (bel_next B6.out b7)
          have c2 := Z2.out w7 (bel_next B6.out b7)
          clear b7
          cases d1
          · go_wp2_with fail
            refine (T2.out w7 B7.out).mono ?_
            rintro e w8 ⟨rfl, b8⟩
            have B8 := Lib.hid (bel_next B7.out b8)
            clear b8
            cases d2
            · have HF := Lib.hid (named_ok HL.out HA.out HD.out)
              go_wp2_with fail
              go_ret
              exact ⟨by rw [HF.out]; rfl, bel_next BB.out B8.out⟩
            · have HF := Lib.hid (named_dup HL.out HA.out HD.out)
              go_wp2_with fail
              go_ret
              exact ⟨by rw [HF.out]; rfl, bel_next BB.out B8.out⟩
          · have HF := Lib.hid (named_dup HL.out HA.out HD.out)
            go_wp2_with fail
            go_ret
            exact ⟨by rw [HF.out]; rfl, bel_next BB.out B7.out⟩
        · have HF := Lib.hid (named_dup HL.out HA.out HD.out)
          go_wp2_with fail
          go_ret
          exact ⟨by rw [HF.out]; rfl, bel_next BB.out B6.out⟩
  · have hl' := hl
    simp only [limitB, decide_eq_true_eq] at hl'
    have HF := Lib.hid (named_limit (L := L) (by simpa using hl))
    clear hl
    go_enter Tryd.func11, Tryd.ntmps11
    go_wp2_with fail
    all_goals first
      | (go_ret
         exact ⟨by rw [HF.out]; rfl, by rw [HW.out]; exact B0.out⟩)
      | (exfalso; omega)

end Go.Proofs.YtkoldgammeojkaaDoor.Lnmd
