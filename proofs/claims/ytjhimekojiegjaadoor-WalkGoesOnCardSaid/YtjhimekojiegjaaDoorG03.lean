/- Texts of this proof, merged: Lnmd, Lmem, Lele, Lown. -/
import Derived.Test.YtjhimekojiegjaaDoorG01
import Derived.Test.YtjhimekojiegjaaDoorG02
import Derived.Deep.RegionHeld3
import Derived.Laws.OwnMore
import Derived.Maps.AppendAt

/- The call of the reference's named. -/
namespace Go.Proofs.YtjhimekojiegjaaDoor.Lnmd
open Go.RowKit Go.Lib Go.Proofs.YtjhimekojiegjaaDoor.Text Go.Proofs.YtjhimekojiegjaaDoor.Numt Go.Proofs.YtjhimekojiegjaaDoor.Reads Go.Proofs.YtjhimekojiegjaaDoor.Rows2 Go.Proofs.YtjhimekojiegjaaDoor.Lay Go.Proofs.YtjhimekojiegjaaDoor.Layf Go.Proofs.YtjhimekojiegjaaDoor.Ldup Go.Proofs.YtjhimekojiegjaaDoor.Ljoi Go.Proofs.YtjhimekojiegjaaDoor.Lnam Go.Proofs.YtjhimekojiegjaaDoor.Rname

/-- A slice of one-cell elements that is appended: nil, or its cells. -/
def Src (w : World) (v : Value) (news : List Value) : Prop :=
  (v = .slice none 0 0 ∧ news = []) ∨ ∃ ad c, v = .slice (some ad) news.length c ∧ ∀ j u, news[j]? = some u → w.cell? (ad.add j) = some u
theorem src_of {ok : Nat → Prop} {w : World} {v : Value} {vs : List Value} (h : Row ok w v vs) (hs : Sn v) : Src w v vs := by
  obtain ⟨a, cap, rfl, h2, h3, h4⟩ := h
  rcases hs with e | ⟨ad, n, c, e⟩
  · simp only [Value.slice.injEq] at e
    exact .inl ⟨by rw [e.1, e.2.1, e.2.2], List.length_eq_zero_iff.1 e.2.1⟩
  · simp only [Value.slice.injEq] at e
    obtain ⟨rfl, _, _⟩ := e
    refine .inr ⟨ad, cap, rfl, fun j u hu => ?_⟩
    rcases h4 with rfl | ⟨b, off, e, _, hc⟩
    · simp at hu
    · cases e
      rw [add_mk]
      exact hc j u hu
/-- append of such a slice to a row of the call's own, as one step of a region that draws. -/
theorem step_append_src {P : Program} {ops : Array Oper} {o : Oper} {a : Act} {w : World} {K : Act → World → Prop} {Q : Exit → Act → World → Prop} {E : Prop}
    (hg : o.guard = none) (s x : Operand) (t : TypeId) (hop : o.op = Op.call { callee := Callee.builtin Builtin.append, args := #[s, x], argTypes := #[t, t] })
    (base : Nat) (e : TypeId) (i : TypeInfo) (z : Value) (bytes : Nat) (ht : P.underlying t = some (.slice e)) (hi : P.info? e = some i) (hz : i.zero = some z)
    (hsize : i.size = 1) (hby : i.bytes = bytes) (hzs : z.cells.size = 1)
    (v : Value) (n : Nat) (xs : List Value) (hs : a.eval s = v) (hown : w.ownsRow base e 1 v n xs)
    (xv : Value) (news : List Value) (hx : a.eval x = xv) (hsrc : Src w xv news) (h1 : ∀ u ∈ news, u.oneCell' = true)
    (h63 : n + news.length ≤ maxLen) (hbytes : (n + news.length) * bytes ≤ 140737488355328) (hbase : base ≤ w.heap.size)
    (h : ∀ v' w', w'.ownsRow base e 1 v' (n + news.length) (xs ++ news) → w.grownBy w' v.ownBlock → K (a.put o.dst v') w') :
    if Region.wanted o (yielded ops a.tmps) = true then Oper.wp P o a w K Q else E := by
  have hw : Region.wanted o (yielded ops a.tmps) = true := by simp [Region.wanted, hg]
  rw [if_pos hw]
  rcases hsrc with ⟨rfl, rfl⟩ | ⟨ad, c, rfl, hnews⟩
  · have hr := run_append_owned_none (P := P) (w := w) base t o.type e i 1 ht hi v n xs hown
    unfold Oper.wp execOp
    simp only [hop, resolve, invoke, builtin, Sem.run_bind, Sem.run_pure, Result.andThen_ok, List.map_toArray, List.map_cons, List.map_nil, hs, hx, hr]
    exact h v w (by simpa using hown) ⟨rfl, rfl, rfl, Nat.le_refl _, fun _ _ _ => rfl⟩
  · obtain ⟨v', w', hr, h2, h3, _, _⟩ := run_append_own_at (P := P) w base t o.type e i z 1 bytes ht hi hz hsize hby hzs (by decide) v n xs hown ad news.length c news (by simp) hnews h1 h63 hbytes hbase
    unfold Oper.wp execOp
    simp only [hop, resolve, invoke, builtin, Sem.run_bind, Sem.run_pure, Result.andThen_ok, List.map_toArray, List.map_cons, List.map_nil, hs, hx, hr]
    exact h v' w' h2 h3

/-- Behind names: what the region reads. -/
theorem reg_facts {L : Lay} {vs ve vj vg vb v0 v1 v2 : Value} {g : Nat} {w1 : World} {N0 N1 N2 : List (List UInt8)} (hx : LBox g w1 L vs ve vj vg vb) (hg : g < w1.heap.size) (r0 : Strs (In w1) w1 v0 N0) (r1 : Strs (In w1) w1 v1 N1) (r2 : Strs (In w1) w1 v2 N2) (s0 : Sn v0) (s1 : Sn v1) (s2 : Sn v2) :
    (w1.alloc (.cells #[v0, v1, v2] 92)).cell? ⟨g, 0, none⟩ = some (.string (bs L.name)) ∧ (w1.alloc (.cells #[v0, v1, v2] 92)).cell? ⟨w1.heap.size, 0, none⟩ = some v0 ∧ (w1.alloc (.cells #[v0, v1, v2] 92)).cell? ⟨w1.heap.size, 1, none⟩ = some v1 ∧ (w1.alloc (.cells #[v0, v1, v2] 92)).cell? ⟨w1.heap.size, 2, none⟩ = some v2 ∧
    (∀ w', Below (w1.alloc (.cells #[v0, v1, v2] 92)).heap.size (w1.alloc (.cells #[v0, v1, v2] 92)) w' → Src w' v0 (strV N0) ∧ Src w' v1 (strV N1) ∧ Src w' v2 (strV N2)) ∧
    (∀ w', Below (w1.alloc (.cells #[v0, v1, v2] 92)).heap.size (w1.alloc (.cells #[v0, v1, v2] 92)) w' → Strs (In w') w' v0 N0 ∧ Strs (In w') w' v1 N1 ∧ Strs (In w') w' v2 N2) ∧
    (w1.heap.size < (w1.alloc (.cells #[v0, v1, v2] 92)).heap.size ∧ Below w1.heap.size w1 (w1.alloc (.cells #[v0, v1, v2] 92))) := by
  have hb : Below w1.heap.size w1 (w1.alloc (.cells #[v0, v1, v2] 92)) := (Below.refl _ _).alloc (Nat.le_refl _) _
  have hk : ∀ w', Below (w1.alloc (.cells #[v0, v1, v2] 92)).heap.size (w1.alloc (.cells #[v0, v1, v2] 92)) w' → Below w1.heap.size w1 w' := fun w' h => bel_next hb h
  refine ⟨(hb.cell hg).trans hx.1, ?_, ?_, ?_, fun w' h => ?_, fun w' h => ?_, by simp, hb⟩
  · rw [World.cell?_alloc_at _ _ _ _ rfl]; rfl
  · rw [World.cell?_alloc_at _ _ _ _ rfl]; rfl
  · rw [World.cell?_alloc_at _ _ _ _ rfl]; rfl
  · have k := keep_next (hk w' h)
    exact ⟨src_of (ok := In w') (r0.1.keep k) s0, src_of (ok := In w') (r1.1.keep k) s1, src_of (ok := In w') (r2.1.keep k) s2⟩
  · have k := keep_next (hk w' h)
    exact ⟨r0.keep k, r1.keep k, r2.keep k⟩
theorem own_len {B : Nat} {w : World} {e : TypeId} {v : Value} {n : Nat} {xs : List Value} (h : w.ownsRow B e 1 v n xs) : ∃ A C, v = .slice A n C := by
  obtain ⟨h1, hor⟩ := h
  rcases hor with ⟨rfl, h0⟩ | ⟨g, cap, cur, rfl, _⟩
  · subst h0
    exact ⟨none, 0, rfl⟩
  · exact ⟨_, _, rfl⟩
/-- The list of all names. -/
theorem own_all {L : Lay} {N0 N1 N2 : List (List UInt8)} (h0 : L.secs = N0) (h1 : L.els.map (·.name) = N1) (h2 : L.sigs.map (·.name) = N2) {B : Nat} {w : World} {e : TypeId} {v : Value} {n : Nat} (h : w.ownsRow B e 1 v n ([.string (bs L.name)] ++ strV N0 ++ strV N1 ++ strV N2)) (hs : ∀ s ∈ allNames L, s.length ≤ maxLen) :
    (allNames L).length = n ∧ Strs (fun b => B ≤ b ∧ b < w.heap.size) w v (allNames L) := by
  have e1 : [.string (bs L.name)] ++ strV N0 ++ strV N1 ++ strV N2 = strV (allNames L) := by
    subst h0 h1 h2
    simp [allNames, strV]
  rw [e1] at h
  have hl : (allNames L).length = n := by
    have := h.1
    rw [strV_len] at this
    omega
  refine ⟨hl, strs_row (by rw [hl]; exact h) hs⟩
theorem below_first (W : World) (s : ByteArray) : Below W.heap.size W (W.alloc (.cells #[.string s] 9)).drew := ((Below.refl _ _).alloc (Nat.le_refl _) _).drew
theorem own_first (W : World) (s : ByteArray) : (W.alloc (.cells #[.string s] 9)).drew.ownsRow W.heap.size 9 1 (.slice (some ⟨W.heap.size, 0, none⟩) 1 1) 1 [.string s] :=
  (World.ownsRow_lit W #[.string s] 1 (Nat.le_refl _) (by unfold maxLen; omega) rfl).drew
/-- What a call gives that returns an error's number. -/
def NumOut (n : Int) (w : World) (e : Ending) (w' : World) : Prop := e = .returned (.int .i64 n) ∧ Below w.heap.size w w'

set_option maxRecDepth 100000 in
set_option maxHeartbeats 3200000 in
theorem rnamed_any (L : Lay) {vs ve vj vg vb : Value} (w : World) (h : LayAt (In w) w L vs ve vj vg vb) :
    Calls Tryd.prog 54 #[layV L vs ve vj vg vb] w (NumOut (namedF L) w) := by
  obtain ⟨a, cap, rfl, hm, _⟩ := h.el
  obtain ⟨a3, cap3, rfl, hm3, _⟩ := h.sg
  obtain ⟨a2, cap2, rfl, hm2, _⟩ := h.sn
  obtain ⟨a4, cap4, rfl, hm4, _⟩ := h.bl
  have B0 := Lib.hid ((Below.refl w.heap.size w).alloc (Nat.le_refl _) (.cells #[.string (bs L.name), .slice a2 L.secs.length cap2, .slice a L.els.length cap, vj, .slice a3 L.sigs.length cap3, .slice a4 L.bals.length cap4] 28))
  have HH := Lib.hid (h.box (.cells #[.string (bs L.name), .slice a2 L.secs.length cap2, .slice a L.els.length cap, vj, .slice a3 L.sigs.length cap3, .slice a4 L.bals.length cap4] 28))
  have HX := Lib.hid (lbox_new w 28 L (.slice a2 L.secs.length cap2) (.slice a L.els.length cap) vj (.slice a3 L.sigs.length cap3) (.slice a4 L.bals.length cap4))
  have HNM : Hid (∀ s ∈ allNames L, s.length ≤ maxLen) := by
    intro s hs
    simp only [allNames, List.mem_cons, List.mem_append, List.mem_map] at hs
    rcases hs with rfl | hs | ⟨x, hx, rfl⟩ | ⟨x, hx, rfl⟩
    · exact h.name
    · exact h.secs.2 s hs
    · exact h.elName x hx
    · exact h.sigName x hx
  have HS0 : Hid (w.heap.size < (w.alloc (.cells #[.string (bs L.name), .slice a2 L.secs.length cap2, .slice a L.els.length cap, vj, .slice a3 L.sigs.length cap3, .slice a4 L.bals.length cap4] 28)).heap.size) := by simp [Hid]
  clear h
  obtain ⟨W, hW⟩ : ∃ W, w.alloc (.cells #[.string (bs L.name), .slice a2 L.secs.length cap2, .slice a L.els.length cap, vj, .slice a3 L.sigs.length cap3, .slice a4 L.bals.length cap4] 28) = W := ⟨_, rfl⟩
  rw [hW] at B0 HH HX HS0
  have HW := Lib.hid hW
  clear hW
  unfold layV
  by_cases hl : limitB L = true
  · have hl' := hl
    simp only [limitB, decide_eq_true_eq] at hl'
    obtain ⟨l1, l2, l3, l4, l5, l6⟩ := hl'
    have HL := Lib.hid hl
    clear hl
    go_enter Tryd.func54, Tryd.ntmps54
    go_wp2_with fail
    rw [HW.out]
    refine (rnames_any L W HH.out (by omega) (by omega) (by omega)).mono ?_
    rintro e w1 ⟨v0, v1, v2, rfl, ⟨r0, s0⟩, ⟨r1, s1⟩, ⟨r2, s2⟩, b1⟩
    have B1 := Lib.hid (bel_next B0.out b1)
    have X1 := Lib.hid (HX.out.next b1 HS0.out)
    have G1 := Lib.hid (Nat.lt_of_lt_of_le HS0.out b1.size)
    obtain ⟨N0, h0⟩ : ∃ N, L.secs = N := ⟨_, rfl⟩
    obtain ⟨N1, h1⟩ : ∃ N, L.els.map (·.name) = N := ⟨_, rfl⟩
    obtain ⟨N2, h2⟩ : ∃ N, L.sigs.map (·.name) = N := ⟨_, rfl⟩
    have t0 : N0.length ≤ 24 := by rw [← h0]; exact l4
    have t1 : N1.length ≤ 32 := by rw [← h1, List.length_map]; exact l2
    have t2 : N2.length ≤ 20 := by rw [← h2, List.length_map]; exact l5
    rw [h0] at r0
    rw [h1] at r1
    rw [h2] at r2
    have HN0 := Lib.hid h0
    have HN1 := Lib.hid h1
    have HN2 := Lib.hid h2
    clear h0 h1 h2
    obtain ⟨A0, C0, rfl, _⟩ := r0.shape
    obtain ⟨A1, C1, rfl, _⟩ := r1.shape
    obtain ⟨A2, C2, rfl, _⟩ := r2.shape
    have Y := reg_facts X1.out G1.out r0 r1 r2 s0 s1 s2
    clear r0 r1 r2 s0 s1 s2 b1
    go_wp2_with fail
    obtain ⟨W2, hW2⟩ : ∃ W2, w1.alloc (.cells #[.slice A0 N0.length C0, .slice A1 N1.length C1, .slice A2 N2.length C2] 92) = W2 := ⟨_, rfl⟩
    rw [hW2] at Y ⊢
    have HW2 := Lib.hid hW2
    clear hW2
    obtain ⟨y0, y1, y2, y3, y4, y5, y6⟩ := Y
    have Y4 := Lib.hid y4
    have Y5 := Lib.hid y5
    have Y6 := Lib.hid y6
    clear y4 y5 y6 l1 l2 l3 l4 l5 l6
    obtain ⟨i0, hi, hz0, hz1, hz2⟩ := info_parts infoS
    have HI0 := Lib.hid hi
    have HZ0 := Lib.hid hz0
    have HZ1 := Lib.hid hz1
    have HZ2 := Lib.hid hz2
    clear hi hz0 hz1 hz2
    have glt : w.heap.size < W2.heap.size := Nat.lt_trans G1.out Y6.out.1
    have tlt : w1.heap.size < W2.heap.size := Y6.out.1
    have sl0 : (strV N0).length ≤ 24 := by rw [strV_len]; exact t0
    have sl1 : (strV N1).length ≤ 32 := by rw [strV_len]; exact t1
    have sl2 : (strV N2).length ≤ 20 := by rw [strV_len]; exact t2
    go_region_held3 (fun w' => w'.cell? ⟨w.heap.size, 0, none⟩ = some (.string (bs L.name)) ∧ w'.cell? ⟨w1.heap.size, 0, none⟩ = some (.slice A0 N0.length C0) ∧ w'.cell? ⟨w1.heap.size, 1, none⟩ = some (.slice A1 N1.length C1) ∧ w'.cell? ⟨w1.heap.size, 2, none⟩ = some (.slice A2 N2.length C2))
      (first
        | exact ⟨(hb3.cell glt).trans y0, (hb3.cell tlt).trans y1, (hb3.cell tlt).trans y2, (hb3.cell tlt).trans y3⟩
        | exact ⟨(hb2.cell glt).trans y0, (hb2.cell tlt).trans y1, (hb2.cell tlt).trans y2, (hb2.cell tlt).trans y3⟩
        | exact ⟨(hb1.cell glt).trans y0, (hb1.cell tlt).trans y1, (hb1.cell tlt).trans y2, (hb1.cell tlt).trans y3⟩
        | go_keep)
      (first
        | (refine step_append_src rfl (.tmp 50) (.tmp 52) 22 rfl W2.heap.size 9 i0 (.string ByteArray.empty) 16 Tryd.underlying22 HI0.out HZ0.out HZ1.out HZ2.out rfl _ _ _ rfl hown2 _ (strV N2) rfl (Y4.out _ hb2).2.2 (strV_one _) (by unfold maxLen; omega) (by omega) (by have := hb2.size; omega) ?_; intro x3 w5 hown3 hg3; obtain ⟨A3, C3, rfl⟩ := own_len hown3; have hb3 := hb2.grown hg3 hb2.size (fun g hg => (hown2.lt g hg).1))
        | (refine step_append_src rfl (.tmp 47) (.tmp 49) 22 rfl W2.heap.size 9 i0 (.string ByteArray.empty) 16 Tryd.underlying22 HI0.out HZ0.out HZ1.out HZ2.out rfl _ _ _ rfl hown1 _ (strV N1) rfl (Y4.out _ hb1).2.1 (strV_one _) (by unfold maxLen; omega) (by omega) (by have := hb1.size; omega) ?_; intro x2 w4 hown2 hg2; obtain ⟨Ax2, Cx2, rfl⟩ := own_len hown2; have hb2 := hb1.grown hg2 hb1.size (fun g hg => (hown1.lt g hg).1))
        | (refine step_append_src rfl (.tmp 44) (.tmp 46) 22 rfl W2.heap.size 9 i0 (.string ByteArray.empty) 16 Tryd.underlying22 HI0.out HZ0.out HZ1.out HZ2.out rfl _ _ _ rfl (own_first W2 (bs L.name)) _ (strV N0) rfl (Y4.out _ (below_first W2 (bs L.name))).1 (strV_one _) (by unfold maxLen; omega) (by omega) (by simp) ?_; intro x1 w3 hown1 hg1; obtain ⟨Ax1, Cx1, rfl⟩ := own_len hown1; have hb1 := (below_first W2 (bs L.name)).grown hg1 (by simp) (fun g hg => ((own_first W2 (bs L.name)).lt g hg).1)))
    clear hg1 hg2 hg3 hown1 hown2 hb1 hb2
    have R5 := own_all HN0.out HN1.out HN2.out hown3 HNM.out
    obtain ⟨M, hM⟩ : ∃ M, 1 + (strV N0).length + (strV N1).length + (strV N2).length = M := ⟨_, rfl⟩
    have hMi : (1 : Int) + ((strV N0).length : Int) + ((strV N1).length : Int) + ((strV N2).length : Int) = (M : Int) := by omega
    rw [hM] at R5 ⊢
    rw [hMi]
    clear hMi
    obtain ⟨AN, hAN⟩ : ∃ AN, allNames L = AN := ⟨_, rfl⟩
    rw [hAN] at R5
    have HAN := Lib.hid hAN
    have hM2 : M ≤ 80 := by omega
    obtain ⟨hMl, R6⟩ := R5
    have HML := Lib.hid hMl
    obtain ⟨A', C', he, _, _, _, hc⟩ := R6.shape
    rw [hMl] at he
    cases he
    have HC := Lib.hid hc
    obtain ⟨B5, hB5⟩ : ∃ B5, Lib.hid hb3 = B5 := ⟨_, rfl⟩
    clear hB5 hb3 hown3 hM hAN hMl R6 hc sl0 sl1 sl2 y0
    obtain ⟨W5, rfl⟩ : ∃ W5 : World, W5 = w5 := ⟨_, rfl⟩
    go_wp2_with fail
    obtain ⟨G, hG⟩ : ∃ G, AN.all nameL = G := ⟨_, rfl⟩
    have HG := Lib.hid hG
    clear hG
    go_loopw [55] (fun vk wr => ∃ k : Nat, vk = .int .i64 (k : Int) ∧ k ≤ M ∧ (AN.drop k).all nameL = G ∧ W5 = wr) (fun vk _ => M - (RowKit.intOf vk).toNat)
    case atStart => exact ⟨0, rfl, Nat.zero_le _, HG.out, rfl⟩
    case round =>
      obtain ⟨k, rfl, hk, hr, rfl⟩ := hrel
      have HR := Lib.hid hr
      clear hr
      by_cases hlt : k < M
      · obtain ⟨s, hs⟩ := at_lt (l := AN) (k := k) (by rw [HML.out]; exact hlt)
        obtain ⟨hsl, b, off, rfl, _, hcell⟩ := HC.out k s hs
        have HN := Lib.hid (rname_any (bs s) W5 (by rw [bs_size]; unfold maxLen at hsl; omega))
        rw [bs_list] at HN
        rw [Go.Proofs.YtjhimekojiegjaaDoor.Layf.drop_at hs, List.all_cons] at HR
        clear hs
        rcases Bool.eq_false_or_eq_true (nameL s) with h1 | h1
        · rw [h1] at HN HR
          have HF := Lib.hid (show (AN.drop (k + 1)).all nameL = G by have := HR.out; rwa [Bool.true_and] at this)
          go_wp2_with fail
          refine HN.out.mono ?_
          rintro e w' ⟨rfl, rfl⟩
          go_wp2_with fail
          go_roundw
          case rel => exact ⟨k + 1, by simp, by omega, HF.out, by simp⟩
          case measure => simp [RowKit.intOf]; omega
        · rw [h1] at HN HR
          have HF := Lib.hid (named_name HL.out (by rw [HAN.out, HG.out]; have := HR.out; rwa [Bool.false_and, eq_comm] at this))
          go_wp2_with fail
          refine HN.out.mono ?_
          rintro e w' ⟨rfl, rfl⟩
          go_wp2_with fail
          go_ret
          exact ⟨by rw [HF.out]; rfl, bel_next B1.out (bel_next Y6.out.2 B5.out)⟩
      · have he : k = M := by omega
        subst he
        have HA := Lib.hid (show (allNames L).all nameL = true by
          rw [HAN.out, HG.out, ← HR.out, List.drop_eq_nil_of_le (by rw [HML.out]; exact Nat.le_refl _)]
          rfl)
        obtain ⟨z0, z1, z2⟩ := Y5.out W5 B5.out
        have T0 := Lib.hid (texts_any z0)
        have T1 := Lib.hid (fun w' (b : Below W5.heap.size W5 w') => texts_any (z1.keep (keep_next b)))
        have T2 := Lib.hid (fun w' (b : Below W5.heap.size W5 w') => texts_any (z2.keep (keep_next b)))
        have c0 := (B5.out.cell (p := ⟨w1.heap.size, 0, none⟩) tlt).trans y1
        have Z1 := Lib.hid (fun w' (b : Below W5.heap.size W5 w') => (b.cell (p := ⟨w1.heap.size, 1, none⟩) (Nat.lt_of_lt_of_le tlt B5.out.size)).trans ((B5.out.cell (p := ⟨w1.heap.size, 1, none⟩) tlt).trans y2))
        have Z2 := Lib.hid (fun w' (b : Below W5.heap.size W5 w') => (b.cell (p := ⟨w1.heap.size, 2, none⟩) (Nat.lt_of_lt_of_le tlt B5.out.size)).trans ((B5.out.cell (p := ⟨w1.heap.size, 2, none⟩) tlt).trans y3))
        have HD : Hid (dupN L = (dupB N0 || (dupB N1 || dupB N2))) := by
          show _ = _
          rw [dupN, HN0.out, HN1.out, HN2.out]
        have BB := Lib.hid (bel_next B1.out (bel_next Y6.out.2 B5.out))
        obtain ⟨d0, h0⟩ : ∃ d, dupB N0 = d := ⟨_, rfl⟩
        obtain ⟨d1, h1⟩ : ∃ d, dupB N1 = d := ⟨_, rfl⟩
        obtain ⟨d2, h2⟩ : ∃ d, dupB N2 = d := ⟨_, rfl⟩
        rw [h0] at T0 HD
        rw [h1] at T1 HD
        rw [h2] at T2 HD
        clear z0 z1 z2 h0 h1 h2 y1 y2 y3 hk hlt
        go_wp2_with fail
        refine T0.out.mono ?_
        rintro e w6 ⟨rfl, b6⟩
        have B6 := Lib.hid b6
        have c1 := Z1.out w6 b6
        clear b6
        cases d0
        · go_wp2_with fail
          refine (T1.out w6 B6.out).mono ?_
          rintro e w7 ⟨rfl, b7⟩
          have B7 := Lib.hid (bel_next B6.out b7)
          have c2 := Z2.out w7 (bel_next B6.out b7)
          clear b7
          cases d1
          · go_wp2_with fail
            refine (T2.out w7 B7.out).mono ?_
            rintro e w8 ⟨rfl, b8⟩
            have B8 := Lib.hid (bel_next B7.out b8)
            clear b8
            cases d2
            · have HF := Lib.hid (named_ok HL.out HA.out HD.out)
              go_wp2_with fail
              go_ret
              exact ⟨by rw [HF.out]; rfl, bel_next BB.out B8.out⟩
            · have HF := Lib.hid (named_dup HL.out HA.out HD.out)
              go_wp2_with fail
              go_ret
              exact ⟨by rw [HF.out]; rfl, bel_next BB.out B8.out⟩
          · have HF := Lib.hid (named_dup HL.out HA.out HD.out)
            go_wp2_with fail
            go_ret
            exact ⟨by rw [HF.out]; rfl, bel_next BB.out B7.out⟩
        · have HF := Lib.hid (named_dup HL.out HA.out HD.out)
          go_wp2_with fail
          go_ret
          exact ⟨by rw [HF.out]; rfl, bel_next BB.out B6.out⟩
  · have hl' := hl
    simp only [limitB, decide_eq_true_eq] at hl'
    have HF := Lib.hid (named_limit (L := L) (by simpa using hl))
    clear hl
    go_enter Tryd.func54, Tryd.ntmps54
    go_wp2_with fail
    all_goals first
      | (go_ret
         exact ⟨by rw [HF.out]; rfl, by rw [HW.out]; exact B0.out⟩)
      | (exfalso; omega)

end Go.Proofs.YtjhimekojiegjaaDoor.Lnmd

/- The call of the reference's Members. -/
namespace Go.Proofs.YtjhimekojiegjaaDoor.Lmem
open Go.RowKit Go.Lib Go.Proofs.YtjhimekojiegjaaDoor.Text Go.Proofs.YtjhimekojiegjaaDoor.Reads Go.Proofs.YtjhimekojiegjaaDoor.Rows2 Go.Proofs.YtjhimekojiegjaaDoor.Lay Go.Proofs.YtjhimekojiegjaaDoor.Layf

theorem infoI : (Tryd.prog.info? 3).map (fun i => (i.zero, i.size, i.bytes)) = some (some (.int .i64 0), 1, 8) := by kernel_rfl
/-- What a call gives that returns a list. -/
def ListOut (l : List Int) (w : World) (e : Ending) (w' : World) : Prop := ∃ v, e = .returned v ∧ Reads w'.heap.size w' v l ∧ Below w.heap.size w w'

/-- What holds at the head of a loop that picks indexes. -/
def PRel (p : Elem → Bool) (els : List Elem) (r : List Int) (w : World) (vout vj : Value) (wr : World) : Prop :=
  ∃ (j : Nat) (acc : List Int), j ≤ els.length ∧ vj = .int .i64 (j : Int) ∧ r = acc ++ pick p j (els.drop j) ∧ acc.length ≤ j ∧ (∀ x ∈ acc, (Lit.int .i64 x).wf = true) ∧ wr.ownsRow w.heap.size 3 1 vout acc.length (acc.map (Value.int .i64)) ∧ Below w.heap.size w wr

theorem pskip {p : Elem → Bool} {els : List Elem} {r : List Int} {j : Nat} {w wr : World} {o : Obj} {vout : Value} {acc : List Int} {x : Elem} (hx : els[j]? = some x) (hr : r = acc ++ pick p j (els.drop j)) (h : p x = false)
    (ha : acc.length ≤ j) (hw : ∀ x ∈ acc, (Lit.int .i64 x).wf = true) (ho : wr.ownsRow w.heap.size 3 1 vout acc.length (acc.map (Value.int .i64))) (hb : Below w.heap.size w wr) :
    PRel p els r w vout (.int .i64 ((j : Int) + 1)) (wr.alloc o) :=
  ⟨j + 1, acc, (List.getElem?_eq_some_iff.1 hx).1, by simp, by rw [hr, Go.Proofs.YtjhimekojiegjaaDoor.Layf.drop_at hx, pick_no h], by omega, hw, ho.alloc _, hb.alloc hb.size _⟩
theorem pmore {p : Elem → Bool} {els : List Elem} {r : List Int} {j : Nat} {w wr w1 : World} {o : Obj} {vout v1 : Value} {acc : List Int} {x : Elem} (hn : els.length ≤ 1000) (hx : els[j]? = some x) (hr : r = acc ++ pick p j (els.drop j)) (h : p x = true)
    (ha : acc.length ≤ j) (hw : ∀ x ∈ acc, (Lit.int .i64 x).wf = true) (ho : wr.ownsRow w.heap.size 3 1 vout acc.length (acc.map (Value.int .i64))) (hb : Below w.heap.size w wr)
    (h1 : w1.ownsRow w.heap.size 3 1 v1 (acc.length + 1) (acc.map (Value.int .i64) ++ [.int .i64 (j : Int)]))
    (hg : ((wr.alloc o).alloc (.cells #[.int .i64 (j : Int)] 3)).grownBy w1 vout.ownBlock) : PRel p els r w v1 (.int .i64 ((j : Int) + 1)) w1 := by
  have hj := (List.getElem?_eq_some_iff.1 hx).1
  refine ⟨j + 1, acc ++ [(j : Int)], hj, by simp, by rw [hr, Go.Proofs.YtjhimekojiegjaaDoor.Layf.drop_at hx, pick_yes h, List.append_assoc]; rfl, by simp; omega, ?_, by simpa using h1, ?_⟩
  · intro x hx
    rcases List.mem_append.1 hx with hx | hx
    · exact hw x hx
    · rw [List.mem_singleton.1 hx]; exact WalkArith.wf_i64 (by omega)
  · have h2 := (hb.alloc hb.size o).alloc (by have := hb.size; simp; omega) (.cells #[.int .i64 (j : Int)] 3)
    exact h2.grown hg (by have := hb.size; simp; omega) (fun g hg => (ho.lt g hg).1)

set_option maxRecDepth 100000 in
set_option maxHeartbeats 800000 in
theorem rmembers_any (L : Lay) (s : Int) {vs ve vj vg vb : Value} (w : World) (h : LayAt (In w) w L vs ve vj vg vb) (hn : L.els.length ≤ 1000) :
    Calls Tryd.prog 74 #[layV L vs ve vj vg vb, .int .i64 s] w (ListOut (membersF L s) w) := by
  obtain ⟨r, hr⟩ : ∃ r, membersF L s = r := ⟨_, rfl⟩
  rw [hr]
  have HR := Lib.hid hr
  clear hr
  obtain ⟨a, cap, rfl, hm, _⟩ := h.el
  obtain ⟨a2, cap2, rfl, hm2, _⟩ := h.sn
  have H0 := h.box (.cells #[.string (bs L.name), .slice a2 L.secs.length cap2, .slice a L.els.length cap, vj, vg, vb] 28)
  have X0 := lbox_new w 28 L (.slice a2 L.secs.length cap2) (.slice a L.els.length cap) vj vg vb
  have B0 := Lib.hid ((Below.refl w.heap.size w).alloc (Nat.le_refl _) (.cells #[.string (bs L.name), .slice a2 L.secs.length cap2, .slice a L.els.length cap, vj, vg, vb] 28))
  have G0 : w.heap.size < (w.alloc (.cells #[.string (bs L.name), .slice a2 L.secs.length cap2, .slice a L.els.length cap, vj, vg, vb] 28)).heap.size := by simp
  unfold layV
  go_enter Tryd.func74, Tryd.ntmps74
  go_wp2_with fail
  obtain ⟨W, hW⟩ : ∃ W, w.alloc (.cells #[.string (bs L.name), .slice a2 L.secs.length cap2, .slice a L.els.length cap, vj, vg, vb] 28) = W := ⟨_, rfl⟩
  rw [hW] at H0 X0 B0 G0 ⊢
  clear hW h
  obtain ⟨a', cap', he, _, hel⟩ := H0.el
  cases he
  have HE := Lib.hid hel
  have HX := Lib.hid X0
  have HG := Lib.hid G0
  clear hel X0 G0 H0
  obtain ⟨i0, hi, hz0, hz1, hz2⟩ := info_parts infoI
  have HI0 := Lib.hid hi
  have HZ0 := Lib.hid hz0
  have HZ1 := Lib.hid hz1
  have HZ2 := Lib.hid hz2
  clear hi hz0 hz1 hz2
  go_loopw [5, 11] (fun vout vj wr => PRel (isMember L.secs.length s) L.els r W vout vj wr) (fun _ vj _ => L.els.length - (Go.RowKit.intOf vj).toNat)
  case atStart => exact ⟨0, [], Nat.zero_le _, rfl, by rw [← HR.out]; rfl, Nat.le_refl _, by simp, World.ownsRow_nil _ _ _ _, Below.refl _ _⟩
  case round =>
    obtain ⟨j, acc, hj, rfl, hrj, ha, hw, ho, hb⟩ := hrel
    obtain ⟨_, x1, _⟩ := HX.out.next hb HG.out
    have hlt : w.heap.size < wr.heap.size := Nat.lt_of_lt_of_le HG.out hb.size
    have HB := Lib.hid hb
    have HS := Lib.hid hb.size
    have HJ := Lib.hid hrj
    have HA := Lib.hid ha
    have HW := Lib.hid hw
    have HO := Lib.hid ho
    clear hb hrj ha hw ho
    by_cases hl : j < L.els.length
    · obtain ⟨x, hx⟩ := at_lt hl
      obtain ⟨b, off, rfl, c0, c1, c2, c3, c4, c5, c6⟩ := HE.out wr HB.out j x hx
      have HXX := Lib.hid hx
      clear hx
      obtain ⟨nm, kd, ln, gr, sp, sl, sc⟩ := x
      simp only at c0 c1 c2 c3 c4 c5 c6
      by_cases hit : sc = s ∧ 0 ≤ s ∧ s < (L.secs.length : Int)
      · obtain ⟨rfl, h1, h2⟩ := hit
        have HP := Lib.hid (show isMember L.secs.length sc ⟨nm, kd, ln, gr, sp, sl, sc⟩ = true by simp [isMember, h1, h2])
        go_wp2_with (at_builtin; refine wpList_append_own_at _ rfl (.tmp 31) (.tmp 33) 43 rfl W.heap.size 3 i0 (.int .i64 0) 1 8 Tryd.underlying43 HI0.out HZ0.out HZ1.out HZ2.out rfl (by decide) _ _ _ rfl ((HO.out.alloc _).alloc _) ⟨wr.heap.size + 1, 0, none⟩ 1 1 [.int .i64 (j : Int)] rfl rfl (by simpa using cell_one_new (wr.alloc _) (.int .i64 (j : Int)) 3) (by intro u hu; simp at hu; subst hu; rfl) (by have := HA.out; unfold maxLen; omega) (by have := HA.out; omega) (by have := HS.out; simp; omega) ?_; intro v1 w1 h1own hg1 _ _; have R1 := Lib.hid h1own; have R2 := Lib.hid hg1; clear h1own hg1)
        go_roundw
        case rel => exact pmore hn HXX.out HJ.out HP.out HA.out HW.out HO.out HB.out R1.out R2.out
        case measure => simp [Go.RowKit.intOf]; omega
      · have HP := Lib.hid (show isMember L.secs.length s ⟨nm, kd, ln, gr, sp, sl, sc⟩ = false by
          rw [← Bool.not_eq_true]
          simpa [isMember] using hit)
        have hq : (sc == s) = false ∨ ((sc == s) = true ∧ decide (0 ≤ s) = false) ∨ ((sc == s) = true ∧ decide (0 ≤ s) = true ∧ decide (s < (L.secs.length : Int)) = false) := by
          simp only [beq_eq_false_iff_ne, beq_iff_eq, decide_eq_false_iff_not, decide_eq_true_eq]
          omega
        clear hit
        rcases hq with hq | ⟨hq, hq2⟩ | ⟨hq, hq2, hq3⟩
        all_goals
          go_wp2_with fail
          go_roundw
          case rel => exact pskip HXX.out HJ.out HP.out HA.out HW.out HO.out HB.out
          case measure => simp [Go.RowKit.intOf]; omega
    · have he : j = L.els.length := by omega
      subst he
      clear hl hj
      go_wp2_with fail
      go_ret
      have e : r = acc := by
        rw [HJ.out, List.drop_length]
        simp [pick]
      subst e
      exact ⟨_, rfl, reads_own HO.out HW.out (Nat.le_refl _), B0.out.trans (HB.out.mono B0.out.size)⟩

end Go.Proofs.YtjhimekojiegjaaDoor.Lmem

/- The call of the reference's elements. -/
namespace Go.Proofs.YtjhimekojiegjaaDoor.Lele
open Go.RowKit Go.Lib Go.Proofs.YtjhimekojiegjaaDoor.Text Go.Proofs.YtjhimekojiegjaaDoor.Reads Go.Proofs.YtjhimekojiegjaaDoor.Rows2 Go.Proofs.YtjhimekojiegjaaDoor.Lay Go.Proofs.YtjhimekojiegjaaDoor.Layf Go.Proofs.YtjhimekojiegjaaDoor.Ldup Go.Proofs.YtjhimekojiegjaaDoor.Lext Go.Proofs.YtjhimekojiegjaaDoor.Ljoi Go.Proofs.YtjhimekojiegjaaDoor.Lnmd Go.Proofs.YtjhimekojiegjaaDoor.Lnam Go.Proofs.YtjhimekojiegjaaDoor.Lmem

theorem infoE : (Tryd.prog.info? 32).map (fun i => (i.zero, i.size, i.bytes)) = some (some (.agg #[.int .i64 0, .int .i64 0]), 2, 16) := by kernel_rfl
theorem flat_at {ps : List (Int × Int)} {i j : Nat} {r : List Value} {x : Value} (h : (ps.map pCells)[i]? = some r) (hx : r[j]? = some x) : (ps.flatMap pCells)[i * 2 + j]? = some x := by
  induction ps generalizing i with
  | nil => simp at h
  | cons p ps ih =>
    rw [List.flatMap_cons]
    cases i with
    | zero =>
      simp only [List.map_cons, List.getElem?_cons_zero, Option.some.injEq] at h
      subst h
      have hj : j < (pCells p).length := (List.getElem?_eq_some_iff.1 hx).1
      rw [Nat.zero_mul, Nat.zero_add, List.getElem?_append_left hj]
      exact hx
    | succ i =>
      simp only [List.map_cons, List.getElem?_cons_succ] at h
      rw [List.getElem?_append_right (by simp [pCells]; omega)]
      rw [show (i + 1) * 2 + j - (pCells p).length = i * 2 + j by simp [pCells]; omega]
      exact ih h
theorem flat_len (ps : List (Int × Int)) : (ps.flatMap pCells).length = ps.length * 2 := by
  induction ps with
  | nil => rfl
  | cons p ps ih => rw [List.flatMap_cons, List.length_append, ih]; simp [pCells]; omega
/-- A slice of ends of the call's own. -/
theorem grid_own {B : Nat} {w : World} {e : TypeId} {v : Value} {ps : List (Int × Int)} (h : w.ownsRow B e 2 v ps.length (ps.flatMap pCells)) : Grid (fun b => B ≤ b ∧ b < w.heap.size) w v 2 (ps.map pCells) := by
  have hx := h
  obtain ⟨_, hor⟩ := hx
  rcases hor with ⟨rfl, h0⟩ | ⟨g, cap, cur, rfl, hg, hh, hn, hcap, _, _⟩
  · have := List.length_eq_zero_iff.1 h0
    subst this
    exact grid_nil _ _ _
  · refine ⟨_, cap, by simp, by simpa using hn, hcap, .inr ⟨g, 0, rfl, ⟨(h.lt g rfl).1, (h.lt g rfl).2⟩, fun i r hr j x hx => ?_⟩⟩
    have := h.cells (g := g) rfl (i * 2 + j) x (flat_at hr hx)
    rw [add_mk] at this
    rw [← this, Nat.add_assoc]

theorem own_below {B n sz : Nat} {e : TypeId} {v : Value} {xs : List Value} {w w' : World} (h : w.ownsRow B e sz v n xs) (hb : Below w.heap.size w w') : w'.ownsRow B e sz v n xs :=
  h.kept (row := none) ⟨hb.os, hb.tape, hb.output, hb.size, fun j hj _ => hb.block j hj⟩ (by cases hv : v.ownBlock <;> simp)
/-- The cells of a literal slice, in a block of its own. -/
theorem cells_new (w : World) (cs : Array Value) (T : TypeId) : ∀ j u, cs.toList[j]? = some u → (w.alloc (.cells cs T)).cell? ((⟨w.heap.size, 0, none⟩ : Addr).add j) = some u := by
  intro j u hu
  rw [add_mk, World.cell?_alloc_at _ _ _ _ rfl, Nat.zero_add, ← hu, Array.getElem?_toList]
theorem jbox_at (wr : World) (u1 u2 v1 v2 : Int) {w' : World} (b : Below (wr.alloc (.cells #[.int .i64 u1, .int .i64 u2, .int .i64 v1, .int .i64 v2] 79)).heap.size (wr.alloc (.cells #[.int .i64 u1, .int .i64 u2, .int .i64 v1, .int .i64 v2] 79)) w') :
    w'.cell? ⟨wr.heap.size, 0, none⟩ = some (.int .i64 u1) ∧ w'.cell? ⟨wr.heap.size, 1, none⟩ = some (.int .i64 u2) ∧ w'.cell? ⟨wr.heap.size, 2, none⟩ = some (.int .i64 v1) ∧ w'.cell? ⟨wr.heap.size, 3, none⟩ = some (.int .i64 v2) := by
  refine ⟨?_, ?_, ?_, ?_⟩
  all_goals
    rw [b.cell (by simp), World.cell?_alloc_at _ _ _ _ rfl]
    rfl
/-- What holds at the head of the loop over the joints. -/
def JRel (L : Lay) (G : Bool) (W : World) (vout vj : Value) (wr : World) : Prop :=
  ∃ j : Nat, vj = .int .i64 (j : Int) ∧ j ≤ L.joints.length ∧ (L.joints.drop j).all (jointB L.els) = G ∧ wr.ownsRow W.heap.size 32 2 vout (endsOf (L.joints.take j)).length ((endsOf (L.joints.take j)).flatMap pCells) ∧ Below W.heap.size W wr
theorem ends_next {js : List ((Int × Int) × (Int × Int))} {j : Nat} {x : (Int × Int) × (Int × Int)} (h : js[j]? = some x) : endsOf (js.take (j + 1)) = endsOf (js.take j) ++ [x.1, x.2] := by
  obtain ⟨hj, rfl⟩ := List.getElem?_eq_some_iff.1 h
  rw [List.take_succ_eq_append_getElem hj, endsOf, List.flatMap_append]
  rfl
theorem ends_len (js : List ((Int × Int) × (Int × Int))) : (endsOf js).length = js.length * 2 := by
  induction js with
  | nil => rfl
  | cons x js ih => rw [endsOf, List.flatMap_cons, List.length_append]; rw [endsOf] at ih; rw [ih]; simp; omega
theorem jrel_next {L : Lay} {G : Bool} {W w1 w2 : World} {v v' : Value} {j : Nat} {x : (Int × Int) × (Int × Int)} {o : Obj} (hx : L.joints[j]? = some x) (hG : (L.joints.drop (j + 1)).all (jointB L.els) = G) (ho : w1.ownsRow W.heap.size 32 2 v (endsOf (L.joints.take j)).length ((endsOf (L.joints.take j)).flatMap pCells)) (hb : Below W.heap.size W w1)
    (h1 : w2.ownsRow W.heap.size 32 2 v' ((endsOf (L.joints.take j)).length + 2) ((endsOf (L.joints.take j)).flatMap pCells ++ jCells x)) (hg : (w1.alloc o).grownBy w2 v.ownBlock) : JRel L G W v' (.int .i64 ((j : Int) + 1)) w2 := by
  refine ⟨j + 1, by simp, (List.getElem?_eq_some_iff.1 hx).1, hG, ?_, (hb.alloc hb.size o).grown hg (by have := hb.size; simp; omega) (fun g hg => (ho.lt g hg).1)⟩
  rw [ends_next hx, List.flatMap_append, List.length_append]
  exact h1

set_option maxRecDepth 100000 in
set_option maxHeartbeats 3200000 in
theorem relements_any (L : Lay) {vs ve vj vg vb : Value} (w : World) (h : LayAt (In w) w L vs ve vj vg vb) (hn : L.secs.length ≤ 1000) (hn2 : L.els.length ≤ 1000) (hn4 : L.joints.length ≤ 4398046510976) :
    Calls Tryd.prog 55 #[layV L vs ve vj vg vb] w (NumOut (elementsF L) w) := by
  obtain ⟨a, cap, rfl, hm, _⟩ := h.el
  obtain ⟨a3, cap3, rfl, hm3, _⟩ := h.jt
  obtain ⟨a2, cap2, rfl, hm2, _⟩ := h.sn
  have B0 := Lib.hid ((Below.refl w.heap.size w).alloc (Nat.le_refl _) (.cells #[.string (bs L.name), .slice a2 L.secs.length cap2, .slice a L.els.length cap, .slice a3 L.joints.length cap3, vg, vb] 28))
  have HH := Lib.hid (h.box (.cells #[.string (bs L.name), .slice a2 L.secs.length cap2, .slice a L.els.length cap, .slice a3 L.joints.length cap3, vg, vb] 28))
  have HX := Lib.hid (lbox_new w 28 L (.slice a2 L.secs.length cap2) (.slice a L.els.length cap) (.slice a3 L.joints.length cap3) vg vb)
  have HS0 : Hid (w.heap.size < (w.alloc (.cells #[.string (bs L.name), .slice a2 L.secs.length cap2, .slice a L.els.length cap, .slice a3 L.joints.length cap3, vg, vb] 28)).heap.size) := by simp [Hid]
  clear h
  unfold layV
  go_enter Tryd.func55, Tryd.ntmps55
  go_wp2_with fail
  obtain ⟨W, hW⟩ : ∃ W, w.alloc (.cells #[.string (bs L.name), .slice a2 L.secs.length cap2, .slice a L.els.length cap, .slice a3 L.joints.length cap3, vg, vb] 28) = W := ⟨_, rfl⟩
  rw [hW] at B0 HH HX HS0 ⊢
  clear hW
  obtain ⟨a', cap', he, _, hel⟩ := HH.out.el
  cases he
  have HE := Lib.hid hel
  obtain ⟨a', cap', he, _, hjt⟩ := HH.out.jt
  cases he
  have HJ := Lib.hid hjt
  clear hel hjt
  obtain ⟨G, hG⟩ : ∃ G, L.els.all (rightB L.secs.length) = G := ⟨_, rfl⟩
  have HG := Lib.hid hG
  clear hG
  go_loopw [12] (fun vk wr => ∃ k : Nat, vk = .int .i64 (k : Int) ∧ k ≤ L.els.length ∧ (L.els.drop k).all (rightB L.secs.length) = G ∧ Below W.heap.size W wr) (fun vk _ => L.els.length - (RowKit.intOf vk).toNat)
  case atStart => exact ⟨0, rfl, Nat.zero_le _, HG.out, Below.refl _ _⟩
  case round =>
    obtain ⟨k, rfl, hk, hr, hb⟩ := hrel
    have HR := Lib.hid hr
    have HB := Lib.hid hb
    obtain ⟨x0, x1, x2, x3, x4, x5⟩ := HX.out.next hb HS0.out
    have hlt0 : w.heap.size < wr.heap.size := Nat.lt_of_lt_of_le HS0.out hb.size
    clear hr hb
    by_cases hlt : k < L.els.length
    · obtain ⟨x, hx⟩ := at_lt hlt
      obtain ⟨b, off, rfl, c0, c1, c2, c3, c4, c5, c6⟩ := HE.out wr HB.out k x hx
      rw [Go.Proofs.YtjhimekojiegjaaDoor.Layf.drop_at hx, List.all_cons] at HR
      clear hx
      have HC := Lib.hid (fun w' (b' : Below wr.heap.size wr w') => right_any L x w' ((HH.out.next HB.out).next b'))
      obtain ⟨q, hq⟩ : ∃ q, rightB L.secs.length x = q := ⟨_, rfl⟩
      rw [hq] at HC HR
      obtain ⟨nm, kd, ln, gr, sp, sl, sc⟩ := x
      simp only at c0 c1 c2 c3 c4 c5 c6
      have HBA := Lib.hid ((Below.refl wr.heap.size wr).alloc (Nat.le_refl _) (.cells #[.string (bs nm), .int .i64 kd, .int .i64 ln, .int .i64 gr, .int .i64 sp, .int .i64 sl, .int .i64 sc] 54))
      clear hq
      cases q
      · have HF := Lib.hid (elements_right (L := L) (by rw [HG.out]; have := HR.out; rwa [Bool.false_and, eq_comm] at this))
        go_wp2_with fail
        refine (HC.out _ HBA.out).mono ?_
        rintro e w1 ⟨rfl, b1⟩
        have B1 := Lib.hid (bel_next (bel_next B0.out HB.out) (bel_next HBA.out b1))
        clear b1
        go_wp2_with fail
        go_ret
        exact ⟨by rw [HF.out]; rfl, B1.out⟩
      · have HF := Lib.hid (show (L.els.drop (k + 1)).all (rightB L.secs.length) = G by have := HR.out; rwa [Bool.true_and] at this)
        go_wp2_with fail
        refine (HC.out _ HBA.out).mono ?_
        rintro e w1 ⟨rfl, b1⟩
        have B1 := Lib.hid (bel_next HB.out (bel_next HBA.out b1))
        clear b1
        go_wp2_with fail
        go_roundw
        case rel => exact ⟨k + 1, by simp, by omega, HF.out, B1.out⟩
        case measure => simp [RowKit.intOf]; omega
    · have he : k = L.els.length := by omega
      subst he
      have HA := Lib.hid (show L.els.all (rightB L.secs.length) = true by
        rw [HG.out, ← HR.out, List.drop_length]
        rfl)
      clear hk hlt
      obtain ⟨W1, rfl⟩ : ∃ W1 : World, W1 = wr := ⟨_, rfl⟩
      have HB1 := Lib.hid HB.out
      go_wp2_with fail
      clear HB x0 x1 x2 x3 x4 x5 hlt0
      obtain ⟨D, hD⟩ : ∃ D, heldR L 0 L.secs.length = D := ⟨_, rfl⟩
      have HD := Lib.hid hD
      clear hD
      go_loopw [24] (fun vk wr => ∃ k n : Nat, vk = .int .i64 (k : Int) ∧ k + n = L.secs.length ∧ heldR L k n = D ∧ Below W.heap.size W wr) (fun vk _ => L.secs.length - (RowKit.intOf vk).toNat)
      case atStart => exact ⟨0, L.secs.length, rfl, by omega, HD.out, HB1.out⟩
      case round =>
        obtain ⟨k, n, rfl, hk, hr, hb⟩ := hrel
        have HR := Lib.hid hr
        have HB := Lib.hid hb
        obtain ⟨x0, x1, x2, x3, x4, x5⟩ := HX.out.next hb HS0.out
        clear hr hb
        rcases n with _ | n
        · have he : k = L.secs.length := by omega
          subst he
          have HDT := Lib.hid (show heldR L 0 L.secs.length = true by
            rw [HD.out, ← HR.out]
            rfl)
          obtain ⟨W2, rfl⟩ : ∃ W2 : World, W2 = wr := ⟨_, rfl⟩
          have HB2 := Lib.hid HB.out
          go_wp2_with fail
          clear HB hk x0 x1 x2 x3 x4 x5
          obtain ⟨J, hJ⟩ : ∃ J, L.joints.all (jointB L.els) = J := ⟨_, rfl⟩
          have HJA := Lib.hid hJ
          clear hJ
          obtain ⟨i0, hi, hz0, hz1, hz2⟩ := info_parts infoE
          have HI0 := Lib.hid hi
          have HZ0 := Lib.hid hz0
          have HZ1 := Lib.hid hz1
          have HZ2 := Lib.hid hz2
          clear hi hz0 hz1 hz2
          have HS2 := Lib.hid (Nat.lt_of_lt_of_le HS0.out HB2.out.size)
          go_loopw [6, 36] (fun vout vj wr => JRel L J W2 vout vj wr) (fun _ vj _ => L.joints.length - (RowKit.intOf vj).toNat)
          case atStart => exact ⟨0, rfl, Nat.zero_le _, HJA.out, World.ownsRow_nil _ _ _ _, Below.refl _ _⟩
          case round =>
            obtain ⟨j, rfl, hj, hr, ho, hb⟩ := hrel
            have HR := Lib.hid hr
            have HO := Lib.hid ho
            have HB := Lib.hid hb
            have HBW := Lib.hid (HB2.out.trans (hb.mono HB2.out.size))
            clear hr ho hb
            obtain ⟨x0, x1, x2, x3, x4, x5⟩ := HX.out.next HBW.out HS0.out
            have hlt0 : w.heap.size < wr.heap.size := Nat.lt_of_lt_of_le HS0.out HBW.out.size
            by_cases hlt : j < L.joints.length
            · obtain ⟨x, hx⟩ := at_lt hlt
              obtain ⟨b, off, rfl, c0, c1, c2, c3⟩ := HJ.out wr HBW.out j x hx
              have HXX := Lib.hid hx
              rw [Go.Proofs.YtjhimekojiegjaaDoor.Layf.drop_at hx, List.all_cons] at HR
              clear hx
              obtain ⟨⟨u1, u2⟩, ⟨v1, v2⟩⟩ := x
              simp only at c0 c1 c2 c3
              have HBA := Lib.hid ((Below.refl wr.heap.size wr).alloc (Nat.le_refl _) (.cells #[.int .i64 u1, .int .i64 u2, .int .i64 v1, .int .i64 v2] 79))
              have K1 := Lib.hid (fun w' (b' : Below wr.heap.size wr w') => rexists_any L (u1, u2) w' ((HH.out.next HBW.out).next b'))
              have K2 := Lib.hid (fun w' (b' : Below wr.heap.size wr w') => rexists_any L (v1, v2) w' ((HH.out.next HBW.out).next b'))
              have hjb : jointB L.els ((u1, u2), (v1, v2)) = (existsB L.els (u1, u2) && (existsB L.els (v1, v2) && !decide ((u1, u2) = (v1, v2)))) := rfl
              rw [hjb] at HR
              obtain ⟨q1, hq1⟩ : ∃ q, existsB L.els (u1, u2) = q := ⟨_, rfl⟩
              obtain ⟨q2, hq2⟩ : ∃ q, existsB L.els (v1, v2) = q := ⟨_, rfl⟩
              rw [hq1] at K1 HR
              rw [hq2] at K2 HR
              clear hjb hq1 hq2
              have bx := Lib.hid (fun w' (b' : Below (wr.alloc (.cells #[.int .i64 u1, .int .i64 u2, .int .i64 v1, .int .i64 v2] 79)).heap.size (wr.alloc (.cells #[.int .i64 u1, .int .i64 u2, .int .i64 v1, .int .i64 v2] 79)) w') => jbox_at wr u1 u2 v1 v2 b')
              cases q1
              · have HF := Lib.hid (elements_joint (L := L) HA.out HDT.out (by rw [HJA.out]; have := HR.out; rwa [Bool.false_and, Bool.false_and, eq_comm] at this))
                go_wp2_with fail
                refine (K1.out _ HBA.out).mono ?_
                rintro e w3 ⟨rfl, b3⟩
                have B3 := Lib.hid (bel_next (bel_next B0.out HBW.out) (bel_next HBA.out b3))
                clear b3
                go_wp2_with fail
                go_ret
                exact ⟨by rw [HF.out]; rfl, B3.out⟩
              · go_wp2_with fail
                refine (K1.out _ HBA.out).mono ?_
                rintro e w3 ⟨rfl, b3⟩
                obtain ⟨y0, y1, y2, y3⟩ := bx.out w3 b3
                have B3 := Lib.hid (bel_next HBA.out b3)
                obtain ⟨z0, z1, z2, z3, z4, z5⟩ := HX.out.next (bel_next HBW.out B3.out) HS0.out
                have BJ := Lib.hid b3
                clear b3 x0 x1 x2 x3 x4 x5
                cases q2
                · have HF := Lib.hid (elements_joint (L := L) HA.out HDT.out (by rw [HJA.out]; have := HR.out; rwa [Bool.false_and, Bool.and_false, Bool.false_and, eq_comm] at this))
                  go_wp2_with fail
                  refine (K2.out _ B3.out).mono ?_
                  rintro e w4 ⟨rfl, b4⟩
                  have B4 := Lib.hid (bel_next (bel_next B0.out HBW.out) (bel_next B3.out b4))
                  clear b4
                  go_wp2_with fail
                  go_ret
                  exact ⟨by rw [HF.out]; rfl, B4.out⟩
                · go_wp2_with fail
                  refine (K2.out _ B3.out).mono ?_
                  rintro e w4 ⟨rfl, b4⟩
                  obtain ⟨p0, p1, p2, p3⟩ := bx.out w4 (bel_next BJ.out b4)
                  have B4 := Lib.hid (bel_next B3.out b4)
                  clear b4 y0 y1 y2 y3
                  by_cases hu : (u1, u2) = (v1, v2)
                  · have HF := Lib.hid (elements_joint (L := L) HA.out HDT.out (by rw [HJA.out]; have := HR.out; rwa [decide_eq_true hu, Bool.not_true, Bool.and_false, Bool.and_false, Bool.false_and, eq_comm] at this))
                    cases hu
                    go_wp2_with fail
                    go_ret
                    exact ⟨by rw [HF.out]; rfl, bel_next (bel_next B0.out HBW.out) B4.out⟩
                  · have HF := Lib.hid (show (L.joints.drop (j + 1)).all (jointB L.els) = J by
                      have := HR.out
                      rwa [decide_eq_false hu, Bool.not_false, Bool.true_and, Bool.true_and, Bool.true_and] at this)
                    have hc := ne_cases hu
                    have HO4 := Lib.hid (own_below HO.out B4.out)
                    have hnl : (endsOf (List.take j L.joints)).length ≤ 8796093021950 := by rw [ends_len, List.length_take]; omega
                    have HS4 := Lib.hid (Nat.le_trans HB.out.size B4.out.size)
                    have HBJ := Lib.hid (bel_next HB.out B4.out)
                    clear hu
                    rcases hc with hc | ⟨hc, hc2⟩
                    all_goals
                      go_wp2_with (at_builtin; refine wpList_append_own_at _ rfl (.tmp 59) (.tmp 64) 98 rfl W2.heap.size 32 i0 (.agg #[.int .i64 0, .int .i64 0]) 2 16 Tryd.underlying98 HI0.out HZ0.out HZ1.out HZ2.out rfl (by decide) _ _ _ rfl (HO4.out.alloc _) ⟨w4.heap.size, 0, none⟩ 2 2 [.int .i64 u1, .int .i64 u2, .int .i64 v1, .int .i64 v2] rfl rfl (cells_new w4 #[.int .i64 u1, .int .i64 u2, .int .i64 v1, .int .i64 v2] 32) (by intro u hu; simp at hu; rcases hu with rfl | rfl | rfl | rfl <;> rfl) (by unfold maxLen; omega) (by omega) (by have := HS4.out; simp; omega) ?_; intro v5 w5 h1own hg1 _ _; have R1 := Lib.hid h1own; have R2 := Lib.hid hg1; clear h1own hg1)
                      go_roundw
                      case rel => exact jrel_next HXX.out HF.out HO4.out HBJ.out R1.out R2.out
                      case measure => simp [RowKit.intOf]; omega
            · have he : j = L.joints.length := by omega
              subst he
              have HAJ := Lib.hid (show L.joints.all (jointB L.els) = true by
                rw [HJA.out, ← HR.out, List.drop_length]
                rfl)
              have ho := HO.out
              rw [List.take_length] at ho
              have HE2 := Lib.hid (ends_any (l := endsOf L.joints) (w := wr) ((grid_own ho).keep fun b hb => ⟨hb.2, rfl⟩))
              obtain ⟨q, hq⟩ : ∃ q, dupB (endsOf L.joints) = q := ⟨_, rfl⟩
              have HQ := Lib.hid hq
              rw [hq] at HE2
              clear hq ho hj hlt
              cases q
              · have HF := Lib.hid (elements_ok HA.out HDT.out HAJ.out HQ.out)
                go_wp2_with fail
                refine HE2.out.mono ?_
                rintro e w6 ⟨rfl, b6⟩
                have B6 := Lib.hid (bel_next (bel_next B0.out HBW.out) b6)
                clear b6
                go_wp2_with fail
                go_ret
                exact ⟨by rw [HF.out]; rfl, B6.out⟩
              · have HF := Lib.hid (elements_dup HA.out HDT.out HAJ.out HQ.out)
                go_wp2_with fail
                refine HE2.out.mono ?_
                rintro e w6 ⟨rfl, b6⟩
                have B6 := Lib.hid (bel_next (bel_next B0.out HBW.out) b6)
                clear b6
                go_wp2_with fail
                go_ret
                exact ⟨by rw [HF.out]; rfl, B6.out⟩
        · have hlt : k < L.secs.length := by omega
          have HM := Lib.hid (rmembers_any L (k : Int) wr (HH.out.next HB.out) hn2)
          obtain ⟨l, hl⟩ : ∃ l, membersF L (k : Int) = l := ⟨_, rfl⟩
          rw [held_step hl] at HR
          rw [hl] at HM
          clear hl
          by_cases h0 : l = []
          · subst h0
            have HF := Lib.hid (elements_held (L := L) HA.out (by rw [HD.out]; have := HR.out; rwa [decide_eq_true rfl, Bool.not_true, Bool.false_and, eq_comm] at this))
            go_wp2_with fail
            refine HM.out.mono ?_
            rintro e w1 ⟨v, rfl, R, b1⟩
            obtain ⟨A, C, rfl, _⟩ := R.empty
            have B1 := Lib.hid (bel_next (bel_next B0.out HB.out) b1)
            clear b1 R
            go_wp2_with fail
            go_ret
            exact ⟨by rw [HF.out]; rfl, B1.out⟩
          · have HF := Lib.hid (show heldR L (k + 1) n = D by
              have := HR.out
              rwa [decide_eq_false h0, Bool.not_false, Bool.true_and] at this)
            have hq : ((l.length : Int) == 0) = false := by
              have := List.length_pos_iff.2 h0
              simp
              exact h0
            go_wp2_with fail
            refine HM.out.mono ?_
            rintro e w1 ⟨v, rfl, R, b1⟩
            obtain ⟨A, C, rfl, _, _⟩ := ints_shape R
            have B1 := Lib.hid (bel_next HB.out b1)
            clear b1 R
            go_wp2_with fail
            go_roundw
            case rel => exact ⟨k + 1, n, by simp, by omega, HF.out, B1.out⟩
            case measure => simp [RowKit.intOf]; omega

end Go.Proofs.YtjhimekojiegjaaDoor.Lele

/- Lists that a call builds, in blocks of its own; the shapes of a layout's slices. -/
namespace Go.Proofs.YtjhimekojiegjaaDoor.Lown
open Go.RowKit Go.Lib Go.Proofs.YtjhimekojiegjaaDoor.Text Go.Proofs.YtjhimekojiegjaaDoor.Reads Go.Proofs.YtjhimekojiegjaaDoor.Rows2 Go.Proofs.YtjhimekojiegjaaDoor.Lay Go.Proofs.YtjhimekojiegjaaDoor.Layf Go.Proofs.YtjhimekojiegjaaDoor.Ldup Go.Proofs.YtjhimekojiegjaaDoor.Lnam

theorem flat_of {α : Type} (f : α → List Value) (sz : Nat) (hlen : ∀ a, (f a).length = sz) : ∀ {l : List α} {i j : Nat} {r : List Value} {x : Value}, (l.map f)[i]? = some r → r[j]? = some x → (l.flatMap f)[i * sz + j]? = some x
  | [], i, j, r, x, h, _ => by simp at h
  | p :: l, i, j, r, x, h, hx => by
    rw [List.flatMap_cons]
    cases i with
    | zero =>
      simp only [List.map_cons, List.getElem?_cons_zero, Option.some.injEq] at h
      subst h
      have hj : j < (f p).length := (List.getElem?_eq_some_iff.1 hx).1
      rw [Nat.zero_mul, Nat.zero_add, List.getElem?_append_left hj]
      exact hx
    | succ i =>
      simp only [List.map_cons, List.getElem?_cons_succ] at h
      rw [List.getElem?_append_right (by rw [hlen, Nat.succ_mul]; omega)]
      rw [show (i + 1) * sz + j - (f p).length = i * sz + j by rw [hlen, Nat.succ_mul]; omega]
      exact flat_of f sz hlen h hx
/-- A slice of structures of the call's own. -/
theorem grid_of_own {α : Type} (f : α → List Value) {B sz : Nat} (hlen : ∀ a, (f a).length = sz) {w : World} {e : TypeId} {v : Value} {l : List α} (h : w.ownsRow B e sz v l.length (l.flatMap f)) : Grid (fun b => B ≤ b ∧ b < w.heap.size) w v sz (l.map f) := by
  have hx := h
  obtain ⟨_, hor⟩ := hx
  rcases hor with ⟨rfl, h0⟩ | ⟨g, cap, cur, rfl, hg, hh, hn, hcap, _, _⟩
  · have := List.length_eq_zero_iff.1 h0
    subst this
    exact grid_nil _ _ _
  · refine ⟨_, cap, by simp, by simpa using hn, hcap, .inr ⟨g, 0, rfl, ⟨(h.lt g rfl).1, (h.lt g rfl).2⟩, fun i r hr j x hx => ?_⟩⟩
    have := h.cells (g := g) rfl (i * sz + j) x (flat_of f sz hlen hr hx)
    rw [add_mk] at this
    rw [← this, Nat.add_assoc]
/-- The shapes of a layout's five slices. -/
theorem shapes {w : World} {L : Lay} {vs ve vj vg vb : Value} (h : LayAt (In w) w L vs ve vj vg vb) : ∃ a1 c1 a2 c2 a3 c3 a4 c4 a5 c5, vs = .slice a1 L.secs.length c1 ∧ ve = .slice a2 L.els.length c2 ∧ vj = .slice a3 L.joints.length c3 ∧ vg = .slice a4 L.sigs.length c4 ∧ vb = .slice a5 L.bals.length c5 := by
  obtain ⟨a1, c1, h1, _, _⟩ := h.sn
  obtain ⟨a2, c2, h2, _, _⟩ := h.el
  obtain ⟨a3, c3, h3, _, _⟩ := h.jt
  obtain ⟨a4, c4, h4, _, _⟩ := h.sg
  obtain ⟨a5, c5, h5, _, _⟩ := h.bl
  exact ⟨a1, c1, a2, c2, a3, c3, a4, c4, a5, c5, h1, h2, h3, h4, h5⟩

/-- What a call gives that returns a list of its own: in blocks that the call made. -/
def OwnOut (l : List Int) (w : World) (e : Ending) (w' : World) : Prop := ∃ v, e = .returned v ∧ Grid (fun b => w.heap.size ≤ b ∧ b < w'.heap.size) w' v 1 (l.map fun x => [.int .i64 x]) ∧ Below w.heap.size w w'

end Go.Proofs.YtjhimekojiegjaaDoor.Lown
