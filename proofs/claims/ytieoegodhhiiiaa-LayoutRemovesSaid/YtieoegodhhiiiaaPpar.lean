/- The program's elementsThat, Members, Points, Element, Signal, Joined. -/
import Derived.Test.YtieoegodhhiiiaaPfn
import Derived.Test.YtieoegodhhiiiaaLsev
import Derived.Test.YtieoegodhhiiiaaLele
import Derived.Test.YtieoegodhhiiiaaLlin
import Derived.Maps.AppendAt
import Derived.Laws.ResultCell
namespace Go.Proofs.Ytieoegodhhiiiaa.Ppar
open Go.RowKit Go.Lib Go.Proofs.Ytieoegodhhiiiaa.Reads Go.Proofs.Ytieoegodhhiiiaa.Rows2 Go.Proofs.Ytieoegodhhiiiaa.Lay Go.Proofs.Ytieoegodhhiiiaa.Layf Go.Proofs.Ytieoegodhhiiiaa.Lcon Go.Proofs.Ytieoegodhhiiiaa.Ldup Go.Proofs.Ytieoegodhhiiiaa.Lext Go.Proofs.Ytieoegodhhiiiaa.Lnmd Go.Proofs.Ytieoegodhhiiiaa.Pbas Go.Proofs.Ytieoegodhhiiiaa.Pfn Go.Proofs.Ytieoegodhhiiiaa.Lmem Go.Proofs.Ytieoegodhhiiiaa.Lsev Go.Proofs.Ytieoegodhhiiiaa.Ljoi
open Go.Proofs.Ytieoegodhhiiiaa.Lele (own_below)
open Go.Proofs.Ytieoegodhhiiiaa.Llin (grid_of_own)
open Go.Proofs.Ytieoegodhhiiiaa.Text hiding lineL joinR

theorem that_skip {p : Elem → Bool} {els : List Elem} {r : List Int} {j : Nat} {w w2 : World} {vout : Value} {acc : List Int} {x : Elem} (hx : els[j]? = some x) (hr : r = acc ++ pick p j (els.drop j)) (h : p x = false)
    (ha : acc.length ≤ j) (hw : ∀ x ∈ acc, (Lit.int .i64 x).wf = true) (ho : w2.ownsRow w.heap.size 3 1 vout acc.length (acc.map (Value.int .i64))) (hb : Below w.heap.size w w2) :
    PRel p els r w vout (.int .i64 ((j : Int) + 1)) w2 :=
  ⟨j + 1, acc, (List.getElem?_eq_some_iff.1 hx).1, by simp, by rw [hr, drop_at hx, pick_no h], by omega, hw, ho, hb⟩
theorem that_more {p : Elem → Bool} {els : List Elem} {r : List Int} {j : Nat} {w w2 w1 : World} {vout v1 : Value} {acc : List Int} {x : Elem} (hn : els.length ≤ 1000) (hx : els[j]? = some x) (hr : r = acc ++ pick p j (els.drop j)) (h : p x = true)
    (ha : acc.length ≤ j) (hw : ∀ x ∈ acc, (Lit.int .i64 x).wf = true) (ho : w2.ownsRow w.heap.size 3 1 vout acc.length (acc.map (Value.int .i64))) (hb : Below w.heap.size w w2)
    (h1 : w1.ownsRow w.heap.size 3 1 v1 (acc.length + 1) (acc.map (Value.int .i64) ++ [.int .i64 (j : Int)]))
    (hg : (w2.alloc (.cells #[.int .i64 (j : Int)] 3)).grownBy w1 vout.ownBlock) : PRel p els r w v1 (.int .i64 ((j : Int) + 1)) w1 := by
  have hj := (List.getElem?_eq_some_iff.1 hx).1
  refine ⟨j + 1, acc ++ [(j : Int)], hj, by simp, by rw [hr, drop_at hx, pick_yes h, List.append_assoc]; rfl, by simp; omega, ?_, by simpa using h1, ?_⟩
  · intro x hx
    rcases List.mem_append.1 hx with hx | hx
    · exact hw x hx
    · rw [List.mem_singleton.1 hx]; exact WalkArith.wf_i64 (by omega)
  · exact (hb.alloc hb.size (.cells #[.int .i64 (j : Int)] 3)).grown hg (by have := hb.size; simp; omega) (fun g hg => (ho.lt g hg).1)
theorem flat_one : ∀ l : List Int, (l.flatMap fun x => [Value.int .i64 x]) = l.map (Value.int .i64)
  | [] => rfl
  | x :: l => by rw [List.flatMap_cons, flat_one l]; rfl
theorem own_out {l : List Int} {w W w' : World} {v : Value} (h : w'.ownsRow W.heap.size 3 1 v l.length (l.map (Value.int .i64))) (h1 : w.heap.size ≤ W.heap.size) (hb : Below w.heap.size w w') : OwnOut l w (.returned v) w' := by
  have e := flat_one l
  have hg := grid_of_own (fun x : Int => [Value.int .i64 x]) (sz := 1) (fun _ => rfl) (B := W.heap.size) (w := w') (e := 3) (v := v) (l := l) (by rw [e]; exact h)
  exact ⟨v, rfl, hg.keep fun b hb => ⟨⟨Nat.le_trans h1 hb.1, hb.2⟩, rfl⟩, hb⟩

set_option maxRecDepth 100000 in
set_option maxHeartbeats 1600000 in
theorem that_any (L : Lay) {p : Elem → Bool} {g : FuncId} {lb : Array Value} {vs ve vj vg vb : Value} (w : World) (h : LayAt (In w) w L vs ve vj vg vb) (hn : L.els.length ≤ 1000) (eg : ByVal g) (hp : Tells L.els g lb elV p w) :
    Calls Try.prog 42 #[layV L vs ve vj vg vb, .func (.func g) #[] lb] w (OwnOut (pick p 0 L.els) w) := by
  obtain ⟨r, hr⟩ : ∃ r, pick p 0 L.els = r := ⟨_, rfl⟩
  rw [hr]
  have HR := Lib.hid hr
  clear hr
  obtain ⟨a, cap, rfl, hm, _⟩ := h.el
  have H0 := h.box (.cells #[.string (bs L.name), vs, .slice a L.els.length cap, vj, vg, vb] 28)
  have B0 := Lib.hid ((Below.refl w.heap.size w).alloc (Nat.le_refl _) (.cells #[.string (bs L.name), vs, .slice a L.els.length cap, vj, vg, vb] 28))
  have HP := Lib.hid (hp.next B0.out)
  unfold ByVal at eg
  clear hp
  unfold layV
  go_enter Try.func42, Try.ntmps42
  go_wp2_with fail
  obtain ⟨W, hW⟩ : ∃ W, w.alloc (.cells #[.string (bs L.name), vs, .slice a L.els.length cap, vj, vg, vb] 28) = W := ⟨_, rfl⟩
  rw [hW] at H0 B0 HP ⊢
  clear hW h
  obtain ⟨a', cap', he, _, hel⟩ := H0.el
  cases he
  have HE := Lib.hid hel
  clear hel H0
  obtain ⟨i0, hi, hz0, hz1, hz2⟩ := info_parts infoI
  have HI0 := Lib.hid hi
  have HZ0 := Lib.hid hz0
  have HZ1 := Lib.hid hz1
  have HZ2 := Lib.hid hz2
  clear hi hz0 hz1 hz2
  go_loopw [5, 11] (fun vout vj wr => PRel p L.els r W vout vj wr) (fun _ vj _ => L.els.length - (RowKit.intOf vj).toNat)
  case atStart => exact ⟨0, [], Nat.zero_le _, rfl, by rw [← HR.out]; rfl, Nat.le_refl _, by simp, World.ownsRow_nil _ _ _ _, Below.refl _ _⟩
  case round =>
    obtain ⟨j, acc, hj, rfl, hrj, ha, hw, ho, hb⟩ := hrel
    have HB := Lib.hid hb
    have HJ := Lib.hid hrj
    have HA := Lib.hid ha
    have HW := Lib.hid hw
    have HO := Lib.hid ho
    clear hb hrj ha hw ho
    by_cases hl : j < L.els.length
    · obtain ⟨x, hx⟩ := at_lt hl
      obtain ⟨b, off, rfl, c0, c1, c2, c3, c4, c5, c6⟩ := HE.out wr HB.out j x hx
      have HXX := Lib.hid hx
      clear hx
      have HP1 := Lib.hid (fun o => HP.out (wr.alloc o) x (List.mem_of_getElem? HXX.out) (HB.out.alloc HB.out.size o))
      obtain ⟨q, hq⟩ : ∃ q, p x = q := ⟨_, rfl⟩
      rw [hq] at HP1
      have HQ := Lib.hid hq
      clear hq
      obtain ⟨y, hy⟩ : ∃ y, y = x := ⟨_, rfl⟩
      have HY := Lib.hid hy
      obtain ⟨nm, kd, ln, gr, sp, sl, sc⟩ := x
      clear hy
      unfold elV at HP1
      simp only at c0 c1 c2 c3 c4 c5 c6 HP1
      cases q
      · go_wp2_with fail
        refine (HP1.out _).mono ?_
        rintro e w2 ⟨rfl, hb2⟩
        have HB2 := Lib.hid (bel_next (HB.out.alloc HB.out.size _) hb2)
        have HO2 := Lib.hid (own_below (HO.out.alloc _) hb2)
        clear hb2
        go_wp2_with fail
        go_roundw
        case rel => exact that_skip HXX.out HJ.out HQ.out HA.out HW.out HO2.out HB2.out
        case measure => simp [RowKit.intOf]; omega
      · go_wp2_with fail
        refine (HP1.out _).mono ?_
        rintro e w2 ⟨rfl, hb2⟩
        have HB2 := Lib.hid (bel_next (HB.out.alloc HB.out.size _) hb2)
        have HO2 := Lib.hid (own_below (HO.out.alloc _) hb2)
        clear hb2
        go_wp2_with (at_builtin; refine wpList_append_own_at _ rfl (.tmp 19) (.tmp 21) 42 rfl W.heap.size 3 i0 (.int .i64 0) 1 8 Try.underlying42 HI0.out HZ0.out HZ1.out HZ2.out rfl (by decide) _ _ _ rfl (HO2.out.alloc _) ⟨w2.heap.size, 0, none⟩ 1 1 [.int .i64 (j : Int)] rfl rfl (by simpa using cell_one_new w2 (.int .i64 (j : Int)) 3) (by intro u hu; simp at hu; subst hu; rfl) (by have := HA.out; unfold maxLen; omega) (by have := HA.out; omega) (by have := HB2.out.size; simp; omega) ?_; intro v1 w1 h1own hg1 _ _; have R1 := Lib.hid h1own; have R2 := Lib.hid hg1; clear h1own hg1)
        go_roundw
        case rel => exact that_more hn HXX.out HJ.out HQ.out HA.out HW.out HO2.out HB2.out R1.out R2.out
        case measure => simp [RowKit.intOf]; omega
    · have he : j = L.els.length := by omega
      subst he
      clear hl hj
      go_wp2_with fail
      go_ret
      have e : r = acc := by
        rw [HJ.out, List.drop_length]
        simp [pick]
      subst e
      exact own_out HO.out B0.out.size (B0.out.trans (HB.out.mono B0.out.size))

theorem pick_congr {α : Type} {p q : α → Bool} : ∀ {l : List α} {i : Nat}, (∀ x ∈ l, p x = q x) → pick p i l = pick q i l
  | [], _, _ => rfl
  | x :: l, i, h => by rw [pick, pick, h x List.mem_cons_self, pick_congr fun y hy => h y (List.mem_cons_of_mem _ hy)]
/-- The two boxes of a call: the layout's and another's. -/
theorem box_two (w : World) (A B : Array Value) (TA TB : TypeId) :
    (∀ j, ((w.alloc (.cells A TA)).alloc (.cells B TB)).cell? ⟨w.heap.size, j, none⟩ = A[j]?) ∧
    (∀ j, ((w.alloc (.cells A TA)).alloc (.cells B TB)).cell? ⟨w.heap.size + 1, j, none⟩ = B[j]?) ∧
    w.heap.size + 1 < ((w.alloc (.cells A TA)).alloc (.cells B TB)).heap.size ∧ Below w.heap.size w ((w.alloc (.cells A TA)).alloc (.cells B TB)) := by
  have b1 := (Below.refl w.heap.size w).alloc (Nat.le_refl _) (.cells A TA)
  refine ⟨fun j => ?_, fun j => ?_, by simp, b1.alloc b1.size _⟩
  · rw [World.cell?_alloc_past _ _ _ (by simp), World.cell?_alloc_at _ _ _ _ rfl]
  · rw [World.cell?_alloc_at _ _ _ _ (by simp)]

theorem tellMember {xs : List Elem} (s : Int) (B : Nat) (w : World) (hB : B < w.heap.size) (hc : w.cell? ⟨B, 0, none⟩ = some (.int .i64 s)) :
    Tells xs 43 #[.pointer (some ⟨B, 0, none⟩)] elV (fun x => x.sec == s) w := fun W x _ hb => by
  have g1 := (hb.cell (p := ⟨B, 0, none⟩) hB).trans hc
  have hBW : B < W.heap.size := Nat.lt_of_lt_of_le hB hb.size
  have HB := Lib.hid (fun o => (Below.refl W.heap.size W).alloc (Nat.le_refl _) o)
  show Calls _ _ _ _ (BoolOut (x.sec == s) W)
  obtain ⟨nm, kd, ln, gr, sp, sl, sc⟩ := x
  unfold elV
  simp only
  clear hb hc
  go_enter Try.func43, Try.ntmps43
  go_wp2_with fail
  go_ret
  exact ⟨rfl, HB.out _⟩
theorem tellPoint {xs : List Elem} (w : World) : Tells xs 44 #[] elV isPoint w := fun W x _ _ => by
  have HB := Lib.hid (fun o => (Below.refl W.heap.size W).alloc (Nat.le_refl _) o)
  show Calls _ _ _ _ (BoolOut (x.kind == 2) W)
  obtain ⟨nm, kd, ln, gr, sp, sl, sc⟩ := x
  unfold elV
  simp only
  go_enter Try.func44, Try.ntmps44
  go_wp2_with fail
  go_ret
  exact ⟨rfl, HB.out _⟩
set_option maxRecDepth 100000 in
theorem tellName {xs : List Elem} (n : List UInt8) (B : Nat) (w : World) (hB : B < w.heap.size) (hc : w.cell? ⟨B, 0, none⟩ = some (.string (bs n))) :
    Tells xs 46 #[.pointer (some ⟨B, 0, none⟩)] elV (isName n) w := fun W x _ hb => by
  have g1 := (hb.cell (p := ⟨B, 0, none⟩) hB).trans hc
  have hBW : B < W.heap.size := Nat.lt_of_lt_of_le hB hb.size
  have HB := Lib.hid (fun o => (Below.refl W.heap.size W).alloc (Nat.le_refl _) o)
  show Calls _ _ _ _ (BoolOut (decide (x.name = n)) W)
  obtain ⟨nm, kd, ln, gr, sp, sl, sc⟩ := x
  unfold elV
  simp only
  clear hb hc
  by_cases h : nm = n
  · subst h
    rw [decide_eq_true rfl]
    go_enter Try.func46, Try.ntmps46
    go_wp2_with fail
    go_ret
    exact ⟨rfl, HB.out _⟩
  · have hne := bs_ne h
    rw [decide_eq_false h]
    clear h
    go_enter Try.func46, Try.ntmps46
    go_wp2_with fail
    go_ret
    exact ⟨rfl, HB.out _⟩
set_option maxRecDepth 100000 in
theorem tellSpot {xs : List Sig} (p : Int × Int) (B : Nat) (w : World) (hB : B < w.heap.size) (hc0 : w.cell? ⟨B, 0, none⟩ = some (.int .i64 p.1)) (hc1 : w.cell? ⟨B, 1, none⟩ = some (.int .i64 p.2)) :
    Tells xs 40 #[.pointer (some ⟨B, 0, none⟩)] sgV (isSpot p) w := fun W x _ hb => by
  have g1 := (hb.cell (p := ⟨B, 0, none⟩) hB).trans hc0
  have g2 := (hb.cell (p := ⟨B, 1, none⟩) hB).trans hc1
  have hBW : B < W.heap.size := Nat.lt_of_lt_of_le hB hb.size
  have HB := Lib.hid (fun o => (Below.refl W.heap.size W).alloc (Nat.le_refl _) o)
  show Calls _ _ _ _ (BoolOut (decide (x.spot = p)) W)
  obtain ⟨nm, ⟨u1, u2⟩, ov⟩ := x
  obtain ⟨p1, p2⟩ := p
  unfold sgV
  simp only at g1 g2 ⊢
  clear hb hc0 hc1
  by_cases h : (u1, u2) = (p1, p2)
  · cases h
    rw [decide_eq_true rfl]
    go_enter Try.func40, Try.ntmps40
    go_wp2_with fail
    go_ret
    exact ⟨rfl, HB.out _⟩
  · have hc := ne_cases h
    rw [decide_eq_false h]
    clear h
    rcases hc with hc | ⟨hc, hc2⟩
    all_goals
      go_enter Try.func40, Try.ntmps40
      go_wp2_with fail
      go_ret
      exact ⟨rfl, HB.out _⟩

set_option maxRecDepth 100000 in
set_option maxHeartbeats 800000 in
theorem members_any (L : Lay) (s : Nat) {vs ve vj vg vb : Value} (w : World) (h : LayAt (In w) w L vs ve vj vg vb) (hn : L.els.length ≤ 1000) (hs : s < L.secs.length) :
    Calls Try.prog 15 #[layV L vs ve vj vg vb, .int .i64 (s : Int)] w (OwnOut (membersF L (s : Int)) w) := by
  obtain ⟨a, cap, rfl, hm, _⟩ := h.sn
  have HI := Lib.hid (fun w => index_any (s : Int) (L.secs.length : Int) (by omega) hm w)
  rw [decide_eq_true (show 0 ≤ (s : Int) ∧ (s : Int) < (L.secs.length : Int) by omega)] at HI
  obtain ⟨x0, x1, x2, x3⟩ := box_two w #[.string (bs L.name), .slice a L.secs.length cap, ve, vj, vg, vb] #[.int .i64 (s : Int)] 28 3
  have HC := Lib.hid (that_any L _ (h.next x3) hn (g := 43) (fun args w => enters_of Try.func43 (by kernel_rfl) rfl args w) (tellMember (s : Int) (w.heap.size + 1) _ x2 (x1 0)))
  have HV := Lib.hid (show pick (fun x : Elem => x.sec == (s : Int)) 0 L.els = membersF L (s : Int) from pick_congr fun x _ => by simp [isMember, hs])
  rw [HV.out] at HC
  have HB := Lib.hid x3
  have hmf : ∀ (fn : Fn) (first cap : Array Value) (w : World), (Instr.makeFunc fn first cap).run Try.prog w = .ok (.func fn first cap) w := fun _ _ _ _ => rfl
  clear h hn hs HV x0 x1 x2 x3
  unfold layV at HC ⊢
  go_enter Try.func15, Try.ntmps15
  go_wp2_with fail
  refine (HI.out _).mono ?_
  rintro e w' ⟨rfl, rfl⟩
  go_wp2_with fail
  refine HC.out.mono ?_
  rintro e w' ⟨v, rfl, hg, hb⟩
  have HG := Lib.hid (hg.keep fun b hb => ⟨⟨Nat.le_trans HB.out.size hb.1, hb.2⟩, rfl⟩ : Grid (fun b => w.heap.size ≤ b ∧ b < w'.heap.size) w' v 1 ((membersF L (s : Int)).map fun x => [.int .i64 x]))
  have HB2 := Lib.hid (bel_next HB.out hb)
  clear hg hb
  go_wp2_with fail
  go_ret
  exact ⟨v, rfl, HG.out, HB2.out⟩
set_option maxRecDepth 100000 in
set_option maxHeartbeats 800000 in
theorem points_any (L : Lay) {vs ve vj vg vb : Value} (w : World) (h : LayAt (In w) w L vs ve vj vg vb) (hn : L.els.length ≤ 1000) :
    Calls Try.prog 16 #[layV L vs ve vj vg vb] w (OwnOut (pointsF L) w) := by
  have b1 := (Below.refl w.heap.size w).alloc (Nat.le_refl _) (.cells #[.string (bs L.name), vs, ve, vj, vg, vb] 28)
  have HC := Lib.hid (that_any L _ (h.next b1) hn (g := 44) (fun args w => enters_of Try.func44 (by kernel_rfl) rfl args w) (tellPoint _))
  have HB := Lib.hid b1
  clear h hn b1
  unfold layV at HC ⊢
  go_enter Try.func16, Try.ntmps16
  go_wp2_with fail
  refine HC.out.mono ?_
  rintro e w' ⟨v, rfl, hg, hb⟩
  have HG := Lib.hid (hg.keep fun b hb => ⟨⟨Nat.le_trans HB.out.size hb.1, hb.2⟩, rfl⟩ : Grid (fun b => w.heap.size ≤ b ∧ b < w'.heap.size) w' v 1 ((pointsF L).map fun x => [.int .i64 x]))
  have HB2 := Lib.hid (bel_next HB.out hb)
  clear hg hb
  go_wp2_with fail
  go_ret
  exact ⟨v, rfl, HG.out, HB2.out⟩
set_option maxRecDepth 100000 in
set_option maxHeartbeats 800000 in
theorem element_any (L : Lay) (n : List UInt8) {vs ve vj vg vb : Value} (w : World) (h : LayAt (In w) w L vs ve vj vg vb) :
    Calls Try.prog 17 #[layV L vs ve vj vg vb, .string (bs n)] w (NumOut (elementF L n) w) := by
  obtain ⟨x0, x1, x2, x3⟩ := box_two w #[.string (bs L.name), vs, ve, vj, vg, vb] #[.string (bs n)] 28 9
  have HC := Lib.hid (indexE (g := 46) (fun args w => enters_of Try.func46 (by kernel_rfl) rfl args w) (h.next x3).els (tellName n (w.heap.size + 1) _ x2 (x1 0)))
  change Hid (Calls _ _ _ _ (NumOut (elementF L n) _)) at HC
  have HB := Lib.hid x3
  have hmf : ∀ (fn : Fn) (first cap : Array Value) (w : World), (Instr.makeFunc fn first cap).run Try.prog w = .ok (.func fn first cap) w := fun _ _ _ _ => rfl
  clear h x0 x1 x2 x3
  unfold layV
  go_enter Try.func17, Try.ntmps17
  go_wp2_with fail
  refine HC.out.mono ?_
  rintro e w' ⟨rfl, hb⟩
  have HB2 := Lib.hid (bel_next HB.out hb)
  clear hb
  go_wp2_with fail
  go_ret
  exact ⟨rfl, HB2.out⟩
set_option maxRecDepth 100000 in
set_option maxHeartbeats 800000 in
theorem signal_any (L : Lay) (p : Int × Int) {vs ve vj vg vb : Value} (w : World) (h : LayAt (In w) w L vs ve vj vg vb) :
    Calls Try.prog 13 #[layV L vs ve vj vg vb, pV p] w (NumOut (signalF L p) w) := by
  obtain ⟨x0, x1, x2, x3⟩ := box_two w #[.string (bs L.name), vs, ve, vj, vg, vb] #[.int .i64 p.1, .int .i64 p.2] 28 37
  have HC := Lib.hid (indexG (g := 40) (fun args w => enters_of Try.func40 (by kernel_rfl) rfl args w) (h.next x3).sigs (tellSpot p (w.heap.size + 1) _ x2 (x1 0) (x1 1)))
  change Hid (Calls _ _ _ _ (NumOut (signalF L p) _)) at HC
  have HB := Lib.hid x3
  have hmf : ∀ (fn : Fn) (first cap : Array Value) (w : World), (Instr.makeFunc fn first cap).run Try.prog w = .ok (.func fn first cap) w := fun _ _ _ _ => rfl
  clear h x0 x1 x2 x3
  obtain ⟨p1, p2⟩ := p
  unfold layV pV
  simp only at HC HB ⊢
  go_enter Try.func13, Try.ntmps13
  go_wp2_with fail
  refine HC.out.mono ?_
  rintro e w' ⟨rfl, hb⟩
  have HB2 := Lib.hid (bel_next HB.out hb)
  clear hb
  go_wp2_with fail
  go_ret
  exact ⟨rfl, HB2.out⟩

set_option maxRecDepth 100000 in
set_option maxHeartbeats 1600000 in
/-- The program's Joined. -/
theorem joined_any (L : Lay) (p : Int × Int) {vs ve vj vg vb : Value} (w : World) (h : LayAt (In w) w L vs ve vj vg vb) :
    Calls Try.prog 12 #[layV L vs ve vj vg vb, pV p] w (EndOut (joinedF L p) w) := by
  obtain ⟨r, hr⟩ : ∃ r, joinedF L p = r := ⟨_, rfl⟩
  rw [hr]
  have HR := Lib.hid hr
  clear hr
  obtain ⟨a, cap, rfl, hm, _⟩ := h.jt
  obtain ⟨e1, e2⟩ := p
  have b1 := (Below.refl w.heap.size w).alloc (Nat.le_refl _) (.cells #[.string (bs L.name), vs, ve, .slice a L.joints.length cap, vg, vb] 28)
  have b2 := b1.alloc b1.size (.cells #[.int .i64 e1, .int .i64 e2] 37)
  have b3 := b2.alloc b2.size (.cells #[.int .i64 0, .int .i64 0] 37)
  have H0 := h.next b3
  have X0 := box3 w #[.string (bs L.name), vs, ve, .slice a L.joints.length cap, vg, vb] #[.int .i64 e1, .int .i64 e2] #[.int .i64 0, .int .i64 0] 28 37 37
  clear b1 b2
  unfold layV pV
  go_enter Try.func12, Try.ntmps12
  go_wp2_with fail
  obtain ⟨W, hW⟩ : ∃ W, ((w.alloc (.cells #[.string (bs L.name), vs, ve, .slice a L.joints.length cap, vg, vb] 28)).alloc (.cells #[.int .i64 e1, .int .i64 e2] 37)).alloc (.cells #[.int .i64 0, .int .i64 0] 37) = W := ⟨_, rfl⟩
  rw [hW] at H0 X0 b3 ⊢
  clear hW h
  obtain ⟨x0, x1, x2, x3⟩ := X0
  have C1 := Lib.hid (x1 0)
  have C2 := Lib.hid (x1 1)
  have CR := Lib.hid x2
  have WS := Lib.hid x3
  have B0 := Lib.hid b3
  obtain ⟨a', cap', he, _, hel⟩ := H0.jt
  cases he
  have HE := Lib.hid hel
  clear hel H0 x0 x1 x2 x3 b3
  go_loopw [11] (fun vj wr => ∃ j : Nat, vj = .int .i64 (j : Int) ∧ j ≤ L.joints.length ∧ r = joinR (e1, e2) (L.joints.drop j) ∧ Below W.heap.size W wr) (fun vj _ => L.joints.length - (RowKit.intOf vj).toNat)
  case atStart => exact ⟨0, rfl, Nat.zero_le _, by rw [← HR.out]; rfl, Below.refl _ _⟩
  case round =>
    obtain ⟨j, rfl, hj, hrj, hb⟩ := hrel
    have HB := Lib.hid hb
    have HJ := Lib.hid hrj
    have g1 := (hb.cell (p := ⟨w.heap.size + 1, 0, none⟩) (by rw [WS.out]; simp)).trans C1.out
    have g2 := (hb.cell (p := ⟨w.heap.size + 1, 1, none⟩) (by rw [WS.out]; simp)).trans C2.out
    have g3 := (hb.block (w.heap.size + 1 + 1) (by rw [WS.out]; omega)).trans CR.out
    have g4 := cell_of_row wr _ 0 _ _ _ g3
    have g5 := cell_of_row wr _ 1 _ _ _ g3
    have g6 := frozen_of_row wr _ 0 _ _ g3
    have g7 := frozen_of_row wr _ 1 _ _ g3
    have HG := Lib.hid g3
    have hlt : w.heap.size + 1 + 1 < wr.heap.size := Nat.lt_of_lt_of_le (by rw [WS.out]; omega) hb.size
    have hlt1 : w.heap.size + 1 < wr.heap.size := by omega
    simp at g1 g2 g4 g5
    clear hb hrj g3
    by_cases hl : j < L.joints.length
    · obtain ⟨x, hx⟩ := at_lt hl
      obtain ⟨b, off, rfl, c0, c1, c2, c3⟩ := HE.out wr HB.out j x hx
      obtain ⟨⟨u1, u2⟩, ⟨v1, v2⟩⟩ := x
      simp only at c0 c1 c2 c3
      have HD := Lib.hid (drop_at hx)
      clear hx
      by_cases ha : (u1, u2) = (e1, e2)
      · cases ha
        have HV := Lib.hid (show r = ((v1, v2), true) by rw [HJ.out, HD.out, joinR_a])
        go_wp2_with fail
        (try simp only [Exit.inBlock, Exit.then])
        refine bodyPost_ret (v := .tuple #[.agg #[.int .i64 v1, .int .i64 v2], .bool true]) ?_ rfl ⟨?_, ?_⟩
        · rw [results_cell_tmp rfl]
          go_simp
        · rw [HV.out]
          rfl
        · exact jfin (bel_next B0.out HB.out) (by omega) _ _ _
      · have hc := ne_cases (fun e => ha e.symm)
        by_cases hb : (v1, v2) = (e1, e2)
        · cases hb
          have HV := Lib.hid (show r = ((u1, u2), true) by rw [HJ.out, HD.out, joinR_b ha])
          clear ha
          rcases hc with hc | ⟨hc, hc2⟩
          all_goals
            go_wp2_with fail
            (try simp only [Exit.inBlock, Exit.then])
            refine bodyPost_ret (v := .tuple #[.agg #[.int .i64 u1, .int .i64 u2], .bool true]) ?_ rfl ⟨?_, ?_⟩
            · rw [results_cell_tmp rfl]
              go_simp
            · rw [HV.out]
              rfl
            · exact jfin (bel_next B0.out HB.out) (by omega) _ _ _
        · have HV := Lib.hid (show r = joinR (e1, e2) (L.joints.drop (j + 1)) by rw [HJ.out, HD.out, joinR_no ha hb])
          have hd := ne_cases (fun e => hb e.symm)
          clear ha hb
          rcases hc with hc | ⟨hc, hc2⟩
          all_goals
            rcases hd with hd | ⟨hd, hd2⟩
            all_goals
              go_wp2_with fail
              go_roundw
              case rel => exact ⟨j + 1, by simp, by omega, HV.out, HB.out.alloc HB.out.size _⟩
              case measure => simp [RowKit.intOf]; omega
    · have he : j = L.joints.length := by omega
      subst he
      go_wp2_with fail
      (try simp only [Exit.inBlock, Exit.then])
      refine bodyPost_ret (v := .tuple #[.agg #[.int .i64 0, .int .i64 0], .bool false]) ?_ rfl ⟨?_, ?_⟩
      · rw [results_cell_tmp rfl]
        go_simp
      · rw [HJ.out, List.drop_length]
        rfl
      · exact ((bel_next B0.out HB.out).setCell (by simp; omega) _).setCell (by simp; omega) _

end Go.Proofs.Ytieoegodhhiiiaa.Ppar
