/- Texts of this proof, merged: Pmem, Pelm, Rdr, Rdk, Rdx, Rdn, Rde. -/
import Derived.Test.YtfdipcphohhlgaaGreatDoorG18
import Derived.Test.YtfdipcphohhlgaaGreatDoorG10
import Derived.Test.YtfdipcphohhlgaaGreatDoorG07
import Derived.Maps.AppendAt
import Derived.Laws.ResultCell
import Derived.Test.YtfdipcphohhlgaaGreatDoorG17
import Derived.Test.YtfdipcphohhlgaaGreatDoorG03
import Derived.Test.YtfdipcphohhlgaaGreatDoorG06
import Derived.Deep.RegionHeld3
import Derived.Test.YtfdipcphohhlgaaGreatDoorG11

/- The program's elementsThat, Members. -/
namespace Go.Proofs.YtfdipcphohhlgaaGreatDoor.Pmem
open Go.RowKit Go.Lib Go.Proofs.YtfdipcphohhlgaaGreatDoor.Reads Go.Proofs.YtfdipcphohhlgaaGreatDoor.Rows2 Go.Proofs.YtfdipcphohhlgaaGreatDoor.Lay Go.Proofs.YtfdipcphohhlgaaGreatDoor.Layf Go.Proofs.YtfdipcphohhlgaaGreatDoor.Lcon Go.Proofs.YtfdipcphohhlgaaGreatDoor.Ldup Go.Proofs.YtfdipcphohhlgaaGreatDoor.Lext Go.Proofs.YtfdipcphohhlgaaGreatDoor.Lnmd Go.Proofs.YtfdipcphohhlgaaGreatDoor.Pbas Go.Proofs.YtfdipcphohhlgaaGreatDoor.Pfn Go.Proofs.YtfdipcphohhlgaaGreatDoor.Lmem Go.Proofs.YtfdipcphohhlgaaGreatDoor.Lown Go.Proofs.YtfdipcphohhlgaaGreatDoor.Ljoi
open Go.Proofs.YtfdipcphohhlgaaGreatDoor.Lele (own_below)
open Go.Proofs.YtfdipcphohhlgaaGreatDoor.Lown (grid_of_own)
open Go.Proofs.YtfdipcphohhlgaaGreatDoor.Text hiding lineL joinR

theorem that_skip {p : Elem → Bool} {els : List Elem} {r : List Int} {j : Nat} {w w2 : World} {vout : Value} {acc : List Int} {x : Elem} (hx : els[j]? = some x) (hr : r = acc ++ pick p j (els.drop j)) (h : p x = false)
    (ha : acc.length ≤ j) (hw : ∀ x ∈ acc, (Lit.int .i64 x).wf = true) (ho : w2.ownsRow w.heap.size 3 1 vout acc.length (acc.map (Value.int .i64))) (hb : Below w.heap.size w w2) :
    PRel p els r w vout (.int .i64 ((j : Int) + 1)) w2 :=
  ⟨j + 1, acc, (List.getElem?_eq_some_iff.1 hx).1, by simp, by rw [hr, Go.Proofs.YtfdipcphohhlgaaGreatDoor.Layf.drop_at hx, pick_no h], by omega, hw, ho, hb⟩
theorem that_more {p : Elem → Bool} {els : List Elem} {r : List Int} {j : Nat} {w w2 w1 : World} {vout v1 : Value} {acc : List Int} {x : Elem} (hn : els.length ≤ 1000) (hx : els[j]? = some x) (hr : r = acc ++ pick p j (els.drop j)) (h : p x = true)
    (ha : acc.length ≤ j) (hw : ∀ x ∈ acc, (Lit.int .i64 x).wf = true) (ho : w2.ownsRow w.heap.size 3 1 vout acc.length (acc.map (Value.int .i64))) (hb : Below w.heap.size w w2)
    (h1 : w1.ownsRow w.heap.size 3 1 v1 (acc.length + 1) (acc.map (Value.int .i64) ++ [.int .i64 (j : Int)]))
    (hg : (w2.alloc (.cells #[.int .i64 (j : Int)] 3)).grownBy w1 vout.ownBlock) : PRel p els r w v1 (.int .i64 ((j : Int) + 1)) w1 := by
  have hj := (List.getElem?_eq_some_iff.1 hx).1
  refine ⟨j + 1, acc ++ [(j : Int)], hj, by simp, by rw [hr, Go.Proofs.YtfdipcphohhlgaaGreatDoor.Layf.drop_at hx, pick_yes h, List.append_assoc]; rfl, by simp; omega, ?_, by simpa using h1, ?_⟩
  · intro x hx
    rcases List.mem_append.1 hx with hx | hx
    · exact hw x hx
    · rw [List.mem_singleton.1 hx]; exact WalkArith.wf_i64 (by omega)
  · exact (hb.alloc hb.size (.cells #[.int .i64 (j : Int)] 3)).grown hg (by have := hb.size; simp; omega) (fun g hg => (ho.lt g hg).1)
theorem flat_one : ∀ l : List Int, (l.flatMap fun x => [Value.int .i64 x]) = l.map (Value.int .i64)
  | [] => rfl
  | x :: l => by rw [List.flatMap_cons, flat_one l]; rfl
theorem own_out {l : List Int} {w W w' : World} {v : Value} (h : w'.ownsRow W.heap.size 3 1 v l.length (l.map (Value.int .i64))) (h1 : w.heap.size ≤ W.heap.size) (hb : Below w.heap.size w w') : OwnOut l w (.returned v) w' := by
  have e := flat_one l
  have hg := grid_of_own (fun x : Int => [Value.int .i64 x]) (sz := 1) (fun _ => rfl) (B := W.heap.size) (w := w') (e := 3) (v := v) (l := l) (by rw [e]; exact h)
  exact ⟨v, rfl, hg.keep fun b hb => ⟨⟨Nat.le_trans h1 hb.1, hb.2⟩, rfl⟩, hb⟩

set_option maxRecDepth 100000 in
set_option maxHeartbeats 1600000 in
theorem that_any (L : Lay) {p : Elem → Bool} {g : FuncId} {lb : Array Value} {vs ve vj vg vb : Value} (w : World) (h : LayAt (In w) w L vs ve vj vg vb) (hn : L.els.length ≤ 1000) (eg : ByVal g) (hp : Tells L.els g lb elV p w) :
    Calls Tryz.prog 116 #[layV L vs ve vj vg vb, .func (.func g) #[] lb] w (OwnOut (pick p 0 L.els) w) := by
  obtain ⟨r, hr⟩ : ∃ r, pick p 0 L.els = r := ⟨_, rfl⟩
  rw [hr]
  have HR := Lib.hid hr
  clear hr
  obtain ⟨a, cap, rfl, hm, _⟩ := h.el
  have H0 := h.box (.cells #[.string (bs L.name), vs, .slice a L.els.length cap, vj, vg, vb] 28)
  have B0 := Lib.hid ((Below.refl w.heap.size w).alloc (Nat.le_refl _) (.cells #[.string (bs L.name), vs, .slice a L.els.length cap, vj, vg, vb] 28))
  have HP := Lib.hid (hp.next B0.out)
  unfold ByVal at eg
  clear hp
  unfold layV
  go_enter Tryz.func116, Tryz.ntmps116
  go_wp2_with fail
  obtain ⟨W, hW⟩ : ∃ W, w.alloc (.cells #[.string (bs L.name), vs, .slice a L.els.length cap, vj, vg, vb] 28) = W := ⟨_, rfl⟩
  rw [hW] at H0 B0 HP ⊢
  clear hW h
  obtain ⟨a', cap', he, _, hel⟩ := H0.el
  cases he
  have HE := Lib.hid hel
  clear hel H0
  obtain ⟨i0, hi, hz0, hz1, hz2⟩ := info_parts infoI
  have HI0 := Lib.hid hi
  have HZ0 := Lib.hid hz0
  have HZ1 := Lib.hid hz1
  have HZ2 := Lib.hid hz2
  clear hi hz0 hz1 hz2
  go_loopw [5, 11] (fun vout vj wr => PRel p L.els r W vout vj wr) (fun _ vj _ => L.els.length - (RowKit.intOf vj).toNat)
  case atStart => exact ⟨0, [], Nat.zero_le _, rfl, by rw [← HR.out]; rfl, Nat.le_refl _, by simp, World.ownsRow_nil _ _ _ _, Below.refl _ _⟩
  case round =>
    obtain ⟨j, acc, hj, rfl, hrj, ha, hw, ho, hb⟩ := hrel
    have HB := Lib.hid hb
    have HJ := Lib.hid hrj
    have HA := Lib.hid ha
    have HW := Lib.hid hw
    have HO := Lib.hid ho
    clear hb hrj ha hw ho
    by_cases hl : j < L.els.length
    · obtain ⟨x, hx⟩ := at_lt hl
      obtain ⟨b, off, rfl, c0, c1, c2, c3, c4, c5, c6⟩ := HE.out wr HB.out j x hx
      have HXX := Lib.hid hx
      clear hx
      have HP1 := Lib.hid (fun o => HP.out (wr.alloc o) x (List.mem_of_getElem? HXX.out) (HB.out.alloc HB.out.size o))
      obtain ⟨q, hq⟩ : ∃ q, p x = q := ⟨_, rfl⟩
      rw [hq] at HP1
      have HQ := Lib.hid hq
      clear hq
      obtain ⟨y, hy⟩ : ∃ y, y = x := ⟨_, rfl⟩
      have HY := Lib.hid hy
      obtain ⟨nm, kd, ln, gr, sp, sl, sc⟩ := x
      clear hy
      unfold elV at HP1
      simp only at c0 c1 c2 c3 c4 c5 c6 HP1
      cases q
      · go_wp2_with fail
        refine (HP1.out _).mono ?_
        rintro e w2 ⟨rfl, hb2⟩
        have HB2 := Lib.hid (bel_next (HB.out.alloc HB.out.size _) hb2)
        have HO2 := Lib.hid (own_below (HO.out.alloc _) hb2)
        clear hb2
        go_wp2_with fail
        go_roundw
        case rel => exact that_skip HXX.out HJ.out HQ.out HA.out HW.out HO2.out HB2.out
        case measure => simp [RowKit.intOf]; omega
      · go_wp2_with fail
        refine (HP1.out _).mono ?_
        rintro e w2 ⟨rfl, hb2⟩
        have HB2 := Lib.hid (bel_next (HB.out.alloc HB.out.size _) hb2)
        have HO2 := Lib.hid (own_below (HO.out.alloc _) hb2)
        clear hb2
        go_wp2_with (at_builtin; refine wpList_append_own_at _ rfl (.tmp 19) (.tmp 21) 68 rfl W.heap.size 3 i0 (.int .i64 0) 1 8 Tryz.underlying68 HI0.out HZ0.out HZ1.out HZ2.out rfl (by decide) _ _ _ rfl (HO2.out.alloc _) ⟨w2.heap.size, 0, none⟩ 1 1 [.int .i64 (j : Int)] rfl rfl (by simpa using cell_one_new w2 (.int .i64 (j : Int)) 3) (by intro u hu; simp at hu; subst hu; rfl) (by have := HA.out; unfold maxLen; omega) (by have := HA.out; omega) (by have := HB2.out.size; simp; omega) ?_; intro v1 w1 h1own hg1 _ _; have R1 := Lib.hid h1own; have R2 := Lib.hid hg1; clear h1own hg1)
        go_roundw
        case rel => exact that_more hn HXX.out HJ.out HQ.out HA.out HW.out HO2.out HB2.out R1.out R2.out
        case measure => simp [RowKit.intOf]; omega
    · have he : j = L.els.length := by omega
      subst he
      clear hl hj
      go_wp2_with fail
      go_ret
      have e : r = acc := by
        rw [HJ.out, List.drop_length]
        simp [pick]
      subst e
      exact own_out HO.out B0.out.size (B0.out.trans (HB.out.mono B0.out.size))

theorem pick_congr {α : Type} {p q : α → Bool} : ∀ {l : List α} {i : Nat}, (∀ x ∈ l, p x = q x) → pick p i l = pick q i l
  | [], _, _ => rfl
  | x :: l, i, h => by rw [pick, pick, h x List.mem_cons_self, pick_congr fun y hy => h y (List.mem_cons_of_mem _ hy)]
/-- The two boxes of a call: the layout's and another's. -/
theorem box_two (w : World) (A B : Array Value) (TA TB : TypeId) :
    (∀ j, ((w.alloc (.cells A TA)).alloc (.cells B TB)).cell? ⟨w.heap.size, j, none⟩ = A[j]?) ∧
    (∀ j, ((w.alloc (.cells A TA)).alloc (.cells B TB)).cell? ⟨w.heap.size + 1, j, none⟩ = B[j]?) ∧
    w.heap.size + 1 < ((w.alloc (.cells A TA)).alloc (.cells B TB)).heap.size ∧ Below w.heap.size w ((w.alloc (.cells A TA)).alloc (.cells B TB)) := by
  have b1 := (Below.refl w.heap.size w).alloc (Nat.le_refl _) (.cells A TA)
  refine ⟨fun j => ?_, fun j => ?_, by simp, b1.alloc b1.size _⟩
  · rw [World.cell?_alloc_past _ _ _ (by simp), World.cell?_alloc_at _ _ _ _ rfl]
  · rw [World.cell?_alloc_at _ _ _ _ (by simp)]

theorem tellMember {xs : List Elem} (s : Int) (B : Nat) (w : World) (hB : B < w.heap.size) (hc : w.cell? ⟨B, 0, none⟩ = some (.int .i64 s)) :
    Tells xs 117 #[.pointer (some ⟨B, 0, none⟩)] elV (fun x => x.sec == s) w := fun W x _ hb => by
  have g1 := (hb.cell (p := ⟨B, 0, none⟩) hB).trans hc
  have hBW : B < W.heap.size := Nat.lt_of_lt_of_le hB hb.size
  have HB := Lib.hid (fun o => (Below.refl W.heap.size W).alloc (Nat.le_refl _) o)
  show Calls _ _ _ _ (BoolOut (x.sec == s) W)
  obtain ⟨nm, kd, ln, gr, sp, sl, sc⟩ := x
  unfold elV
  simp only
  clear hb hc
  go_enter Tryz.func117, Tryz.ntmps117
  go_wp2_with fail
  go_ret
  exact ⟨rfl, HB.out _⟩
set_option maxRecDepth 100000 in
set_option maxHeartbeats 800000 in
theorem members_any (L : Lay) (s : Nat) {vs ve vj vg vb : Value} (w : World) (h : LayAt (In w) w L vs ve vj vg vb) (hn : L.els.length ≤ 1000) (hs : s < L.secs.length) :
    Calls Tryz.prog 69 #[layV L vs ve vj vg vb, .int .i64 (s : Int)] w (OwnOut (membersF L (s : Int)) w) := by
  obtain ⟨a, cap, rfl, hm, _⟩ := h.sn
  have HI := Lib.hid (fun w => index_any (s : Int) (L.secs.length : Int) (by omega) hm w)
  rw [decide_eq_true (show 0 ≤ (s : Int) ∧ (s : Int) < (L.secs.length : Int) by omega)] at HI
  obtain ⟨x0, x1, x2, x3⟩ := box_two w #[.string (bs L.name), .slice a L.secs.length cap, ve, vj, vg, vb] #[.int .i64 (s : Int)] 28 3
  have HC := Lib.hid (that_any L _ (h.next x3) hn (g := 117) (fun args w => enters_of Tryz.func117 (by kernel_rfl) rfl args w) (tellMember (s : Int) (w.heap.size + 1) _ x2 (x1 0)))
  have HV := Lib.hid (show pick (fun x : Elem => x.sec == (s : Int)) 0 L.els = membersF L (s : Int) from pick_congr fun x _ => by simp [isMember, hs])
  rw [HV.out] at HC
  have HB := Lib.hid x3
  have hmf : ∀ (fn : Fn) (first cap : Array Value) (w : World), (Instr.makeFunc fn first cap).run Tryz.prog w = .ok (.func fn first cap) w := fun _ _ _ _ => rfl
  clear h hn hs HV x0 x1 x2 x3
  unfold layV at HC ⊢
  go_enter Tryz.func69, Tryz.ntmps69
  go_wp2_with fail
  refine (HI.out _).mono ?_
  rintro e w' ⟨rfl, rfl⟩
  go_wp2_with fail
  refine HC.out.mono ?_
  rintro e w' ⟨v, rfl, hg, hb⟩
  have HG := Lib.hid (hg.keep fun b hb => ⟨⟨Nat.le_trans HB.out.size hb.1, hb.2⟩, rfl⟩ : Grid (fun b => w.heap.size ≤ b ∧ b < w'.heap.size) w' v 1 ((membersF L (s : Int)).map fun x => [.int .i64 x]))
  have HB2 := Lib.hid (bel_next HB.out hb)
  clear hg hb
  go_wp2_with fail
  go_ret
  exact ⟨v, rfl, HG.out, HB2.out⟩

end Go.Proofs.YtfdipcphohhlgaaGreatDoor.Pmem

/- The program's Element. -/
namespace Go.Proofs.YtfdipcphohhlgaaGreatDoor.Pelm
open Go.RowKit Go.Lib Go.Proofs.YtfdipcphohhlgaaGreatDoor.Reads Go.Proofs.YtfdipcphohhlgaaGreatDoor.Rows2 Go.Proofs.YtfdipcphohhlgaaGreatDoor.Lay Go.Proofs.YtfdipcphohhlgaaGreatDoor.Layf Go.Proofs.YtfdipcphohhlgaaGreatDoor.Lcon Go.Proofs.YtfdipcphohhlgaaGreatDoor.Ldup Go.Proofs.YtfdipcphohhlgaaGreatDoor.Lext Go.Proofs.YtfdipcphohhlgaaGreatDoor.Lnmd Go.Proofs.YtfdipcphohhlgaaGreatDoor.Pbas Go.Proofs.YtfdipcphohhlgaaGreatDoor.Pfn Go.Proofs.YtfdipcphohhlgaaGreatDoor.Pmem Go.Proofs.YtfdipcphohhlgaaGreatDoor.Lmem Go.Proofs.YtfdipcphohhlgaaGreatDoor.Lown Go.Proofs.YtfdipcphohhlgaaGreatDoor.Ljoi
open Go.Proofs.YtfdipcphohhlgaaGreatDoor.Lele (own_below)
open Go.Proofs.YtfdipcphohhlgaaGreatDoor.Lown (grid_of_own)
open Go.Proofs.YtfdipcphohhlgaaGreatDoor.Text hiding lineL joinR

set_option maxRecDepth 100000 in
theorem tellName {xs : List Elem} (n : List UInt8) (B : Nat) (w : World) (hB : B < w.heap.size) (hc : w.cell? ⟨B, 0, none⟩ = some (.string (bs n))) :
    Tells xs 146 #[.pointer (some ⟨B, 0, none⟩)] elV (isName n) w := fun W x _ hb => by
  have g1 := (hb.cell (p := ⟨B, 0, none⟩) hB).trans hc
  have hBW : B < W.heap.size := Nat.lt_of_lt_of_le hB hb.size
  have HB := Lib.hid (fun o => (Below.refl W.heap.size W).alloc (Nat.le_refl _) o)
  show Calls _ _ _ _ (BoolOut (decide (x.name = n)) W)
  obtain ⟨nm, kd, ln, gr, sp, sl, sc⟩ := x
  unfold elV
  simp only
  clear hb hc
  by_cases h : nm = n
  · subst h
    rw [decide_eq_true rfl]
    go_enter Tryz.func146, Tryz.ntmps146
    go_wp2_with fail
    go_ret
    exact ⟨rfl, HB.out _⟩
  · have hne := bs_ne h
    rw [decide_eq_false h]
    clear h
    go_enter Tryz.func146, Tryz.ntmps146
    go_wp2_with fail
    go_ret
    exact ⟨rfl, HB.out _⟩
set_option maxRecDepth 100000 in
set_option maxHeartbeats 800000 in
theorem element_any (L : Lay) (n : List UInt8) {vs ve vj vg vb : Value} (w : World) (h : LayAt (In w) w L vs ve vj vg vb) :
    Calls Tryz.prog 127 #[layV L vs ve vj vg vb, .string (bs n)] w (NumOut (elementF L n) w) := by
  obtain ⟨x0, x1, x2, x3⟩ := box_two w #[.string (bs L.name), vs, ve, vj, vg, vb] #[.string (bs n)] 28 9
  have HC := Lib.hid (indexE (g := 146) (fun args w => enters_of Tryz.func146 (by kernel_rfl) rfl args w) (h.next x3).els (tellName n (w.heap.size + 1) _ x2 (x1 0)))
  change Hid (Calls _ _ _ _ (NumOut (elementF L n) _)) at HC
  have HB := Lib.hid x3
  have hmf : ∀ (fn : Fn) (first cap : Array Value) (w : World), (Instr.makeFunc fn first cap).run Tryz.prog w = .ok (.func fn first cap) w := fun _ _ _ _ => rfl
  clear h x0 x1 x2 x3
  unfold layV
  go_enter Tryz.func127, Tryz.ntmps127
  go_wp2_with fail
  refine HC.out.mono ?_
  rintro e w' ⟨rfl, hb⟩
  have HB2 := Lib.hid (bel_next HB.out hb)
  clear hb
  go_wp2_with fail
  go_ret
  exact ⟨rfl, HB2.out⟩

end Go.Proofs.YtfdipcphohhlgaaGreatDoor.Pelm

/- The program's reader of lines: what its box holds, and the calls of its small methods. -/
namespace Go.Proofs.YtfdipcphohhlgaaGreatDoor.Rdr
open Go.RowKit Go.Lib Go.Proofs.YtfdipcphohhlgaaGreatDoor.Reads Go.Proofs.YtfdipcphohhlgaaGreatDoor.Rows2 Go.Proofs.YtfdipcphohhlgaaGreatDoor.Lay Go.Proofs.YtfdipcphohhlgaaGreatDoor.Layf Go.Proofs.YtfdipcphohhlgaaGreatDoor.Lcon Go.Proofs.YtfdipcphohhlgaaGreatDoor.Lext Go.Proofs.YtfdipcphohhlgaaGreatDoor.Numt Go.Proofs.YtfdipcphohhlgaaGreatDoor.Plnf Go.Proofs.YtfdipcphohhlgaaGreatDoor.Pkin Go.Proofs.YtfdipcphohhlgaaGreatDoor.Prds Go.Proofs.YtfdipcphohhlgaaGreatDoor.Pelm
open Go.Proofs.YtfdipcphohhlgaaGreatDoor.Debw (Deb)
open Go.Proofs.YtfdipcphohhlgaaGreatDoor.Lown (grid_of_own)
open Go.Proofs.YtfdipcphohhlgaaGreatDoor.Text hiding lineL joinR

/-- The five slices are of the call's own, in blocks apart. -/
structure Owns5 (B g : Nat) (w : World) (L : Lay) (vs ve vj vg vb : Value) : Prop where
  os : w.ownsRow B 9 1 vs L.secs.length (strV L.secs)
  oe : w.ownsRow B 45 7 ve L.els.length (L.els.flatMap Elem.cells)
  oj : w.ownsRow B 49 4 vj L.joints.length (L.joints.flatMap jCells)
  og : w.ownsRow B 51 4 vg L.sigs.length (L.sigs.flatMap Sig.cells)
  ob : w.ownsRow B 59 3 vb L.bals.length (L.bals.flatMap Bal.cells)
  tag : ∃ f : Nat → Nat, f g = 0 ∧ (∀ b, vs.ownBlock = some b → f b = 1) ∧ (∀ b, ve.ownBlock = some b → f b = 2) ∧ (∀ b, vj.ownBlock = some b → f b = 3) ∧ (∀ b, vg.ownBlock = some b → f b = 4) ∧ (∀ b, vb.ownBlock = some b → f b = 5)
  name : L.name.length ≤ maxLen
  secName : ∀ x ∈ L.secs, x.length ≤ maxLen
  elName : ∀ x ∈ L.els, x.name.length ≤ maxLen
  sigName : ∀ x ∈ L.sigs, x.name.length ≤ maxLen
  ewf : ∀ x ∈ L.els, x.Wf
  jwf : ∀ x ∈ L.joints, jWf x
  swf : ∀ x ∈ L.sigs, x.Wf
  bwf : ∀ x ∈ L.bals, x.Wf
/-- The box. -/
def Box (g : Nat) (w : World) (L : Lay) (vs ve vj vg vb : Value) (pl : Int) (vr : Value) (s : Rs) : Prop :=
  w.heap[g]? = some (.cells #[.string (bs L.name), vs, ve, vj, vg, vb, .int .i64 pl, vr, .bool s.mal, .bool s.unk] 72 (0, 0))
/-- A reader, of a call that began in W0. -/
structure RW (W0 : World) (g : Nat) (w : World) (L : Lay) (vs ve vj vg vb : Value) (pl : Int) (s : Rs) : Prop where
  bel : Below W0.heap.size W0 w
  hg : W0.heap.size ≤ g
  box : ∃ vr, Box g w L vs ve vj vg vb pl vr s ∧ Strs (In W0) W0 vr s.ws
  short : ∀ x ∈ s.ws, x.length ≤ 40000
  own : Owns5 W0.heap.size g w L vs ve vj vg vb

theorem but_grown {g : Nat} {w w' : World} (h : But g w.heap.size w w') : w.grownBy w' (some g) := ⟨h.os, h.tape, h.output, h.size, fun k hk hne => h.block k hk (fun e => hne (by rw [e]))⟩
theorem off_g {f : Nat → Nat} {g k : Nat} {v : Value} (h0 : f g = 0) (hv : ∀ b, v.ownBlock = some b → f b = k + 1) : v.ownBlock = none ∨ v.ownBlock ≠ some g := by
  cases e : v.ownBlock with
  | none => exact .inl rfl
  | some b =>
    right
    intro h
    have hb : b = g := by simpa using h
    have := hv b e
    rw [hb, h0] at this
    omega
theorem Owns5.but {B g : Nat} {w w' : World} {L : Lay} {vs ve vj vg vb : Value} (h : Owns5 B g w L vs ve vj vg vb) (hb : But g w.heap.size w w') : Owns5 B g w' L vs ve vj vg vb := by
  have hg := but_grown hb
  obtain ⟨f, f0, f1, f2, f3, f4, f5⟩ := h.tag
  exact ⟨h.os.kept hg (off_g f0 f1), h.oe.kept hg (off_g f0 f2), h.oj.kept hg (off_g f0 f3), h.og.kept hg (off_g f0 f4), h.ob.kept hg (off_g f0 f5), ⟨f, f0, f1, f2, f3, f4, f5⟩, h.name, h.secName, h.elName, h.sigName, h.ewf, h.jwf, h.swf, h.bwf⟩
theorem RW.to {W0 w w' : World} {g : Nat} {L : Lay} {vs ve vj vg vb vr : Value} {pl pl' : Int} {s s' : Rs} (h : RW W0 g w L vs ve vj vg vb pl s) (hb : But g w.heap.size w w') (hh : Box g w' L vs ve vj vg vb pl' vr s') (hr : Strs (In W0) W0 vr s'.ws) (hs : ∀ x ∈ s'.ws, x.length ≤ 40000) : RW W0 g w' L vs ve vj vg vb pl' s' :=
  ⟨hb.below h.bel h.bel.size h.hg, h.hg, ⟨vr, hh, hr⟩, hs, h.own.but hb⟩
theorem Box.lt {g : Nat} {w : World} {L : Lay} {vs ve vj vg vb vr : Value} {pl : Int} {s : Rs} (h : Box g w L vs ve vj vg vb pl vr s) : g < w.heap.size := by
  rcases Nat.lt_or_ge g w.heap.size with hl | hl
  · exact hl
  · unfold Box at h
    rw [Array.getElem?_eq_none hl] at h
    cases h
theorem Box.cells {g : Nat} {w : World} {L : Lay} {vs ve vj vg vb vr : Value} {pl : Int} {s : Rs} (h : Box g w L vs ve vj vg vb pl vr s) :
    w.cell? ⟨g, 0, none⟩ = some (.string (bs L.name)) ∧ w.cell? ⟨g, 1, none⟩ = some vs ∧ w.cell? ⟨g, 2, none⟩ = some ve ∧ w.cell? ⟨g, 3, none⟩ = some vj ∧ w.cell? ⟨g, 4, none⟩ = some vg ∧ w.cell? ⟨g, 5, none⟩ = some vb ∧ w.cell? ⟨g, 6, none⟩ = some (.int .i64 pl) ∧ w.cell? ⟨g, 7, none⟩ = some vr ∧ w.cell? ⟨g, 8, none⟩ = some (.bool s.mal) ∧ w.cell? ⟨g, 9, none⟩ = some (.bool s.unk) := by
  refine ⟨?_, ?_, ?_, ?_, ?_, ?_, ?_, ?_, ?_, ?_⟩
  all_goals
    rw [cell_of_row _ _ _ _ _ _ h]
    rfl
theorem Box.frozen {g : Nat} {w : World} {L : Lay} {vs ve vj vg vb vr : Value} {pl : Int} {s : Rs} (h : Box g w L vs ve vj vg vb pl vr s) (j : Nat) : w.frozen? ⟨g, j, none⟩ = false := frozen_of_row _ _ j _ _ h
theorem set_but {g : Nat} (w : World) (k : Nat) (u : Value) : But g w.heap.size w (w.setCell ⟨g, k, none⟩ u) := (But.refl g w.heap.size w).setCell (.inl rfl) u
theorem RW.next {W0 w w' : World} {g : Nat} {L : Lay} {vs ve vj vg vb : Value} {pl : Int} {s : Rs} (h : RW W0 g w L vs ve vj vg vb pl s) (hb : Below w.heap.size w w') : RW W0 g w' L vs ve vj vg vb pl s := by
  obtain ⟨vr, h1, h2⟩ := h.box
  exact h.to ⟨hb.os, hb.tape, hb.output, hb.size, fun k hk _ => hb.block k hk⟩ (show Box _ _ _ _ _ _ _ _ _ _ _ from (hb.block g h1.lt).trans h1) h2 h.short
theorem RW.drew {W0 w : World} {g : Nat} {L : Lay} {vs ve vj vg vb : Value} {pl : Int} {s : Rs} (h : RW W0 g w L vs ve vj vg vb pl s) : RW W0 g w.drew L vs ve vj vg vb pl s := h.next ((Below.refl w.heap.size w).drew)
theorem own_some {w : World} {B : Nat} {e : TypeId} {sz n : Nat} {v : Value} {xs : List Value} (h : w.ownsRow B e sz v n xs) : v = .slice none 0 0 ∨ ∃ ad n c, v = .slice (some ad) n c := by
  obtain ⟨_, h⟩ := h
  rcases h with ⟨h, _⟩ | ⟨g, cap, _, h, _⟩
  · exact .inl h
  · exact .inr ⟨_, _, _, h⟩
theorem RW.lay {W0 w : World} {g : Nat} {L : Lay} {vs ve vj vg vb : Value} {pl : Int} {s : Rs} (h : RW W0 g w L vs ve vj vg vb pl s) : LayAt (In w) w L vs ve vj vg vb := by
  have o := h.own
  have hk : ∀ b, (W0.heap.size ≤ b ∧ b < w.heap.size) → In w b ∧ w.heap[b]? = w.heap[b]? := fun b hb => ⟨hb.2, rfl⟩
  refine ⟨⟨?_, o.secName⟩, (grid_of_own Elem.cells (fun _ => rfl) o.oe).keep hk, (grid_of_own jCells (fun _ => rfl) o.oj).keep hk, (grid_of_own Sig.cells (fun _ => rfl) o.og).keep hk, (grid_of_own Bal.cells (fun _ => rfl) o.ob).keep hk, o.name, o.elName, o.sigName, o.ewf, o.jwf, o.swf, o.bwf, own_some o.os⟩
  have h1 := o.os
  rw [← strV_len L.secs] at h1
  exact row_own h1 fun b _ hb => hb

theorem but_next {g : Nat} {a b c : World} (h : But g a.heap.size a b) (k : But g b.heap.size b c) : But g a.heap.size a c :=
  ⟨k.os.trans h.os, k.tape.trans h.tape, k.output.trans h.output, Nat.le_trans h.size k.size, fun i hi hne => (k.block i (Nat.lt_of_lt_of_le hi h.size) hne).trans (h.block i hi hne)⟩
theorem but_bel {g : Nat} {a c : World} (h : Below a.heap.size a c) : But g a.heap.size a c := ⟨h.os, h.tape, h.output, h.size, fun k hk _ => h.block k hk⟩
theorem but_drew {g : Nat} {a c : World} (h : But g a.drew.heap.size a.drew c) : But g a.heap.size a c := ⟨h.os, h.tape, h.output, h.size, h.block⟩
/-- What a call of one of the reader's methods makes of it. -/
def To (W0 : World) (g : Nat) (w w' : World) (L : Lay) (vs ve vj vg vb : Value) (pl : Int) (s : Rs) : Prop := RW W0 g w' L vs ve vj vg vb pl s ∧ But g w.heap.size w w'
theorem To.rw {W0 w w1 : World} {g : Nat} {L : Lay} {vs ve vj vg vb : Value} {pl : Int} {s : Rs} (h : To W0 g w w1 L vs ve vj vg vb pl s) : RW W0 g w1 L vs ve vj vg vb pl s := h.1
theorem To.after {W0 w w1 w2 : World} {g : Nat} {L : Lay} {vs ve vj vg vb : Value} {pl : Int} {s s' : Rs} (h : To W0 g w w1 L vs ve vj vg vb pl s) (k : To W0 g w1 w2 L vs ve vj vg vb pl s') : To W0 g w w2 L vs ve vj vg vb pl s' := ⟨k.1, but_next h.2 k.2⟩
theorem To.bel {W0 w w1 w2 : World} {g : Nat} {L : Lay} {vs ve vj vg vb : Value} {pl : Int} {s : Rs} (h : To W0 g w w1 L vs ve vj vg vb pl s) (k : Below w1.heap.size w1 w2) : To W0 g w w2 L vs ve vj vg vb pl s := ⟨h.1.next k, but_next h.2 (but_bel k)⟩
theorem To.drew {W0 w w1 : World} {g : Nat} {L : Lay} {vs ve vj vg vb : Value} {pl : Int} {s : Rs} (h : To W0 g w.drew w1 L vs ve vj vg vb pl s) : To W0 g w w1 L vs ve vj vg vb pl s := ⟨h.1, but_drew h.2⟩

/-! The words of the line. -/
set_option maxRecDepth 100000 in
theorem cut_tail {W0 : World} {b off c : Nat} {x : List UInt8} {r : List (List UInt8)} (h : Strs (In W0) W0 (.slice (some ⟨b, off, none⟩) (r.length + 1) c) (x :: r)) :
    ∃ ad c', (∀ w, (Instr.slice 22 (.slice (some ⟨b, off, none⟩) (r.length + 1) c) (some (.int .i64 1)) none none).run Tryz.prog w = .ok (.slice (some ad) r.length c') w) ∧ Strs (In W0) W0 (.slice (some ad) r.length c') r := by
  obtain ⟨⟨a, cap, he, h2, h3, h4⟩, h5⟩ := h
  rw [strV_len] at he h2
  simp only [List.length_cons, Value.slice.injEq, true_and] at he h2
  obtain ⟨rfl, rfl⟩ := he
  obtain ⟨inf, hinf⟩ : ∃ inf, Tryz.prog.info? (Tryz.prog.elem 22) = some inf := Option.isSome_iff_exists.1 (by kernel_rfl)
  have hsz : Tryz.prog.cellsOf (Tryz.prog.elem 22) = 1 := by kernel_rfl
  have hr : ∀ w, (Instr.slice 22 (.slice (some ⟨b, off, none⟩) (r.length + 1) c) (some (.int .i64 1)) none none).run Tryz.prog w = .ok (sliced (some ⟨b, off, none⟩) 1 (r.length + 1) c 1) w := fun w => by
    rw [run_slice_l w 22 _ (r.length + 1) c Tryz.underlying22 .i64 1 (by omega) (by omega), Go.run_sizeOf w hinf, hsz]
    rfl
  have h5' : ∀ y ∈ r, y.length ≤ maxLen := fun y hy => h5 y (List.mem_cons_of_mem _ hy)
  rcases h4 with h4 | ⟨b', off', e, hb, hc⟩
  · simp [strV] at h4
  · simp only [Option.some.injEq, Addr.mk.injEq, and_true] at e
    obtain ⟨rfl, rfl⟩ := e
    by_cases hcc : c = 1
    · subst hcc
      have hz : r.length = 0 := by omega
      obtain rfl := List.length_eq_zero_iff.1 hz
      refine ⟨⟨b, off, none⟩, 0, fun w => by rw [hr w]; simp [sliced], ⟨⟨_, 0, rfl, Nat.le_refl _, Nat.zero_le _, .inl rfl⟩, h5'⟩⟩
    · refine ⟨⟨b, off + 1, none⟩, c - 1, fun w => by rw [hr w]; simp [sliced, hcc, Lnam.add_mk], ⟨⟨some ⟨b, off + 1, none⟩, c - 1, by rw [strV_len], by rw [strV_len]; omega, by omega, .inr ⟨b, off + 1, rfl, hb, fun j u hu => ?_⟩⟩, h5'⟩⟩
      have := hc (j + 1) u (by simpa [strV] using hu)
      rwa [show off + (j + 1) = off + 1 + j by omega] at this

set_option maxRecDepth 100000 in
theorem word_any {W0 w : World} {g : Nat} {L : Lay} {vs ve vj vg vb : Value} {pl : Int} {s : Rs} (h : RW W0 g w L vs ve vj vg vb pl s) :
    Calls Tryz.prog 81 #[.pointer (some ⟨g, 0, none⟩)] w fun e w' => e = .returned (.string (bs s.hd)) ∧ To W0 g w w' L vs ve vj vg vb pl s.word := by
  obtain ⟨vr, h1, h2⟩ := h.box
  obtain ⟨-, -, -, -, -, -, -, y7, y8, -⟩ := h1.cells
  have z7 := h1.frozen 7
  have z8 := h1.frozen 8
  have hlt := h1.lt
  obtain ⟨ws, mal, unk⟩ := s
  rcases ws with _ | ⟨x, r⟩
  · obtain ⟨a, c, rfl, _⟩ := h2.shape
    have HR : Hid (To W0 g w (w.setCell ⟨g, 8, none⟩ (.bool true)) L vs ve vj vg vb pl (Rs.word ⟨[], mal, unk⟩)) := by
      refine ⟨h.to (set_but w 8 _) (vr := .slice a 0 c) ?_ h2 h.short, set_but w 8 _⟩
      have := heap_setCell_same w g 8 _ _ (.bool true) h1
      simpa [Box, Rs.word] using this
    clear h h1 h2
    go_enter Tryz.func81, Tryz.ntmps81
    go_wp2_with fail
    go_ret
    exact ⟨rfl, HR.out⟩
  · obtain ⟨a, c, he, hn, hc, hnc, hw⟩ := h2.shape
    obtain ⟨hxs, b, off, rfl, hb, hx⟩ := hw 0 x rfl
    subst he
    obtain ⟨ad, c', hsl, hs2⟩ := cut_tail (r := r) h2
    have hx2 := (h.bel.cell (p := ⟨b, off + 0, none⟩) hb).trans hx
    have hbg : b ≠ g := by
      have := h.hg
      have : b < W0.heap.size := hb
      omega
    have hblt : b < w.heap.size := Nat.lt_of_lt_of_le (show b < W0.heap.size from hb) h.bel.size
    have HR : Hid (To W0 g w (w.setCell ⟨g, 7, none⟩ (.slice (some ad) r.length c')) L vs ve vj vg vb pl (Rs.word ⟨x :: r, mal, unk⟩)) := by
      refine ⟨h.to (set_but w 7 _) (vr := .slice (some ad) r.length c') ?_ hs2 (fun y hy => h.short y (List.mem_cons_of_mem _ hy)), set_but w 7 _⟩
      have := heap_setCell_same w g 7 _ _ (.slice (some ad) r.length c') h1
      simpa [Box, Rs.word] using this
    simp only [Nat.add_zero] at hx2
    simp only [List.length_cons] at hsl y7 hn
    obtain ⟨N, hN⟩ : ∃ N, r.length + 1 = N := ⟨_, rfl⟩
    rw [hN] at hsl y7 hn
    have q1 : ((N : Int) == 0) = false := by simp; omega
    have q2 : (0 : Int) < (N : Int) := by omega
    have q3 : 0 < N := by omega
    clear h h1 h2 hw hs2 hx hb hxs hN
    go_enter Tryz.func81, Tryz.ntmps81
    go_wp2_with fail
    go_ret
    exact ⟨rfl, HR.out⟩

end Go.Proofs.YtfdipcphohhlgaaGreatDoor.Rdr

/- The program's reader of lines: names that are looked up, places, the error of a line. -/
namespace Go.Proofs.YtfdipcphohhlgaaGreatDoor.Rdk
open Go.RowKit Go.Lib Go.Proofs.YtfdipcphohhlgaaGreatDoor.Reads Go.Proofs.YtfdipcphohhlgaaGreatDoor.Rows2 Go.Proofs.YtfdipcphohhlgaaGreatDoor.Lay Go.Proofs.YtfdipcphohhlgaaGreatDoor.Layf Go.Proofs.YtfdipcphohhlgaaGreatDoor.Lcon Go.Proofs.YtfdipcphohhlgaaGreatDoor.Lext Go.Proofs.YtfdipcphohhlgaaGreatDoor.Numt Go.Proofs.YtfdipcphohhlgaaGreatDoor.Plnf Go.Proofs.YtfdipcphohhlgaaGreatDoor.Pkin Go.Proofs.YtfdipcphohhlgaaGreatDoor.Prds Go.Proofs.YtfdipcphohhlgaaGreatDoor.Pelm Go.Proofs.YtfdipcphohhlgaaGreatDoor.Rdr
open Go.Proofs.YtfdipcphohhlgaaGreatDoor.Text hiding lineL joinR

/-- slices.Index of texts. -/
theorem sindex_any {ss : List (List UInt8)} {v : Value} (n : List UInt8) (w : World) (h : Strs (In w) w v ss) :
    Calls Tryz.prog 143 #[v, .string (bs n)] w fun e w' => e = .returned (.int .i64 (firstI (isSec n) 0 ss)) ∧ w' = w := by
  obtain ⟨a, cap, rfl, hm, _, _, hsc⟩ := h.shape
  obtain ⟨r, hr⟩ : ∃ r, firstI (isSec n) 0 ss = r := ⟨_, rfl⟩
  rw [hr]
  have HR := Lib.hid hr
  have HE := Lib.hid hsc
  clear hr hsc h
  go_enter Tryz.func143, Tryz.ntmps143
  go_wp2_with fail
  go_loopw [8] (fun vj wr => ∃ j : Nat, vj = .int .i64 (j : Int) ∧ j ≤ ss.length ∧ r = firstI (isSec n) j (ss.drop j) ∧ w = wr) (fun vj _ => ss.length - (RowKit.intOf vj).toNat)
  case atStart => exact ⟨0, rfl, Nat.zero_le _, by rw [← HR.out]; rfl, rfl⟩
  case round =>
    obtain ⟨j, rfl, hj, hrj, rfl⟩ := hrel
    have HJ := Lib.hid hrj
    clear hrj
    by_cases hl : j < ss.length
    · obtain ⟨x, hx⟩ := at_lt hl
      obtain ⟨_, b, off, rfl, _, c0⟩ := HE.out j x hx
      have HD := Lib.hid (Layf.drop_at hx)
      clear hx
      have hlt : (j : Int) < (ss.length : Int) := by omega
      by_cases hq : x = n
      · have HV := Lib.hid (show r = (j : Int) by rw [HJ.out, HD.out, firstI_yes (show isSec n x = true from decide_eq_true hq)])
        have q : ((bs n).toList == (bs x).toList) = true := by rw [hq]; exact beq_self_eq_true _
        clear hq HD
        go_wp2_with fail
        go_ret
        exact ⟨by rw [HV.out]; rfl, by first | rfl | trivial⟩
      · have HV := Lib.hid (show r = firstI (isSec n) (j + 1) (ss.drop (j + 1)) by rw [HJ.out, HD.out, firstI_no (show isSec n x = false from decide_eq_false hq)])
        have q : ((bs n).toList == (bs x).toList) = false := by
          rw [show (bs x).toList = x by rw [ByteArray.toList_eq]; rfl, str_eq]
          exact decide_eq_false (fun e => hq e.symm)
        clear hq HD
        go_wp2_with fail
        go_roundw
        case rel => exact ⟨j + 1, by simp, by omega, HV.out, by first | rfl | trivial⟩
        case measure => simp [RowKit.intOf]; omega
    · have he : j = ss.length := by omega
      subst he
      go_wp2_with fail
      go_ret
      exact ⟨by rw [HJ.out, List.drop_length]; rfl, by first | rfl | trivial⟩

theorem known_any {W0 w : World} {g : Nat} {L : Lay} {vs ve vj vg vb : Value} {pl : Int} {s : Rs} (i : Int) (h : RW W0 g w L vs ve vj vg vb pl s) :
    Calls Tryz.prog 126 #[.pointer (some ⟨g, 0, none⟩), .int .i64 i] w fun e w' => e = .returned (.int .i64 i) ∧ To W0 g w w' L vs ve vj vg vb pl (s.known i) := by
  obtain ⟨vr, h1, h2⟩ := h.box
  obtain ⟨-, -, -, -, -, -, -, -, -, y9⟩ := h1.cells
  have z9 := h1.frozen 9
  have hlt := h1.lt
  obtain ⟨ws, mal, unk⟩ := s
  by_cases hi : i = -1
  · subst hi
    have HR : Hid (To W0 g w (w.setCell ⟨g, 9, none⟩ (.bool true)) L vs ve vj vg vb pl (Rs.known (-1) ⟨ws, mal, unk⟩)) := by
      refine ⟨h.to (set_but w 9 _) (vr := vr) ?_ h2 h.short, set_but w 9 _⟩
      have := heap_setCell_same w g 9 _ _ (.bool true) h1
      simpa [Box, Rs.known] using this
    clear h h1 h2
    go_enter Tryz.func126, Tryz.ntmps126
    go_wp2_with fail
    go_ret
    exact ⟨rfl, HR.out⟩
  · have HR : Hid (To W0 g w w L vs ve vj vg vb pl (Rs.known i ⟨ws, mal, unk⟩)) := by
      show To _ _ _ _ _ _ _ _ _ _ _ _
      rw [show Rs.known i ⟨ws, mal, unk⟩ = ⟨ws, mal, unk⟩ by simp [Rs.known, hi]]
      exact ⟨h, But.refl _ _ _⟩
    clear h h1 h2
    go_enter Tryz.func126, Tryz.ntmps126
    go_wp2_with fail
    go_ret
    exact ⟨rfl, HR.out⟩

/-- What canContinueAt answers. -/
def canB (pl p : Int) : Bool := if pl = 0 then decide (p = 1) else decide (1 < p) && decide (pl ≤ p)
theorem can_any {W0 w : World} {g : Nat} {L : Lay} {vs ve vj vg vb : Value} {pl : Int} {s : Rs} (p : Int) (h : RW W0 g w L vs ve vj vg vb pl s) :
    Calls Tryz.prog 80 #[.pointer (some ⟨g, 0, none⟩), .int .i64 p] w fun e w' => e = .returned (.bool (canB pl p)) ∧ w' = w := by
  obtain ⟨vr, h1, h2⟩ := h.box
  obtain ⟨-, -, -, -, -, -, y6, -, -, -⟩ := h1.cells
  clear h h1 h2
  by_cases h0 : pl = 0
  · subst h0
    by_cases h1 : p = 1
    · subst h1
      go_enter Tryz.func80, Tryz.ntmps80
      go_wp2_with fail
      go_ret
      exact ⟨rfl, rfl⟩
    · have q : (p == 1) = false := by simpa using h1
      go_enter Tryz.func80, Tryz.ntmps80
      go_wp2_with fail
      go_ret
      exact ⟨by simp [canB, h1], rfl⟩
  · have q : (pl == 0) = false := by simpa using h0
    by_cases h1 : 1 < p
    · by_cases h2 : pl ≤ p
      · have q1 : decide (1 < p) = true := decide_eq_true h1
        have q2 : decide (pl ≤ p) = true := decide_eq_true h2
        go_enter Tryz.func80, Tryz.ntmps80
        go_wp2_with fail
        go_ret
        exact ⟨by simp [canB, h0, h1, h2], rfl⟩
      · have q1 : decide (1 < p) = true := decide_eq_true h1
        have q2 : decide (pl ≤ p) = false := decide_eq_false h2
        go_enter Tryz.func80, Tryz.ntmps80
        go_wp2_with fail
        go_ret
        exact ⟨by simp [canB, h0, h1, h2], rfl⟩
    · have q1 : decide (1 < p) = false := decide_eq_false h1
      go_enter Tryz.func80, Tryz.ntmps80
      go_wp2_with fail
      go_ret
      exact ⟨by rw [canB, if_neg h0, q1]; rfl, rfl⟩

theorem lerr_any {W0 w : World} {g : Nat} {L : Lay} {vs ve vj vg vb : Value} {pl : Int} {s : Rs} (h : RW W0 g w L vs ve vj vg vb pl s) :
    Calls Tryz.prog 87 #[.pointer (some ⟨g, 0, none⟩)] w fun e w' => e = .returned (.int .i64 (finE s)) ∧ w' = w := by
  obtain ⟨vr, h1, h2⟩ := h.box
  obtain ⟨-, -, -, -, -, -, -, y7, y8, y9⟩ := h1.cells
  obtain ⟨a, c, rfl, hn, _⟩ := h2.shape
  obtain ⟨ws, mal, unk⟩ := s
  clear h h1 h2
  simp only at y7 y8 y9 hn
  cases mal
  · rcases ws with _ | ⟨x, r⟩
    · cases unk
      all_goals
        go_enter Tryz.func87, Tryz.ntmps87
        go_wp2_with fail
        go_ret
        exact ⟨rfl, rfl⟩
    · have q : (0 : Int) < ((x :: r).length : Int) := by simp
      have HF := Lib.hid (show finE ⟨x :: r, false, unk⟩ = 4 by simp [finE])
      obtain ⟨N, hN⟩ : ∃ N, (x :: r).length = N := ⟨_, rfl⟩
      rw [hN] at q y7 hn
      clear hN
      go_enter Tryz.func87, Tryz.ntmps87
      go_wp2_with fail
      go_ret
      exact ⟨by rw [HF.out]; rfl, rfl⟩
  · have HF := Lib.hid (show finE ⟨ws, true, unk⟩ = 4 by simp [finE])
    go_enter Tryz.func87, Tryz.ntmps87
    go_wp2_with fail
    go_ret
    exact ⟨by rw [HF.out]; rfl, rfl⟩

end Go.Proofs.YtfdipcphohhlgaaGreatDoor.Rdk

/- The program's reader of lines: the indexes of names. -/
namespace Go.Proofs.YtfdipcphohhlgaaGreatDoor.Rdx
open Go.RowKit Go.Lib Go.Proofs.YtfdipcphohhlgaaGreatDoor.Reads Go.Proofs.YtfdipcphohhlgaaGreatDoor.Rows2 Go.Proofs.YtfdipcphohhlgaaGreatDoor.Lay Go.Proofs.YtfdipcphohhlgaaGreatDoor.Layf Go.Proofs.YtfdipcphohhlgaaGreatDoor.Lcon Go.Proofs.YtfdipcphohhlgaaGreatDoor.Ldup Go.Proofs.YtfdipcphohhlgaaGreatDoor.Lext Go.Proofs.YtfdipcphohhlgaaGreatDoor.Lnmd Go.Proofs.YtfdipcphohhlgaaGreatDoor.Numt Go.Proofs.YtfdipcphohhlgaaGreatDoor.Plnf Go.Proofs.YtfdipcphohhlgaaGreatDoor.Pkin Go.Proofs.YtfdipcphohhlgaaGreatDoor.Prds Go.Proofs.YtfdipcphohhlgaaGreatDoor.Pelm Go.Proofs.YtfdipcphohhlgaaGreatDoor.Rdr Go.Proofs.YtfdipcphohhlgaaGreatDoor.Rdk
open Go.Proofs.YtfdipcphohhlgaaGreatDoor.Text hiding lineL joinR

theorem RW.six {W0 w : World} {g : Nat} {L : Lay} {vs ve vj vg vb : Value} {pl : Int} {s : Rs} (h : RW W0 g w L vs ve vj vg vb pl s) :
    w.cell? ⟨g, 0, none⟩ = some (.string (bs L.name)) ∧ w.cell? ⟨g, 1, none⟩ = some vs ∧ w.cell? ⟨g, 2, none⟩ = some ve ∧ w.cell? ⟨g, 3, none⟩ = some vj ∧ w.cell? ⟨g, 4, none⟩ = some vg ∧ w.cell? ⟨g, 5, none⟩ = some vb := by
  obtain ⟨vr, h1, _⟩ := h.box
  obtain ⟨y0, y1, y2, y3, y4, y5, -, -, -, -⟩ := h1.cells
  exact ⟨y0, y1, y2, y3, y4, y5⟩

set_option maxRecDepth 100000 in
set_option maxHeartbeats 1600000 in
theorem elix_any {W0 w : World} {g : Nat} {L : Lay} {vs ve vj vg vb : Value} {pl : Int} {s : Rs} (h : RW W0 g w L vs ve vj vg vb pl s) :
    Calls Tryz.prog 86 #[.pointer (some ⟨g, 0, none⟩)] w fun e w' => e = .returned (.int .i64 (elementF L s.hd)) ∧ To W0 g w w' L vs ve vj vg vb pl (s.el L) := by
  obtain ⟨x0, x1, x2, x3, x4, x5⟩ := RW.six h
  have H0 := Lib.hid h.drew
  have HW := Lib.hid (fun w' (k : RW W0 g w' L vs ve vj vg vb pl s) => word_any k)
  have HE := Lib.hid (fun w' (k : RW W0 g w' L vs ve vj vg vb pl s.word) => element_any L s.hd w' k.lay)
  have HN := Lib.hid (fun w' (k : RW W0 g w' L vs ve vj vg vb pl s.word) => known_any (elementF L s.hd) k)
  have HK := Lib.hid (fun w' s' (k : RW W0 g w' L vs ve vj vg vb pl s') => RW.six k)
  have HS : Hid (s.word.known (elementF L s.hd) = s.el L) := rfl
  obtain ⟨n, hn⟩ : ∃ n, s.hd = n := ⟨_, rfl⟩
  obtain ⟨i, hi⟩ : ∃ i, elementF L n = i := ⟨_, rfl⟩
  rw [hn] at HW HE HN HS
  rw [hi] at HE HN HS
  rw [HS.out] at HN
  rw [hn, hi]
  unfold layV NumOut at HE
  clear h hn hi
  go_enter Tryz.func86, Tryz.ntmps86
  go_wp2_with fail
  go_region_held3 (fun w' => w'.cell? ⟨g, 0, none⟩ = some (.string (bs L.name)) ∧ w'.cell? ⟨g, 1, none⟩ = some vs ∧ w'.cell? ⟨g, 2, none⟩ = some ve ∧ w'.cell? ⟨g, 3, none⟩ = some vj ∧ w'.cell? ⟨g, 4, none⟩ = some vg ∧ w'.cell? ⟨g, 5, none⟩ = some vb)
    (first
      | with_reducible exact HK.out _ _ R3.out.rw
      | with_reducible exact HK.out _ _ R2.out.rw
      | with_reducible exact HK.out _ _ R1.out.rw
      | go_keep)
    (first
      | (go_at_call 81; (with_reducible refine (HW.out _ H0.out).mono ?_); rintro e w1 ⟨rfl, r1⟩; have R1 := Lib.hid r1.drew; clear r1)
      | (go_at_call 127; (with_reducible refine (HE.out _ R1.out.rw).mono ?_); rintro e w2 ⟨rfl, b2⟩; have R2 := Lib.hid (R1.out.bel b2); clear b2)
      | (go_at_call 126; (with_reducible refine (HN.out _ R2.out.rw).mono ?_); rintro e w3 ⟨rfl, r3⟩; have R3 := Lib.hid (R2.out.after r3); clear r3))
  go_wp2_with fail
  go_ret
  exact ⟨rfl, R3.out⟩

set_option maxRecDepth 100000 in
set_option maxHeartbeats 1600000 in
theorem scix_any {W0 w : World} {g : Nat} {L : Lay} {vs ve vj vg vb : Value} {pl : Int} {s : Rs} (h : RW W0 g w L vs ve vj vg vb pl s) :
    Calls Tryz.prog 124 #[.pointer (some ⟨g, 0, none⟩)] w fun e w' => e = .returned (.int .i64 (secF L s.hd)) ∧ To W0 g w w' L vs ve vj vg vb pl (s.sec L) := by
  obtain ⟨x0, x1, x2, x3, x4, x5⟩ := RW.six h
  have H0 := Lib.hid h.drew
  have HW := Lib.hid (fun w' (k : RW W0 g w' L vs ve vj vg vb pl s) => word_any k)
  have HE := Lib.hid (fun w' (k : RW W0 g w' L vs ve vj vg vb pl s.word) => sindex_any s.hd w' k.lay.secs)
  have HN := Lib.hid (fun w' (k : RW W0 g w' L vs ve vj vg vb pl s.word) => known_any (secF L s.hd) k)
  have HK := Lib.hid (fun w' s' (k : RW W0 g w' L vs ve vj vg vb pl s') => (RW.six k).2.1)
  have HS : Hid (s.word.known (secF L s.hd) = s.sec L) := rfl
  obtain ⟨n, hn⟩ : ∃ n, s.hd = n := ⟨_, rfl⟩
  obtain ⟨i, hi⟩ : ∃ i, secF L n = i := ⟨_, rfl⟩
  rw [hn] at HW HE HN HS
  rw [show firstI (isSec n) 0 L.secs = i from hi] at HE
  rw [hi] at HN HS
  rw [HS.out] at HN
  rw [hn, hi]
  clear h hn hi x0 x2 x3 x4 x5
  go_enter Tryz.func124, Tryz.ntmps124
  go_wp2_with fail
  go_region_held3 (fun w' => w'.cell? ⟨g, 1, none⟩ = some vs)
    (first
      | with_reducible exact HK.out _ _ R3.out.rw
      | with_reducible exact HK.out _ _ R1.out.rw
      | go_keep)
    (first
      | (go_at_call 81; (with_reducible refine (HW.out _ H0.out).mono ?_); rintro e w1 ⟨rfl, r1⟩; have R1 := Lib.hid r1.drew; clear r1)
      | (go_at_call 143; (with_reducible refine (HE.out _ R1.out.rw).mono ?_); rintro e w2 ⟨rfl, rfl⟩)
      | (go_at_call 126; (with_reducible refine (HN.out _ R1.out.rw).mono ?_); rintro e w3 ⟨rfl, r3⟩; have R3 := Lib.hid (R1.out.after r3); clear r3))
  go_wp2_with fail
  go_ret
  exact ⟨rfl, R3.out⟩

end Go.Proofs.YtfdipcphohhlgaaGreatDoor.Rdx

/- The program's reader of lines: numbers, ends, elements. -/
namespace Go.Proofs.YtfdipcphohhlgaaGreatDoor.Rdn
open Go.RowKit Go.Lib Go.Proofs.YtfdipcphohhlgaaGreatDoor.Reads Go.Proofs.YtfdipcphohhlgaaGreatDoor.Rows2 Go.Proofs.YtfdipcphohhlgaaGreatDoor.Lay Go.Proofs.YtfdipcphohhlgaaGreatDoor.Layf Go.Proofs.YtfdipcphohhlgaaGreatDoor.Lcon Go.Proofs.YtfdipcphohhlgaaGreatDoor.Ldup Go.Proofs.YtfdipcphohhlgaaGreatDoor.Lext Go.Proofs.YtfdipcphohhlgaaGreatDoor.Lnmd Go.Proofs.YtfdipcphohhlgaaGreatDoor.Numt Go.Proofs.YtfdipcphohhlgaaGreatDoor.Plnf Go.Proofs.YtfdipcphohhlgaaGreatDoor.Pkin Go.Proofs.YtfdipcphohhlgaaGreatDoor.Prds Go.Proofs.YtfdipcphohhlgaaGreatDoor.Pelm Go.Proofs.YtfdipcphohhlgaaGreatDoor.Rdr Go.Proofs.YtfdipcphohhlgaaGreatDoor.Rdk Go.Proofs.YtfdipcphohhlgaaGreatDoor.Rdx Go.Proofs.YtfdipcphohhlgaaGreatDoor.Intw
open Go.Proofs.YtfdipcphohhlgaaGreatDoor.Debw (Deb)
open Go.Proofs.YtfdipcphohhlgaaGreatDoor.Text hiding lineL joinR

theorem deb_from {W0 w : World} (h : Deb W0) (hb : Below W0.heap.size W0 w) : Deb w := Debw.deb_next h hb
theorem hd_short {s : Rs} (h : ∀ x ∈ s.ws, x.length ≤ 40000) : s.hd.length ≤ 40000 := by
  obtain ⟨ws, m, u⟩ := s
  rcases ws with _ | ⟨x, r⟩
  · exact Nat.zero_le _
  · exact h x List.mem_cons_self
theorem num_word {s : Rs} (h : numB s.hd = true) : s.num = s.word := by
  obtain ⟨ws, m, u⟩ := s
  rcases ws with _ | ⟨x, r⟩
  · rw [show Rs.hd ⟨[], m, u⟩ = [] from rfl, numB_nil] at h
    cases h
  · simp [Rs.num, Rs.word, h]
theorem num_bad {s : Rs} (h : numB s.hd = false) : s.num = ⟨s.word.ws, true, s.word.unk⟩ := by
  simp [Rs.num, Rs.word, h]

set_option maxRecDepth 100000 in
theorem num_any {W0 w : World} {g : Nat} {L : Lay} {vs ve vj vg vb : Value} {pl : Int} {s : Rs} (hd : Deb W0) (h : RW W0 g w L vs ve vj vg vb pl s) :
    Calls Tryz.prog 85 #[.pointer (some ⟨g, 0, none⟩)] w fun e w' => e = .returned (.int .i64 (intN s.hd)) ∧ To W0 g w w' L vs ve vj vg vb pl s.num := by
  have HW := Lib.hid (word_any h)
  have hsh := hd_short h.short
  have HI := Lib.hid (fun w' (k : RW W0 g w' L vs ve vj vg vb pl s.word) => int_any (bs s.hd) w' (by rw [bs_size]; omega) (deb_from hd k.bel))
  have hm : ∃ m q, intV (bs s.hd).data.toList = .tuple #[.int .i64 m, .int .i64 ((q : Nat) : Int)] ∧ intN s.hd = m ∧ numB s.hd = decide (q = 0) := ⟨_, _, rfl, rfl, rfl⟩
  obtain ⟨m, q, h1, h2, h3⟩ := hm
  rw [h1] at HI
  rw [h2]
  have H3 := Lib.hid h3
  obtain ⟨n, hn⟩ : ∃ n, s.hd = n := ⟨_, rfl⟩
  rw [hn] at HI HW
  clear h h1 h2 h3 hsh hn
  go_enter Tryz.func85, Tryz.ntmps85
  go_wp2_with fail
  refine HW.out.mono ?_
  rintro e w1 ⟨rfl, r1⟩
  have R1 := Lib.hid r1
  clear r1
  go_wp2_with fail
  refine (HI.out _ R1.out.rw).mono ?_
  rintro e w2 ⟨rfl, b2⟩
  have R2 := Lib.hid (R1.out.bel b2)
  clear b2
  by_cases hq : q = 0
  · subst hq
    go_wp2_with fail
    go_ret
    exact ⟨rfl, by rw [num_word H3.out]; exact R2.out⟩
  · obtain ⟨vr, h1, h2⟩ := R2.out.rw.box
    obtain ⟨-, -, -, -, -, -, -, -, y8, -⟩ := h1.cells
    have z8 := h1.frozen 8
    have hlt := h1.lt
    have q1 : ((q : Int) != 0) = true := by simpa using hq
    have HR : Hid (To W0 g w2 (w2.setCell ⟨g, 8, none⟩ (.bool true)) L vs ve vj vg vb pl s.num) := by
      show To _ _ _ _ _ _ _ _ _ _ _ _
      rw [num_bad (by rw [H3.out]; exact decide_eq_false hq)]
      refine ⟨R2.out.rw.to (set_but w2 8 _) (vr := vr) ?_ h2 R2.out.rw.short, set_but w2 8 _⟩
      have := heap_setCell_same w2 g 8 _ _ (.bool true) h1
      simpa [Box] using this
    clear h1 h2
    go_wp2_with fail
    go_ret
    exact ⟨rfl, R2.out.after HR.out⟩

/-- .. and a block of the call's own is written. -/
theorem far {W0 w w2 w3 : World} {g : Nat} {L : Lay} {vs ve vj vg vb : Value} {pl pl' : Int} {s s' : Rs} (h : RW W0 g w L vs ve vj vg vb pl s) (k : To W0 g w w2 L vs ve vj vg vb pl' s') (hb : But g w.heap.size w w3) (hg : w3.heap[g]? = w2.heap[g]?) : To W0 g w w3 L vs ve vj vg vb pl' s' := by
  obtain ⟨vr, h1, h2⟩ := k.1.box
  exact ⟨h.to hb (hg.trans h1) h2 k.1.short, hb⟩

set_option maxRecDepth 100000 in
theorem end_any {W0 w : World} {g : Nat} {L : Lay} {vs ve vj vg vb : Value} {pl : Int} {s : Rs} (hd : Deb W0) (h : RW W0 g w L vs ve vj vg vb pl s) :
    Calls Tryz.prog 84 #[.pointer (some ⟨g, 0, none⟩)] w fun e w' => e = .returned (.agg #[.int .i64 (endX L s).1, .int .i64 (endX L s).2]) ∧ To W0 g w w' L vs ve vj vg vb pl (s.endS L) := by
  have hb0 := (Below.refl w.heap.size w).alloc (Nat.le_refl _) (.cells #[.int .i64 0, .int .i64 0] 47)
  have T0 : To W0 g w (w.alloc (.cells #[.int .i64 0, .int .i64 0] 47)) L vs ve vj vg vb pl s := To.bel ⟨h, But.refl _ _ _⟩ hb0
  have hnew := heap_alloc_new w (.cells #[.int .i64 0, .int .i64 0] 47)
  have hrg : w.heap.size ≠ g := by
    obtain ⟨vr, h1, _⟩ := h.box
    have := h1.lt
    omega
  have hsz : w.heap.size < (w.alloc (.cells #[.int .i64 0, .int .i64 0] 47)).heap.size := by simp
  obtain ⟨W, hW⟩ : ∃ W, w.alloc (.cells #[.int .i64 0, .int .i64 0] 47) = W := ⟨_, rfl⟩
  rw [hW] at T0 hnew hsz
  obtain ⟨r, hr⟩ : ∃ r, w.heap.size = r := ⟨_, rfl⟩
  have HT := Lib.hid T0
  have HA := Lib.hid (elix_any T0.rw)
  have HB := Lib.hid (fun w' (k : RW W0 g w' L vs ve vj vg vb pl (s.el L)) => num_any hd k)
  have HX : Hid ((endX L s).1 = elementF L s.hd ∧ (endX L s).2 = intN (s.el L).hd) := ⟨rfl, rfl⟩
  have HR := Lib.hid (fun w' (k : But g W.heap.size W w') => (k.block w.heap.size hsz hrg).trans hnew)
  have HE : Hid (s.endS L = (s.el L).num) := rfl
  have HG := Lib.hid hrg
  have H0 := Lib.hid h
  obtain ⟨i, hi⟩ : ∃ i, elementF L s.hd = i := ⟨_, rfl⟩
  obtain ⟨n, hn⟩ : ∃ n, intN (s.el L).hd = n := ⟨_, rfl⟩
  rw [hi] at HA HX
  rw [hn] at HB HX
  rw [hr] at HR HG
  clear h hb0 T0 hnew hi hn hrg hsz
  go_enter Tryz.func84, Tryz.ntmps84
  go_wp2_with fail
  clear hW
  refine HA.out.mono ?_
  rintro e w1 ⟨rfl, r1⟩
  have R1 := Lib.hid r1
  clear r1
  go_wp2_with fail
  refine (HB.out _ R1.out.rw).mono ?_
  rintro e w2 ⟨rfl, r2⟩
  have R2 := Lib.hid (R1.out.after r2)
  clear r2
  have hrow := HR.out _ R2.out.2
  have y0 : w2.cell? ⟨r, 0, none⟩ = some (.int .i64 0) := by rw [cell_of_row _ _ _ _ _ _ hrow]; rfl
  have y1 : w2.cell? ⟨r, 1, none⟩ = some (.int .i64 0) := by rw [cell_of_row _ _ _ _ _ _ hrow]; rfl
  have z0 := frozen_of_row _ _ 0 _ _ hrow
  have z1 := frozen_of_row _ _ 1 _ _ hrow
  have HROW := Lib.hid hrow
  clear hrow
  go_wp2_with fail
  refine bodyPost_ret (v := .agg #[.int .i64 i, .int .i64 n]) ?_ rfl ⟨by rw [HX.out.1, HX.out.2], ?_⟩
  · have h0 := heap_setCell_same _ _ 0 _ _ (.int .i64 i) HROW.out
    have h1 := heap_setCell_same _ _ 1 _ _ (.int .i64 n) h0
    exact results_cell_row rfl _ _ r 47 _ (0, 0) _ rfl (by simpa using h1) Tryz.underlying47 rfl (by kernel_rfl)
  · rw [HE.out]
    have k := HT.out.after R2.out
    refine far H0.out k ((k.2.setCell (p := ⟨r, 0, none⟩) (.inr (show w.heap.size ≤ r by omega)) _).setCell (p := ⟨r, 1, none⟩) (.inr (show w.heap.size ≤ r by omega)) _) ?_
    rw [heap_setCell_other _ _ _ _ (fun e => HG.out e.symm), heap_setCell_other _ _ _ _ (fun e => HG.out e.symm)]

end Go.Proofs.YtfdipcphohhlgaaGreatDoor.Rdn

/- The program's reader of lines: elements. -/
namespace Go.Proofs.YtfdipcphohhlgaaGreatDoor.Rde
open Go.RowKit Go.Lib Go.Proofs.YtfdipcphohhlgaaGreatDoor.Reads Go.Proofs.YtfdipcphohhlgaaGreatDoor.Rows2 Go.Proofs.YtfdipcphohhlgaaGreatDoor.Lay Go.Proofs.YtfdipcphohhlgaaGreatDoor.Layf Go.Proofs.YtfdipcphohhlgaaGreatDoor.Lcon Go.Proofs.YtfdipcphohhlgaaGreatDoor.Ldup Go.Proofs.YtfdipcphohhlgaaGreatDoor.Lext Go.Proofs.YtfdipcphohhlgaaGreatDoor.Lnmd Go.Proofs.YtfdipcphohhlgaaGreatDoor.Numt Go.Proofs.YtfdipcphohhlgaaGreatDoor.Plnf Go.Proofs.YtfdipcphohhlgaaGreatDoor.Pkin Go.Proofs.YtfdipcphohhlgaaGreatDoor.Prds Go.Proofs.YtfdipcphohhlgaaGreatDoor.Pelm Go.Proofs.YtfdipcphohhlgaaGreatDoor.Rdr Go.Proofs.YtfdipcphohhlgaaGreatDoor.Rdk Go.Proofs.YtfdipcphohhlgaaGreatDoor.Rdx Go.Proofs.YtfdipcphohhlgaaGreatDoor.Rdn
open Go.Proofs.YtfdipcphohhlgaaGreatDoor.Debw (Deb)
open Go.Proofs.YtfdipcphohhlgaaGreatDoor.Text hiding lineL joinR

/-- Seven cells written. -/
theorem set_seven {r : Nat} {wx : World} {T : TypeId} {c0 c1 c2 c3 c4 c5 c6 d0 d1 d2 d3 d4 d5 d6 : Value} (h : wx.heap[r]? = some (.cells #[c0, c1, c2, c3, c4, c5, c6] T (0, 0))) :
    (((((((wx.setCell ⟨r, 0, none⟩ d0).setCell ⟨r, 1, none⟩ d1).setCell ⟨r, 2, none⟩ d2).setCell ⟨r, 3, none⟩ d3).setCell ⟨r, 4, none⟩ d4).setCell ⟨r, 5, none⟩ d5).setCell ⟨r, 6, none⟩ d6).heap[r]? = some (.cells #[d0, d1, d2, d3, d4, d5, d6] T (0, 0)) ∧
    (∀ k, k ≠ r → (((((((wx.setCell ⟨r, 0, none⟩ d0).setCell ⟨r, 1, none⟩ d1).setCell ⟨r, 2, none⟩ d2).setCell ⟨r, 3, none⟩ d3).setCell ⟨r, 4, none⟩ d4).setCell ⟨r, 5, none⟩ d5).setCell ⟨r, 6, none⟩ d6).heap[k]? = wx.heap[k]?) ∧
    (∀ g B W, But g B W wx → B ≤ r → But g B W (((((((wx.setCell ⟨r, 0, none⟩ d0).setCell ⟨r, 1, none⟩ d1).setCell ⟨r, 2, none⟩ d2).setCell ⟨r, 3, none⟩ d3).setCell ⟨r, 4, none⟩ d4).setCell ⟨r, 5, none⟩ d5).setCell ⟨r, 6, none⟩ d6)) := by
  have h0 := heap_setCell_same _ _ 0 _ _ d0 h
  have h1 := heap_setCell_same _ _ 1 _ _ d1 h0
  have h2 := heap_setCell_same _ _ 2 _ _ d2 h1
  have h3 := heap_setCell_same _ _ 3 _ _ d3 h2
  have h4 := heap_setCell_same _ _ 4 _ _ d4 h3
  have h5 := heap_setCell_same _ _ 5 _ _ d5 h4
  have h6 := heap_setCell_same _ _ 6 _ _ d6 h5
  refine ⟨by simpa using h6, fun k hk => ?_, fun g B W hb hr => ((((((hb.setCell (.inr hr) _).setCell (.inr hr) _).setCell (.inr hr) _).setCell (.inr hr) _).setCell (.inr hr) _).setCell (.inr hr) _).setCell (.inr hr) _⟩
  rw [heap_setCell_other _ _ _ _ hk, heap_setCell_other _ _ _ _ hk, heap_setCell_other _ _ _ _ hk, heap_setCell_other _ _ _ _ hk, heap_setCell_other _ _ _ _ hk, heap_setCell_other _ _ _ _ hk, heap_setCell_other _ _ _ _ hk]
theorem row_seven {r : Nat} {w : World} {T : TypeId} {c0 c1 c2 c3 c4 c5 c6 : Value} (h : w.heap[r]? = some (.cells #[c0, c1, c2, c3, c4, c5, c6] T (0, 0))) :
    (w.cell? ⟨r, 0, none⟩ = some c0 ∧ w.cell? ⟨r, 1, none⟩ = some c1 ∧ w.cell? ⟨r, 2, none⟩ = some c2 ∧ w.cell? ⟨r, 3, none⟩ = some c3 ∧ w.cell? ⟨r, 4, none⟩ = some c4 ∧ w.cell? ⟨r, 5, none⟩ = some c5 ∧ w.cell? ⟨r, 6, none⟩ = some c6) ∧ ∀ j, w.frozen? ⟨r, j, none⟩ = false := by
  refine ⟨⟨?_, ?_, ?_, ?_, ?_, ?_, ?_⟩, fun j => frozen_of_row _ _ j _ _ h⟩
  all_goals
    rw [cell_of_row _ _ _ _ _ _ h]
    rfl
/-- An element's value. -/
def elemV (x : Elem) : Value := .agg #[.string (bs x.name), .int .i64 x.kind, .int .i64 x.len, .int .i64 x.grade, .int .i64 x.speed, .int .i64 x.slow, .int .i64 x.sec]

set_option maxRecDepth 100000 in
set_option maxHeartbeats 1600000 in
theorem elem_any {W0 w : World} {g : Nat} {L : Lay} {vs ve vj vg vb : Value} {pl : Int} {s : Rs} (k : Int) (hd : Deb W0) (h : RW W0 g w L vs ve vj vg vb pl s) :
    Calls Tryz.prog 82 #[.pointer (some ⟨g, 0, none⟩), .int .i64 k] w fun e w' => e = .returned (elemV (elemX k L s)) ∧ To W0 g w w' L vs ve vj vg vb pl (s.elemS k L) := by
  have hb0 := (Below.refl w.heap.size w).alloc (Nat.le_refl _) (.cells #[.string ⟨#[]⟩, .int .i64 0, .int .i64 0, .int .i64 0, .int .i64 0, .int .i64 0, .int .i64 0] 45)
  have T0 : To W0 g w (w.alloc (.cells #[.string ⟨#[]⟩, .int .i64 0, .int .i64 0, .int .i64 0, .int .i64 0, .int .i64 0, .int .i64 0] 45)) L vs ve vj vg vb pl s := To.bel ⟨h, But.refl _ _ _⟩ hb0
  have hnew := heap_alloc_new w (.cells #[.string ⟨#[]⟩, .int .i64 0, .int .i64 0, .int .i64 0, .int .i64 0, .int .i64 0, .int .i64 0] 45)
  have hrg : w.heap.size ≠ g := by
    obtain ⟨vr, h1, _⟩ := h.box
    have := h1.lt
    omega
  have hsz : w.heap.size < (w.alloc (.cells #[.string ⟨#[]⟩, .int .i64 0, .int .i64 0, .int .i64 0, .int .i64 0, .int .i64 0, .int .i64 0] 45)).heap.size := by simp
  obtain ⟨W, hW⟩ : ∃ W, w.alloc (.cells #[.string ⟨#[]⟩, .int .i64 0, .int .i64 0, .int .i64 0, .int .i64 0, .int .i64 0, .int .i64 0] 45) = W := ⟨_, rfl⟩
  rw [hW] at T0 hnew hsz
  obtain ⟨r, hr⟩ : ∃ r, w.heap.size = r := ⟨_, rfl⟩
  have HT := Lib.hid T0
  have H0 := Lib.hid h
  have H1 := Lib.hid (word_any T0.rw)
  have H2 := Lib.hid (fun w' (k : RW W0 g w' L vs ve vj vg vb pl s.word) => scix_any k)
  have H3 := Lib.hid (fun w' (k : RW W0 g w' L vs ve vj vg vb pl (s.word.sec L)) => num_any hd k)
  have H4 := Lib.hid (fun w' (k : RW W0 g w' L vs ve vj vg vb pl (s.word.sec L).num) => num_any hd k)
  have H5 := Lib.hid (fun w' (k : RW W0 g w' L vs ve vj vg vb pl (s.word.sec L).num.num) => num_any hd k)
  have H6 := Lib.hid (fun w' (k : RW W0 g w' L vs ve vj vg vb pl (s.five L)) => num_any hd k)
  have HR := Lib.hid (fun w' (k : But g W.heap.size W w') => (k.block w.heap.size hsz hrg).trans hnew)
  have HG := Lib.hid hrg
  have HLT := Lib.hid hsz
  have HX : Hid (elemX k L s = ⟨s.hd, k, intN (s.word.sec L).hd, intN (s.word.sec L).num.hd, intN (s.word.sec L).num.num.hd, if k = 2 then intN (s.five L).hd else 0, secF L s.word.hd⟩) := rfl
  have H5E : Hid ((s.word.sec L).num.num.num = s.five L) := rfl
  have HSE : Hid (s.elemS k L = if k = 2 then (s.five L).num else s.five L) := rfl
  obtain ⟨n, hn⟩ : ∃ n, s.hd = n := ⟨_, rfl⟩
  obtain ⟨i, hi⟩ : ∃ i, secF L s.word.hd = i := ⟨_, rfl⟩
  obtain ⟨m1, hm1⟩ : ∃ i, intN (s.word.sec L).hd = i := ⟨_, rfl⟩
  obtain ⟨m2, hm2⟩ : ∃ i, intN (s.word.sec L).num.hd = i := ⟨_, rfl⟩
  obtain ⟨m3, hm3⟩ : ∃ i, intN (s.word.sec L).num.num.hd = i := ⟨_, rfl⟩
  obtain ⟨m4, hm4⟩ : ∃ i, intN (s.five L).hd = i := ⟨_, rfl⟩
  rw [hn] at H1 HX
  rw [hi] at H2 HX
  rw [hm1] at H3 HX
  rw [hm2] at H4 HX
  rw [hm3] at H5 HX
  rw [hm4] at H6 HX
  rw [hr] at HR HG HLT
  clear h hb0 T0 hnew hi hn hrg hsz hm1 hm2 hm3 hm4
  go_enter Tryz.func82, Tryz.ntmps82
  go_wp2_with fail
  clear hW
  refine H1.out.mono ?_
  rintro e w1 ⟨rfl, r1⟩
  have R1 := Lib.hid r1
  clear r1
  go_wp2_with fail
  refine (H2.out _ R1.out.rw).mono ?_
  rintro e w2 ⟨rfl, r2⟩
  have R2 := Lib.hid (R1.out.after r2)
  clear r2
  go_wp2_with fail
  refine (H3.out _ R2.out.rw).mono ?_
  rintro e w3 ⟨rfl, r3⟩
  have R3 := Lib.hid (R2.out.after r3)
  clear r3
  go_wp2_with fail
  refine (H4.out _ R3.out.rw).mono ?_
  rintro e w4 ⟨rfl, r4⟩
  have R4 := Lib.hid (R3.out.after r4)
  clear r4
  go_wp2_with fail
  refine (H5.out _ R4.out.rw).mono ?_
  rintro e w5 ⟨rfl, r5⟩
  have R5 := Lib.hid (R4.out.after r5)
  clear r5
  rw [H5E.out] at R5
  have hW5 : Hid (∀ W6, w5.alloc (.cells #[.string (bs n), .int .i64 k, .int .i64 m1, .int .i64 m2, .int .i64 m3, .int .i64 0, .int .i64 i] 45) = W6 → To W0 g W W6 L vs ve vj vg vb pl (s.five L) ∧ W6.heap[w5.heap.size]? = some (.cells #[.string (bs n), .int .i64 k, .int .i64 m1, .int .i64 m2, .int .i64 m3, .int .i64 0, .int .i64 i] 45 (0, 0)) ∧ w5.heap.size < W6.heap.size) := by
    rintro W6 rfl
    exact ⟨R5.out.bel ((Below.refl w5.heap.size w5).alloc (Nat.le_refl _) _), heap_alloc_new _ _, by simp⟩
  have HGS : Hid (w5.heap.size ≠ g ∧ r ≠ w5.heap.size) := by
    obtain ⟨vr, h1, _⟩ := R5.out.rw.box
    have h2 := h1.lt
    have h3 := R5.out.2.size
    have h4 := HLT.out
    exact ⟨by omega, by omega⟩
  obtain ⟨q, hq⟩ : ∃ q, w5.heap.size = q := ⟨_, rfl⟩
  obtain ⟨W6, hW6⟩ : ∃ W6, w5.alloc (.cells #[.string (bs n), .int .i64 k, .int .i64 m1, .int .i64 m2, .int .i64 m3, .int .i64 0, .int .i64 i] 45) = W6 := ⟨_, rfl⟩
  obtain ⟨t6, row6, lt6⟩ := hW5.out W6 hW6
  rw [hq] at row6 lt6 HGS
  have R6 := Lib.hid t6
  have ROW6 := Lib.hid row6
  have LT6 := Lib.hid lt6
  clear t6 lt6 row6 hW5
  by_cases hk : k = 2
  · subst hk
    rw [if_pos rfl] at HX HSE
    go_wp2_with fail
    refine (H6.out _ R6.out.rw).mono ?_
    rintro e w8 ⟨rfl, r8⟩
    have R8 := Lib.hid (R6.out.after r8)
    have rowq := (r8.2.block q LT6.out HGS.out.1).trans ROW6.out
    have hq9 : (w8.setCell ⟨q, 5, none⟩ (.int .i64 m4)).heap[q]? = some (.cells #[.string (bs n), .int .i64 2, .int .i64 m1, .int .i64 m2, .int .i64 m3, .int .i64 m4, .int .i64 i] 45 (0, 0)) := by simpa using heap_setCell_same w8 q 5 _ _ (.int .i64 m4) rowq
    have hr9 : (w8.setCell ⟨q, 5, none⟩ (.int .i64 m4)).heap[r]? = some (.cells #[.string ⟨#[]⟩, .int .i64 0, .int .i64 0, .int .i64 0, .int .i64 0, .int .i64 0, .int .i64 0] 45 (0, 0)) := (heap_setCell_other _ _ _ _ HGS.out.2).trans (HR.out _ R8.out.2)
    have hg9 : (w8.setCell ⟨q, 5, none⟩ (.int .i64 m4)).heap[g]? = w8.heap[g]? := heap_setCell_other _ _ _ _ (fun e => HGS.out.1 e.symm)
    have hb9 : But g w.heap.size w (w8.setCell ⟨q, 5, none⟩ (.int .i64 m4)) := (HT.out.after R8.out).2.setCell (.inr (show w.heap.size ≤ q by have h1 := R5.out.2.size; have h2 := HLT.out; omega)) _
    have c5 := (row_seven rowq).1.2.2.2.2.2.1
    have f5 := (row_seven rowq).2 5
    obtain ⟨⟨y0, y1, y2, y3, y4, y5, y6⟩, -⟩ := row_seven hq9
    obtain ⟨⟨u0, u1, u2, u3, u4, u5, u6⟩, zu⟩ := row_seven hr9
    have zu0 := zu 0
    have zu1 := zu 1
    have zu2 := zu 2
    have zu3 := zu 3
    have zu4 := zu 4
    have zu5 := zu 5
    have zu6 := zu 6
    have HR9 := Lib.hid hr9
    have HG9 := Lib.hid hg9
    have HB9 := Lib.hid hb9
    clear r8 zu rowq hq9 hr9 hg9 hb9
    go_wp2_with fail
    refine bodyPost_ret (v := .agg #[.string (bs n), .int .i64 2, .int .i64 m1, .int .i64 m2, .int .i64 m3, .int .i64 m4, .int .i64 i]) ?_ rfl ⟨by rw [HX.out]; rfl, ?_⟩
    · exact results_cell_row rfl _ _ r 45 _ (0, 0) _ rfl (set_seven HR9.out).1 Tryz.underlying45 rfl (by kernel_rfl)
    · rw [HSE.out]
      exact far H0.out (HT.out.after R8.out) ((set_seven HR9.out).2.2 g w.heap.size w HB9.out (by omega)) (((set_seven HR9.out).2.1 g (fun e => HG.out e.symm)).trans HG9.out)
  · have hk2 : (k == 2) = false := by simpa using hk
    rw [if_neg hk] at HX HSE
    have HRW := Lib.hid (HR.out _ R6.out.2)
    obtain ⟨⟨y0, y1, y2, y3, y4, y5, y6⟩, -⟩ := row_seven ROW6.out
    obtain ⟨⟨u0, u1, u2, u3, u4, u5, u6⟩, zu⟩ := row_seven HRW.out
    have zu0 := zu 0
    have zu1 := zu 1
    have zu2 := zu 2
    have zu3 := zu 3
    have zu4 := zu 4
    have zu5 := zu 5
    have zu6 := zu 6
    clear zu
    go_wp2_with fail
    refine bodyPost_ret (v := .agg #[.string (bs n), .int .i64 k, .int .i64 m1, .int .i64 m2, .int .i64 m3, .int .i64 0, .int .i64 i]) ?_ rfl ⟨by rw [HX.out]; rfl, ?_⟩
    · exact results_cell_row rfl _ _ r 45 _ (0, 0) _ rfl (set_seven HRW.out).1 Tryz.underlying45 rfl (by kernel_rfl)
    · rw [HSE.out]
      exact far H0.out (HT.out.after R6.out) ((set_seven HRW.out).2.2 g w.heap.size w (HT.out.after R6.out).2 (by omega)) ((set_seven HRW.out).2.1 g (fun e => HG.out e.symm))

end Go.Proofs.YtfdipcphohhlgaaGreatDoor.Rde
