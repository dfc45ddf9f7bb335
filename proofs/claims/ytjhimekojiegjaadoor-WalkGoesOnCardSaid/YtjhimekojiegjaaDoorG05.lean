/- Texts of this proof, merged: Wbra, Wmea, Rout, Wele, Pjnd, Wnxt, Wcnn, Shelf. -/
import Derived.Test.YtjhimekojiegjaaDoorG04
import Derived.Deep.RegionHeld3
import Derived.Lib.QuietBelow
import Derived.BigGuardPart
import Derived.BigQuiet
import Derived.Test.YtjhimekojiegjaaDoorG02
import Derived.Laws.ResultCell
import Derived.Test.YtjhimekojiegjaaDoorG01
import Derived.Shelf.SlicesQ.IndexFunc
import Derived.Ground.SlgfProg
import Derived.Shelf.SlSortCmp.NoneTotal
import Derived.Ground.SlsfProg
import Derived.Shelf.SlGeneric
import Derived.Shelf.Small.Bits
import Derived.Shelf.Small.Wraps
import Derived.Shelf.Strconv.Itoa0
import Derived.Shelf.Slices.Turned
import Derived.Ground.Names2Prog
import Derived.Shelf.Slices.SearchI
import Derived.Test.YtjhimekojiegjaaDoorProg

/- The calls of the reference's Branches and Reverse (walk). -/
namespace Go.Proofs.YtjhimekojiegjaaDoor.Wbra
open Go.RowKit Go.Lib Go.Proofs.YtjhimekojiegjaaDoor.Reads Go.Proofs.YtjhimekojiegjaaDoor.Rows2 Go.Proofs.YtjhimekojiegjaaDoor.Lay Go.Proofs.YtjhimekojiegjaaDoor.Layf Go.Proofs.YtjhimekojiegjaaDoor.Ldup Go.Proofs.YtjhimekojiegjaaDoor.Lext Go.Proofs.YtjhimekojiegjaaDoor.Ljoi Go.Proofs.YtjhimekojiegjaaDoor.Way Go.Proofs.YtjhimekojiegjaaDoor.Wrf Go.Proofs.YtjhimekojiegjaaDoor.Wlst
open Go.Proofs.YtjhimekojiegjaaDoor.Text hiding lineL joinR
open Go.Proofs.YtjhimekojiegjaaDoor.Rail (needF legsF)
open Go.Proofs.YtjhimekojiegjaaDoor.Rref (rneed_any rlegs_any)
open Go.Proofs.YtjhimekojiegjaaDoor.Wsam (trips_shape)

theorem legs_few (k i : Int) : (legsF k i).length ≤ 2 := by
  rw [Rail.legs_len]
  repeat' split
  all_goals omega
theorem take_next {α : Type} {l : List α} {j : Nat} {x : α} (h : l[j]? = some x) : l.take (j + 1) = l.take j ++ [x] := by
  rw [List.take_add_one, h]
  rfl

/-- What holds at the head of the loop of Branches. -/
def BRel (g : Int → Stp) (l : List Int) (W : World) (vout vj : Value) (wr : World) : Prop :=
  ∃ j : Nat, vj = .int .i64 (j : Int) ∧ j ≤ l.length ∧ wr.ownsRow W.heap.size 30 3 vout ((l.take j).map g).length (((l.take j).map g).flatMap stCells) ∧ Below W.heap.size W wr

set_option maxRecDepth 100000 in
set_option maxHeartbeats 3200000 in
theorem wbranches_any (L : Lay) (p : Int × Int) {vs ve vj vg vb : Value} (w : World) (h : LayAt (In w) w L vs ve vj vg vb) :
    Calls Tryd.prog 15 #[layV L vs ve vj vg vb, pV p] w (MadeOut stCells 3 (branchesF L p) w) := by
  obtain ⟨a, cap, rfl, hm, _⟩ := h.el
  obtain ⟨s1, s2⟩ := p
  have X := two_boxes w #[.string (bs L.name), vs, .slice a L.els.length cap, vj, vg, vb] #[.int .i64 s1, .int .i64 s2] 28 32
  have H0 := h.next X.2.2.2
  unfold layV pV
  go_enter Tryd.func15, Tryd.ntmps15
  go_wp2_with fail
  obtain ⟨W, hW⟩ : ∃ W, (w.alloc (.cells #[.string (bs L.name), vs, .slice a L.els.length cap, vj, vg, vb] 28)).alloc (.cells #[.int .i64 s1, .int .i64 s2] 32) = W := ⟨_, rfl⟩
  rw [hW] at X H0 ⊢
  clear hW h
  obtain ⟨x1, x2, xs, xb⟩ := X
  have B0 := Lib.hid xb
  have HX := Lib.hid (wexists_any L s1 W H0)
  obtain ⟨a', cap', he, _, hel⟩ := H0.el
  cases he
  have HE := Lib.hid hel
  have C1 := Lib.hid x1
  have C2 := Lib.hid x2
  have WS := Lib.hid xs
  clear H0 hel x1 x2 xs xb
  refine HX.out.mono ?_
  rintro e w1 ⟨rfl, b1⟩
  have B1 := Lib.hid b1
  cases hq : inB L.els s1 with
  | false =>
    have HN := Lib.hid (branches_none (L := L) (p := (s1, s2)) hq)
    clear hq b1
    go_wp2_with fail
    go_ret
    rw [HN.out]
    exact made_nil _ _ (bel_next B0.out B1.out)
  | true =>
    obtain ⟨i, x, rfl, hi, hx, ho⟩ := el_some hq
    have HN := Lib.hid (branches_some (L := L) (p := ((i : Int), s2)) ho)
    obtain ⟨b, off, rfl, c0, c1, c2, c3, c4, c5, c6⟩ := HE.out w1 b1 i x hx
    have g2 := (b1.cell (p := ⟨w.heap.size, 2, none⟩) (by rw [WS.out]; simp only; omega)).trans (C1.out 2)
    have y0 := (b1.cell (p := ⟨w.heap.size + 1, 0, none⟩) (by rw [WS.out]; simp)).trans (C2.out 0)
    have y1 := (b1.cell (p := ⟨w.heap.size + 1, 1, none⟩) (by rw [WS.out]; simp)).trans (C2.out 1)
    simp at g2 y0 y1
    obtain ⟨nm, kd, ln, gr, sp, sl, sc⟩ := x
    simp only at c1 HN
    have HL := Lib.hid (fun w' => rlegs_any kd s2 w')
    obtain ⟨l, hl⟩ : ∃ l, legsF kd s2 = l := ⟨_, rfl⟩
    have hl4 : l.length ≤ 2 := by rw [← hl]; exact legs_few _ _
    rw [hl] at HL HN
    have HB1 := Lib.hid (bel_next B0.out B1.out)
    have Y := Lib.hid (fun w' (b : Below w1.heap.size w1 w') => (⟨(b.cell (p := ⟨w.heap.size + 1, 0, none⟩) (Nat.lt_of_lt_of_le (by rw [WS.out]; simp) b1.size)).trans y0, (b.cell (p := ⟨w.heap.size + 1, 1, none⟩) (Nat.lt_of_lt_of_le (by rw [WS.out]; simp) b1.size)).trans y1, Nat.lt_of_lt_of_le (show w.heap.size + 1 < w1.heap.size from Nat.lt_of_lt_of_le (by rw [WS.out]; omega) b1.size) b.size⟩ : _ ∧ _ ∧ w.heap.size + 1 < w'.heap.size))
    have hlt1 : w.heap.size + 1 < w1.heap.size := Nat.lt_of_lt_of_le (by rw [WS.out]; omega) b1.size
    have hlt0 : w.heap.size < w1.heap.size := by omega
    have hltb : b < w1.heap.size := block_lt_of_cell c1
    clear hq b1 hx ho hl c0 c2 c3 c4 c5 c6
    go_wp2_with fail
    go_region_held3 (fun w' => w'.cell? ⟨w.heap.size, 2, none⟩ = some (.slice (some ⟨b, off, none⟩) L.els.length cap) ∧ w'.cell? ⟨w.heap.size + 1, 0, none⟩ = some (.int .i64 (i : Int)) ∧ w'.cell? ⟨w.heap.size + 1, 1, none⟩ = some (.int .i64 s2) ∧ w'.cell? ⟨b, off + i * 7 + 1, none⟩ = some (.int .i64 kd))
      (first
        | with_reducible exact ⟨(E4.out.cell hlt0).trans g2, (E4.out.cell hlt1).trans y0, (E4.out.cell hlt1).trans y1, (E4.out.cell hltb).trans c1⟩
        | go_keep)
      (first
        | (go_at_call 38; (refine (HL.out _).mono ?_); rintro e w4 ⟨v4, rfl, r4, b4⟩; have R4 := Lib.hid r4; have E4 := Lib.hid (bel_drew b4); clear b4 r4))
    obtain ⟨A4, C4, hv4, hm4, hr4⟩ := ints_shape R4.out
    subst hv4
    have HRD := Lib.hid (fun (wr : World) (hb : Below w4.heap.size w4 wr) (k : Nat) (x : Int) (hx : l[k]? = some x) => (match hr4 k x hx with | ⟨b, off, e, hb2, hc⟩ => ⟨b, off, e, (hb.cell (p := ⟨b, off + k, none⟩) hb2).trans hc⟩ : ∃ b off, A4 = some ⟨b, off, none⟩ ∧ wr.cell? ⟨b, off + k, none⟩ = some (.int .i64 x)))
    have BW := Lib.hid (bel_next HB1.out E4.out)
    have YY := Lib.hid (fun (wr : World) (hb : Below w4.heap.size w4 wr) => Y.out wr (bel_next E4.out hb))
    obtain ⟨i0, hi0, hz0, hz1, hz2⟩ := info_parts infoT
    have HI0 := Lib.hid hi0
    have HZ0 := Lib.hid hz0
    have HZ1 := Lib.hid hz1
    have HZ2 := Lib.hid hz2
    clear hi0 hz0 hz1 hz2 hr4 c1 g2 y0 y1 hlt0 hlt1 hltb R4 E4
    go_wp2_with fail
    go_loopw [6, 7] (fun vout vj wr => BRel (fun o => ((i : Int), s2, o)) l w4 vout vj wr) (fun _ vj _ => l.length - (RowKit.intOf vj).toNat)
    case atStart => exact ⟨0, rfl, Nat.zero_le _, World.ownsRow_nil _ _ _ _, Below.refl _ _⟩
    case round =>
      obtain ⟨j, rfl, hj, ho, hb⟩ := hrel
      have HO := Lib.hid ho
      have HB := Lib.hid hb
      obtain ⟨y0, y1, hlt1⟩ := YY.out wr hb
      clear ho hb
      by_cases hlt : j < l.length
      · obtain ⟨x, hx⟩ := at_lt hlt
        obtain ⟨b5, off5, rfl, c5⟩ := HRD.out wr HB.out j x hx
        have HTK := Lib.hid (take_next hx)
        have hn : ((l.take j).map fun o => (((i : Int), s2, o) : Stp)).length ≤ 2 := by rw [List.length_map, List.length_take]; omega
        have HNL := Lib.hid hn
        have HK : Hid (∀ w', Below w4.heap.size w4 w' → w'.cell? ⟨w.heap.size + 1, 0, none⟩ = some (.int .i64 (i : Int)) ∧ w'.cell? ⟨w.heap.size + 1, 1, none⟩ = some (.int .i64 s2) ∧ w'.cell? ⟨b5, off5 + j, none⟩ = some (.int .i64 x)) := fun w' b' => ⟨(YY.out w' b').1, (YY.out w' b').2.1, by
          obtain ⟨_, _, e', hc⟩ := HRD.out w' b' j x hx
          cases e'
          exact hc⟩
        clear hx hn
        go_wp2_with fail
        go_region_held3 (fun w' => w'.cell? ⟨w.heap.size + 1, 0, none⟩ = some (.int .i64 (i : Int)) ∧ w'.cell? ⟨w.heap.size + 1, 1, none⟩ = some (.int .i64 s2) ∧ w'.cell? ⟨b5, off5 + j, none⟩ = some (.int .i64 x))
          (first
            | with_reducible exact HK.out _ F5.out
            | go_keep)
          (first
            | (refine step_append_row rfl (.tmp 29) (.tmp 39) 38 rfl w4 30 i0 (.agg #[.int .i64 0, .int .i64 0, .int .i64 0]) 3 24 Tryd.underlying38 HI0.out HZ0.out HZ1.out HZ2.out rfl (by decide) stCells st_len st_one ((i : Int), s2, x) rfl rfl (by simp) rfl HO.out.drew HB.out.drew (by have := HNL.out; omega) (by have := HNL.out; unfold maxLen; omega) ?_; intro v5 w5 o5 f5; have O5 := Lib.hid o5; have F5 := Lib.hid f5; clear o5 f5))
        go_wp2_with fail
        go_roundw
        case rel => exact ⟨j + 1, by simp, hlt, by rw [HTK.out, List.map_append]; exact O5.out, F5.out⟩
        case measure => simp [RowKit.intOf]; omega
      · have he : j = l.length := by omega
        subst he
        go_wp2_with fail
        go_ret
        rw [HN.out]
        have ho := HO.out
        rw [List.take_length] at ho
        exact made_own stCells st_len BW.out ho HB.out

end Go.Proofs.YtjhimekojiegjaaDoor.Wbra

/- The calls of the reference's Reverse, Length, has and Sections (walk). -/
namespace Go.Proofs.YtjhimekojiegjaaDoor.Wmea
open Go.RowKit Go.Lib Go.Proofs.YtjhimekojiegjaaDoor.Reads Go.Proofs.YtjhimekojiegjaaDoor.Rows2 Go.Proofs.YtjhimekojiegjaaDoor.Lay Go.Proofs.YtjhimekojiegjaaDoor.Layf Go.Proofs.YtjhimekojiegjaaDoor.Ldup Go.Proofs.YtjhimekojiegjaaDoor.Lext Go.Proofs.YtjhimekojiegjaaDoor.Ljoi Go.Proofs.YtjhimekojiegjaaDoor.Lnmd Go.Proofs.YtjhimekojiegjaaDoor.Way Go.Proofs.YtjhimekojiegjaaDoor.Wrf Go.Proofs.YtjhimekojiegjaaDoor.Wlst Go.Proofs.YtjhimekojiegjaaDoor.Wbra
open Go.Proofs.YtjhimekojiegjaaDoor.Text hiding lineL joinR
open Go.Proofs.YtjhimekojiegjaaDoor.Wsam (trips_shape)

/-- A way's cells, later too. -/
theorem way_cells {w : World} {v : Value} {way : List Stp} (h : Grid (In w) w v 3 (way.map stCells)) :
    ∃ a cap, v = .slice a way.length cap ∧ (way.length : Int) ≤ 9223372036854775807 ∧ ∀ (wr : World), Below w.heap.size w wr → ∀ (k : Nat) (x : Stp), way[k]? = some x → ∃ b off, a = some ⟨b, off, none⟩ ∧ b < w.heap.size ∧ wr.cell? ⟨b, off + k * 3, none⟩ = some (.int .i64 x.1) ∧ wr.cell? ⟨b, off + k * 3 + 1, none⟩ = some (.int .i64 x.2.1) ∧ wr.cell? ⟨b, off + k * 3 + 2, none⟩ = some (.int .i64 x.2.2) := by
  obtain ⟨a, cap, h1, h2, hc⟩ := trips_shape h
  refine ⟨a, cap, h1, h2, fun wr hb k x hx => ?_⟩
  obtain ⟨b, off, e, hbl, c0, c1, c2⟩ := hc k x hx
  exact ⟨b, off, e, hbl, (hb.cell (p := ⟨b, off + k * 3, none⟩) hbl).trans c0, (hb.cell (p := ⟨b, off + k * 3 + 1, none⟩) hbl).trans c1, (hb.cell (p := ⟨b, off + k * 3 + 2, none⟩) hbl).trans c2⟩

theorem back_next {way : List Stp} {j : Nat} {x : Stp} (h : way[j]? = some x) : reverseF (way.drop j) = reverseF (way.drop (j + 1)) ++ [turned x] := by
  rw [Layf.drop_at h, reverseF, List.map_cons, List.reverse_cons]
  rfl
theorem back_len (way : List Stp) : (reverseF way).length = way.length := by simp [reverseF]

/-- What holds at the head of the loop of Reverse. -/
def VRel (way : List Stp) (w : World) (vout vj : Value) (wr : World) : Prop :=
  ∃ j : Nat, vj = .int .i64 ((j : Int) - 1) ∧ j ≤ way.length ∧ wr.ownsRow w.heap.size 30 3 vout (reverseF (way.drop j)).length ((reverseF (way.drop j)).flatMap stCells) ∧ Below w.heap.size w wr

set_option maxRecDepth 100000 in
set_option maxHeartbeats 1600000 in
theorem wreverse_any {way : List Stp} {v : Value} {w : World} (h : Grid (In w) w v 3 (way.map stCells)) (hn : way.length ≤ 1000) :
    Calls Tryd.prog 27 #[v] w (MadeOut stCells 3 (reverseF way) w) := by
  obtain ⟨a, cap, rfl, hm, hc⟩ := way_cells h
  have HC := Lib.hid hc
  clear h hc
  obtain ⟨i0, hi0, hz0, hz1, hz2⟩ := info_parts infoT
  have HI0 := Lib.hid hi0
  have HZ0 := Lib.hid hz0
  have HZ1 := Lib.hid hz1
  have HZ2 := Lib.hid hz2
  clear hi0 hz0 hz1 hz2
  go_enter Tryd.func27, Tryd.ntmps27
  go_wp2_with fail
  go_loopw [3, 4] (fun vout vj wr => VRel way w vout vj wr) (fun _ vj _ => (RowKit.intOf vj + 1).toNat)
  case atStart => exact ⟨way.length, rfl, Nat.le_refl _, by rw [List.drop_length]; exact World.ownsRow_nil _ _ _ _, Below.refl _ _⟩
  case round =>
    obtain ⟨j, rfl, hj, ho, hb⟩ := hrel
    have HO := Lib.hid ho
    have HB := Lib.hid hb
    clear ho hb
    rcases j with _ | j
    · go_wp2_with fail
      go_ret
      have ho := HO.out
      rw [List.drop_zero] at ho
      exact made_own stCells st_len (Below.refl _ _) ho HB.out
    · rw [show (((j + 1 : Nat) : Int) - 1) = (j : Int) by omega]
      have hlt : j < way.length := hj
      obtain ⟨x, hx⟩ := at_lt hlt
      obtain ⟨b, off, rfl, hbl, c0, c1, c2⟩ := HC.out wr HB.out j x hx
      have HK : Hid (∀ w', Below w.heap.size w w' → w'.cell? ⟨b, off + j * 3, none⟩ = some (.int .i64 x.1) ∧ w'.cell? ⟨b, off + j * 3 + 1, none⟩ = some (.int .i64 x.2.1) ∧ w'.cell? ⟨b, off + j * 3 + 2, none⟩ = some (.int .i64 x.2.2)) := fun w' b' => by
        obtain ⟨_, _, e', _, d0, d1, d2⟩ := HC.out w' b' j x hx
        cases e'
        exact ⟨d0, d1, d2⟩
      have HBN := Lib.hid (back_next hx)
      have hnl : (reverseF (way.drop (j + 1))).length ≤ 1000 := by rw [back_len, List.length_drop]; omega
      have HNL := Lib.hid hnl
      obtain ⟨x1, x2, x3⟩ := x
      simp only at c0 c1 c2 HK
      clear hx hnl
      go_wp2_with fail
      go_region_held3 (fun w' => w'.cell? ⟨b, off + j * 3, none⟩ = some (.int .i64 x1) ∧ w'.cell? ⟨b, off + j * 3 + 1, none⟩ = some (.int .i64 x2) ∧ w'.cell? ⟨b, off + j * 3 + 2, none⟩ = some (.int .i64 x3))
        (first
          | with_reducible exact HK.out _ F5.out
          | go_keep)
        (first
          | (refine step_append_row rfl (.tmp 12) (.tmp 29) 38 rfl w 30 i0 (.agg #[.int .i64 0, .int .i64 0, .int .i64 0]) 3 24 Tryd.underlying38 HI0.out HZ0.out HZ1.out HZ2.out rfl (by decide) stCells st_len st_one (x1, x3, x2) rfl rfl (by simp) rfl HO.out.drew HB.out.drew (by have := HNL.out; omega) (by have := HNL.out; unfold maxLen; omega) ?_; intro v5 w5 o5 f5; have O5 := Lib.hid o5; have F5 := Lib.hid f5; clear o5 f5))
      go_wp2_with fail
      go_roundw
      case rel => exact ⟨j, rfl, by omega, by rw [HBN.out]; exact O5.out, F5.out⟩
      case measure => simp [RowKit.intOf]

set_option maxRecDepth 100000 in
set_option maxHeartbeats 800000 in
theorem whas_any {l : List Int} (n : Int) {v : Value} {w : World} (h : Reads w.heap.size w v l) :
    Calls Tryd.prog 45 #[v, .int .i64 n] w (BoolOut (l.contains n) w) := by
  obtain ⟨a, cap, rfl, hm, hc⟩ := ints_shape h
  have HC := Lib.hid hc
  clear h hc
  obtain ⟨r, hr⟩ : ∃ r, l.contains n = r := ⟨_, rfl⟩
  rw [hr]
  have HR := Lib.hid hr
  clear hr
  go_enter Tryd.func45, Tryd.ntmps45
  go_wp2_with fail
  go_loopw [5] (fun vj wr => ∃ j : Nat, vj = .int .i64 (j : Int) ∧ j ≤ l.length ∧ (l.drop j).contains n = r ∧ w = wr) (fun vj _ => l.length - (RowKit.intOf vj).toNat)
  case atStart => exact ⟨0, rfl, Nat.zero_le _, HR.out, rfl⟩
  case round =>
    obtain ⟨j, rfl, hj, hr, rfl⟩ := hrel
    have HJ := Lib.hid hr
    clear hr
    by_cases hlt : j < l.length
    · obtain ⟨x, hx⟩ := at_lt hlt
      obtain ⟨b, off, rfl, _, c0⟩ := HC.out j x hx
      rw [Layf.drop_at hx, List.contains_cons] at HJ
      clear hx
      by_cases hq : x = n
      · subst hq
        have HF := Lib.hid (show r = true by have := HJ.out; simpa using this.symm)
        go_wp2_with fail
        go_ret
        exact ⟨by rw [HF.out]; rfl, Below.refl _ _⟩
      · have hq2 : (x == n) = false := by simpa using hq
        have HF := Lib.hid (show (l.drop (j + 1)).contains n = r by
          have h2 : (n == x) = false := by simpa using fun e => hq e.symm
          have := HJ.out
          rwa [h2, Bool.false_or] at this)
        go_wp2_with fail
        go_roundw
        case rel => exact ⟨j + 1, by simp, by omega, HF.out, by simp⟩
        case measure => simp [RowKit.intOf]; omega
    · have he : j = l.length := by omega
      subst he
      have HF := Lib.hid (show r = false by rw [← HJ.out, List.drop_length]; rfl)
      go_wp2_with fail
      go_ret
      exact ⟨by rw [HF.out]; rfl, Below.refl _ _⟩

theorem len_bound {els : List Elem} (h : ∀ x ∈ els, 0 ≤ x.len ∧ x.len ≤ 1000000) (s : Stp) : 0 ≤ lenS els s ∧ lenS els s ≤ 1000000 := by
  unfold lenS
  split
  · omega
  · rename_i x hx
    refine h x ?_
    unfold elOf at hx
    split at hx
    · exact List.mem_of_getElem? hx
    · cases hx

/-- What holds at the head of the loop of Length. -/
def NRel (L : Lay) (way : List Stp) (r : Int) (W : World) (vn vj : Value) (wr : World) : Prop :=
  ∃ (j : Nat) (n : Int), vn = .int .i64 n ∧ vj = .int .i64 (j : Int) ∧ j ≤ way.length ∧ lenR L.els n (way.drop j) = r ∧ 0 ≤ n ∧ n ≤ 1000000 * (j : Int) ∧ Below W.heap.size W wr

set_option maxRecDepth 100000 in
set_option maxHeartbeats 3200000 in
theorem wlength_any (L : Lay) {way : List Stp} {vs ve vj vg vb v : Value} (w : World) (h : LayAt (In w) w L vs ve vj vg vb) (hv : Grid (In w) w v 3 (way.map stCells)) (hn : way.length ≤ 1000) (hle : ∀ x ∈ L.els, 0 ≤ x.len ∧ x.len ≤ 1000000) :
    Calls Tryd.prog 19 #[layV L vs ve vj vg vb, v] w fun e w' => e = .returned (.int .i64 (lengthF L.els way)) ∧ Below w.heap.size w w' := by
  obtain ⟨a, cap, rfl, hm, _⟩ := h.el
  obtain ⟨a2, cap2, rfl, hm2, _⟩ := way_cells hv
  obtain ⟨r, hr⟩ : ∃ r, lengthF L.els way = r := ⟨_, rfl⟩
  rw [hr]
  have HR := Lib.hid (show lenR L.els 0 (way.drop 0) = r by rw [List.drop_zero]; exact hr)
  have HLB := Lib.hid (fun s => len_bound hle s)
  have b0 := (Below.refl w.heap.size w).alloc (Nat.le_refl _) (.cells #[.string (bs L.name), vs, .slice a L.els.length cap, vj, vg, vb] 28)
  have HH := Lib.hid (h.next b0)
  have HV := Lib.hid (hv.keep (keep_next b0))
  have B0 := Lib.hid b0
  have HX := Lib.hid (lbox_new w 28 L vs (.slice a L.els.length cap) vj vg vb)
  have HS0 : Hid (w.heap.size < (w.alloc (.cells #[.string (bs L.name), vs, .slice a L.els.length cap, vj, vg, vb] 28)).heap.size) := by simp [Hid]
  clear h hv hr hle b0
  unfold layV
  go_enter Tryd.func19, Tryd.ntmps19
  go_wp2_with fail
  obtain ⟨W, hW⟩ : ∃ W, w.alloc (.cells #[.string (bs L.name), vs, .slice a L.els.length cap, vj, vg, vb] 28) = W := ⟨_, rfl⟩
  rw [hW] at B0 HH HX HS0 HV ⊢
  clear hW
  obtain ⟨_, _, he, _, hel⟩ := HH.out.el
  cases he
  have HE := Lib.hid hel
  obtain ⟨_, _, he, _, hcw⟩ := way_cells HV.out
  cases he
  have HC := Lib.hid hcw
  clear hel hcw
  go_loopw [5, 6] (fun vn vj wr => NRel L way r W vn vj wr) (fun _ vj _ => way.length - (RowKit.intOf vj).toNat)
  case atStart => exact ⟨0, 0, rfl, rfl, Nat.zero_le _, HR.out, by omega, by omega, Below.refl _ _⟩
  case round =>
    obtain ⟨j, n, rfl, rfl, hj, hr, hn0, hn1, hb⟩ := hrel
    have HJ := Lib.hid hr
    have HB := Lib.hid hb
    clear hr hb
    by_cases hlt : j < way.length
    · obtain ⟨x, hx⟩ := at_lt hlt
      rw [Layf.drop_at hx, lenR] at HJ
      obtain ⟨x0, x1, x2, x3, x4, x5⟩ := HX.out.next HB.out HS0.out
      obtain ⟨b, off, rfl, hbl, c0, c1, c2⟩ := HC.out wr HB.out j x hx
      have HCX := Lib.hid hx
      obtain ⟨s1, s2, s3⟩ := x
      simp only at c0 c1 c2
      have hlt0 : w.heap.size < wr.heap.size := Nat.lt_of_lt_of_le HS0.out HB.out.size
      have hbl2 : b < wr.heap.size := Nat.lt_of_lt_of_le hbl HB.out.size
      have k0 := cell_regrown x0
      have k1 := cell_regrown x1
      have k2 := cell_regrown x2
      have k3 := cell_regrown x3
      have k4 := cell_regrown x4
      have k5 := cell_regrown x5
      have k6 := cell_regrown c0
      have C1 := Lib.hid (fun d os => Calls.regrown_of (w := wr) (d := d) (os := os) (wexists_any L s1 _ (HH.out.next (bel_next HB.out (below_regrown wr d os)))))
      unfold layV at C1
      have HLS := Lib.hid (HLB.out (s1, s2, s3))
      clear hx x0 x1 x2 x3 x4 x5 c0 c1 c2
      cases hq : inB L.els s1 with
      | false =>
        rw [hq] at C1
        have hz : lenS L.els (s1, s2, s3) = 0 := len_none hq
        rw [hz] at HJ
        clear hq
        go_wp2_with fail
        refine wp_region_quiet_below (by kernel_rfl) (by kernel_rfl) ?_
        repeat (go_big_quiet_step (with_reducible exact C1.out _ _))
        refine wpQuiet_nil ?_
        intro _ hw'
        obtain ⟨⟨dq, osq⟩, hw''⟩ := hw'
        subst hw''
        have B6 := Lib.hid (bel_next HB.out (below_regrown wr dq osq))
        go_wp2_with fail
        go_roundw
        case rel => exact ⟨j + 1, n, rfl, by simp, by omega, by have := HJ.out; rwa [Int.add_zero] at this, hn0, by omega, B6.out⟩
        case measure => simp [RowKit.intOf]; omega
      | true =>
        rw [hq] at C1
        obtain ⟨i, y, rfl, hi, hy, ho⟩ := el_some hq
        have hz : lenS L.els ((i : Int), s2, s3) = y.len := len_some ho
        rw [hz] at HJ HLS
        have HY := Lib.hid hy
        clear hq ho hy hz
        go_wp2_with fail
        refine wp_region_quiet_below (by kernel_rfl) (by kernel_rfl) ?_
        repeat (go_big_quiet_step (with_reducible exact C1.out _ _))
        refine wpQuiet_nil ?_
        intro w6 hw'
        obtain ⟨⟨dq, osq⟩, hw''⟩ := hw'
        have b6 : Below W.heap.size W w6 := by
          rw [hw'']
          exact bel_next HB.out (below_regrown wr dq osq)
        clear hw''
        obtain ⟨x0, x1, x2, x3, x4, x5⟩ := HX.out.next b6 HS0.out
        obtain ⟨_, _, e', _, c0, c1, c2⟩ := HC.out _ b6 j _ HCX.out
        cases e'
        obtain ⟨b9, off9, rfl, d0, d1, d2, d3, d4, d5, d6⟩ := HE.out _ b6 i y HY.out
        have hl9 := block_lt_of_cell d0
        have hlt9 : w.heap.size < w6.heap.size := Nat.lt_of_lt_of_le HS0.out b6.size
        have B6 := Lib.hid b6
        obtain ⟨nm, kd, ln, gr, sp, sl, sc⟩ := y
        simp only at c0 d2 HJ HLS
        obtain ⟨l0, l1⟩ := HLS.out
        clear b6 k0 k1 k2 k3 k4 k5 k6 x0 x1 x3 x4 x5 c1 c2 d0 d1 d3 d4 d5 d6
        go_wp2_with fail
        go_quiet (fail)
        go_wp2_with fail
        go_roundw
        case rel => exact ⟨j + 1, n + ln, by simp, by simp, by omega, HJ.out, by omega, by omega, below_drewN B6.out _⟩
        case measure => simp [RowKit.intOf]; omega
    · have he : j = way.length := by omega
      subst he
      have HF := Lib.hid (show n = r by rw [← HJ.out, List.drop_length]; rfl)
      go_wp2_with fail
      go_ret
      exact ⟨by rw [HF.out]; rfl, bel_next B0.out HB.out⟩

end Go.Proofs.YtjhimekojiegjaaDoor.Wmea

/- The calls of rail.Out and rail.Need. -/
namespace Go.Proofs.YtjhimekojiegjaaDoor.Rout
open Go.RowKit Go.Lib Go.Proofs.YtjhimekojiegjaaDoor.Rail Go.Proofs.YtjhimekojiegjaaDoor.Rtab

/-- What holds at the head of the loop: the result is that from row j on. -/
def ORel (k i p : Int) (r : Int × Bool) (w : World) (vj : Value) (wr : World) : Prop :=
  ∃ j : Nat, j ≤ 10 ∧ vj = .int .i64 (j : Int) ∧ r = outR k i p (rows.drop j) ∧ Below w.heap.size w wr

theorem oleaf {k i p a b c d : Int} {r : Int × Bool} {j : Nat} {w wr : World} {o : Obj} {l : List (Int × Int × Int × Int)} (hr : r = outR k i p (rows.drop j)) (hd : rows.drop j = (a, b, c, d) :: l) (h : k = a ∧ i = b ∧ (d = 0 ∨ p = d)) (hb : Below w.heap.size w wr) :
    Ending.returned (.tuple #[.int .i64 c, .bool true]) = Ending.returned (.tuple #[.int .i64 r.1, .bool r.2]) ∧ Below w.heap.size w (wr.alloc o) := by
  rw [hr, hd, outR_yes h.1 h.2.1 h.2.2]
  exact ⟨rfl, hb.alloc hb.size _⟩
theorem ostep {k i p a b c d : Int} {r : Int × Bool} {j : Nat} {w wr : World} {o : Obj} (hl : j < 10) (hr : r = outR k i p (rows.drop j)) (hd : rows.drop j = (a, b, c, d) :: rows.drop (j + 1)) (h : ¬ (k = a ∧ i = b ∧ (d = 0 ∨ p = d))) (hb : Below w.heap.size w wr) :
    ORel k i p r w (.int .i64 ((j : Int) + 1)) (wr.alloc o) := by
  refine ⟨j + 1, hl, by simp, ?_, hb.alloc hb.size _⟩
  rw [hr, hd, outR_no h]

set_option maxRecDepth 100000 in
set_option maxHeartbeats 800000 in
theorem out_any (k i p : Int) (w : World) (h : RTab w) :
    Calls Tryd.prog 30 #[.int .i64 k, .int .i64 i, .int .i64 p] w fun e w' => e = .returned (.tuple #[.int .i64 (outF k i p).1, .bool (outF k i p).2]) ∧ Below w.heap.size w w' := by
  obtain ⟨r, hr⟩ : ∃ r, outF k i p = r := ⟨_, rfl⟩
  rw [hr]
  have HR := Lib.hid hr
  have HL := Lib.hid (rtab_lt h)
  obtain ⟨T, fr, hg⟩ := h
  have hT := hg
  clear hr
  go_enter Tryd.func30, Tryd.ntmps30
  go_wp2_with (refine wpList_load_row rfl 82 _ rfl 0 rfl T _ fr _ hT Tryd.underlying82 rfl (by kernel_rfl) ?_)
  go_loopw [11] (fun vj wr => ORel k i p r w vj wr) (fun vj _ => 10 - (Go.RowKit.intOf vj).toNat)
  case atStart => exact ⟨0, Nat.zero_le _, rfl, by rw [← HR.out]; rfl, Below.refl _ _⟩
  case round =>
    obtain ⟨j, hj, rfl, hrj, hb⟩ := hrel
    have HB := Lib.hid hb
    have HJ := Lib.hid hrj
    clear hb hrj
    by_cases hl : j < 10
    · have hix := fun w => idx_any hl w
      have HD := Lib.hid (drop_row hl)
      unfold rowV at hix
      obtain ⟨⟨a, b, c, d⟩, hrow⟩ : ∃ x, row j = x := ⟨_, rfl⟩
      rw [hrow] at hix HD
      simp only at hix
      clear hrow
      by_cases hdp : p = d
      · subst hdp
        go_wp2_with fail
        all_goals first
          | (go_ret2
             exact oleaf HJ.out HD.out (by omega) HB.out)
          | (go_roundw
             case rel => exact ostep hl HJ.out HD.out (by omega) HB.out
             case measure => simp [Go.RowKit.intOf]; omega)
      · have hq : (d == p) = false := by simp; omega
        go_wp2_with fail
        all_goals first
          | (go_ret2
             exact oleaf HJ.out HD.out (by omega) HB.out)
          | (go_roundw
             case rel => exact ostep hl HJ.out HD.out (by omega) HB.out
             case measure => simp [Go.RowKit.intOf]; omega)
    · have he : j = 10 := by omega
      subst he
      clear hl hj
      go_wp2_with fail
      go_ret2
      exact ⟨by rw [HJ.out]; rfl, HB.out⟩

/-- What holds at the head of the loop: the result is that from row j on. -/
def NRel (k i p : Int) (r : Int × Bool) (w : World) (vj : Value) (wr : World) : Prop :=
  ∃ j : Nat, j ≤ 10 ∧ vj = .int .i64 (j : Int) ∧ r = needR k i p (rows.drop j) ∧ Below w.heap.size w wr

theorem nleaf {k i p a b c d : Int} {r : Int × Bool} {j : Nat} {w wr : World} {o : Obj} {l : List (Int × Int × Int × Int)} (hr : r = needR k i p (rows.drop j)) (hd : rows.drop j = (a, b, c, d) :: l) (h : k = a ∧ i = b ∧ p = c) (hb : Below w.heap.size w wr) :
    Ending.returned (.tuple #[.int .i64 d, .bool true]) = Ending.returned (.tuple #[.int .i64 r.1, .bool r.2]) ∧ Below w.heap.size w (wr.alloc o) := by
  rw [hr, hd, needR_yes h.1 h.2.1 h.2.2]
  exact ⟨rfl, hb.alloc hb.size _⟩
theorem nstep {k i p a b c d : Int} {r : Int × Bool} {j : Nat} {w wr : World} {o : Obj} (hl : j < 10) (hr : r = needR k i p (rows.drop j)) (hd : rows.drop j = (a, b, c, d) :: rows.drop (j + 1)) (h : ¬ (k = a ∧ i = b ∧ p = c)) (hb : Below w.heap.size w wr) :
    NRel k i p r w (.int .i64 ((j : Int) + 1)) (wr.alloc o) := by
  refine ⟨j + 1, hl, by simp, ?_, hb.alloc hb.size _⟩
  rw [hr, hd, needR_no h]

set_option maxRecDepth 100000 in
set_option maxHeartbeats 800000 in
theorem need_any (k i p : Int) (w : World) (h : RTab w) :
    Calls Tryd.prog 65 #[.int .i64 k, .int .i64 i, .int .i64 p] w fun e w' => e = .returned (.tuple #[.int .i64 (needF k i p).1, .bool (needF k i p).2]) ∧ Below w.heap.size w w' := by
  obtain ⟨r, hr⟩ : ∃ r, needF k i p = r := ⟨_, rfl⟩
  rw [hr]
  have HR := Lib.hid hr
  have HL := Lib.hid (rtab_lt h)
  obtain ⟨T, fr, hg⟩ := h
  have hT := hg
  clear hr
  go_enter Tryd.func65, Tryd.ntmps65
  go_wp2_with (refine wpList_load_row rfl 82 _ rfl 0 rfl T _ fr _ hT Tryd.underlying82 rfl (by kernel_rfl) ?_)
  go_loopw [11] (fun vj wr => NRel k i p r w vj wr) (fun vj _ => 10 - (Go.RowKit.intOf vj).toNat)
  case atStart => exact ⟨0, Nat.zero_le _, rfl, by rw [← HR.out]; rfl, Below.refl _ _⟩
  case round =>
    obtain ⟨j, hj, rfl, hrj, hb⟩ := hrel
    have HB := Lib.hid hb
    have HJ := Lib.hid hrj
    clear hb hrj
    by_cases hl : j < 10
    · have hix := fun w => idx_any hl w
      have HD := Lib.hid (drop_row hl)
      unfold rowV at hix
      obtain ⟨⟨a, b, c, d⟩, hrow⟩ : ∃ x, row j = x := ⟨_, rfl⟩
      rw [hrow] at hix HD
      simp only at hix
      clear hrow
      by_cases hdp : p = c
      · subst hdp
        go_wp2_with fail
        all_goals first
          | (go_ret2
             exact nleaf HJ.out HD.out (by omega) HB.out)
          | (go_roundw
             case rel => exact nstep hl HJ.out HD.out (by omega) HB.out
             case measure => simp [Go.RowKit.intOf]; omega)
      · have hq : (c == p) = false := by simp; omega
        go_wp2_with fail
        all_goals first
          | (go_ret2
             exact nleaf HJ.out HD.out (by omega) HB.out)
          | (go_roundw
             case rel => exact nstep hl HJ.out HD.out (by omega) HB.out
             case measure => simp [Go.RowKit.intOf]; omega)
    · have he : j = 10 := by omega
      subst he
      clear hl hj
      go_wp2_with fail
      go_ret2
      exact ⟨by rw [HJ.out]; rfl, HB.out⟩

end Go.Proofs.YtjhimekojiegjaaDoor.Rout

/- The program's element and need (walk). -/
namespace Go.Proofs.YtjhimekojiegjaaDoor.Wele
open Go.RowKit Go.Lib Go.Proofs.YtjhimekojiegjaaDoor.Reads Go.Proofs.YtjhimekojiegjaaDoor.Rows2 Go.Proofs.YtjhimekojiegjaaDoor.Lay Go.Proofs.YtjhimekojiegjaaDoor.Layf Go.Proofs.YtjhimekojiegjaaDoor.Ldup Go.Proofs.YtjhimekojiegjaaDoor.Lext Go.Proofs.YtjhimekojiegjaaDoor.Ljoi Go.Proofs.YtjhimekojiegjaaDoor.Lnmd Go.Proofs.YtjhimekojiegjaaDoor.Way Go.Proofs.YtjhimekojiegjaaDoor.Wrf Go.Proofs.YtjhimekojiegjaaDoor.Wlst Go.Proofs.YtjhimekojiegjaaDoor.Wbra Go.Proofs.YtjhimekojiegjaaDoor.Wmea
open Go.Proofs.YtjhimekojiegjaaDoor.Rtab (RTab rtab_next)
open Go.Proofs.YtjhimekojiegjaaDoor.Text hiding lineL joinR
open Go.Proofs.YtjhimekojiegjaaDoor.Rail (needF legsF)

def eV (x : Elem) : Value := .agg #[.string (bs x.name), .int .i64 x.kind, .int .i64 x.len, .int .i64 x.grade, .int .i64 x.speed, .int .i64 x.slow, .int .i64 x.sec]
def elZ : Elem := ⟨[], 0, 0, 0, 0, 0, 0⟩
/-- The element at an index, or the zero one. -/
def elG (els : List Elem) (e : Int) : Elem := (elOf els e).getD elZ
theorem elG_none {els : List Elem} {e : Int} (h : inB els e = false) : elG els e = elZ := by rw [elG, el_none h]; rfl
theorem elG_some {els : List Elem} {e : Int} {x : Elem} (h : elOf els e = some x) : elG els e = x := by rw [elG, h]; rfl
theorem needG (els : List Elem) (s : Stp) : needF (elG els s.1).kind s.2.1 s.2.2 = needS els s := by
  unfold needS elG
  cases elOf els s.1 with
  | none => exact Rail.need_none ⟨by decide, by decide, by decide⟩
  | some x => rfl
theorem lenG (els : List Elem) (s : Stp) : (elG els s.1).len = lenS els s := by
  unfold lenS elG
  cases elOf els s.1 <;> rfl
theorem legsG (L : Lay) (p : Int × Int) : branchesF L p = (legsF (elG L.els p.1).kind p.2).map fun o => (p.1, p.2, o) := by
  unfold branchesF elG
  cases elOf L.els p.1 with
  | none => rw [show (Option.getD none elZ).kind = 0 from rfl, Rail.legs_none ⟨by decide, by decide, by decide⟩]; rfl
  | some x => rfl

theorem field_kind (s : ByteArray) (a b c d e f : Int) (w : World) : (Instr.field 54 (.agg #[.string s, .int .i64 a, .int .i64 b, .int .i64 c, .int .i64 d, .int .i64 e, .int .i64 f]) 1).run Tryd.prog w = .ok (.int .i64 a) w := by kernel_rfl
theorem field_len (s : ByteArray) (a b c d e f : Int) (w : World) : (Instr.field 54 (.agg #[.string s, .int .i64 a, .int .i64 b, .int .i64 c, .int .i64 d, .int .i64 e, .int .i64 f]) 2).run Tryd.prog w = .ok (.int .i64 b) w := by kernel_rfl

/-- What a call gives that returns an element. -/
def ElemOut (x : Elem) (w : World) (e : Ending) (w' : World) : Prop := e = .returned (eV x) ∧ Below w.heap.size w w'

set_option maxRecDepth 100000 in
set_option maxHeartbeats 1600000 in
theorem pelement_any (L : Lay) (e : Int) {vs ve vj vg vb : Value} (w : World) (h : LayAt (In w) w L vs ve vj vg vb) :
    Calls Tryd.prog 36 #[layV L vs ve vj vg vb, .int .i64 e] w (ElemOut (elG L.els e) w) := by
  obtain ⟨a, cap, rfl, hm, _⟩ := h.el
  have b0 := (Below.refl w.heap.size w).alloc (Nat.le_refl _) (.cells #[.string (bs L.name), vs, .slice a L.els.length cap, vj, vg, vb] 28)
  have B0 := Lib.hid (fun o => b0.alloc b0.size o)
  have HN := Lib.hid (fun o => heap_alloc_new (w.alloc (.cells #[.string (bs L.name), vs, .slice a L.els.length cap, vj, vg, vb] 28)) o)
  have HS : Hid ((w.alloc (.cells #[.string (bs L.name), vs, .slice a L.els.length cap, vj, vg, vb] 28)).heap.size = w.heap.size + 1) := by simp [Hid]
  rw [HS.out] at HN
  have hq : inB L.els e = false ∨ ∃ (i : Nat) (x : Elem), e = (i : Int) ∧ i < L.els.length ∧ L.els[i]? = some x ∧ elOf L.els e = some x := by
    cases hq : inB L.els e with
    | false => exact .inl rfl
    | true => exact .inr (el_some hq)
  rcases hq with hq | ⟨i, x, rfl, hi, hx, ho⟩
  · have HG := Lib.hid (elG_none hq)
    have hc : decide (e < 0) = true ∨ (decide (e < 0) = false ∧ decide ((L.els.length : Int) ≤ e) = true) := by
      simp only [inB, Bool.and_eq_false_iff, decide_eq_false_iff_not] at hq
      simp only [decide_eq_true_eq, decide_eq_false_iff_not]
      omega
    clear h b0 hq
    unfold layV
    rcases hc with hc | ⟨hc, hc2⟩
    all_goals
      go_enter Tryd.func36, Tryd.ntmps36
      go_wp2_with fail
      refine bodyPost_ret (v := eV elZ) ?_ rfl ⟨by rw [HG.out], ?_⟩
      · exact results_cell_row rfl _ _ (w.heap.size + 1) 54 _ (0, 0) _ rfl (HN.out _) Tryd.underlying54 rfl (by kernel_rfl)
      · exact B0.out _
  · have HG := Lib.hid (elG_some ho)
    obtain ⟨_, _, he, _, hel⟩ := (h.next (b0.alloc b0.size (.cells #[.string { data := #[] }, .int .i64 0, .int .i64 0, .int .i64 0, .int .i64 0, .int .i64 0, .int .i64 0] 54))).el
    cases he
    obtain ⟨b, off, rfl, c0, c1, c2, c3, c4, c5, c6⟩ := hel _ (Below.refl _ _) i x hx
    have hd : decide ((i : Int) < 0) = false := by simp
    have hd2 : decide ((L.els.length : Int) ≤ (i : Int)) = false := by simpa using hi
    obtain ⟨nm, kd, ln, gr, sp, sl, sc⟩ := x
    simp only at c0 c1 c2 c3 c4 c5 c6
    clear h b0 hel hx ho
    unfold layV
    go_enter Tryd.func36, Tryd.ntmps36
    go_wp2_with fail
    refine bodyPost_ret (v := eV ⟨nm, kd, ln, gr, sp, sl, sc⟩) ?_ rfl ⟨by rw [HG.out], ?_⟩
    · exact results_cell_row rfl _ _ (w.heap.size + 1) 54 _ (0, 0) _ rfl (HN.out _) Tryd.underlying54 rfl (by kernel_rfl)
    · exact B0.out _

set_option maxRecDepth 100000 in
set_option maxHeartbeats 1600000 in
theorem pneed_any (L : Lay) (s : Stp) {vs ve vj vg vb : Value} (w : World) (h : LayAt (In w) w L vs ve vj vg vb) (hd : RTab w) :
    Calls Tryd.prog 46 #[layV L vs ve vj vg vb, stV s] w (NumB (needS L.els s) w) := by
  obtain ⟨s1, s2, s3⟩ := s
  have X := two_boxes w #[.string (bs L.name), vs, ve, vj, vg, vb] #[.int .i64 s1, .int .i64 s2, .int .i64 s3] 28 30
  have H0 := h.next X.2.2.2
  have D0 := rtab_next hd X.2.2.2
  have HG := Lib.hid (needG L.els (s1, s2, s3))
  clear h hd
  unfold layV stV
  go_enter Tryd.func46, Tryd.ntmps46
  go_wp2_with fail
  obtain ⟨W, hW⟩ : ∃ W, (w.alloc (.cells #[.string (bs L.name), vs, ve, vj, vg, vb] 28)).alloc (.cells #[.int .i64 s1, .int .i64 s2, .int .i64 s3] 30) = W := ⟨_, rfl⟩
  rw [hW] at X H0 D0 ⊢
  clear hW
  obtain ⟨x1, x2, xs, xb⟩ := X
  have B0 := Lib.hid xb
  have hX : LBox w.heap.size W L vs ve vj vg vb := ⟨x1 0, x1 1, x1 2, x1 3, x1 4, x1 5⟩
  have hY : W.cell? ⟨w.heap.size + 1, 0, none⟩ = some (.int .i64 s1) ∧ W.cell? ⟨w.heap.size + 1, 1, none⟩ = some (.int .i64 s2) ∧ W.cell? ⟨w.heap.size + 1, 2, none⟩ = some (.int .i64 s3) := ⟨x2 0, x2 1, x2 2⟩
  obtain ⟨a0, a1, a2, a3, a4, a5⟩ := hX
  obtain ⟨q0, q1, q2⟩ := hY
  have k0 := cell_regrown a0
  have k1 := cell_regrown a1
  have k2 := cell_regrown a2
  have k3 := cell_regrown a3
  have k4 := cell_regrown a4
  have k5 := cell_regrown a5
  have y0 := cell_regrown q0
  have y1 := cell_regrown q1
  have y2 := cell_regrown q2
  have hlt0 : w.heap.size < W.heap.size := by omega
  have hlt1 : w.heap.size + 1 < W.heap.size := by omega
  have C1 := Lib.hid (fun d os => Calls.regrown_of (w := W) (d := d) (os := os) (pelement_any L s1 _ (H0.next (below_regrown W d os))))
  obtain ⟨⟨nm, kd, ln, gr, sp, sl, sc⟩, hx⟩ : ∃ x, elG L.els s1 = x := ⟨_, rfl⟩
  try simp only at HG
  rw [hx] at C1 HG
  try simp only at HG
  have C2 := Lib.hid (fun d os => Calls.regrown_of (w := W) (d := d) (os := os) (Rout.need_any kd s2 s3 _ (rtab_next D0 (below_regrown W d os))))
  obtain ⟨⟨r1, r2⟩, hr⟩ : ∃ r, needF kd s2 s3 = r := ⟨_, rfl⟩
  rw [hr] at C2 HG
  try simp only at C2
  unfold layV eV at C1
  try simp only at C1
  have hfd := fun w => field_kind (bs nm) kd ln gr sp sl sc w
  clear H0 D0 x1 x2 xs xb hx hr a0 a1 a2 a3 a4 a5 q0 q1 q2
  go_wp2_with fail
  refine wp_region_quiet_below (by kernel_rfl) (by kernel_rfl) ?_
  repeat (go_big_quiet_step (first | with_reducible exact C1.out _ _ | with_reducible exact C2.out _ _))
  refine wpQuiet_nil ?_
  intro _ hw'
  obtain ⟨⟨dq, osq⟩, hw''⟩ := hw'
  subst hw''
  go_wp2_with fail
  go_ret2
  exact ⟨by rw [← HG.out]; rfl, bel_next B0.out (below_regrown _ dq osq)⟩

end Go.Proofs.YtjhimekojiegjaaDoor.Wele

/- The program's Joined (cut from XPpar). -/
namespace Go.Proofs.YtjhimekojiegjaaDoor.Ppar
open Go.RowKit Go.Lib Go.Proofs.YtjhimekojiegjaaDoor.Reads Go.Proofs.YtjhimekojiegjaaDoor.Rows2 Go.Proofs.YtjhimekojiegjaaDoor.Lay Go.Proofs.YtjhimekojiegjaaDoor.Layf Go.Proofs.YtjhimekojiegjaaDoor.Ldup Go.Proofs.YtjhimekojiegjaaDoor.Lext Go.Proofs.YtjhimekojiegjaaDoor.Ljoi
open Go.Proofs.YtjhimekojiegjaaDoor.Text hiding lineL joinR

set_option maxRecDepth 100000 in
set_option maxHeartbeats 1600000 in
/-- The program's Joined. -/
theorem joined_any (L : Lay) (p : Int × Int) {vs ve vj vg vb : Value} (w : World) (h : LayAt (In w) w L vs ve vj vg vb) :
    Calls Tryd.prog 29 #[layV L vs ve vj vg vb, pV p] w (EndOut (joinedF L p) w) := by
  obtain ⟨r, hr⟩ : ∃ r, joinedF L p = r := ⟨_, rfl⟩
  rw [hr]
  have HR := Lib.hid hr
  clear hr
  obtain ⟨a, cap, rfl, hm, _⟩ := h.jt
  obtain ⟨e1, e2⟩ := p
  have b1 := (Below.refl w.heap.size w).alloc (Nat.le_refl _) (.cells #[.string (bs L.name), vs, ve, .slice a L.joints.length cap, vg, vb] 28)
  have b2 := b1.alloc b1.size (.cells #[.int .i64 e1, .int .i64 e2] 32)
  have b3 := b2.alloc b2.size (.cells #[.int .i64 0, .int .i64 0] 32)
  have H0 := h.next b3
  have X0 := box3 w #[.string (bs L.name), vs, ve, .slice a L.joints.length cap, vg, vb] #[.int .i64 e1, .int .i64 e2] #[.int .i64 0, .int .i64 0] 28 32 32
  clear b1 b2
  unfold layV pV
  go_enter Tryd.func29, Tryd.ntmps29
  go_wp2_with fail
  obtain ⟨W, hW⟩ : ∃ W, ((w.alloc (.cells #[.string (bs L.name), vs, ve, .slice a L.joints.length cap, vg, vb] 28)).alloc (.cells #[.int .i64 e1, .int .i64 e2] 32)).alloc (.cells #[.int .i64 0, .int .i64 0] 32) = W := ⟨_, rfl⟩
  rw [hW] at H0 X0 b3 ⊢
  clear hW h
  obtain ⟨x0, x1, x2, x3⟩ := X0
  have C1 := Lib.hid (x1 0)
  have C2 := Lib.hid (x1 1)
  have CR := Lib.hid x2
  have WS := Lib.hid x3
  have B0 := Lib.hid b3
  obtain ⟨a', cap', he, _, hel⟩ := H0.jt
  cases he
  have HE := Lib.hid hel
  clear hel H0 x0 x1 x2 x3 b3
  go_loopw [11] (fun vj wr => ∃ j : Nat, vj = .int .i64 (j : Int) ∧ j ≤ L.joints.length ∧ r = joinR (e1, e2) (L.joints.drop j) ∧ Below W.heap.size W wr) (fun vj _ => L.joints.length - (RowKit.intOf vj).toNat)
  case atStart => exact ⟨0, rfl, Nat.zero_le _, by rw [← HR.out]; rfl, Below.refl _ _⟩
  case round =>
    obtain ⟨j, rfl, hj, hrj, hb⟩ := hrel
    have HB := Lib.hid hb
    have HJ := Lib.hid hrj
    have g1 := (hb.cell (p := ⟨w.heap.size + 1, 0, none⟩) (by rw [WS.out]; simp)).trans C1.out
    have g2 := (hb.cell (p := ⟨w.heap.size + 1, 1, none⟩) (by rw [WS.out]; simp)).trans C2.out
    have g3 := (hb.block (w.heap.size + 1 + 1) (by rw [WS.out]; omega)).trans CR.out
    have g4 := cell_of_row wr _ 0 _ _ _ g3
    have g5 := cell_of_row wr _ 1 _ _ _ g3
    have g6 := frozen_of_row wr _ 0 _ _ g3
    have g7 := frozen_of_row wr _ 1 _ _ g3
    have HG := Lib.hid g3
    have hlt : w.heap.size + 1 + 1 < wr.heap.size := Nat.lt_of_lt_of_le (by rw [WS.out]; omega) hb.size
    have hlt1 : w.heap.size + 1 < wr.heap.size := by omega
    simp at g1 g2 g4 g5
    clear hb hrj g3
    by_cases hl : j < L.joints.length
    · obtain ⟨x, hx⟩ := at_lt hl
      obtain ⟨b, off, rfl, c0, c1, c2, c3⟩ := HE.out wr HB.out j x hx
      obtain ⟨⟨u1, u2⟩, ⟨v1, v2⟩⟩ := x
      simp only at c0 c1 c2 c3
      have HD := Lib.hid (Go.Proofs.YtjhimekojiegjaaDoor.Layf.drop_at hx)
      clear hx
      by_cases ha : (u1, u2) = (e1, e2)
      · cases ha
        have HV := Lib.hid (show r = ((v1, v2), true) by rw [HJ.out, HD.out, joinR_a])
        go_wp2_with fail
        (try simp only [Exit.inBlock, Exit.then])
        refine bodyPost_ret (v := .tuple #[.agg #[.int .i64 v1, .int .i64 v2], .bool true]) ?_ rfl ⟨?_, ?_⟩
        · rw [results_cell_tmp rfl]
          go_simp
        · rw [HV.out]
          rfl
        · exact jfin (bel_next B0.out HB.out) (by omega) _ _ _
      · have hc := ne_cases (fun e => ha e.symm)
        by_cases hb : (v1, v2) = (e1, e2)
        · cases hb
          have HV := Lib.hid (show r = ((u1, u2), true) by rw [HJ.out, HD.out, joinR_b ha])
          clear ha
          rcases hc with hc | ⟨hc, hc2⟩
          all_goals
            go_wp2_with fail
            (try simp only [Exit.inBlock, Exit.then])
            refine bodyPost_ret (v := .tuple #[.agg #[.int .i64 u1, .int .i64 u2], .bool true]) ?_ rfl ⟨?_, ?_⟩
            · rw [results_cell_tmp rfl]
              go_simp
            · rw [HV.out]
              rfl
            · exact jfin (bel_next B0.out HB.out) (by omega) _ _ _
        · have HV := Lib.hid (show r = joinR (e1, e2) (L.joints.drop (j + 1)) by rw [HJ.out, HD.out, joinR_no ha hb])
          have hd := ne_cases (fun e => hb e.symm)
          clear ha hb
          rcases hc with hc | ⟨hc, hc2⟩
          all_goals
            rcases hd with hd | ⟨hd, hd2⟩
            all_goals
              go_wp2_with fail
              go_roundw
              case rel => exact ⟨j + 1, by simp, by omega, HV.out, HB.out.alloc HB.out.size _⟩
              case measure => simp [RowKit.intOf]; omega
    · have he : j = L.joints.length := by omega
      subst he
      go_wp2_with fail
      (try simp only [Exit.inBlock, Exit.then])
      refine bodyPost_ret (v := .tuple #[.agg #[.int .i64 0, .int .i64 0], .bool false]) ?_ rfl ⟨?_, ?_⟩
      · rw [results_cell_tmp rfl]
        go_simp
      · rw [HJ.out, List.drop_length]
        rfl
      · exact ((bel_next B0.out HB.out).setCell (by simp; omega) _).setCell (by simp; omega) _

end Go.Proofs.YtjhimekojiegjaaDoor.Ppar

/- The program's passage, its closure, and Next (walk). -/
namespace Go.Proofs.YtjhimekojiegjaaDoor.Wnxt
open Go.RowKit Go.Lib Go.Proofs.YtjhimekojiegjaaDoor.Reads Go.Proofs.YtjhimekojiegjaaDoor.Rows2 Go.Proofs.YtjhimekojiegjaaDoor.Lay Go.Proofs.YtjhimekojiegjaaDoor.Layf Go.Proofs.YtjhimekojiegjaaDoor.Ldup Go.Proofs.YtjhimekojiegjaaDoor.Lext Go.Proofs.YtjhimekojiegjaaDoor.Ljoi Go.Proofs.YtjhimekojiegjaaDoor.Lnmd Go.Proofs.YtjhimekojiegjaaDoor.Way Go.Proofs.YtjhimekojiegjaaDoor.Wrf Go.Proofs.YtjhimekojiegjaaDoor.Wele
open Go.Proofs.YtjhimekojiegjaaDoor.Text hiding lineL joinR

/-- The closure that passage gives. -/
def pasV (B : Nat) : Value := .func (.func 58) #[] #[.pointer (some ⟨B, 0, none⟩)]

set_option maxRecDepth 100000 in
set_option maxHeartbeats 800000 in
theorem ppassage_any (L : Lay) {vs ve vj vg vb : Value} (w : World) :
    Calls Tryd.prog 33 #[layV L vs ve vj vg vb] w fun e w' => e = .returned (pasV w.heap.size) ∧ w' = w.alloc (.cells #[.string (bs L.name), vs, ve, vj, vg, vb] 28) := by
  have hmf : ∀ (fn : Fn) (first cap : Array Value) (w : World), (Instr.makeFunc fn first cap).run Tryd.prog w = .ok (.func fn first cap) w := fun _ _ _ _ => rfl
  unfold layV
  go_enter Tryd.func33, Tryd.ntmps33
  go_wp2_with fail
  go_ret
  exact ⟨rfl, rfl⟩

set_option maxRecDepth 100000 in
set_option maxHeartbeats 1600000 in
theorem pgo_any (L : Lay) (s : Stp) (B : Nat) {vs ve vj vg vb : Value} (w : World) (h : LayAt (In w) w L vs ve vj vg vb) (hX : LBox B w L vs ve vj vg vb) (hB : B < w.heap.size) :
    Calls Tryd.prog 58 #[stV s, .pointer (some ⟨B, 0, none⟩)] w (EndOut (nextS L s) w) := by
  obtain ⟨s1, s2, s3⟩ := s
  have X := two_boxes w #[.int .i64 s1, .int .i64 s2, .int .i64 s3] #[.int .i64 0, .int .i64 0] 30 32
  obtain ⟨x1, x2, xs, xb⟩ := X
  have HN := heap_alloc_new (w.alloc (.cells #[.int .i64 s1, .int .i64 s2, .int .i64 s3] 30)) (.cells #[.int .i64 0, .int .i64 0] 32)
  rw [show (w.alloc (.cells #[.int .i64 s1, .int .i64 s2, .int .i64 s3] 30)).heap.size = w.heap.size + 1 by simp] at HN
  have H0 := h.next xb
  obtain ⟨a0, a1, a2, a3, a4, a5⟩ := hX.next xb hB
  have hY : ∀ W : World, (∀ j, W.cell? ⟨w.heap.size, j, none⟩ = (#[.int .i64 s1, .int .i64 s2, .int .i64 s3] : Array Value)[j]?) → W.cell? ⟨w.heap.size, 0, none⟩ = some (.int .i64 s1) ∧ W.cell? ⟨w.heap.size, 1, none⟩ = some (.int .i64 s2) ∧ W.cell? ⟨w.heap.size, 2, none⟩ = some (.int .i64 s3) := fun W x => ⟨x 0, x 1, x 2⟩
  obtain ⟨q0, q1, q2⟩ := hY _ x1
  clear h hX hY
  unfold stV
  go_enter Tryd.func58, Tryd.ntmps58
  go_wp2_with fail
  obtain ⟨W, hW⟩ : ∃ W, (w.alloc (.cells #[.int .i64 s1, .int .i64 s2, .int .i64 s3] 30)).alloc (.cells #[.int .i64 0, .int .i64 0] 32) = W := ⟨_, rfl⟩
  rw [hW] at xs xb H0 HN a0 a1 a2 a3 a4 a5 q0 q1 q2 ⊢
  clear hW x1 x2
  have WS := Lib.hid xs
  have B0 := Lib.hid xb
  have CR := Lib.hid HN
  have HJ := Lib.hid (Ppar.joined_any L (s1, s3) W H0)
  obtain ⟨⟨⟨r1, r2⟩, r3⟩, hr⟩ : ∃ r, nextS L (s1, s2, s3) = r := ⟨_, rfl⟩
  have hr2 : joinedF L (s1, s3) = ((r1, r2), r3) := hr
  rw [hr2] at HJ
  have HR := Lib.hid hr
  have hlt : w.heap.size < W.heap.size := by omega
  have hlB : B < W.heap.size := by omega
  unfold layV pV at HJ
  clear hr hr2 H0 HN xs xb
  go_wp2_with fail
  refine HJ.out.mono ?_
  rintro e w1 ⟨rfl, hb⟩
  have HB := Lib.hid hb
  have g3 := (hb.block (w.heap.size + 1) (by rw [WS.out]; omega)).trans CR.out
  have g4 := cell_of_row w1 _ 0 _ _ _ g3
  have g5 := cell_of_row w1 _ 1 _ _ _ g3
  have g6 := frozen_of_row w1 _ 0 _ _ g3
  have g7 := frozen_of_row w1 _ 1 _ _ g3
  clear hb g3
  try simp only [pV]
  go_wp2_with fail
  refine bodyPost_ret (v := .tuple #[.agg #[.int .i64 r1, .int .i64 r2], .bool r3]) ?_ ?_ ?_
  · rw [results_cell_tmp rfl]
    go_simp
  · rfl
  · refine ⟨?_, ?_⟩
    · rw [HR.out]
      rfl
    · exact ((bel_next B0.out HB.out).setCell (by simp) _).setCell (by simp) _

set_option maxRecDepth 100000 in
set_option maxHeartbeats 1600000 in
theorem pnext_any (L : Lay) (s : Stp) {vs ve vj vg vb : Value} (w : World) (h : LayAt (In w) w L vs ve vj vg vb) :
    Calls Tryd.prog 11 #[layV L vs ve vj vg vb, stV s] w (EndOut (nextS L s) w) := by
  obtain ⟨s1, s2, s3⟩ := s
  have b1 := (Below.refl w.heap.size w).alloc (Nat.le_refl _) (.cells #[.string (bs L.name), vs, ve, vj, vg, vb] 28)
  have b2 := b1.alloc b1.size (.cells #[.int .i64 s1, .int .i64 s2, .int .i64 s3] 30)
  have b3 := b2.alloc b2.size (.cells #[.int .i64 0, .int .i64 0] 32)
  have H0 := h.next b3
  have X0 := box3 w #[.string (bs L.name), vs, ve, vj, vg, vb] #[.int .i64 s1, .int .i64 s2, .int .i64 s3] #[.int .i64 0, .int .i64 0] 28 30 32
  clear b1 b2 h
  have eg : ∀ args w, Sem.run Tryd.prog (callFunc 58 args) w = .ok (.enter 58 args) w := enters_of Tryd.func58 (by kernel_rfl) rfl
  unfold layV stV
  go_enter Tryd.func11, Tryd.ntmps11
  go_wp2_with fail
  obtain ⟨W, hW⟩ : ∃ W, ((w.alloc (.cells #[.string (bs L.name), vs, ve, vj, vg, vb] 28)).alloc (.cells #[.int .i64 s1, .int .i64 s2, .int .i64 s3] 30)).alloc (.cells #[.int .i64 0, .int .i64 0] 32) = W := ⟨_, rfl⟩
  rw [hW] at H0 X0 b3 ⊢
  clear hW
  obtain ⟨x0, x1, x2, x3⟩ := X0
  have HP := Lib.hid (ppassage_any L (vs := vs) (ve := ve) (vj := vj) (vg := vg) (vb := vb) W)
  unfold layV at HP
  have b4 := (Below.refl W.heap.size W).alloc (Nat.le_refl _) (.cells #[.string (bs L.name), vs, ve, vj, vg, vb] 28)
  have HG := Lib.hid (pgo_any L (s1, s2, s3) W.heap.size _ (H0.next b4) (lbox_new W 28 L vs ve vj vg vb) (by simp))
  obtain ⟨⟨⟨r1, r2⟩, r3⟩, hr⟩ : ∃ r, nextS L (s1, s2, s3) = r := ⟨_, rfl⟩
  rw [hr] at HG
  have HR := Lib.hid hr
  unfold stV at HG
  try simp only at HG
  have hL : LBox w.heap.size W L vs ve vj vg vb := ⟨x0 0, x0 1, x0 2, x0 3, x0 4, x0 5⟩
  obtain ⟨a0, a1, a2, a3, a4, a5⟩ := hL
  have hY : W.cell? ⟨w.heap.size + 1, 0, none⟩ = some (.int .i64 s1) ∧ W.cell? ⟨w.heap.size + 1, 1, none⟩ = some (.int .i64 s2) ∧ W.cell? ⟨w.heap.size + 1, 2, none⟩ = some (.int .i64 s3) := ⟨x1 0, x1 1, x1 2⟩
  obtain ⟨q0, q1, q2⟩ := hY
  have CR := Lib.hid x2
  have WS := Lib.hid x3
  have B0 := Lib.hid b3
  have B4 := Lib.hid b4
  have hlt0 : w.heap.size < W.heap.size := by omega
  have hlt1 : w.heap.size + 1 < W.heap.size := by omega
  unfold pasV at HP
  clear hr H0 x0 x1 x2 x3 b3 b4
  go_wp2_with fail
  refine HP.out.mono ?_
  rintro e w1 ⟨rfl, rfl⟩
  go_wp2_with fail
  refine HG.out.mono ?_
  rintro e w1 ⟨rfl, hb⟩
  have HB := Lib.hid (bel_next B4.out hb)
  have g3 := (HB.out.block (w.heap.size + 1 + 1) (by rw [WS.out]; omega)).trans CR.out
  have g4 := cell_of_row w1 _ 0 _ _ _ g3
  have g5 := cell_of_row w1 _ 1 _ _ _ g3
  have g6 := frozen_of_row w1 _ 0 _ _ g3
  have g7 := frozen_of_row w1 _ 1 _ _ g3
  clear hb g3
  try simp only [pV]
  go_wp2_with fail
  refine bodyPost_ret (v := .tuple #[.agg #[.int .i64 r1, .int .i64 r2], .bool r3]) ?_ ?_ ?_
  · rw [results_cell_tmp rfl]
    go_simp
  · rfl
  · exact ⟨by rw [HR.out]; rfl, ((bel_next B0.out HB.out).setCell (by simp; omega) _).setCell (by simp; omega) _⟩

end Go.Proofs.YtjhimekojiegjaaDoor.Wnxt

/- The program's isConnected (walk). -/
namespace Go.Proofs.YtjhimekojiegjaaDoor.Wcnn
open Go.RowKit Go.Lib Go.Proofs.YtjhimekojiegjaaDoor.Reads Go.Proofs.YtjhimekojiegjaaDoor.Rows2 Go.Proofs.YtjhimekojiegjaaDoor.Lay Go.Proofs.YtjhimekojiegjaaDoor.Layf Go.Proofs.YtjhimekojiegjaaDoor.Ldup Go.Proofs.YtjhimekojiegjaaDoor.Lext Go.Proofs.YtjhimekojiegjaaDoor.Ljoi Go.Proofs.YtjhimekojiegjaaDoor.Lnmd Go.Proofs.YtjhimekojiegjaaDoor.Way Go.Proofs.YtjhimekojiegjaaDoor.Wrf Go.Proofs.YtjhimekojiegjaaDoor.Wlst Go.Proofs.YtjhimekojiegjaaDoor.Wbra Go.Proofs.YtjhimekojiegjaaDoor.Wmea Go.Proofs.YtjhimekojiegjaaDoor.Wele Go.Proofs.YtjhimekojiegjaaDoor.Wnxt
open Go.Proofs.YtjhimekojiegjaaDoor.Text hiding lineL joinR

/-- Each step begins where the one before leads. -/
def conR (L : Lay) (p : Stp) : List Stp → Bool
  | [] => true
  | s :: r => decide (nextS L p = ((s.1, s.2.1), true)) && conR L s r
def conF (L : Lay) : List Stp → Bool
  | [] => true
  | p :: r => conR L p r

set_option maxRecDepth 100000 in
set_option maxHeartbeats 3200000 in
theorem pconnected_any (L : Lay) {way : List Stp} {vs ve vj vg vb v : Value} (w : World) (h : LayAt (In w) w L vs ve vj vg vb) (hv : Grid (In w) w v 3 (way.map stCells)) :
    Calls Tryd.prog 40 #[layV L vs ve vj vg vb, v] w (BoolOut (conF L way) w) := by
  obtain ⟨a, cap, rfl, hm, _⟩ := way_cells hv
  obtain ⟨r, hr⟩ : ∃ r, conF L way = r := ⟨_, rfl⟩
  rw [hr]
  have HR := Lib.hid (show conF L (way.drop (1 - 1)) = r from hr)
  have b0 := (Below.refl w.heap.size w).alloc (Nat.le_refl _) (.cells #[.string (bs L.name), vs, ve, vj, vg, vb] 28)
  have b1 := b0.alloc b0.size (.cells #[.string (bs L.name), vs, ve, vj, vg, vb] 28)
  have HP := Lib.hid (ppassage_any L (vs := vs) (ve := ve) (vj := vj) (vg := vg) (vb := vb) (w.alloc (.cells #[.string (bs L.name), vs, ve, vj, vg, vb] 28)))
  have HH := Lib.hid (h.next b1)
  have HV := Lib.hid (hv.keep (keep_next b1))
  have HX := Lib.hid (lbox_new (w.alloc (.cells #[.string (bs L.name), vs, ve, vj, vg, vb] 28)) 28 L vs ve vj vg vb)
  have hs1 : (w.alloc (.cells #[.string (bs L.name), vs, ve, vj, vg, vb] 28)).heap.size = w.heap.size + 1 := by simp
  rw [hs1] at HX HP
  have HS : Hid (((w.alloc (.cells #[.string (bs L.name), vs, ve, vj, vg, vb] 28)).alloc (.cells #[.string (bs L.name), vs, ve, vj, vg, vb] 28)).heap.size = w.heap.size + 1 + 1) := by simp [Hid]
  have B0 := Lib.hid b1
  have eg : ∀ args w, Sem.run Tryd.prog (callFunc 58 args) w = .ok (.enter 58 args) w := enters_of Tryd.func58 (by kernel_rfl) rfl
  unfold layV pasV at HP
  unfold layV
  clear h hv hr b0 b1 hs1
  go_enter Tryd.func40, Tryd.ntmps40
  go_wp2_with fail
  refine HP.out.mono ?_
  rintro e w1 ⟨rfl, rfl⟩
  obtain ⟨W, hW⟩ : ∃ W, (w.alloc (.cells #[.string (bs L.name), vs, ve, vj, vg, vb] 28)).alloc (.cells #[.string (bs L.name), vs, ve, vj, vg, vb] 28) = W := ⟨_, rfl⟩
  rw [hW] at B0 HH HX HS HV ⊢
  clear hW HP
  obtain ⟨_, _, he, _, hcw⟩ := way_cells HV.out
  cases he
  have HC := Lib.hid hcw
  clear hcw
  go_wp2_with fail
  go_loopw [6] (fun vj2 wr => ∃ j : Nat, vj2 = .int .i64 ((j : Int) + 1) ∧ (j + 1 ≤ way.length ∨ (j = 0 ∧ way.length = 0)) ∧ conF L (way.drop j) = r ∧ Below W.heap.size W wr) (fun vj2 _ => way.length + 1 - (RowKit.intOf vj2).toNat)
  case atStart => exact ⟨0, rfl, by omega, HR.out, Below.refl _ _⟩
  case round =>
    obtain ⟨j, rfl, hj, hr, hb⟩ := hrel
    have HJ := Lib.hid hr
    have HB := Lib.hid hb
    clear hr hb
    by_cases hlt : j + 1 < way.length
    · obtain ⟨p, hp⟩ := at_lt (l := way) (k := j) (by omega)
      obtain ⟨x, hx⟩ := at_lt hlt
      have hcx : conF L (way.drop (j + 1)) = conR L x (way.drop (j + 1 + 1)) := by rw [Layf.drop_at hx, conF]
      rw [Layf.drop_at hp, conF, Layf.drop_at hx, conR, ← hcx] at HJ
      obtain ⟨b, off, rfl, hbl, c0, c1, c2⟩ := HC.out wr HB.out j p hp
      have HXX := Lib.hid hx
      obtain ⟨p1, p2, p3⟩ := p
      obtain ⟨x1, x2, x3⟩ := x
      simp only at c0 c1 c2 HJ
      have HG := Lib.hid (pgo_any L (p1, p2, p3) (w.heap.size + 1) wr (HH.out.next HB.out) (HX.out.next HB.out (by rw [HS.out]; omega)) (Nat.lt_of_lt_of_le (by rw [HS.out]; omega) HB.out.size))
      obtain ⟨⟨⟨r1, r2⟩, r3⟩, hr⟩ : ∃ r, nextS L (p1, p2, p3) = r := ⟨_, rfl⟩
      rw [hr] at HG HJ
      unfold stV at HG
      try simp only at HG
      clear hx hp hcx hr hj
      go_wp2_with fail
      refine HG.out.mono ?_
      rintro e w1 ⟨rfl, b3⟩
      have hb3 := (bel_next HB.out b3).alloc (Nat.le_trans HB.out.size b3.size) (.cells #[.int .i64 r1, .int .i64 r2] 32)
      obtain ⟨_, _, e', _, d0, d1, d2⟩ := HC.out _ hb3 (j + 1) _ HXX.out
      cases e'
      have B3 := Lib.hid hb3
      simp only at d0 d1 d2
      clear b3 hb3 c0 c1 c2 hbl
      try simp only [pV]
      cases r3 with
      | false =>
        have HF := Lib.hid (show r = false by rw [← HJ.out, decide_eq_false (by simp), Bool.false_and])
        go_wp2_with fail
        go_quiet (fail)
        go_wp2_with fail
        go_ret
        exact ⟨by rw [HF.out]; rfl, below_drewN (bel_next B0.out B3.out) _⟩
      | true =>
        by_cases hq : (r1, r2) = (x1, x2)
        · cases hq
          rw [decide_eq_true rfl, Bool.true_and] at HJ
          go_wp2_with fail
          go_quiet (fail)
          go_wp2_with fail
          go_roundw
          case rel => exact ⟨j + 1, by simp, by omega, HJ.out, below_drewN B3.out _⟩
          case measure => simp [RowKit.intOf]; omega
        · have HF := Lib.hid (show r = false by rw [← HJ.out, decide_eq_false (fun e => hq (congrArg Prod.fst e)), Bool.false_and])
          have hc := ne_cases hq
          clear hq
          rcases hc with hc | ⟨hc, hc2⟩
          all_goals
            go_wp2_with fail
            go_quiet (fail)
            go_wp2_with fail
            go_ret
            exact ⟨by rw [HF.out]; rfl, below_drewN (bel_next B0.out B3.out) _⟩
    · have HF := Lib.hid (show r = true by
        rw [← HJ.out]
        by_cases h0 : way.length = 0
        · rw [List.length_eq_zero_iff.1 h0]
          simp [conF]
        · obtain ⟨p, hp⟩ := at_lt (l := way) (k := j) (by omega)
          rw [Layf.drop_at hp, conF, List.drop_eq_nil_of_le (by omega)]
          rfl)
      clear hj
      go_wp2_with fail
      go_ret
      exact ⟨by rw [HF.out]; rfl, bel_next B0.out HB.out⟩

end Go.Proofs.YtjhimekojiegjaaDoor.Wcnn

/- The contracts of the library functions that this program calls, as the library has them, at this translation. -/
namespace Go.Proofs
open Go.Shelf
def Tryd.lays128_ren : Go.Shelf.Ren := ⟨fun | 128 => 88 | n => n, fun | 51 => 116 | 3 => 3 | 4 => 4 | 46 => 89 | 5 => 5 | 9 => 9 | n => n, fun | n => n⟩
theorem Tryd.lays128 : Go.Proofs.Lays.n128 Tryd.prog Tryd.lays128_ren := {
  mixed := by kernel_rfl
  f128 := Tryd.func88.trans (congrArg some (by kernel_rfl))
  t3 := Tryd.underlying3
  a3 := Tryd.isAgg3
  z3 := Tryd.sizeOf3
  v3 := Tryd.zeroValue3
  t4 := Tryd.underlying4
  a4 := Tryd.isAgg4
  z4 := Tryd.sizeOf4
  v4 := Tryd.zeroValue4
  t5 := Tryd.underlying5
  a5 := Tryd.isAgg5
  z5 := Tryd.sizeOf5
  v5 := Tryd.zeroValue5
  t9 := Tryd.underlying9
  a9 := Tryd.isAgg9
  z9 := Tryd.sizeOf9
  v9 := Tryd.zeroValue9
  t46 := Tryd.underlying89
  a46 := Tryd.isAgg89
  z46 := Tryd.sizeOf89
  v46 := Tryd.zeroValue89
  t51 := Tryd.underlying116
  a51 := Tryd.isAgg116
  z51 := Tryd.sizeOf116
  v51 := Tryd.zeroValue116 }
theorem Tryd.bits_Len32 (x : Int) (w : World) (h0 : 0 ≤ x) (h1 : x ≤ 4294967295) :
    Calls Tryd.prog 88 #[.int .u32 x] w fun e w' => e = .returned (.int .i64 (Lib.bitLen x.toNat)) ∧ w' = w := Any.bits_Len32 Tryd.lays128 x w h0 h1
def Tryd.lays125_ren : Go.Shelf.Ren := ⟨fun | 125 => 67 | 128 => 88 | 129 => 89 | n => n, fun | 46 => 89 | 3 => 3 | 51 => 116 | 53 => 118 | 4 => 4 | 5 => 5 | 9 => 9 | n => n, fun | n => n⟩
theorem Tryd.lays125 : Go.Proofs.Lays.n125 Tryd.prog Tryd.lays125_ren := {
  mixed := by kernel_rfl
  f125 := Tryd.func67.trans (congrArg some (by kernel_rfl))
  f128 := Tryd.func88.trans (congrArg some (by kernel_rfl))
  f129 := Tryd.func89.trans (congrArg some (by kernel_rfl))
  t3 := Tryd.underlying3
  a3 := Tryd.isAgg3
  z3 := Tryd.sizeOf3
  v3 := Tryd.zeroValue3
  t4 := Tryd.underlying4
  a4 := Tryd.isAgg4
  z4 := Tryd.sizeOf4
  v4 := Tryd.zeroValue4
  t5 := Tryd.underlying5
  a5 := Tryd.isAgg5
  z5 := Tryd.sizeOf5
  v5 := Tryd.zeroValue5
  t9 := Tryd.underlying9
  a9 := Tryd.isAgg9
  z9 := Tryd.sizeOf9
  v9 := Tryd.zeroValue9
  t46 := Tryd.underlying89
  a46 := Tryd.isAgg89
  z46 := Tryd.sizeOf89
  v46 := Tryd.zeroValue89
  t51 := Tryd.underlying116
  a51 := Tryd.isAgg116
  z51 := Tryd.sizeOf116
  v51 := Tryd.zeroValue116
  t53 := Tryd.underlying118
  a53 := Tryd.isAgg118
  z53 := Tryd.sizeOf118
  v53 := Tryd.zeroValue118 }
theorem Tryd.bits_Len (x : Int) (w : World) (h0 : 0 ≤ x) (h1 : x ≤ 18446744073709551615) :
    Calls Tryd.prog 67 #[.int .u64 x] w fun e w' => e = .returned (.int .i64 (Lib.bitLen x.toNat)) ∧ w' = w := Any.bits_Len Tryd.lays125 x w h0 h1
def Tryd.lays215_ren : Go.Shelf.Ren := ⟨fun | 215 => 68 | n => n, fun | 3 => 3 | 4 => 4 | n => n, fun | n => n⟩
theorem Tryd.lays215 : Go.Proofs.Lays.n215 Tryd.prog Tryd.lays215_ren := {
  mixed := by kernel_rfl
  f215 := Tryd.func68.trans (congrArg some (by kernel_rfl))
  t3 := Tryd.underlying3
  a3 := Tryd.isAgg3
  z3 := Tryd.sizeOf3
  v3 := Tryd.zeroValue3
  t4 := Tryd.underlying4
  a4 := Tryd.isAgg4
  z4 := Tryd.sizeOf4
  v4 := Tryd.zeroValue4 }
open Go.RowKit in
theorem Tryd.cmp_isNaN_int (x : Int) (w : World) :
    Calls Tryd.prog 68 #[.int .i64 x] w fun e w' => e = .returned (.bool false) ∧ w' = w := Any.cmp_isNaN_int Tryd.lays215 x w
def Tryd.lays122_ren : Go.Shelf.Ren := ⟨fun | 122 => 50 | 215 => 68 | n => n, fun | 3 => 3 | 4 => 4 | n => n, fun | n => n⟩
theorem Tryd.lays122 : Go.Proofs.Lays.n122 Tryd.prog Tryd.lays122_ren := {
  mixed := by kernel_rfl
  f122 := Tryd.func50.trans (congrArg some (by kernel_rfl))
  f215 := Tryd.func68.trans (congrArg some (by kernel_rfl))
  t3 := Tryd.underlying3
  a3 := Tryd.isAgg3
  z3 := Tryd.sizeOf3
  v3 := Tryd.zeroValue3
  t4 := Tryd.underlying4
  a4 := Tryd.isAgg4
  z4 := Tryd.sizeOf4
  v4 := Tryd.zeroValue4 }
open Go.RowKit in
theorem Tryd.cmp_Compare_int (x y : Int) (w : World) :
    Calls Tryd.prog 50 #[.int .i64 x, .int .i64 y] w fun e w' => e = .returned (.int .i64 (Lib.compareInt x y)) ∧ w' = w := Any.cmp_Compare_int Tryd.lays122 x y w
def Tryd.lays129_ren : Go.Shelf.Ren := ⟨fun | 129 => 89 | n => n, fun | 53 => 118 | 3 => 3 | 4 => 4 | 46 => 89 | 5 => 5 | 9 => 9 | n => n, fun | n => n⟩
theorem Tryd.lays129 : Go.Proofs.Lays.n129 Tryd.prog Tryd.lays129_ren := {
  mixed := by kernel_rfl
  f129 := Tryd.func89.trans (congrArg some (by kernel_rfl))
  t3 := Tryd.underlying3
  a3 := Tryd.isAgg3
  z3 := Tryd.sizeOf3
  v3 := Tryd.zeroValue3
  t4 := Tryd.underlying4
  a4 := Tryd.isAgg4
  z4 := Tryd.sizeOf4
  v4 := Tryd.zeroValue4
  t5 := Tryd.underlying5
  a5 := Tryd.isAgg5
  z5 := Tryd.sizeOf5
  v5 := Tryd.zeroValue5
  t9 := Tryd.underlying9
  a9 := Tryd.isAgg9
  z9 := Tryd.sizeOf9
  v9 := Tryd.zeroValue9
  t46 := Tryd.underlying89
  a46 := Tryd.isAgg89
  z46 := Tryd.sizeOf89
  v46 := Tryd.zeroValue89
  t53 := Tryd.underlying118
  a53 := Tryd.isAgg118
  z53 := Tryd.sizeOf118
  v53 := Tryd.zeroValue118 }
theorem Tryd.bits_Len64 (x : Int) (w : World) (h0 : 0 ≤ x) (h1 : x ≤ 18446744073709551615) :
    Calls Tryd.prog 89 #[.int .u64 x] w fun e w' => e = .returned (.int .i64 (Lib.bitLen x.toNat)) ∧ w' = w := Any.bits_Len64 Tryd.lays129 x w h0 h1
def Tryd.lays108_ren : Go.Shelf.Ren := ⟨fun | 108 => 64 | n => n, fun | 28 => 43 | 3 => 3 | 0 => 0 | 4 => 4 | n => n, fun | n => n⟩
theorem Tryd.lays108 : Go.Proofs.Lays.n108 Tryd.prog Tryd.lays108_ren := {
  mixed := by kernel_rfl
  f108 := Tryd.func64.trans (congrArg some (by kernel_rfl))
  t0 := Tryd.underlying0
  a0 := Tryd.isAgg0
  z0 := Tryd.sizeOf0
  v0 := Tryd.zeroValue0
  t3 := Tryd.underlying3
  a3 := Tryd.isAgg3
  z3 := Tryd.sizeOf3
  v3 := Tryd.zeroValue3
  t4 := Tryd.underlying4
  a4 := Tryd.isAgg4
  z4 := Tryd.sizeOf4
  v4 := Tryd.zeroValue4
  t28 := Tryd.underlying43
  a28 := Tryd.isAgg43
  z28 := Tryd.sizeOf43
  v28 := Tryd.zeroValue43 }
open Go.Lib in
theorem Tryd.slices_Index_int (b off n c : Nat) (zs : List Int) (x : Int) (w : World) (hz : n ≤ zs.length) (hbig : n ≤ 9223372036854775807) (hc : ∀ j, j < zs.length → w.cell? ⟨b, off + j, none⟩ = some (.int .i64 (zs.getD j 0))) :
    Calls Tryd.prog 64 #[.slice (some ⟨b, off, none⟩) n c, .int .i64 x] w fun e w' => e = .returned (.int .i64 (Lib.idxOf (zs.take n) x)) ∧ w' = w := Any.slices_Index_int Tryd.lays108 b off n c zs x w hz hbig hc
open Go.Lib in
theorem Tryd.slices_Index_int_empty (a : Option Addr) (c : Nat) (x : Int) (w : World) :
    Calls Tryd.prog 64 #[.slice a 0 c, .int .i64 x] w fun e w' => e = .returned (.int .i64 (Lib.idxOf [] x)) ∧ w' = w := Any.slices_Index_int_empty Tryd.lays108 a c x w
def Tryd.lays107_ren : Go.Shelf.Ren := ⟨fun | 107 => 44 | 108 => 64 | n => n, fun | 28 => 43 | 3 => 3 | 4 => 4 | 0 => 0 | n => n, fun | n => n⟩
theorem Tryd.lays107 : Go.Proofs.Lays.n107 Tryd.prog Tryd.lays107_ren := {
  mixed := by kernel_rfl
  f107 := Tryd.func44.trans (congrArg some (by kernel_rfl))
  f108 := Tryd.func64.trans (congrArg some (by kernel_rfl))
  t0 := Tryd.underlying0
  a0 := Tryd.isAgg0
  z0 := Tryd.sizeOf0
  v0 := Tryd.zeroValue0
  t3 := Tryd.underlying3
  a3 := Tryd.isAgg3
  z3 := Tryd.sizeOf3
  v3 := Tryd.zeroValue3
  t4 := Tryd.underlying4
  a4 := Tryd.isAgg4
  z4 := Tryd.sizeOf4
  v4 := Tryd.zeroValue4
  t28 := Tryd.underlying43
  a28 := Tryd.isAgg43
  z28 := Tryd.sizeOf43
  v28 := Tryd.zeroValue43 }
open Go.Lib in
theorem Tryd.slices_Contains_int (b off n c : Nat) (zs : List Int) (x : Int) (w : World) (hz : n ≤ zs.length) (hbig : n ≤ 9223372036854775807) (hc : ∀ j, j < zs.length → w.cell? ⟨b, off + j, none⟩ = some (.int .i64 (zs.getD j 0))) :
    Calls Tryd.prog 44 #[.slice (some ⟨b, off, none⟩) n c, .int .i64 x] w fun e w' => e = .returned (.bool ((zs.take n).contains x)) ∧ w' = w := Any.slices_Contains_int Tryd.lays107 b off n c zs x w hz hbig hc
open Go.Lib in
theorem Tryd.slices_Contains_int_empty (a : Option Addr) (c : Nat) (x : Int) (w : World) :
    Calls Tryd.prog 44 #[.slice a 0 c, .int .i64 x] w fun e w' => e = .returned (.bool false) ∧ w' = w := Any.slices_Contains_int_empty Tryd.lays107 a c x w
def Tryd.laysNm237_ren : Go.Shelf.Ren := ⟨fun | 37 => 68 | n => n, fun | 3 => 3 | 4 => 4 | n => n, fun | n => n⟩
theorem Tryd.laysNm237 : Go.Proofs.Lays2.n37 Tryd.prog Tryd.laysNm237_ren := {
  mixed := by kernel_rfl
  f37 := Tryd.func68.trans (congrArg some (by kernel_rfl))
  t3 := Tryd.underlying3
  a3 := Tryd.isAgg3
  z3 := Tryd.sizeOf3
  v3 := Tryd.zeroValue3
  t4 := Tryd.underlying4
  a4 := Tryd.isAgg4
  z4 := Tryd.sizeOf4
  v4 := Tryd.zeroValue4 }
open Go.RowKit Go.Lib in
theorem Tryd.cmp_isNaN_int2 (x : Int) (w : World) :
    Calls Tryd.prog 68 #[.int .i64 x] w fun e w' => e = .returned (.bool false) ∧ w' = w := Any.cmp_isNaN_int2 Tryd.laysNm237 x w
def Tryd.layCF_ren : Go.Shelf.Ren := ⟨fun | 8 => 60 | 6 => 78 | n => n, fun | 22 => 38 | 23 => 30 | 25 => 84 | 4 => 4 | 3 => 3 | 0 => 0 | n => n, fun | n => n⟩
theorem Tryd.layCF : Go.Proofs.SlLaysH0.n8 Tryd.prog Tryd.layCF_ren := {
  mixed := by kernel_rfl
  f6 := ⟨Tryd.f78.name, by decide, Tryd.func78.trans (congrArg some (by kernel_rfl))⟩
  f8 := ⟨Tryd.f60.name, by decide, Tryd.func60.trans (congrArg some (by kernel_rfl))⟩
  t0 := Tryd.underlying0
  a0 := Tryd.isAgg0
  z0 := Tryd.sizeOf0
  v0 := Tryd.zeroValue0
  t3 := Tryd.underlying3
  a3 := Tryd.isAgg3
  z3 := Tryd.sizeOf3
  v3 := Tryd.zeroValue3
  t4 := Tryd.underlying4
  a4 := Tryd.isAgg4
  z4 := Tryd.sizeOf4
  v4 := Tryd.zeroValue4
  t22 := Tryd.underlying38
  a22 := Tryd.isAgg38
  z22 := Tryd.sizeOf38
  v22 := Tryd.zeroValue38
  t25 := Tryd.underlying84
  a25 := Tryd.isAgg84
  z25 := Tryd.sizeOf84
  v25 := Tryd.zeroValue84 }
def Tryd.laySF_ren : Go.Shelf.Ren := ⟨fun | 6 => 47 | 15 => 67 | 14 => 66 | 28 => 88 | 29 => 89 | 20 => 80 | 21 => 81 | 22 => 82 | 23 => 83 | 24 => 84 | 25 => 85 | 26 => 86 | 27 => 87 | 46 => 91 | 47 => 92 | 48 => 93 | 49 => 94 | 50 => 95 | 57 => 96 | n => n, fun | 22 => 46 | 24 => 52 | 25 => 72 | 3 => 3 | 39 => 89 | 0 => 0 | 53 => 116 | 55 => 118 | 4 => 4 | 46 => 110 | 45 => 109 | 50 => 55 | 5 => 5 | 9 => 9 | 66 => 120 | 70 => 124 | 76 => 126 | 77 => 127 | n => n, fun | n => n⟩
theorem Tryd.laySF : Go.Proofs.SlLaysF0.n6 Tryd.prog Tryd.laySF_ren := {
  mixed := by kernel_rfl
  f6 := ⟨Tryd.f47.name, by decide, Tryd.func47.trans (congrArg some (by kernel_rfl))⟩
  f14 := ⟨Tryd.f66.name, by decide, Tryd.func66.trans (congrArg some (by kernel_rfl))⟩
  f15 := Tryd.func67.trans (congrArg some (by kernel_rfl))
  f20 := ⟨Tryd.f80.name, by decide, Tryd.func80.trans (congrArg some (by kernel_rfl))⟩
  f21 := ⟨Tryd.f81.name, by decide, Tryd.func81.trans (congrArg some (by kernel_rfl))⟩
  f22 := ⟨Tryd.f82.name, by decide, Tryd.func82.trans (congrArg some (by kernel_rfl))⟩
  f23 := ⟨Tryd.f83.name, by decide, Tryd.func83.trans (congrArg some (by kernel_rfl))⟩
  f24 := ⟨Tryd.f84.name, by decide, Tryd.func84.trans (congrArg some (by kernel_rfl))⟩
  f25 := ⟨Tryd.f85.name, by decide, Tryd.func85.trans (congrArg some (by kernel_rfl))⟩
  f26 := ⟨Tryd.f86.name, by decide, Tryd.func86.trans (congrArg some (by kernel_rfl))⟩
  f27 := ⟨Tryd.f87.name, by decide, Tryd.func87.trans (congrArg some (by kernel_rfl))⟩
  f28 := Tryd.func88.trans (congrArg some (by kernel_rfl))
  f29 := Tryd.func89.trans (congrArg some (by kernel_rfl))
  f46 := ⟨Tryd.f91.name, by decide, Tryd.func91.trans (congrArg some (by kernel_rfl))⟩
  f47 := Tryd.func92.trans (congrArg some (by kernel_rfl))
  f48 := Tryd.func93.trans (congrArg some (by kernel_rfl))
  f49 := ⟨Tryd.f94.name, by decide, Tryd.func94.trans (congrArg some (by kernel_rfl))⟩
  f50 := ⟨Tryd.f95.name, by decide, Tryd.func95.trans (congrArg some (by kernel_rfl))⟩
  f57 := ⟨Tryd.f96.name, by decide, Tryd.func96.trans (congrArg some (by kernel_rfl))⟩
  t0 := Tryd.underlying0
  a0 := Tryd.isAgg0
  z0 := Tryd.sizeOf0
  v0 := Tryd.zeroValue0
  t3 := Tryd.underlying3
  a3 := Tryd.isAgg3
  z3 := Tryd.sizeOf3
  v3 := Tryd.zeroValue3
  t4 := Tryd.underlying4
  a4 := Tryd.isAgg4
  z4 := Tryd.sizeOf4
  v4 := Tryd.zeroValue4
  t5 := Tryd.underlying5
  a5 := Tryd.isAgg5
  z5 := Tryd.sizeOf5
  v5 := Tryd.zeroValue5
  t9 := Tryd.underlying9
  a9 := Tryd.isAgg9
  z9 := Tryd.sizeOf9
  v9 := Tryd.zeroValue9
  t22 := Tryd.underlying46
  a22 := Tryd.isAgg46
  z22 := Tryd.sizeOf46
  v22 := Tryd.zeroValue46
  t25 := Tryd.underlying72
  a25 := Tryd.isAgg72
  z25 := Tryd.sizeOf72
  v25 := Tryd.zeroValue72
  t39 := Tryd.underlying89
  a39 := Tryd.isAgg89
  z39 := Tryd.sizeOf89
  v39 := Tryd.zeroValue89
  t45 := Tryd.underlying109
  a45 := Tryd.isAgg109
  z45 := Tryd.sizeOf109
  v45 := Tryd.zeroValue109
  t46 := Tryd.underlying110
  a46 := Tryd.isAgg110
  z46 := Tryd.sizeOf110
  v46 := Tryd.zeroValue110
  t50 := Tryd.underlying55
  a50 := Tryd.isAgg55
  z50 := Tryd.sizeOf55
  v50 := Tryd.zeroValue55
  t53 := Tryd.underlying116
  a53 := Tryd.isAgg116
  z53 := Tryd.sizeOf116
  v53 := Tryd.zeroValue116
  t55 := Tryd.underlying118
  a55 := Tryd.isAgg118
  z55 := Tryd.sizeOf118
  v55 := Tryd.zeroValue118
  t66 := Tryd.underlying120
  a66 := Tryd.isAgg120
  z66 := Tryd.sizeOf120
  v66 := Tryd.zeroValue120
  t70 := Tryd.underlying124
  a70 := Tryd.isAgg124
  z70 := Tryd.sizeOf124
  v70 := Tryd.zeroValue124
  t76 := Tryd.underlying126
  a76 := Tryd.isAgg126
  z76 := Tryd.sizeOf126
  v76 := Tryd.zeroValue126
  t77 := Tryd.underlying127
  a77 := Tryd.isAgg127
  z77 := Tryd.sizeOf127
  v77 := Tryd.zeroValue127 }
end Go.Proofs
