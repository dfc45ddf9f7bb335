/- The walk of wire's TakeInts. -/
import Derived.Test.YtpbmkapeieoiaaaTints
import Derived.OwnWalk
namespace Go.Proofs.Ytpbmkapeieoiaaa.Takes
open Go.RowKit Go.Lib Go.Proofs.Ytpbmkapeieoiaaa.Var Go.Proofs.Ytpbmkapeieoiaaa.Uints Go.Proofs.Ytpbmkapeieoiaaa.Reads Go.Proofs.Ytpbmkapeieoiaaa.Ints

/-- What holds at the head of wire's loop: the row has the numbers read so far, then zeros. -/
def WRel (s : ByteArray) (r : List Int × Nat × Nat) (n g : Nat) (w : World) (vto vi : Value) (wr : World) : Prop :=
  ∃ (k to : Nat) (acc : List Int), vi = .int .i64 (acc.length : Int) ∧ acc.length + k = n ∧ vto = .int .i64 (to : Int) ∧ r = tis s k acc to ∧ (∀ x ∈ acc, (Lit.int .i64 x).wf = true) ∧
    wr.ownsRow w.heap.size 3 1 (.slice (some ⟨g, 0, none⟩) n n) n ((acc ++ List.replicate k 0).map (Value.int .i64)) ∧ Below w.heap.size w wr

theorem zeros_list (n : Nat) : (madeCells (Value.int .i64 0).cells (n * 1)).toList = (([] : List Int) ++ List.replicate n 0).map (Value.int .i64) := by
  rw [Nat.mul_one]
  show (madeCells #[Value.int .i64 0] n).toList = _
  rw [toList_madeCells_one]
  simp
theorem wcell {w wr : World} {g n k : Nat} {acc : List Int} (ho : wr.ownsRow w.heap.size 3 1 (.slice (some ⟨g, 0, none⟩) n n) n ((acc ++ List.replicate (k + 1) 0).map (Value.int .i64))) (hk : acc.length + (k + 1) = n) :
    wr.cell? ⟨g, acc.length, none⟩ = some (.int .i64 0) ∧ wr.frozen? ⟨g, acc.length, none⟩ = false := by
  refine ⟨?_, ho.frozenAt _⟩
  rw [ho.cellAt acc.length (by omega)]
  simp
theorem set_zeros (acc : List Int) (k : Nat) (x : Int) : ((acc ++ List.replicate (k + 1) 0).map (Value.int .i64)).set acc.length (.int .i64 x) = ((acc ++ [x]) ++ List.replicate k 0).map (Value.int .i64) := by
  rw [List.replicate_succ, List.map_append, List.set_append_right _ _ (by simp)]
  simp
theorem wrel_more {s : ByteArray} {r : List Int × Nat × Nat} {n g k to to' m : Nat} {acc : List Int} {w wr w1 : World} (hk : acc.length + (k + 1) = n) (hr : r = tis s (k + 1) acc to) (ht : tu s (to : Int) = (m, to', 0)) (hw : ∀ x ∈ acc, (Lit.int .i64 x).wf = true)
    (ho : wr.ownsRow w.heap.size 3 1 (.slice (some ⟨g, 0, none⟩) n n) n ((acc ++ List.replicate (k + 1) 0).map (Value.int .i64))) (hb : Below w.heap.size w wr) (h1 : Below wr.heap.size wr w1) :
    WRel s r n g w (.int .i64 (to' : Int)) (.int .i64 ((acc.length : Int) + 1)) (w1.setCell ⟨g, acc.length, none⟩ (.int .i64 (unzig m))) := by
  have hg : w.heap.size ≤ g := (ho.lt g rfl).1
  refine ⟨k, to', acc ++ [unzig m], by simp, by simp; omega, rfl, by rw [hr, tis_more ht], ?_, ?_, ?_⟩
  · intro x hx
    rcases List.mem_append.1 hx with hx | hx
    · exact hw x hx
    · rw [List.mem_singleton.1 hx]; exact unzig_wf (tu_facts ht).1
  · have := ((own_below ho h1).stored acc.length (.int .i64 (unzig m))).1
    rw [set_zeros] at this
    exact this
  · exact (hb.trans (h1.mono hb.size)).setCell (p := ⟨g, acc.length, none⟩) hg _

set_option maxRecDepth 100000 in
set_option maxHeartbeats 800000 in
theorem takeInts_any (s : ByteArray) (t most : Int) (w : World) (h : s.size ≤ 100000) (hm : most ≤ 9223372036854775807) :
    Calls Try.prog 32 #[.string s, .int .i64 t, .int .i64 most] w (IntsOut (tl s t most) w) := by
  obtain ⟨⟨n, to, e⟩, hT⟩ : ∃ r, tc s t most = r := ⟨_, rfl⟩
  have HU := Lib.hid (takeCount_any s t most w (by omega) hm)
  rw [tcV_of hT] at HU
  obtain ⟨h1, h2, _, h3, h4⟩ := tc_facts hT
  by_cases he : e = 0
  · subst he
    clear h3 h4
    have HR := Lib.hid (tl_go hT)
    obtain ⟨r, hr⟩ : ∃ r, tl s t most = r := ⟨_, rfl⟩
    rw [hr] at HR ⊢
    have HI := Lib.hid (fun t w => takeInt_any s t w (by omega))
    clear hT hm hr
    obtain ⟨i0, hi, hz0, hz1, hz2⟩ := info_parts infoI
    have HI0 := Lib.hid hi
    have HZ0 := Lib.hid hz0
    have HZ1 := Lib.hid hz1
    have HZ2 := Lib.hid hz2
    clear hi hz0 hz1 hz2
    go_enter Try.func32, Try.ntmps32
    go_wp2_with fail
    refine HU.out.mono ?_
    rintro e w1 ⟨rfl, hb⟩
    have HB := Lib.hid hb
    have HS := Lib.hid hb.size
    clear hb
    go_wp2_with (refine wpList_make_full _ rfl (.tmp 25) (.tmp 25) 23 rfl w.heap.size 3 i0 (.int .i64 0) 1 Try.underlying23 HI0.out HZ0.out HZ1.out .i64 .i64 (n : Int) (n : Int) n rfl rfl rfl rfl (by rw [HZ2.out]; omega) (by unfold maxLen; omega) HS.out ?_; intro w2 hown hgr; have HO := Lib.hid hown; have HB2 := Lib.hid (HB.out.grown hgr HS.out (by intro k hk; cases hk)); clear hown hgr; rw [zeros_list] at HO)
    go_loopw [10, 29] (fun vto vi wr => WRel s r n w1.heap.size w vto vi wr) (fun _ vi _ => n - (intOf vi).toNat)
    case atStart => exact ⟨n, to, [], rfl, by simp, rfl, HR.out, by simp, HO.out, HB2.out⟩
    case round =>
      obtain ⟨k, to1, acc, rfl, hk, rfl, hr, hw, ho, hb⟩ := hrel
      have HR' := Lib.hid hr
      have HW := Lib.hid hw
      have HO1 := Lib.hid ho
      have HB1 := Lib.hid hb
      clear hr hw ho hb
      rcases k with _ | k
      · have hn : n = acc.length := by omega
        subst hn
        clear hk
        have HO2 := Lib.hid (show wr.ownsRow w.heap.size 3 1 (.slice (some ⟨w1.heap.size, 0, none⟩) acc.length acc.length) acc.length (acc.map (Value.int .i64)) by have := HO1.out; simpa using this)
        go_wp2_with fail
        go_ret3
        exact ints_ok (by rw [HR'.out]; rfl) rfl (reads_own HO2.out HW.out (Nat.le_refl _)) HB1.out
      · obtain ⟨⟨m, to2, e⟩, hT⟩ : ∃ r, tu s (to1 : Int) = r := ⟨_, rfl⟩
        have HI1 := Lib.hid (HI.out (to1 : Int) wr)
        rw [tiV_of hT] at HI1
        have HT := Lib.hid hT
        have hlt : acc.length < n := by omega
        obtain ⟨x, hx⟩ : ∃ x, unzig m = x := ⟨_, rfl⟩
        rw [hx] at HI1
        have HX := Lib.hid hx
        clear hx
        by_cases he : e = 0
        · subst he
          clear hT
          go_wp2_with fail
          refine HI1.out.mono ?_
          rintro e w3 ⟨rfl, hb3⟩
          have HB3 := Lib.hid hb3
          obtain ⟨c1, c2⟩ := wcell (own_below HO1.out hb3) hk
          clear hb3
          go_wp2_with fail
          go_roundw
          case rel => rw [← HX.out]; exact wrel_more hk HR'.out HT.out HW.out HO1.out HB1.out HB3.out
          case measure => simp [intOf]; omega
        · have hq : ((e : Int) != 0) = true := by simp; omega
          have HE := Lib.hid (show r = ([], 0, e) by rw [HR'.out, tis_bad hT he])
          clear hT he
          go_wp2_with fail
          refine HI1.out.mono ?_
          rintro e w3 ⟨rfl, hb3⟩
          have HB3 := Lib.hid hb3
          obtain ⟨c1, c2⟩ := wcell (own_below HO1.out hb3) hk
          have HG := Lib.hid (HO1.out.lt w1.heap.size rfl).1
          clear hb3
          go_wp2_with fail
          go_ret3
          exact ints_bad' HE.out rfl ((HB1.out.trans (HB3.out.mono HB1.out.size)).setCell (p := ⟨w1.heap.size, acc.length, none⟩) HG.out _)
  · have HR := Lib.hid (tl_bad hT he)
    have hq : ((e : Int) != 0) = true := by simp; omega
    obtain ⟨r, hr⟩ : ∃ r, tl s t most = r := ⟨_, rfl⟩
    rw [hr] at HR ⊢
    clear hT hm hr he h3 h4
    go_enter Try.func32, Try.ntmps32
    go_wp2_with fail
    refine HU.out.mono ?_
    rintro e w1 ⟨rfl, hb⟩
    have HB := Lib.hid hb
    clear hb
    go_wp2_with fail
    go_ret3
    exact ints_bad' HR.out rfl HB.out

end Go.Proofs.Ytpbmkapeieoiaaa.Takes
