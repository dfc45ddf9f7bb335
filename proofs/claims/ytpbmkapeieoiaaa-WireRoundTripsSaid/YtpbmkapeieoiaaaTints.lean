/- The calls of TakeInts, of wire and of the reference. -/
import Derived.Test.YtpbmkapeieoiaaaTsmall
import Derived.Test.YtpbmkapeieoiaaaInts
namespace Go.Proofs.Ytpbmkapeieoiaaa.Takes
open Go.RowKit Go.Lib Go.Proofs.Ytpbmkapeieoiaaa.Var Go.Proofs.Ytpbmkapeieoiaaa.Uints Go.Proofs.Ytpbmkapeieoiaaa.Reads Go.Proofs.Ytpbmkapeieoiaaa.Ints

/-- k more numbers from an offset on, behind those of acc: the list, the offset behind it, the error. -/
def tis (s : ByteArray) : Nat → List Int → Nat → List Int × Nat × Nat
  | 0, acc, to => (acc, to, 0)
  | k + 1, acc, to => if (tu s (to : Int)).2.2 ≠ 0 then ([], 0, (tu s (to : Int)).2.2) else tis s k (acc ++ [unzig (tu s (to : Int)).1]) (tu s (to : Int)).2.1
def tl (s : ByteArray) (t most : Int) : List Int × Nat × Nat :=
  if (tc s t most).2.2 ≠ 0 then ([], 0, (tc s t most).2.2) else tis s (tc s t most).1 [] (tc s t most).2.1

theorem tis_bad {s : ByteArray} {k to n to' e : Nat} {acc : List Int} (h : tu s (to : Int) = (n, to', e)) (he : e ≠ 0) : tis s (k + 1) acc to = ([], 0, e) := by
  rw [tis, h, if_pos he]
theorem tis_more {s : ByteArray} {k to n to' : Nat} {acc : List Int} (h : tu s (to : Int) = (n, to', 0)) : tis s (k + 1) acc to = tis s k (acc ++ [unzig n]) to' := by
  rw [tis, h, if_neg (by simp)]
theorem tl_bad {s : ByteArray} {t most : Int} {n to e : Nat} (h : tc s t most = (n, to, e)) (he : e ≠ 0) : tl s t most = ([], 0, e) := by
  rw [tl, h, if_pos he]
theorem tl_go {s : ByteArray} {t most : Int} {n to : Nat} (h : tc s t most = (n, to, 0)) : tl s t most = tis s n [] to := by
  rw [tl, h, if_neg (by simp)]

/-- What a call gives that decodes a list. -/
def IntsOut (r : List Int × Nat × Nat) (w : World) (e : Ending) (w' : World) : Prop :=
  ∃ v, e = .returned (.tuple #[v, .int .i64 (r.2.1 : Int), .int .i64 (r.2.2 : Int)]) ∧ Reads w'.heap.size w' v r.1 ∧ Below w.heap.size w w'
theorem ints_bad {r : List Int × Nat × Nat} {e : Nat} {w w' : World} (h : r = ([], 0, e)) (hb : Below w.heap.size w w') : IntsOut r w (.returned (.tuple #[.slice none 0 0, .int .i64 0, .int .i64 (e : Int)])) w' := by
  subst h
  exact ⟨_, rfl, reads_nil _ _, hb⟩
theorem ints_bad' {r : List Int × Nat × Nat} {e : Nat} {w w' : World} {x : Ending} (h : r = ([], 0, e)) (hx : x = .returned (.tuple #[.slice none 0 0, .int .i64 0, .int .i64 (e : Int)])) (hb : Below w.heap.size w w') : IntsOut r w x w' := by
  subst hx
  exact ints_bad h hb
theorem ints_ok {r : List Int × Nat × Nat} {acc : List Int} {to : Nat} {v : Value} {w w' : World} {x : Ending} (h : r = (acc, to, 0)) (hx : x = .returned (.tuple #[v, .int .i64 (to : Int), .int .i64 0])) (hr : Reads w'.heap.size w' v acc) (hb : Below w.heap.size w w') : IntsOut r w x w' := by
  subst hx
  subst h
  exact ⟨_, rfl, hr, hb⟩

theorem infoI : (Try.prog.info? 3).map (fun i => (i.zero, i.size, i.bytes)) = some (some (.int .i64 0), 1, 8) := by kernel_rfl
theorem unzig_wf {n : Nat} (h : n < 18446744073709551616) : (Lit.int .i64 (unzig n)).wf = true := by
  have := unzig_range h
  exact WalkArith.wf_i64 (by omega)
theorem own_below {B : Nat} {e : TypeId} {v : Value} {n : Nat} {xs : List Value} {w w' : World} (h : w.ownsRow B e 1 v n xs) (hb : Below w.heap.size w w') : w'.ownsRow B e 1 v n xs :=
  h.kept (row := none) ⟨hb.os, hb.tape, hb.output, hb.size, fun j hj _ => hb.block j hj⟩ (by cases hv : v.ownBlock <;> simp)

/-! The reference. -/
/-- What holds at the head of the reference's loop. -/
def RRel (s : ByteArray) (r : List Int × Nat × Nat) (n : Nat) (w : World) (vto vout vi : Value) (wr : World) : Prop :=
  ∃ (k to : Nat) (acc : List Int), vi = .int .i64 (acc.length : Int) ∧ acc.length + k = n ∧ vto = .int .i64 (to : Int) ∧ r = tis s k acc to ∧ (∀ x ∈ acc, (Lit.int .i64 x).wf = true) ∧ wr.ownsRow w.heap.size 3 1 vout acc.length (acc.map (Value.int .i64)) ∧ Below w.heap.size w wr

theorem rrel_more {s : ByteArray} {r : List Int × Nat × Nat} {n k to to' m : Nat} {acc : List Int} {w wr w1 : World} {vout v1 : Value} (hk : acc.length + (k + 1) = n) (hr : r = tis s (k + 1) acc to) (ht : tu s (to : Int) = (m, to', 0)) (hw : ∀ x ∈ acc, (Lit.int .i64 x).wf = true)
    (ho : wr.ownsRow w.heap.size 3 1 vout acc.length (acc.map (Value.int .i64))) (hb : Below w.heap.size w wr) (h1 : w1.ownsRow w.heap.size 3 1 v1 (acc.length + 1) (acc.map (Value.int .i64) ++ [.int .i64 (unzig m)]))
    (hg : (wr.alloc (.cells #[.int .i64 (unzig m)] 3)).grownBy w1 vout.ownBlock) : RRel s r n w (.int .i64 (to' : Int)) v1 (.int .i64 ((acc.length : Int) + 1)) w1 := by
  refine ⟨k, to', acc ++ [unzig m], by simp, by simp; omega, rfl, by rw [hr, tis_more ht], ?_, by simpa using h1, ?_⟩
  · intro x hx
    rcases List.mem_append.1 hx with hx | hx
    · exact hw x hx
    · rw [List.mem_singleton.1 hx]; exact unzig_wf (tu_facts ht).1
  · exact (hb.alloc hb.size _).grown hg (by have := hb.size; simp; omega) (fun g hg => (ho.lt g hg).1)

set_option maxRecDepth 100000 in
set_option maxHeartbeats 800000 in
theorem rtakeInts_any (s : ByteArray) (t most : Int) (w : World) (h : s.size ≤ 100000) (hm : most ≤ 9223372036854775807) :
    Calls Try.prog 33 #[.string s, .int .i64 t, .int .i64 most] w (IntsOut (tl s t most) w) := by
  obtain ⟨⟨n, to, e⟩, hT⟩ : ∃ r, tc s t most = r := ⟨_, rfl⟩
  have HU := Lib.hid (rtakeCount_any s t most w (by omega) hm)
  rw [tcV_of hT] at HU
  obtain ⟨h1, h2, _, h3, h4⟩ := tc_facts hT
  by_cases he : e = 0
  · subst he
    clear h3 h4
    have HR := Lib.hid (tl_go hT)
    obtain ⟨r, hr⟩ : ∃ r, tl s t most = r := ⟨_, rfl⟩
    rw [hr] at HR ⊢
    have HI := Lib.hid (fun t w => rtakeInt_any s t w (by omega))
    clear hT hm hr
    obtain ⟨i0, hi, hz0, hz1, hz2⟩ := info_parts infoI
    have HI0 := Lib.hid hi
    have HZ0 := Lib.hid hz0
    have HZ1 := Lib.hid hz1
    have HZ2 := Lib.hid hz2
    clear hi hz0 hz1 hz2
    go_enter Try.func33, Try.ntmps33
    go_wp2_with fail
    refine HU.out.mono ?_
    rintro e w' ⟨rfl, rfl⟩
    go_wp2_with fail
    go_loopw [10, 12, 13] (fun vto vout vi wr => RRel s r n w vto vout vi wr) (fun _ _ vi _ => n - (intOf vi).toNat)
    case atStart => exact ⟨n, to, [], rfl, by simp, rfl, HR.out, by simp, World.ownsRow_nil _ _ _ _, Below.refl _ _⟩
    case round =>
      obtain ⟨k, to1, acc, rfl, hk, rfl, hr, hw, ho, hb⟩ := hrel
      have HR' := Lib.hid hr
      have HW := Lib.hid hw
      have HO := Lib.hid ho
      have HB := Lib.hid hb
      have HS := Lib.hid hb.size
      clear hr hw ho hb
      have hal : acc.length ≤ 100000 := by omega
      rcases k with _ | k
      · have hn : n = acc.length := by omega
        have HN := Lib.hid hk
        subst hn
        clear hk
        go_wp2_with fail
        go_ret3
        exact ints_ok (by rw [HR'.out]; rfl) rfl (reads_own HO.out HW.out (Nat.le_refl _)) HB.out
      · obtain ⟨⟨m, to2, e⟩, hT⟩ : ∃ r, tu s (to1 : Int) = r := ⟨_, rfl⟩
        have HI1 := Lib.hid (HI.out (to1 : Int) wr)
        rw [tiV_of hT] at HI1
        have HT := Lib.hid hT
        have hlt : acc.length < n := by omega
        by_cases he : e = 0
        · subst he
          clear hT
          obtain ⟨x, hx⟩ : ∃ x, unzig m = x := ⟨_, rfl⟩
          rw [hx] at HI1
          have HX := Lib.hid hx
          clear hx
          go_wp2_with fail
          refine HI1.out.mono ?_
          rintro e w' ⟨rfl, rfl⟩
          go_wp2_with (at_builtin; refine wpList_append_own_at _ rfl (.tmp 43) (.tmp 45) 23 rfl w.heap.size 3 i0 (.int .i64 0) 1 8 Try.underlying23 HI0.out HZ0.out HZ1.out HZ2.out rfl (by decide) _ _ _ rfl (HO.out.alloc _) ⟨wr.heap.size, 0, none⟩ 1 1 [.int .i64 x] rfl rfl (cell_one_new _ _ _) (by intro u hu; simp at hu; subst hu; rfl) (by unfold maxLen; omega) (by omega) (by have := HS.out; simp; omega) ?_; intro v1 w1 h1own hg1 _ _; have R1 := Lib.hid h1own; have R2 := Lib.hid hg1; clear h1own hg1)
          go_roundw
          case rel =>
            refine rrel_more hk HR'.out HT.out HW.out HO.out HB.out ?_ ?_
            · rw [HX.out]; exact R1.out
            · rw [HX.out]; exact R2.out
          case measure => simp [intOf]; omega
        · have hq : ((e : Int) != 0) = true := by simp; omega
          have HE := Lib.hid (show r = ([], 0, e) by rw [HR'.out, tis_bad hT he])
          have HF := Lib.hid ((tu_facts hT).2.2.2.1 he)
          clear hT he
          go_wp2_with fail
          refine HI1.out.mono ?_
          rintro e w' ⟨rfl, rfl⟩
          go_wp2_with fail
          go_ret3
          exact ints_bad' HE.out rfl HB.out
  · have HR := Lib.hid (tl_bad hT he)
    have hq : ((e : Int) != 0) = true := by simp; omega
    obtain ⟨r, hr⟩ : ∃ r, tl s t most = r := ⟨_, rfl⟩
    rw [hr] at HR ⊢
    clear hT hm hr he h3 h4
    go_enter Try.func33, Try.ntmps33
    go_wp2_with fail
    refine HU.out.mono ?_
    rintro e w' ⟨rfl, rfl⟩
    go_wp2_with fail
    go_ret3
    exact ints_bad' HR.out rfl (Below.refl _ _)

end Go.Proofs.Ytpbmkapeieoiaaa.Takes
