/- NumOrders: for all lists of at most 300 ints and all ints n, num.Sum of the list in the opposite order, and of the list turned round by n modulo 1024 places, is num.Sum of the list; of longer and empty lists only the sum of nil and the examples are said. No condition. -/
import Derived.Test.YtocffcjfnmfidaaRows
import Derived.WalkKit
import Derived.ProofKit
import Derived.OpenShut
import Derived.ShutString
import Derived.ChangeOld
import Derived.Below
import Derived.Test.YtocffcjfnmfidaaRefs
import Derived.Maps.AppendAt
namespace Go.Proofs.Ytocffcjfnmfidaa.numOrders
open Go.ChangeShapes Go.WideShapes Go.ChangeAt Go.RowKit
open Go.ChangeMaps (open_string shut_string)
open Go.Proofs.Ytocffcjfnmfidaa.Plain Go.Proofs.Ytocffcjfnmfidaa.Nums Go.Proofs.Ytocffcjfnmfidaa.Sums Go.Proofs.Ytocffcjfnmfidaa.Refs
set_option linter.unusedVariables false

theorem own : ownKnob Try.prog.godebug = none := by kernel_rfl
theorem laidOut : laidOutB Try.prog = true := by kernel_rfl

/-- WHAT THE WALK IS TOLD OF A SLICE OF INTEGERS THAT CAME IN: it is nil; or it leads to a row of 'cap' cells, the numbers 'zs' (the first 'len' are its elements, the rest its spare room), each fitting its kind. -/
def IsRow (k : IntKind) (w : World) (a : Option Addr) (len cap : Nat) (zs : List Int) : Prop :=
  (a = none ∧ len = 0 ∧ cap = 0 ∧ zs = []) ∨
  ∃ x, a = some x ∧ len ≤ cap ∧ cap ≤ maxLen ∧ zs.length = cap ∧ (∀ i, i < zs.length → w.cell? (x.add i) = some (.int k (zs.getD i 0))) ∧ ∀ n ∈ zs, (Lit.int k n).wf = true

theorem info : (Try.prog.info? 3).map (fun i => (i.zero, i.size, i.bytes)) = some (some (.int .i64 0), 1, 8) := by kernel_rfl

/-! Lists by their places: the opposite order, and a turn. -/
theorem sum_range (zs : List Int) (len : Nat) (h : len ≤ zs.length) : ((List.range len).map fun i => zs.getD i 0) = zs.take len := by
  apply List.ext_getElem
  · simp; omega
  · intro i h1 h2
    simp at h1
    have h3 : i < zs.length := by omega
    simp [List.getD_eq_getElem?_getD, h3]
theorem sum_back (f : Nat → Int) (len : Nat) : ((List.range len).map fun i => f (len - 1 - i)).sum = ((List.range len).map f).sum := by
  have : ((List.range len).map fun i => f (len - 1 - i)) = ((List.range len).map f).reverse := by
    apply List.ext_getElem
    · simp
    · intro i h1 h2
      simp
  rw [this, List.sum_reverse]
theorem sum_turn (f : Nat → Int) (len t : Nat) (ht : t < len) : ((List.range len).map fun i => f ((i + t) % len)).sum = ((List.range len).map f).sum := by
  have : ((List.range len).map fun i => f ((i + t) % len)) = ((List.range len).map f).drop t ++ ((List.range len).map f).take t := by
    apply List.ext_getElem
    · simp; omega
    · intro i h1 h2
      simp at h1
      rw [List.getElem_append]
      by_cases hi : i + t < len
      · rw [dif_pos (by simp; omega)]
        simp only [List.getElem_map, List.getElem_range, List.getElem_drop, Nat.mod_eq_of_lt hi]
        rw [Nat.add_comm]
      · rw [dif_neg (by simp; omega)]
        have : (i + t) % len = i + t - len := by rw [Nat.mod_eq_sub_mod (by omega), Nat.mod_eq_of_lt (by omega)]
        simp [this]
        congr 1
        omega
  rw [this, List.sum_append, Int.add_comm, ← List.sum_append, List.take_append_drop]

def backF (zs : List Int) (len i : Nat) : Int := zs.getD (len - 1 - i) 0
def turnF (zs : List Int) (len t i : Nat) : Int := zs.getD ((i + t) % len) 0
def vals (f : Nat → Int) (k : Nat) : List Value := (List.range k).map fun i => .int .i64 (f i)
theorem vals_succ (f : Nat → Int) (k : Nat) : vals f k ++ [.int .i64 (f k)] = vals f (k + 1) := by simp [vals, List.range_succ]
def Apart (u v : Value) : Prop := (u.ownBlock = none ∧ v.ownBlock = none) ∨ u.ownBlock ≠ v.ownBlock

theorem own_lt {w : World} {B T k : Nat} {v : Value} {xs : List Value} (h : w.ownsRow B T 1 v k xs) : ∀ g, v.ownBlock = some g → g < w.heap.size := fun g hg => (h.lt g hg).2

/-- One of two rows has grown by a number: the other is as it was, and they still lie apart. -/
theorem step1 {w wr w1 : World} {T k k' : Nat} {x : Value} {u v u' : Value} {xs ys news : List Value} (hb : Below w.heap.size w wr) (hu : wr.ownsRow w.heap.size T 1 u k xs) (hv : wr.ownsRow w.heap.size T 1 v k' ys)
    (ha : Apart u v) (hu' : w1.ownsRow w.heap.size T 1 u' (k + 1) (xs ++ news)) (hg : (wr.alloc (.cells #[x] T)).grownBy w1 u.ownBlock) (hat : u'.ownBlock = u.ownBlock ∨ u'.ownBlock = some (wr.alloc (.cells #[x] T)).heap.size) :
    Below w.heap.size w w1 ∧ w1.ownsRow w.heap.size T 1 u' (k + 1) (xs ++ news) ∧ w1.ownsRow w.heap.size T 1 v k' ys ∧ Apart u' v := by
  have hB := hb.size
  refine ⟨(hb.alloc hB _).grown hg (by simp; omega) (fun g hg => (hu.lt g hg).1), hu', ?_, ?_⟩
  · refine (hv.alloc _).kept hg ?_
    rcases ha with ⟨_, h2⟩ | h
    · exact .inl h2
    · exact .inr (fun e => h e.symm)
  · right
    rcases hat with e | e
    · rcases ha with ⟨h1, h2⟩ | h
      · have h3 : u = .slice none 0 0 ∨ ∃ g cap, u = .slice (some ⟨g, 0, none⟩) k cap := by
          rcases hu.2 with ⟨h, _⟩ | ⟨g, cap, _, h, _⟩
          · exact .inl h
          · exact .inr ⟨g, cap, h⟩
        have h4 : ∃ g cap, u' = .slice (some ⟨g, 0, none⟩) (k + 1) cap := by
          rcases hu'.2 with ⟨_, h⟩ | ⟨g, cap, _, h, _⟩
          · omega
          · exact ⟨g, cap, h⟩
        obtain ⟨g, cap, rfl⟩ := h4
        rw [h1] at e
        simp [Value.ownBlock] at e
      · rw [e]; exact h
    · rw [e]
      intro h
      have := (hv.lt _ h.symm).2
      simp at this
      omega

theorem Apart.symm {u v : Value} (h : Apart u v) : Apart v u := by
  rcases h with ⟨a, b⟩ | h
  · exact .inl ⟨b, a⟩
  · exact .inr (fun e => h e.symm)
theorem WZ_at {zs : List Int} (h : ∀ n ∈ zs, (Lit.int .i64 n).wf = true) (i : Nat) : (Lit.int .i64 (zs.getD i 0)).wf = true := by
  by_cases hi : i < zs.length
  · have : zs.getD i 0 = zs[i] := by simp [List.getD_eq_getElem?_getD, hi]
    rw [this]
    exact h _ (List.getElem_mem hi)
  · have : zs.getD i 0 = 0 := by simp [List.getD_eq_getElem?_getD, Nat.not_lt.1 hi]
    rw [this]
    decide

theorem sum_own (w : World) (B len : Nat) (v : Value) (f : Nat → Int) (h0 : 0 < len) (h3 : len ≤ 300) (hwf : ∀ i, i < len → (Lit.int .i64 (f i)).wf = true)
    (h : w.ownsRow B 3 1 v len (vals f len)) :
    Calls Try.prog 17 #[v] w fun e w' => e = .returned (.int .i64 (cut64 ((List.range len).map f).sum)) ∧ w = w' := by
  have hx := h
  obtain ⟨hlen, hor⟩ := hx
  rcases hor with ⟨rfl, rfl⟩ | ⟨g, cap, cur, rfl, _, _, _, _, _, _⟩
  · omega
  · have hc := h.cells (g := g) rfl
    have := sum_row g 0 len cap ((List.range len).map f) w (by simp) (by omega) (by
      intro i hi
      simp at hi
      have := hc i (.int .i64 (f i)) (by simp [vals, hi])
      simp only [Addr.add] at this
      have e : ((List.range len).map f).getD i 0 = f i := by simp [List.getD_eq_getElem?_getD, hi]
      rw [e, ← this]
      by_cases h0 : i = 0
      · subst h0; simp
      · simp [h0]) (by
      intro n hn
      simp at hn
      obtain ⟨i, hi, rfl⟩ := hn
      exact hwf i hi)
    rw [List.take_of_length_le (by simp)] at this
    exact this

set_option maxHeartbeats 1000000 in
theorem walk_row (b off len cap : Nat) (zs : List Int) (n : Int) (w : World) (hl0 : 0 < len) (hl3 : len ≤ 300) (hl : len ≤ zs.length)
    (hcell : ∀ i, i < zs.length → w.cell? ⟨b, off + i, none⟩ = some (.int .i64 (zs.getD i 0))) (hwz : ∀ n ∈ zs, (Lit.int .i64 n).wf = true) (hb : b < w.heap.size) :
    Calls Try.prog 8 #[.slice (some ⟨b, off, none⟩) len cap, .int .i64 n] w fun e w' => e = .returned (.bool true) ∧ Below w.heap.size w w' := by
  have HC := Lib.hid hcell
  have WZ := Lib.hid hwz
  clear hcell hwz
  obtain ⟨i0, hi, hz0, hz1, hz2⟩ := info_parts info
  have HI := Lib.hid hi
  have HZ0 := Lib.hid hz0
  have HZ1 := Lib.hid hz1
  have HZ2 := Lib.hid hz2
  clear hi hz0 hz1 hz2
  have hm0 := mask10 n
  have hne : ((len : Int) == 0) = false := by simp; omega
  have h300 : decide ((300 : Int) < (len : Int)) = false := by simp; omega
  obtain ⟨t, ht⟩ : ∃ t : Nat, n % 1024 % (len : Int) = (t : Int) := ⟨(n % 1024 % (len : Int)).toNat, (Int.toNat_of_nonneg (Int.emod_nonneg _ (by omega))).symm⟩
  have ht2 : t < len := by have := Int.emod_lt_of_pos (n % 1024) (show (0 : Int) < len by omega); omega
  go_enter Try.func8, Try.ntmps8
  go_wp2_with fail
  rw [ht]
  clear hm0 ht
  go_loopw [5, 6, 30] (fun v5 v6 i wr => ∃ k : Nat, k ≤ len ∧ i = .int .i64 k ∧ wr.ownsRow w.heap.size 3 1 v5 k (vals (backF zs len) k) ∧ wr.ownsRow w.heap.size 3 1 v6 k (vals (turnF zs len t) k) ∧ Apart v5 v6 ∧ Below w.heap.size w wr) (fun _ _ i _ => len - (intOf i).toNat)
  case atStart => exact ⟨0, Nat.zero_le _, rfl, World.ownsRow_nil _ _ _ _, World.ownsRow_nil _ _ _ _, .inl ⟨rfl, rfl⟩, Below.refl _ _⟩
  case round =>
    obtain ⟨k, hk, rfl, h5, h6, hap, hbel⟩ := hrel
    have H5 := Lib.hid h5
    have H6 := Lib.hid h6
    have HAP := Lib.hid hap
    have HB := Lib.hid hbel
    clear h5 h6 hap hbel
    by_cases hlt : k < len
    · obtain ⟨x, hx⟩ : ∃ x, backF zs len k = x := ⟨_, rfl⟩
      obtain ⟨y, hy⟩ : ∃ y, turnF zs len t k = y := ⟨_, rfl⟩
      obtain ⟨m, hm⟩ : ∃ m, (k + t) % len = m := ⟨_, rfl⟩
      have hmod : m < len := by rw [← hm]; exact Nat.mod_lt _ hl0
      have hc1 : wr.cell? ⟨b, off + (len - 1 - k), none⟩ = some (.int .i64 x) := by
        rw [← hx]
        exact (HB.out.cell hb).trans (HC.out _ (by omega))
      have hc2 := Lib.hid (show w.cell? ⟨b, off + m, none⟩ = some (.int .i64 y) by rw [← hy, ← hm]; exact HC.out _ (by rw [hm]; omega))
      have hi1 : ((k : Int) + (t : Int)) % (len : Int) = (m : Int) := by rw [← hm]; simp
      have hi2 : ((k : Int) + (t : Int)).tmod (len : Int) = (m : Int) := by rw [Int.tmod_eq_emod_of_nonneg (by omega)]; exact hi1
      have HX := Lib.hid hx
      have HY := Lib.hid hy
      clear hx hy hm
      go_wp2_with (first
        | (at_builtin; refine wpList_append_own_at _ rfl (.tmp 33) (.tmp 42) 31 rfl w.heap.size 3 i0 (.int .i64 0) 1 8 Try.underlying31 HI.out HZ0.out HZ1.out HZ2.out rfl (by decide) _ _ _ rfl (H5.out.alloc _) ⟨wr.heap.size, 0, none⟩ 1 1 [.int .i64 x] rfl rfl (cell_one_new _ _ _) (by intro u hu; simp at hu; subst hu; rfl) (by unfold maxLen; omega) (by omega) (by have := HB.out.size; simp; omega) ?_; intro v5 w1 h5 hg5 _ ha5; have R1 := Lib.hid (step1 HB.out H5.out H6.out HAP.out h5 hg5 ha5); have hc3 : w1.cell? ⟨b, off + m, none⟩ = some (.int .i64 y) := (R1.out.1.cell hb).trans hc2.out; clear h5 hg5 ha5)
        | (at_builtin; refine wpList_append_own_at _ rfl (.tmp 44) (.tmp 54) 31 rfl w.heap.size 3 i0 (.int .i64 0) 1 8 Try.underlying31 HI.out HZ0.out HZ1.out HZ2.out rfl (by decide) _ _ _ rfl (R1.out.2.2.1.alloc _) ⟨w1.heap.size, 0, none⟩ 1 1 [.int .i64 y] rfl rfl (cell_one_new _ _ _) (by intro u hu; simp at hu; subst hu; rfl) (by unfold maxLen; omega) (by omega) (by have := R1.out.1.size; simp; omega) ?_; intro v6 w2 h6 hg6 _ ha6; have R2 := Lib.hid (step1 R1.out.1 R1.out.2.2.1 R1.out.2.1 R1.out.2.2.2.symm h6 hg6 ha6); clear h6 hg6 ha6)
        | fail)
      go_roundw
      case rel =>
        refine ⟨k + 1, by omega, by go_num, ?_, ?_, R2.out.2.2.2.symm, R2.out.1⟩
        · rw [← vals_succ, HX.out]; exact R2.out.2.2.1
        · rw [← vals_succ, HY.out]; exact R2.out.2.1
      case measure => simp [intOf]; omega
    · obtain rfl : k = len := by omega
      have e1 := sum_range zs k hl
      have e2 : ((List.range k).map (backF zs k)).sum = (zs.take k).sum := by rw [← e1]; exact sum_back (fun i => zs.getD i 0) k
      have e3 : ((List.range k).map (turnF zs k t)).sum = (zs.take k).sum := by rw [← e1]; exact sum_turn (fun i => zs.getD i 0) k t ht2
      have S1 := Lib.hid (sum_row b off k cap zs wr hl (by omega) (fun i hi => (HB.out.cell hb).trans (HC.out i hi)) WZ.out)
      have S2 := sum_own wr w.heap.size k u5 (backF zs k) hl0 hl3 (fun i _ => WZ_at WZ.out _) H5.out
      have S3 := sum_own wr w.heap.size k u6 (turnF zs k t) hl0 hl3 (fun i _ => WZ_at WZ.out _) H6.out
      rw [e2] at S2
      rw [e3] at S3
      have S2' := Lib.hid S2
      have S3' := Lib.hid S3
      have S4 := Lib.hid (alive_any wr)
      clear S2 S3 e1 e2 e3
      go_wp2_with fail
      refine S1.out.mono ?_
      rintro e w' ⟨rfl, rfl⟩
      go_wp2_with fail
      refine S2'.out.mono ?_
      rintro e w' ⟨rfl, rfl⟩
      go_wp2_with fail
      refine S3'.out.mono ?_
      rintro e w' ⟨rfl, rfl⟩
      go_wp2_with fail
      refine S4.out.mono ?_
      rintro e w' ⟨rfl, hbel⟩
      go_wp2_with fail
      go_ret
      exact ⟨rfl, HB.out.trans (hbel.mono HB.out.size)⟩

theorem walk_none (a : Option Addr) (len cap : Nat) (n : Int) (w : World) (h : len = 0 ∨ 300 < len) :
    Calls Try.prog 8 #[.slice a len cap, .int .i64 n] w fun e w' => e = .returned (.bool true) ∧ Below w.heap.size w w' := by
  have S1 := Lib.hid (sum_nil none 0 w)
  have S4 := Lib.hid (alive_any w)
  rcases h with rfl | h
  · go_enter Try.func8, Try.ntmps8
    go_wp2_with fail
    refine S1.out.mono ?_
    rintro e w' ⟨rfl, rfl⟩
    go_wp2_with fail
    refine S4.out.mono ?_
    rintro e w' ⟨rfl, hbel⟩
    go_wp2_with fail
    go_ret
    exact ⟨rfl, hbel⟩
  · have h300 : decide ((300 : Int) < (len : Int)) = true := by simp; omega
    go_enter Try.func8, Try.ntmps8
    go_wp2_with fail
    refine S1.out.mono ?_
    rintro e w' ⟨rfl, rfl⟩
    go_wp2_with fail
    refine S4.out.mono ?_
    rintro e w' ⟨rfl, hbel⟩
    go_wp2_with fail
    go_ret
    exact ⟨rfl, hbel⟩

theorem walk (a0 : Option Addr) (len0 cap0 : Nat) (z0 : List Int) (a1 : Int) (w : World) (w0 : IsRow .i64 w a0 len0 cap0 z0) (w1 : (Lit.int .i64 a1).wf = true) :
    Calls Try.prog 8 #[.slice a0 len0 cap0, .int .i64 a1] w fun e w' => e = .returned (.bool true) ∧ Below w.heap.size w w' := by
  rcases w0 with ⟨rfl, rfl, rfl, rfl⟩ | ⟨x, rfl, hl, hm, hz, hcell, hwz⟩
  · exact walk_none _ _ _ _ w (.inl rfl)
  · by_cases h : len0 = 0 ∨ 300 < len0
    · exact walk_none _ _ _ _ w h
    · obtain ⟨b, off, rfl, hc⟩ := row_at hcell (by omega)
      have hb : b < w.heap.size := by
        have h0 := hc 0 (by omega)
        by_cases hb : b < w.heap.size
        · exact hb
        · simp [World.cell?, hb] at h0
      exact walk_row b off len0 cap0 z0 a1 w (by omega) (by omega) (by omega) hc hwz hb

set_option maxRecDepth 100000 in
theorem lifted (os : Os) (started : os.Started) (H : Type) (enc : TypeId × Value → H) :
    ReturnsInHanded {} Try.checked os 8 .any (Rows.numOrdersSpec.pre6 enc Try.prog Try.f8 Rows.numOrdersRow.domain false) (Rows.numOrdersSpec.post enc Try.prog Try.f8 false true false false) := by
  refine returnsInHanded_of_change (C := Try.checked) own started (by kernel_rfl) Try.func8
    (ChangeSpec.witness6 (enc := enc) (C := Try.checked) false ⟨#[], #[.slice none 0 0, .int .i64 0], []⟩ 8 (by kernel_rfl) (by kernel_rfl) (by kernel_rfl) (by kernel_rfl)) ?_
  intro W base args ds gs before hval0 hW hcnd _
  have hval : ∀ (j : Nat) t v, Try.f8.params[j]? = some t → args[j]? = some v → Value.okWide Try.prog W .any base t v := hval0
  have hW' := hW
  obtain ⟨p, q, hA0, hV, rfl, hfz, hnd⟩ := hW
  have hA : DataW.TrodAll enc Try.prog W 0 (fun _ => true) true Try.f8.params.toList args.toList ds p := hA0
  rw [Try.params8] at hA hval
  obtain ⟨v0, vs0, d0, ds0, p0, q0, hargs, rfl, rfl, h0, r0⟩ := trodAll_cons hA
  obtain ⟨v1, vs1, d1, ds1, p1, q1, rfl, rfl, rfl, h1, r1⟩ := trodAll_cons r0
  obtain ⟨rfl, rfl, rfl⟩ := trodAll_nil r1
  obtain rfl : args = #[v0, v1] := by cases args; simp_all
  obtain ⟨rfl, rfl⟩ := trodVars_none hV
  obtain ⟨a0, len0, cap0, rfl⟩ := okWide_slice Try.underlying31 (hval 0 31 v0 rfl rfl)
  have k0 := h0
  have lt0 : ∀ x ∈ p0, x.block < W.heap.size := by obtain ⟨m, hm⟩ := k0; exact DataW.trod_lt m _ _ _ hm
  obtain ⟨z0, w0⟩ : ∃ zs, IsRow .i64 W a0 len0 cap0 zs := by
    obtain ⟨fuel, hf⟩ := h0
    rcases open_ints Try.underlying31 Try.underlying3 (by kernel_rfl) hf with ⟨hcs, _⟩ | ⟨x, l, c, zs, hcs, _, hl, hm, hz, _, hcell, hwz⟩
    · simp [Value.cells] at hcs
      obtain ⟨rfl, rfl, rfl⟩ := hcs
      exact ⟨[], .inl ⟨rfl, rfl, rfl, rfl⟩⟩
    · simp [Value.cells] at hcs
      obtain ⟨rfl, rfl, rfl⟩ := hcs
      exact ⟨zs, .inr ⟨_, rfl, hl, hm, by simpa using hz, hcell, hwz⟩⟩
  obtain ⟨a1, rfl, rfl, rfl, w1⟩ := open_int Try.underlying3 (hval 1 3 v1 rfl rfl) h1
  clear hA0 hval0
  refine (walk a0 len0 cap0 z0 a1 W w0 w1).mono fun e W' ⟨he, bel⟩ => ?_
  subst he
  exact ⟨_, rfl, _, _, _, [], _, [], hW', trodAll_mk1 (shut_bool Try.underlying4 _), (trodAll_cons_mk (Below.trod laidOut (by kernel_rfl) (of_decide_eq_true (by kernel_rfl)) k0 bel lt0) (trodAll_cons_mk (shut_int Try.underlying3 w1) trodAll_mk0)), rfl, bel.frame _, fun h => by cases h⟩

theorem over : Rows.numOrdersRow.holds Try.pinned (OpenSpec.ofChange Rows.numOrdersSpec) :=
  OpenClaim.holds_of_wide 8 Try.f8 rfl rfl rfl rfl rfl rfl rfl ⟨rfl, rfl, rfl, rfl, rfl⟩ rfl rfl rfl rfl rfl (by kernel_rfl) Try.func8 (by kernel_rfl)
    (of_decide_eq_true (by kernel_rfl)) (by unfold Func.isWrapper; first | (rw [if_pos (by decide +kernel)]; kernel_rfl) | (rw [if_neg (by decide +kernel)]; exact ⟨rfl, rfl⟩))
    (fun os started H enc _ => lifted os started H enc)

/-- The statement. -/
theorem proved : Rows.NumOrdersSaid := over
#print axioms proved
end Go.Proofs.Ytocffcjfnmfidaa.numOrders
