/- The program's distinct, type by type: whether nothing is in a list twice. -/
import Derived.Test.YtieoegodhhiiiaaPfn
import Derived.Test.YtieoegodhhiiiaaOmapn
namespace Go.Proofs.Ytieoegodhhiiiaa.Pdis
open Go.RowKit Go.Lib Go.Proofs.Ytieoegodhhiiiaa.Reads Go.Proofs.Ytieoegodhhiiiaa.Rows2 Go.Proofs.Ytieoegodhhiiiaa.Lay Go.Proofs.Ytieoegodhhiiiaa.Layf Go.Proofs.Ytieoegodhhiiiaa.Lcon Go.Proofs.Ytieoegodhhiiiaa.Ldup Go.Proofs.Ytieoegodhhiiiaa.Lext Go.Proofs.Ytieoegodhhiiiaa.Lnmd Go.Proofs.Ytieoegodhhiiiaa.Pbas Go.Proofs.Ytieoegodhhiiiaa.Pfn Go.Proofs.Ytieoegodhhiiiaa.Omap Go.Proofs.Ytieoegodhhiiiaa.Omapn Go.Proofs.Ytieoegodhhiiiaa.Lmap
open Go.Proofs.Ytieoegodhhiiiaa.Text hiding lineL joinR

theorem ints_at {w : World} {v : Value} {xs : List Int} (h : Grid (In w) w v 1 (xs.map fun x => [Value.int .i64 x])) :
    ∃ a cap, v = .slice a xs.length cap ∧ (xs.length : Int) ≤ 9223372036854775807 ∧ ∀ (wr : World), Below w.heap.size w wr → ∀ (i : Nat) (x : Int), xs[i]? = some x → ∃ b off, a = some ⟨b, off, none⟩ ∧ b < w.heap.size ∧ wr.cell? ⟨b, off + i, none⟩ = some (.int .i64 x) := by
  obtain ⟨a, cap, h1, h2, _, _, h5⟩ := h.shape
  rw [List.length_map] at h1 h2
  refine ⟨a, cap, h1, h2, fun wr hb i x hx => ?_⟩
  obtain ⟨b, off, e, hbl, hc⟩ := h5 i _ (by rw [List.getElem?_map, hx]; rfl)
  have := hc 0 _ rfl
  rw [Nat.mul_one] at this
  exact ⟨b, off, e, hbl, (hb.cell (show b < w.heap.size from hbl)).trans this⟩
theorem pairs_at {w : World} {v : Value} {xs : List (Int × Int)} (h : Grid (In w) w v 2 (xs.map pCells)) :
    ∃ a cap, v = .slice a xs.length cap ∧ (xs.length : Int) ≤ 9223372036854775807 ∧ ∀ (wr : World), Below w.heap.size w wr → ∀ (i : Nat) (x : Int × Int), xs[i]? = some x → ∃ b off, a = some ⟨b, off, none⟩ ∧ b < w.heap.size ∧ wr.cell? ⟨b, off + i * 2, none⟩ = some (.int .i64 x.1) ∧ wr.cell? ⟨b, off + i * 2 + 1, none⟩ = some (.int .i64 x.2) := by
  obtain ⟨a, cap, h1, h2, _, _, h5⟩ := h.shape
  rw [List.length_map] at h1 h2
  refine ⟨a, cap, h1, h2, fun wr hb i x hx => ?_⟩
  obtain ⟨b, off, e, hbl, hc⟩ := h5 i _ (by rw [List.getElem?_map, hx]; rfl)
  exact ⟨b, off, e, hbl, (hb.cell (show b < w.heap.size from hbl)).trans (hc 0 _ rfl), (hb.cell (show b < w.heap.size from hbl)).trans (hc 1 _ rfl)⟩
/-- A call that writes a block of its own. -/
theorem below_map {b0 : Nat} {w wr w' : World} (hb : Below w.heap.size w wr) (hg : wr.grownBy w' (some b0)) (h0 : w.heap.size ≤ b0) : Below w.heap.size w w' :=
  hb.grown hg hb.size (fun k e => by cases e; exact h0)
/-- What holds at the head of the loop. -/
def DRel {κ : Type} [DecidableEq κ] {k : TypeId} (F : MapForm Try.prog k 4 κ Bool) (xs : List κ) (w : World) (vj : Value) (wr : World) : Prop :=
  ∃ (j n c : Nat) (f : κ → Option Bool), vj = .int .i64 (j : Int) ∧ j ≤ xs.length ∧ n ≤ j ∧ IsC F wr w.heap.size n c f ∧ Keys f (xs.take j) ∧ Cd (xs.take j) c ∧ Below w.heap.size w wr
theorem drel_next {κ : Type} [DecidableEq κ] {k : TypeId} {F : MapForm Try.prog k 4 κ Bool} {xs : List κ} {w wr w1 : World} {j n c : Nat} {f : κ → Option Bool} {x : κ} (hx : xs[j]? = some x) (hn : n ≤ j) (hk : Keys f (xs.take j)) (hc : Cd (xs.take j) c) (hb : Below w.heap.size w wr)
    (h1 : IsC F w1 w.heap.size (n + 1) (if (f x).isSome = true then c else c + 1) (upd f x true)) (hg : wr.grownBy w1 (some w.heap.size)) : DRel F xs w (.int .i64 ((j : Int) + 1)) w1 := by
  have hj := (List.getElem?_eq_some_iff.1 hx).1
  refine ⟨j + 1, n + 1, _, _, by simp, hj, by omega, h1, ?_, ?_, below_map hb hg (Nat.le_refl _)⟩
  · rw [take_more hx]
    exact keys_snoc hk
  · rw [take_more hx]
    exact cd_snoc hc (hk x)


set_option maxRecDepth 100000 in
set_option maxHeartbeats 1600000 in
theorem distinctS {xs : List (List UInt8)} {v : Value} {w : World} (h : Strs (In w) w v xs) (hn : xs.length ≤ 1000) :
    Calls Try.prog 52 #[v] w (BoolOut (!dupB xs) w) := by
  obtain ⟨a, cap, rfl, hm, hel⟩ := atS h
  have HE := Lib.hid hel
  have HW := Lib.hid (h.2)
  have HN := Lib.hid hn
  obtain ⟨r, hr⟩ : ∃ r, dupB xs = r := ⟨_, rfl⟩
  rw [hr]
  have HR := Lib.hid hr
  clear hel h hr hn
  have hmm := @run_makeMap Try.prog
  go_enter Try.func52, Try.ntmps52
  go_wp2_with fail
  go_loopw [9] (fun vj wr => DRel strBool xs w vj wr) (fun vj _ => xs.length - (RowKit.intOf vj).toNat)
  case atStart => exact ⟨0, 0, 0, fun _ => none, rfl, Nat.zero_le _, Nat.le_refl _, isC_made _ _, by simpa using keys_nil, by simpa using cd_nil, (Below.refl _ _).alloc (Nat.le_refl _) _⟩
  case round =>
    obtain ⟨j, n, c, f, rfl, hj, hnj, hi, hk, hc, hb⟩ := hrel
    have HB := Lib.hid hb
    have HI := Lib.hid hi
    have HK := Lib.hid hk
    have HC := Lib.hid hc
    have hlt := IsC.lt _ hi
    clear hb hi hk hc
    by_cases hjl : j < xs.length
    · obtain ⟨x, hx⟩ := at_lt hjl
      obtain ⟨b, off, rfl, _, c0⟩ := HE.out wr HB.out j x hx
      have HX := Lib.hid hx
      clear hx
      go_wp2_with (at_mapUpdate; refine IsC.step strBool _ rfl _ _ _ 93 rfl Try.underlying93 (show n < maxLen by have := HN.out; unfold maxLen; omega) (by exact HW.out _ (List.mem_of_getElem? HX.out)) w.heap.size rfl (HI.out) _ rfl rfl ?_; intro w1 h1 hg1; have R1 := Lib.hid h1; have R2 := Lib.hid hg1; clear h1 hg1)
      go_roundw
      case rel => exact drel_next HX.out hnj HK.out HC.out (HB.out) R1.out R2.out
      case measure => simp [RowKit.intOf]; omega
    · have he : j = xs.length := by omega
      subst he
      have HQ : Hid (((c : Int) == (xs.length : Int)) = !r) := by
        have h1 := HC.out
        rw [List.take_length] at h1
        rw [← HR.out]
        exact cd_eq h1
      go_wp2_with (at_len; refine IsC.len_step strBool rfl _ 93 rfl Try.underlying93 rfl HI.out ?_)
      go_ret
      exact ⟨by rw [← HQ.out]; rfl, HB.out⟩

set_option maxRecDepth 100000 in
set_option maxHeartbeats 1600000 in
theorem distinctI {xs : List Int} {v : Value} {w : World} (h : Grid (In w) w v 1 (xs.map fun x => [Value.int .i64 x])) (hw : ∀ x ∈ xs, Wf x) (hn : xs.length ≤ 1000) :
    Calls Try.prog 31 #[v] w (BoolOut (!dupB xs) w) := by
  obtain ⟨a, cap, rfl, hm, hel⟩ := ints_at h
  have HE := Lib.hid hel
  have HW := Lib.hid (hw)
  have HN := Lib.hid hn
  obtain ⟨r, hr⟩ : ∃ r, dupB xs = r := ⟨_, rfl⟩
  rw [hr]
  have HR := Lib.hid hr
  clear hel h hr hn
  have hmm := @run_makeMap Try.prog
  go_enter Try.func31, Try.ntmps31
  go_wp2_with fail
  go_loopw [9] (fun vj wr => DRel intBool xs w vj wr) (fun vj _ => xs.length - (RowKit.intOf vj).toNat)
  case atStart => exact ⟨0, 0, 0, fun _ => none, rfl, Nat.zero_le _, Nat.le_refl _, isC_made _ _, by simpa using keys_nil, by simpa using cd_nil, (Below.refl _ _).alloc (Nat.le_refl _) _⟩
  case round =>
    obtain ⟨j, n, c, f, rfl, hj, hnj, hi, hk, hc, hb⟩ := hrel
    have HB := Lib.hid hb
    have HI := Lib.hid hi
    have HK := Lib.hid hk
    have HC := Lib.hid hc
    have hlt := IsC.lt _ hi
    clear hb hi hk hc
    by_cases hjl : j < xs.length
    · obtain ⟨x, hx⟩ := at_lt hjl
      obtain ⟨b, off, rfl, _, c0⟩ := HE.out wr HB.out j x hx
      have HX := Lib.hid hx
      clear hx
      go_wp2_with (at_mapUpdate; refine IsC.step intBool _ rfl _ _ _ 83 rfl Try.underlying83 (show n < maxLen by have := HN.out; unfold maxLen; omega) (by exact HW.out _ (List.mem_of_getElem? HX.out)) w.heap.size rfl (HI.out) _ rfl rfl ?_; intro w1 h1 hg1; have R1 := Lib.hid h1; have R2 := Lib.hid hg1; clear h1 hg1)
      go_roundw
      case rel => exact drel_next HX.out hnj HK.out HC.out (HB.out) R1.out R2.out
      case measure => simp [RowKit.intOf]; omega
    · have he : j = xs.length := by omega
      subst he
      have HQ : Hid (((c : Int) == (xs.length : Int)) = !r) := by
        have h1 := HC.out
        rw [List.take_length] at h1
        rw [← HR.out]
        exact cd_eq h1
      go_wp2_with (at_len; refine IsC.len_step intBool rfl _ 83 rfl Try.underlying83 rfl HI.out ?_)
      go_ret
      exact ⟨by rw [← HQ.out]; rfl, HB.out⟩

set_option maxRecDepth 100000 in
set_option maxHeartbeats 1600000 in
theorem distinctE {xs : List (Int × Int)} {v : Value} {w : World} (h : Grid (In w) w v 2 (xs.map pCells)) (hw : ∀ x ∈ xs, pWf x) (hn : xs.length ≤ 1000) :
    Calls Try.prog 26 #[v] w (BoolOut (!dupB xs) w) := by
  obtain ⟨a, cap, rfl, hm, hel⟩ := pairs_at h
  have HE := Lib.hid hel
  have HW := Lib.hid (hw)
  have HN := Lib.hid hn
  obtain ⟨r, hr⟩ : ∃ r, dupB xs = r := ⟨_, rfl⟩
  rw [hr]
  have HR := Lib.hid hr
  clear hel h hr hn
  have hmm := @run_makeMap Try.prog
  go_enter Try.func26, Try.ntmps26
  go_wp2_with fail
  go_loopw [9] (fun vj wr => DRel endBool xs w vj wr) (fun vj _ => xs.length - (RowKit.intOf vj).toNat)
  case atStart => exact ⟨0, 0, 0, fun _ => none, rfl, Nat.zero_le _, Nat.le_refl _, isC_made _ _, by simpa using keys_nil, by simpa using cd_nil, (Below.refl _ _).alloc (Nat.le_refl _) _⟩
  case round =>
    obtain ⟨j, n, c, f, rfl, hj, hnj, hi, hk, hc, hb⟩ := hrel
    have HB := Lib.hid hb
    have HI := Lib.hid hi
    have HK := Lib.hid hk
    have HC := Lib.hid hc
    have hlt := IsC.lt _ hi
    clear hb hi hk hc
    by_cases hjl : j < xs.length
    · obtain ⟨x, hx⟩ := at_lt hjl
      obtain ⟨b, off, rfl, _, c0, c1⟩ := HE.out wr HB.out j x hx
      have HX := Lib.hid hx
      clear hx
      obtain ⟨u1, u2⟩ := x
      simp only at c0 c1
      go_wp2_with (at_mapUpdate; refine IsC.step endBool _ rfl _ _ _ 80 rfl Try.underlying80 (show n < maxLen by have := HN.out; unfold maxLen; omega) (by exact HW.out _ (List.mem_of_getElem? HX.out)) w.heap.size rfl ((IsC.alloc endBool HI.out _)) _ rfl rfl ?_; intro w1 h1 hg1; have R1 := Lib.hid h1; have R2 := Lib.hid hg1; clear h1 hg1)
      go_roundw
      case rel => exact drel_next HX.out hnj HK.out HC.out (HB.out.alloc HB.out.size _) R1.out R2.out
      case measure => simp [RowKit.intOf]; omega
    · have he : j = xs.length := by omega
      subst he
      have HQ : Hid (((c : Int) == (xs.length : Int)) = !r) := by
        have h1 := HC.out
        rw [List.take_length] at h1
        rw [← HR.out]
        exact cd_eq h1
      go_wp2_with (at_len; refine IsC.len_step endBool rfl _ 80 rfl Try.underlying80 rfl HI.out ?_)
      go_ret
      exact ⟨by rw [← HQ.out]; rfl, HB.out⟩

end Go.Proofs.Ytieoegodhhiiiaa.Pdis
