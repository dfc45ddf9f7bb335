/- The calls of the reference's texts, numbers and ends: whether something is in a list twice. -/
import Derived.Test.YtkoldgammeojkaaDoorLayf
import Derived.BigQuiet
import Derived.Deep.QuietTactic
namespace Go.Proofs.YtkoldgammeojkaaDoor.Ldup
open Go.RowKit Go.Lib Go.Proofs.YtkoldgammeojkaaDoor.Text Go.Proofs.YtkoldgammeojkaaDoor.Reads Go.Proofs.YtkoldgammeojkaaDoor.Rows2 Go.Proofs.YtkoldgammeojkaaDoor.Lay Go.Proofs.YtkoldgammeojkaaDoor.Layf

theorem bel_next {w W w' : World} (h : Below w.heap.size w W) (hb : Below W.heap.size W w') : Below w.heap.size w w' := h.trans (hb.mono h.size)
/-- What a call gives that returns a bool. -/
def BoolOut (b : Bool) (w : World) (e : Ending) (w' : World) : Prop := e = .returned (.bool b) ∧ Below w.heap.size w w'

/-- Until place i nothing is there twice; element x is not among the first k. -/
def Once {α : Type} (l : List α) (i : Nat) : Prop := ∀ a b x, a < b → b < i → l[a]? = some x → l[b]? ≠ some x
theorem once_zero {α : Type} (l : List α) : Once l 0 := fun _ _ _ _ h => absurd h (by omega)
theorem once_next {α : Type} {l : List α} {i : Nat} {x : α} (h : Once l i) (hx : l[i]? = some x) (hn : ∀ a, a < i → l[a]? ≠ some x) : Once l (i + 1) := by
  intro a b y hab hb ha hy
  by_cases e : b = i
  · subst e
    rw [hx] at hy
    cases hy
    exact hn a hab ha
  · exact h a b y hab (by omega) ha hy
theorem once_all {α : Type} [DecidableEq α] {l : List α} (h : Once l l.length) : dupB l = false := by
  rw [← Bool.not_eq_true]
  intro hd
  obtain ⟨a, b, x, hab, ha, hb⟩ := dup_iff.1 hd
  exact h a b x hab (List.getElem?_eq_some_iff.1 hb).1 ha hb
theorem bs_ne {s t : List UInt8} (h : s ≠ t) : ((bs s).toList == (bs t).toList) = false := by
  rw [beq_eq_false_iff_ne, ByteArray.toList_eq, ByteArray.toList_eq]
  exact h

theorem ints_shape {w : World} {v : Value} {xs : List Int} (h : Reads w.heap.size w v xs) :
    ∃ a cap, v = .slice a xs.length cap ∧ (xs.length : Int) ≤ 9223372036854775807 ∧ ∀ (k : Nat) (x : Int), xs[k]? = some x → ∃ b off, a = some ⟨b, off, none⟩ ∧ b < w.heap.size ∧ w.cell? ⟨b, off + k, none⟩ = some (.int .i64 x) := by
  have hm := h.len
  obtain ⟨a, cap, h1, h2, h3, h4, h5⟩ := h
  refine ⟨a, cap, h1, by unfold maxLen at hm; omega, fun k x hx => ?_⟩
  rcases h5 with rfl | ⟨b, off, e, hb, hc⟩
  · simp at hx
  · obtain ⟨hk, hx⟩ := List.getElem?_eq_some_iff.1 hx
    have := hc k hk
    rw [List.getD_eq_getElem?_getD, List.getElem?_eq_getElem hk, hx] at this
    exact ⟨b, off, e, hb, this⟩
theorem pairs_shape {w : World} {v : Value} {xs : List (Int × Int)} (h : Grid (In w) w v 2 (xs.map pCells)) :
    ∃ a cap, v = .slice a xs.length cap ∧ (xs.length : Int) ≤ 9223372036854775807 ∧ ∀ (k : Nat) (x : Int × Int), xs[k]? = some x → ∃ b off, a = some ⟨b, off, none⟩ ∧ b < w.heap.size ∧ w.cell? ⟨b, off + k * 2, none⟩ = some (.int .i64 x.1) ∧ w.cell? ⟨b, off + k * 2 + 1, none⟩ = some (.int .i64 x.2) := by
  obtain ⟨a, cap, h1, h2, _, _, h5⟩ := h.shape
  rw [List.length_map] at h1 h2
  refine ⟨a, cap, h1, h2, fun i x hx => ?_⟩
  obtain ⟨b, off, e, hbl, hc⟩ := h5 i _ (by rw [List.getElem?_map, hx]; rfl)
  exact ⟨b, off, e, hbl, hc 0 _ rfl, hc 1 _ rfl⟩
set_option maxRecDepth 100000 in
set_option maxHeartbeats 800000 in
theorem texts_any {v : Value} {l : List (List UInt8)} {w : World} (h : Strs (In w) w v l) :
    Calls Tryd.prog 27 #[v] w (BoolOut (dupB l) w) := by
  obtain ⟨a, cap, rfl, hm, _, _, hc⟩ := h.shape
  have HC := Lib.hid hc
  clear h hc
  go_enter Tryd.func27, Tryd.ntmps27
  go_wp2_with fail
  go_loopw [7] (fun vi wr => ∃ i : Nat, vi = .int .i64 (i : Int) ∧ i ≤ l.length ∧ Once l i ∧ Below w.heap.size w wr) (fun vi _ => l.length - (intOf vi).toNat)
  case atStart => exact ⟨0, rfl, Nat.zero_le _, once_zero _, Below.refl _ _⟩
  case round =>
    obtain ⟨i, rfl, hi, ho, hbel⟩ := hrel
    have HO := Lib.hid ho
    have HB := Lib.hid hbel
    clear ho hbel
    obtain ⟨wo, rfl⟩ : ∃ wo : World, wo = wr := ⟨_, rfl⟩
    by_cases hlt : i < l.length
    · obtain ⟨x, hx⟩ := at_lt hlt
      obtain ⟨_, b, off, rfl, hbk, hcell⟩ := HC.out i x hx
      have HX := Lib.hid hx
      have HK := Lib.hid hbk
      have HL := Lib.hid hcell
      clear hx hbk hcell
      go_wp2_with fail
      go_loopw [11] (fun vk wx => ∃ k : Nat, vk = .int .i64 (k : Int) ∧ k ≤ i ∧ (∀ a, a < k → l[a]? ≠ some x) ∧ Below w.heap.size w wx) (fun vk _ => i - (intOf vk).toNat)
      case atStart => exact ⟨0, rfl, Nat.zero_le _, fun a ha => absurd ha (by omega), HB.out⟩
      case round =>
        obtain ⟨k, rfl, hk, hn, hbel⟩ := hrel
        have HN := Lib.hid hn
        have HBK := Lib.hid hbel
        clear hn hbel
        by_cases hki : k < i
        · have hkl : k < l.length := by omega
          obtain ⟨y, hy⟩ := at_lt hkl
          obtain ⟨_, b', off', e', _, hcell'⟩ := HC.out k y hy
          cases e'
          have g1 := (HBK.out.cell (p := ⟨b, off + i, none⟩) HK.out).trans HL.out
          have g2 := (HBK.out.cell (p := ⟨b, off + k, none⟩) HK.out).trans hcell'
          have HY := Lib.hid hy
          clear hy hcell'
          by_cases hxy : x = y
          · subst hxy
            have HD := Lib.hid (show dupB l = true from dup_iff.2 ⟨k, i, x, hki, HY.out, HX.out⟩)
            go_wp2_with fail
            go_quiet (fail)
            go_wp2_with fail
            try rw [Exit.noGoto_ret]
            go_ret
            exact ⟨by rw [HD.out]; rfl, below_drewN HBK.out _⟩
          · have hne := bs_ne hxy
            have HNN := Lib.hid hxy
            go_wp2_with fail
            go_quiet (fail)
            go_wp2_with fail
            go_roundw
            case rel => exact ⟨k + 1, by simp, by omega, fun a ha => by
              by_cases e : a = k
              · subst e
                rw [HY.out]
                exact fun e => HNN.out (Option.some.inj e).symm
              · exact HN.out a (by omega), below_drewN HBK.out _⟩
            case measure => simp [intOf]; omega
        · have he : k = i := by omega
          subst he
          go_wp2_with fail
          go_roundw
          case rel => exact ⟨k + 1, by simp, by omega, once_next HO.out HX.out HN.out, HBK.out⟩
          case measure => simp [intOf]; omega
    · have he : i = l.length := by omega
      subst he
      go_wp2_with fail
      go_ret
      exact ⟨by rw [once_all HO.out]; rfl, HB.out⟩

set_option maxRecDepth 100000 in
set_option maxHeartbeats 800000 in
theorem numbers_any {v : Value} {l : List Int} {w : World} (h : Reads w.heap.size w v l) :
    Calls Tryd.prog 33 #[v] w (BoolOut (dupB l) w) := by
  obtain ⟨a, cap, rfl, hm, hc⟩ := ints_shape h
  have HC := Lib.hid hc
  clear h hc
  go_enter Tryd.func33, Tryd.ntmps33
  go_wp2_with fail
  go_loopw [7] (fun vi wr => ∃ i : Nat, vi = .int .i64 (i : Int) ∧ i ≤ l.length ∧ Once l i ∧ Below w.heap.size w wr) (fun vi _ => l.length - (intOf vi).toNat)
  case atStart => exact ⟨0, rfl, Nat.zero_le _, once_zero _, Below.refl _ _⟩
  case round =>
    obtain ⟨i, rfl, hi, ho, hbel⟩ := hrel
    have HO := Lib.hid ho
    have HB := Lib.hid hbel
    clear ho hbel
    obtain ⟨wo, rfl⟩ : ∃ wo : World, wo = wr := ⟨_, rfl⟩
    by_cases hlt : i < l.length
    · obtain ⟨x, hx⟩ := at_lt hlt
      obtain ⟨b, off, rfl, hbk, hcell⟩ := HC.out i x hx
      have HX := Lib.hid hx
      have HK := Lib.hid hbk
      have HL := Lib.hid hcell
      clear hx hbk hcell
      go_wp2_with fail
      go_loopw [11] (fun vk wx => ∃ k : Nat, vk = .int .i64 (k : Int) ∧ k ≤ i ∧ (∀ a, a < k → l[a]? ≠ some x) ∧ Below w.heap.size w wx) (fun vk _ => i - (intOf vk).toNat)
      case atStart => exact ⟨0, rfl, Nat.zero_le _, fun a ha => absurd ha (by omega), HB.out⟩
      case round =>
        obtain ⟨k, rfl, hk, hn, hbel⟩ := hrel
        have HN := Lib.hid hn
        have HBK := Lib.hid hbel
        clear hn hbel
        by_cases hki : k < i
        · have hkl : k < l.length := by omega
          obtain ⟨y, hy⟩ := at_lt hkl
          obtain ⟨b', off', e', _, hcell'⟩ := HC.out k y hy
          cases e'
          have g1 := (HBK.out.cell (p := ⟨b, off + i, none⟩) HK.out).trans HL.out
          have g2 := (HBK.out.cell (p := ⟨b, off + k, none⟩) HK.out).trans hcell'
          have HY := Lib.hid hy
          clear hy hcell'
          by_cases hxy : x = y
          · subst hxy
            have HD := Lib.hid (show dupB l = true from dup_iff.2 ⟨k, i, x, hki, HY.out, HX.out⟩)
            go_wp2_with fail
            go_quiet (fail)
            go_wp2_with fail
            try rw [Exit.noGoto_ret]
            go_ret
            exact ⟨by rw [HD.out]; rfl, below_drewN HBK.out _⟩
          · have hne : (x == y) = false := by simp [hxy]
            have HNN := Lib.hid hxy
            go_wp2_with fail
            go_quiet (fail)
            go_wp2_with fail
            go_roundw
            case rel => exact ⟨k + 1, by simp, by omega, fun a ha => by
              by_cases e : a = k
              · subst e
                rw [HY.out]
                exact fun e => HNN.out (Option.some.inj e).symm
              · exact HN.out a (by omega), below_drewN HBK.out _⟩
            case measure => simp [intOf]; omega
        · have he : k = i := by omega
          subst he
          go_wp2_with fail
          go_roundw
          case rel => exact ⟨k + 1, by simp, by omega, once_next HO.out HX.out HN.out, HBK.out⟩
          case measure => simp [intOf]; omega
    · have he : i = l.length := by omega
      subst he
      go_wp2_with fail
      go_ret
      exact ⟨by rw [once_all HO.out]; rfl, HB.out⟩

set_option maxRecDepth 100000 in
set_option maxHeartbeats 800000 in
theorem ends_any {v : Value} {l : List (Int × Int)} {w : World} (h : Grid (In w) w v 2 (l.map pCells)) :
    Calls Tryd.prog 31 #[v] w (BoolOut (dupB l) w) := by
  obtain ⟨a, cap, rfl, hm, hc⟩ := pairs_shape h
  have HC := Lib.hid hc
  clear h hc
  go_enter Tryd.func31, Tryd.ntmps31
  go_wp2_with fail
  go_loopw [7] (fun vi wr => ∃ i : Nat, vi = .int .i64 (i : Int) ∧ i ≤ l.length ∧ Once l i ∧ Below w.heap.size w wr) (fun vi _ => l.length - (intOf vi).toNat)
  case atStart => exact ⟨0, rfl, Nat.zero_le _, once_zero _, Below.refl _ _⟩
  case round =>
    obtain ⟨i, rfl, hi, ho, hbel⟩ := hrel
    have HO := Lib.hid ho
    have HB := Lib.hid hbel
    clear ho hbel
    obtain ⟨wo, rfl⟩ : ∃ wo : World, wo = wr := ⟨_, rfl⟩
    by_cases hlt : i < l.length
    · obtain ⟨x, hx⟩ := at_lt hlt
      obtain ⟨b, off, rfl, hbk, hcell, hcel2⟩ := HC.out i x hx
      have HX := Lib.hid hx
      have HK := Lib.hid hbk
      have HL := Lib.hid hcell
      have HL2 := Lib.hid hcel2
      obtain ⟨x1, x2⟩ := x
      clear hx hbk hcell hcel2
      go_wp2_with fail
      go_loopw [11] (fun vk wx => ∃ k : Nat, vk = .int .i64 (k : Int) ∧ k ≤ i ∧ (∀ a, a < k → l[a]? ≠ some (x1, x2)) ∧ Below w.heap.size w wx) (fun vk _ => i - (intOf vk).toNat)
      case atStart => exact ⟨0, rfl, Nat.zero_le _, fun a ha => absurd ha (by omega), HB.out⟩
      case round =>
        obtain ⟨k, rfl, hk, hn, hbel⟩ := hrel
        have HN := Lib.hid hn
        have HBK := Lib.hid hbel
        clear hn hbel
        by_cases hki : k < i
        · have hkl : k < l.length := by omega
          obtain ⟨y, hy⟩ := at_lt hkl
          obtain ⟨b', off', e', _, hcell', hcel2'⟩ := HC.out k y hy
          obtain ⟨y1, y2⟩ := y
          cases e'
          have g1 := (HBK.out.cell (p := ⟨b, off + i * 2, none⟩) HK.out).trans HL.out
          have g2 := (HBK.out.cell (p := ⟨b, off + k * 2, none⟩) HK.out).trans hcell'
          have g3 := (HBK.out.cell (p := ⟨b, off + i * 2 + 1, none⟩) HK.out).trans HL2.out
          have g4 := (HBK.out.cell (p := ⟨b, off + k * 2 + 1, none⟩) HK.out).trans hcel2'
          simp only at g1 g2 g3 g4
          have HY := Lib.hid hy
          clear hy hcell' hcel2'
          by_cases hxy : x1 = y1 ∧ x2 = y2
          · obtain ⟨rfl, rfl⟩ := hxy
            have HD := Lib.hid (show dupB l = true from dup_iff.2 ⟨k, i, (x1, x2), hki, HY.out, HX.out⟩)
            go_wp2_with fail
            go_quiet (fail)
            go_wp2_with fail
            try rw [Exit.noGoto_ret]
            go_ret
            exact ⟨by rw [HD.out]; rfl, below_drewN HBK.out _⟩
          · have HNN := Lib.hid (show ¬ (x1, x2) = (y1, y2) by simpa using hxy)
            have hne : (x1 == y1) = false ∨ ((x1 == y1) = true ∧ (x2 == y2) = false) := by
              simp only [beq_eq_false_iff_ne, beq_iff_eq]
              omega
            clear hxy
            rcases hne with hne | ⟨hne, hne2⟩
            all_goals
              go_wp2_with fail
              go_quiet (fail)
              go_wp2_with fail
              go_roundw
              case rel => exact ⟨k + 1, by simp, by omega, fun a ha => by
                by_cases e : a = k
                · subst e
                  rw [HY.out]
                  exact fun e => HNN.out (Option.some.inj e).symm
                · exact HN.out a (by omega), below_drewN HBK.out _⟩
              case measure => simp [intOf]; omega
        · have he : k = i := by omega
          subst he
          go_wp2_with fail
          go_roundw
          case rel => exact ⟨k + 1, by simp, by omega, once_next HO.out HX.out HN.out, HBK.out⟩
          case measure => simp [intOf]; omega
    · have he : i = l.length := by omega
      subst he
      go_wp2_with fail
      go_ret
      exact ⟨by rw [once_all HO.out]; rfl, HB.out⟩

end Go.Proofs.YtkoldgammeojkaaDoor.Ldup
