/- Texts of this proof, merged: Wplr, Wwit. -/
import Derived.Test.YtjhimekojiegjaaDoorG11
import Derived.Test.YtjhimekojiegjaaDoorG06
import Derived.Test.YtjhimekojiegjaaDoorG07
import Derived.Test.YtjhimekojiegjaaDoorG05

/- The reverse of a way. Plain. -/
namespace Go.Proofs.YtjhimekojiegjaaDoor.Wplr
open Go.Proofs.YtjhimekojiegjaaDoor.Lay Go.Proofs.YtjhimekojiegjaaDoor.Layf Go.Proofs.YtjhimekojiegjaaDoor.Lcon Go.Proofs.YtjhimekojiegjaaDoor.Rows2 Go.Proofs.YtjhimekojiegjaaDoor.Way Go.Proofs.YtjhimekojiegjaaDoor.Wcnn Go.Proofs.YtjhimekojiegjaaDoor.Wsim Go.Proofs.YtjhimekojiegjaaDoor.Wval Go.Proofs.YtjhimekojiegjaaDoor.Wplm Go.Proofs.YtjhimekojiegjaaDoor.Wpst
open Go.Proofs.YtjhimekojiegjaaDoor.Rail (needF)

theorem turned_turned (s : Stp) : turned (turned s) = s := rfl
theorem back_back (way : List Stp) : reverseF (reverseF way) = way := by
  simp only [reverseF, List.map_reverse, List.reverse_reverse, List.map_map]
  exact List.map_id' way
theorem need_turned (els : List Elem) (s : Stp) : needS els (turned s) = needS els s := by
  unfold needS turned
  cases elOf els s.1 with
  | none => rfl
  | some x => exact (Rail.need_sym x.kind s.2.2 s.2.1)
theorem back_mem {way : List Stp} {s : Stp} : s ∈ reverseF way ↔ turned s ∈ way := by
  simp only [reverseF, List.mem_reverse, List.mem_map]
  constructor
  · rintro ⟨t, ht, rfl⟩; exact ht
  · intro h; exact ⟨turned s, h, rfl⟩
theorem back_at {way : List Stp} {i : Nat} (h : i < way.length) : (reverseF way)[i]? = (way[way.length - 1 - i]?).map turned := by
  rw [reverseF, List.getElem?_reverse (by simpa using h), List.getElem?_map, List.length_map]

theorem con_from {L : Lay} : ∀ {r : List Stp} {p : Stp}, conR L p r = true ↔ ∀ i a b, (p :: r)[i]? = some a → (p :: r)[i + 1]? = some b → nextS L a = ((b.1, b.2.1), true)
  | [], p => by simp [conR]
  | s :: r, p => by
    rw [conR, Bool.and_eq_true, decide_eq_true_eq, con_from]
    constructor
    · rintro ⟨h1, h2⟩ i a b ha hb
      cases i with
      | zero =>
        simp at ha hb
        rw [← ha, ← hb]
        exact h1
      | succ i => exact h2 i a b (by simpa using ha) (by simpa using hb)
    · intro h
      exact ⟨h 0 p s (by simp) (by simp), fun i a b ha hb => h (i + 1) a b (by simpa using ha) (by simpa using hb)⟩
theorem con_iff {L : Lay} {way : List Stp} : conF L way = true ↔ ∀ i a b, way[i]? = some a → way[i + 1]? = some b → nextS L a = ((b.1, b.2.1), true) := by
  cases way with
  | nil => simp [conF]
  | cons p r => exact con_from
theorem con_back {L : Lay} (hc : checkF L = 0) {way : List Stp} (h : conF L way = true) : conF L (reverseF way) = true := by
  rw [con_iff] at h ⊢
  intro i a b ha hb
  have hl : i + 1 < way.length := by
    have := (List.getElem?_eq_some_iff.1 hb).1
    simpa [reverseF] using this
  rw [back_at (by omega)] at ha
  rw [back_at hl] at hb
  obtain ⟨x, hx⟩ := at_lt (l := way) (k := way.length - 1 - (i + 1)) (by omega)
  obtain ⟨y, hy⟩ := at_lt (l := way) (k := way.length - 1 - i) (by omega)
  rw [hy] at ha
  rw [hx] at hb
  cases ha
  cases hb
  have := h (way.length - 1 - (i + 1)) x y hx (by rw [show way.length - 1 - (i + 1) + 1 = way.length - 1 - i by omega]; exact hy)
  exact (joined_back hc this).1

theorem sim_iff : ∀ {way bef : List Stp}, simR bef way = true ↔ (way.map (·.1)).Nodup ∧ ∀ x ∈ bef, ∀ y ∈ way, x.1 ≠ y.1
  | [], bef => by simp [simR]
  | s :: r, bef => by
    rw [simR, Bool.and_eq_true, sim_iff, Bool.not_eq_true', List.any_eq_false, List.map_cons, List.nodup_cons]
    constructor
    · rintro ⟨h1, h2, h3⟩
      refine ⟨⟨fun hm => ?_, h2⟩, fun x hx y hy => ?_⟩
      · obtain ⟨y, hy, e⟩ := List.mem_map.1 hm
        exact h3 s (by simp) y hy e.symm
      · rcases List.mem_cons.1 hy with rfl | hy
        · simpa using h1 x hx
        · exact h3 x (by simp [hx]) y hy
    · rintro ⟨⟨h1, h2⟩, h3⟩
      refine ⟨fun x hx => by simpa using h3 x hx s List.mem_cons_self, h2, fun x hx y hy => ?_⟩
      rcases List.mem_append.1 hx with hx | hx
      · exact h3 x hx y (List.mem_cons_of_mem _ hy)
      · rw [List.mem_singleton.1 hx]
        exact fun e => h1 (List.mem_map.2 ⟨y, hy, e.symm⟩)
theorem sim_back {way : List Stp} (h : simR [] way = true) : simR [] (reverseF way) = true := by
  rw [sim_iff] at h ⊢
  refine ⟨?_, by simp⟩
  have e : (reverseF way).map (·.1) = (way.map (·.1)).reverse := by
    rw [reverseF, List.map_reverse, List.map_map]
    rfl
  rw [e]
  exact List.pairwise_reverse.2 (List.Pairwise.imp (fun h => Ne.symm h) h.1)
theorem possible_back (els : List Elem) (way : List Stp) : ((reverseF way).any fun s => !(needS els s).2) = (way.any fun s => !(needS els s).2) := by
  rw [reverseF, List.any_reverse, List.any_map]
  congr 1
  funext s
  simp [need_turned]
theorem valid_back1 {L : Lay} (hc : checkF L = 0) {way : List Stp} (h : validF L way = true) : validF L (reverseF way) = true := by
  rw [valid_parts] at h ⊢
  simp only [Bool.and_eq_true] at h ⊢
  obtain ⟨h1, h2, h3, h4, h5⟩ := h
  refine ⟨by simpa [reverseF] using h1, by simpa [reverseF] using h2, by rw [possible_back]; exact h3, con_back hc h4, sim_back h5⟩
theorem valid_back {L : Lay} (hc : checkF L = 0) (way : List Stp) : validF L (reverseF way) = validF L way := by
  rw [Bool.eq_iff_iff]
  constructor
  · intro h
    have := valid_back1 hc h
    rwa [back_back] at this
  · exact valid_back1 hc

/-! Lengths. -/
def sumL (els : List Elem) : List Stp → Int
  | [] => 0
  | s :: r => lenS els s + sumL els r
theorem len_sum (els : List Elem) : ∀ (way : List Stp) (n : Int), lenR els n way = n + sumL els way
  | [], n => by simp [lenR, sumL]
  | s :: r, n => by rw [lenR, len_sum els r, sumL]; omega
theorem length_sum (els : List Elem) (way : List Stp) : lengthF els way = sumL els way := by rw [lengthF, len_sum]; omega
theorem sum_append (els : List Elem) : ∀ (l m : List Stp), sumL els (l ++ m) = sumL els l + sumL els m
  | [], m => by simp [sumL]
  | s :: r, m => by rw [List.cons_append, sumL, sumL, sum_append els r m]; omega
theorem sum_back (els : List Elem) : ∀ (way : List Stp), sumL els (reverseF way) = sumL els way
  | [] => rfl
  | s :: r => by
    have e : reverseF (s :: r) = reverseF r ++ [turned s] := by rw [reverseF, List.map_cons, List.reverse_cons]; rfl
    rw [e, sum_append, sum_back els r, sumL, sumL, sumL]
    have : lenS els (turned s) = lenS els s := rfl
    omega
theorem length_back (els : List Elem) (way : List Stp) : lengthF els (reverseF way) = lengthF els way := by rw [length_sum, length_sum, sum_back]

/-! Sections. -/
theorem sec_mem {els : List Elem} {x : Int} : ∀ {way : List Stp} {acc : List Int}, x ∈ secR els acc way ↔ x ∈ acc ∨ ∃ s ∈ way, ∃ y, elOf els s.1 = some y ∧ y.sec = x
  | [], acc => by simp [secR]
  | s :: r, acc => by
    have hr := fun acc => sec_mem (els := els) (x := x) (way := r) (acc := acc)
    cases h : elOf els s.1 with
    | none =>
      rw [secR, h, hr]
      simp [h]
    | some y =>
      rw [secR, h]
      simp only
      split
      · rename_i hc
        rw [hr]
        have hc2 : y.sec ∈ acc := by simpa using hc
        simp only [List.mem_cons, exists_eq_or_imp, h, Option.some.injEq, exists_eq_left']
        constructor
        · rintro (h1 | h1)
          · exact .inl h1
          · exact .inr (.inr h1)
        · rintro (h1 | h1 | h1)
          · exact .inl h1
          · exact .inl (h1 ▸ hc2)
          · exact .inr h1
      · rw [hr]
        simp only [List.mem_append, List.mem_cons, List.not_mem_nil, or_false, exists_eq_or_imp, h, Option.some.injEq, exists_eq_left']
        constructor
        · rintro ((h1 | h1) | h1)
          · exact .inl h1
          · exact .inr (.inl h1.symm)
          · exact .inr (.inr h1)
        · rintro (h1 | h1 | h1)
          · exact .inl (.inl h1)
          · exact .inl (.inr h1.symm)
          · exact .inr h1
theorem sec_nodup {els : List Elem} : ∀ {way : List Stp} {acc : List Int}, acc.Nodup → (secR els acc way).Nodup
  | [], acc, h => h
  | s :: r, acc, h => by
    rw [secR]
    split
    · exact sec_nodup h
    · rename_i y _
      split
      · exact sec_nodup h
      · rename_i hc
        refine sec_nodup ?_
        rw [List.nodup_append]
        refine ⟨h, by simp, fun a ha b hb => ?_⟩
        rw [List.mem_singleton.1 hb]
        rintro rfl
        exact hc (by simpa using ha)
theorem nodup_len : ∀ {l m : List Int}, l.Nodup → (∀ x ∈ l, x ∈ m) → l.length ≤ m.length
  | [], m, _, _ => by simp
  | x :: r, m, h, hm => by
    rw [List.nodup_cons] at h
    have hx := hm x List.mem_cons_self
    have ih := nodup_len (l := r) (m := m.erase x) h.2 (fun y hy => by
      have hne : y ≠ x := fun e => h.1 (e ▸ hy)
      exact (List.mem_erase_of_ne hne).2 (hm y (List.mem_cons_of_mem _ hy)))
    rw [List.length_erase_of_mem hx] at ih
    have := List.length_pos_of_mem hx
    rw [List.length_cons]
    omega
theorem sections_back (els : List Elem) (way : List Stp) : (∀ x, x ∈ sectionsF els (reverseF way) ↔ x ∈ sectionsF els way) ∧ (sectionsF els (reverseF way)).length = (sectionsF els way).length := by
  have hm : ∀ x, x ∈ sectionsF els (reverseF way) ↔ x ∈ sectionsF els way := fun x => by
    rw [sectionsF, sectionsF, sec_mem, sec_mem]
    simp only [List.not_mem_nil, false_or]
    constructor
    · rintro ⟨s, hs, h⟩
      exact ⟨turned s, back_mem.1 hs, h⟩
    · rintro ⟨s, hs, h⟩
      exact ⟨turned s, back_mem.2 hs, h⟩
  refine ⟨hm, Nat.le_antisymm ?_ ?_⟩
  · exact nodup_len (sec_nodup List.nodup_nil) fun x hx => (hm x).1 hx
  · exact nodup_len (sec_nodup List.nodup_nil) fun x hx => (hm x).2 hx
theorem settings_back (els : List Elem) (way : List Stp) : settingsF els (reverseF way) = settingsF els way := by
  obtain ⟨a1, a2⟩ := settings_str els (reverseF way)
  obtain ⟨b1, b2⟩ := settings_str els way
  refine str_eq a1 b1 fun x => ?_
  rw [a2, b2, raw_mem, raw_mem]
  constructor
  · rintro ⟨s, hs, h⟩
    exact ⟨turned s, back_mem.1 hs, by rw [need_turned]; exact h⟩
  · rintro ⟨s, hs, h⟩
    exact ⟨turned s, back_mem.2 hs, by rw [need_turned]; exact h⟩

end Go.Proofs.YtjhimekojiegjaaDoor.Wplr

/- The statements' within (walk). -/
namespace Go.Proofs.YtjhimekojiegjaaDoor.Wwit
open Go.RowKit Go.Lib Go.Proofs.YtjhimekojiegjaaDoor.Reads Go.Proofs.YtjhimekojiegjaaDoor.Rows2 Go.Proofs.YtjhimekojiegjaaDoor.Lay Go.Proofs.YtjhimekojiegjaaDoor.Layf Go.Proofs.YtjhimekojiegjaaDoor.Ldup Go.Proofs.YtjhimekojiegjaaDoor.Wmea Go.Proofs.YtjhimekojiegjaaDoor.Wbra

/-- Each number of a list is in another one. -/
def witB (a b : List Int) : Bool := a.all fun x => b.contains x
theorem wit_all {a b : List Int} (h : ∀ x ∈ a, x ∈ b) : witB a b = true := by
  rw [witB, List.all_eq_true]
  intro x hx
  simpa using h x hx
theorem has_next {b : List Int} {k : Nat} {x y : Int} (hy : b[k]? = some y) : (b.take (k + 1)).contains x = ((b.take k).contains x || (x == y)) := by
  rw [take_next hy, Bool.eq_iff_iff]
  simp

set_option maxRecDepth 100000 in
set_option maxHeartbeats 1600000 in
theorem within_any {va vb : Value} {ls ms : List Int} {w : World} (h : Reads w.heap.size w va ls) (hy : Reads w.heap.size w vb ms) :
    Calls Tryd.prog 28 #[va, vb] w (BoolOut (witB ls ms) w) := by
  obtain ⟨a, cap, rfl, hm, hc⟩ := ints_shape h
  obtain ⟨a2, cap2, rfl, hm2, hc2⟩ := ints_shape hy
  have HC := Lib.hid hc
  have HC2 := Lib.hid hc2
  obtain ⟨r, hr⟩ : ∃ r, witB ls ms = r := ⟨_, rfl⟩
  rw [hr]
  have HR := Lib.hid (show ((ls.drop 0).all fun x => ms.contains x) = r from hr)
  clear h hy hc hc2 hr
  go_enter Tryd.func28, Tryd.ntmps28
  go_wp2_with fail
  go_loopw [12] (fun vj wr => ∃ j : Nat, vj = .int .i64 (j : Int) ∧ j ≤ ls.length ∧ ((ls.drop j).all fun x => ms.contains x) = r ∧ wr = w) (fun vj _ => ls.length - (RowKit.intOf vj).toNat)
  case atStart => exact ⟨0, rfl, Nat.zero_le _, HR.out, rfl⟩
  case round =>
    obtain ⟨j, rfl, hj, hr, rfl⟩ := hrel
    have HJ := Lib.hid hr
    clear hr
    by_cases hlt : j < ls.length
    · obtain ⟨x, hx⟩ := at_lt hlt
      obtain ⟨b, off, rfl, _, c0⟩ := HC.out j x hx
      rw [Layf.drop_at hx, List.all_cons] at HJ
      have HT := Lib.hid (show (ms.take ms.length).contains x = ms.contains x by rw [List.take_length])
      clear hx
      go_wp2_with fail
      obtain ⟨W1, rfl⟩ : ∃ g, g = wr := ⟨_, rfl⟩
      go_loopw [7, 18] (fun vf vk wk => ∃ (k : Nat) (f : Bool), vk = .int .i64 (k : Int) ∧ k ≤ ms.length ∧ vf = .bool f ∧ f = (ms.take k).contains x ∧ wk = W1) (fun _ vk _ => ms.length - (RowKit.intOf vk).toNat)
      case atStart => exact ⟨0, false, rfl, Nat.zero_le _, rfl, by simp, rfl⟩
      case round =>
        obtain ⟨k, f, rfl, hk, rfl, hf, rfl⟩ := hrel
        have HFK := Lib.hid hf
        clear hf
        by_cases hkl : k < ms.length
        · obtain ⟨y, hy⟩ := at_lt hkl
          obtain ⟨b2, off2, rfl, _, d0⟩ := HC2.out k y hy
          have HNX := Lib.hid (has_next (x := x) hy)
          clear hy
          cases f with
          | true =>
            have HN := Lib.hid (show true = (ms.take (k + 1)).contains x by rw [HNX.out, ← HFK.out]; rfl)
            go_wp2_with fail
            go_roundw
            case rel => exact ⟨k + 1, true, by simp, hkl, rfl, HN.out, by simp⟩
            case measure => simp [RowKit.intOf]; omega
          | false =>
            by_cases hxy : x = y
            · subst hxy
              have HN := Lib.hid (show true = (ms.take (k + 1)).contains x by rw [HNX.out]; simp)
              go_wp2_with fail
              go_roundw
              case rel => exact ⟨k + 1, true, by simp, hkl, by simp, HN.out, by simp⟩
              case measure => simp [RowKit.intOf]; omega
            · have hq : (x == y) = false := by simpa using hxy
              have HN := Lib.hid (show false = (ms.take (k + 1)).contains x by rw [HNX.out, ← HFK.out, hq]; rfl)
              clear hxy
              go_wp2_with fail
              go_roundw
              case rel => exact ⟨k + 1, false, by simp, hkl, by simp, HN.out, by simp⟩
              case measure => simp [RowKit.intOf]; omega
        · have he : k = ms.length := by omega
          subst he
          have HFK2 := Lib.hid (HFK.out.trans HT.out)
          cases f with
          | true =>
            have HF := Lib.hid (show ((ls.drop (j + 1)).all fun x => ms.contains x) = r by rw [← HJ.out, ← HFK2.out, Bool.true_and])
            go_wp2_with fail
            go_roundw
            case rel => exact ⟨j + 1, by simp, by omega, HF.out, by simp⟩
            case measure => simp [RowKit.intOf]; omega
          | false =>
            have HF := Lib.hid (show r = false by rw [← HJ.out, ← HFK2.out, Bool.false_and])
            go_wp2_with fail
            go_ret
            exact ⟨by rw [HF.out]; rfl, Below.refl _ _⟩
    · have he : j = ls.length := by omega
      subst he
      have HF := Lib.hid (show r = true by rw [← HJ.out, List.drop_length]; rfl)
      go_wp2_with fail
      go_ret
      exact ⟨by rw [HF.out]; rfl, Below.refl _ _⟩

end Go.Proofs.YtjhimekojiegjaaDoor.Wwit
