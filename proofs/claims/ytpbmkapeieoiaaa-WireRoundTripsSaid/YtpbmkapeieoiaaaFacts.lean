/- What decoding gives, and encodings: plain facts on texts. -/
import Derived.Test.YtpbmkapeieoiaaaTints
import Derived.Test.YtpbmkapeieoiaaaLists
namespace Go.Proofs.Ytpbmkapeieoiaaa.Facts
open Go.RowKit Go.Lib Go.Proofs.Ytpbmkapeieoiaaa.Var Go.Proofs.Ytpbmkapeieoiaaa.Uints Go.Proofs.Ytpbmkapeieoiaaa.Takes Go.Proofs.Ytpbmkapeieoiaaa.Build Go.Proofs.Ytpbmkapeieoiaaa.Reads Go.Proofs.Ytpbmkapeieoiaaa.Ints

theorem list_str (l : List UInt8) : (str l).data.toList = l := by simp [str]
theorem str_list (s : ByteArray) : str s.data.toList = s := by
  apply ByteArray.ext
  simp [str]
theorem enc_size' (n : Nat) : (enc n).size = (uvarint n).length := str_size _
theorem part_part {s : ByteArray} {a b c : Nat} (h1 : a ≤ b) (h2 : b ≤ c) : Takes.part s a b ++ Takes.part s b c = Takes.part s a c := by
  unfold Takes.part
  have e : s.data.toList.drop b = (s.data.toList.drop a).drop (b - a) := by rw [List.drop_drop]; congr 1; omega
  rw [e, show c - a = (b - a) + (c - b) by omega, List.take_add]

/-- A decoded number's part is its encoding. -/
theorem tu_exact {s : ByteArray} {t : Int} {n to : Nat} (h : tu s t = (n, to, 0)) : ∃ a : Nat, t = (a : Int) ∧ a ≤ to ∧ to ≤ s.size ∧ Takes.part s a to = uvarint n := by
  have hf := tu_facts h
  obtain ⟨a, rfl⟩ := Int.eq_ofNat_of_zero_le (hf.2.2.2.2 rfl).1
  refine ⟨a, rfl, by have := (hf.2.2.2.2 rfl).2; omega, hf.2.1, ?_⟩
  have hlt := (hf.2.2.2.2 rfl).2
  rw [tu, if_neg (by omega), Int.toNat_natCast] at h
  rcases scan_err (s.data.toList.drop a) 0 0 with h0 | h0 | h0
  · obtain ⟨m, e1, e2, e3, e4, _, e6⟩ := scan_exact (s.data.toList.drop a) 0 0 (by omega) h0
    simp only [h0, if_true] at h
    obtain ⟨g1, g2⟩ := Prod.mk.inj h
    obtain ⟨g3, g4⟩ := Prod.mk.inj g2
    have hnm : n = m := by rw [← g1, e1]; simp
    subst hnm
    unfold Takes.part
    rw [show to - a = (scan 0 0 (s.data.toList.drop a)).2.1 - 0 by omega]
    exact e2
  · simp [h0] at h
  · simp [h0] at h
theorem ext_str {s : ByteArray} {a b : Nat} {l : List UInt8} (h : Takes.part s a b = l) : s.extract a b = str l := by rw [← str_part, h]

/-- So is a decoded list's. -/
theorem tis_exact : ∀ (s : ByteArray) (k : Nat) (acc : List Int) (to : Nat) (l : List Int) (to' : Nat), to ≤ s.size → tis s k acc to = (l, to', 0) →
    ∃ vs, l = acc ++ vs ∧ vs.length = k ∧ to ≤ to' ∧ to' ≤ s.size ∧ Takes.part s to to' = flat vs
  | s, 0, acc, to, l, to', hs, h => by
    simp only [tis, Prod.mk.injEq] at h
    obtain ⟨rfl, rfl, _⟩ := h
    exact ⟨[], by simp, rfl, Nat.le_refl _, hs, by simp [Takes.part, flat]⟩
  | s, k + 1, acc, to, l, to', hs, h => by
    obtain ⟨⟨n, to1, e⟩, hT⟩ : ∃ r, tu s (to : Int) = r := ⟨_, rfl⟩
    by_cases he : e = 0
    · subst he
      rw [tis_more hT] at h
      obtain ⟨a, ha, h1, h2, h3⟩ := tu_exact hT
      obtain rfl : to = a := by omega
      obtain ⟨vs, g1, g2, g3, g4, g5⟩ := tis_exact s k _ to1 l to' h2 h
      refine ⟨unzig n :: vs, by rw [g1]; simp, by simp [g2], by omega, g4, ?_⟩
      rw [← part_part h1 g3, h3, g5]
      show _ = uvarint (zigzag (unzig n)) ++ flat vs
      rw [zigzag_unzig]
    · rw [tis_bad hT he] at h
      cases h
      exact absurd rfl he

/-- What a decoded text's part is, and a decoded list's. -/
theorem tc_exact {s : ByteArray} {t most : Int} {n to : Nat} (h : tc s t most = (n, to, 0)) : ∃ a : Nat, t = (a : Int) ∧ a ≤ to ∧ to + n ≤ s.size ∧ (n : Int) ≤ most ∧ Takes.part s a to = uvarint n := by
  obtain ⟨_, _, _, _, h4⟩ := tc_facts h
  obtain ⟨h5, _, _, h6, h7⟩ := h4 rfl
  obtain ⟨a, ha, h1, h2, h3⟩ := tu_exact h7
  exact ⟨a, ha, h1, h5, h6, h3⟩
theorem tl_exact {s : ByteArray} {t most : Int} {l : List Int} {to : Nat} (h : tl s t most = (l, to, 0)) : ∃ a : Nat, t = (a : Int) ∧ a ≤ to ∧ to ≤ s.size ∧ (l.length : Int) ≤ most ∧ Takes.part s a to = listB l := by
  obtain ⟨⟨n, to1, e⟩, hT⟩ : ∃ r, tc s t most = r := ⟨_, rfl⟩
  by_cases he : e = 0
  · subst he
    rw [tl_go hT] at h
    obtain ⟨a, ha, h1, h2, h3, h4⟩ := tc_exact hT
    obtain ⟨vs, g1, g2, g3, g4, g5⟩ := tis_exact s n [] to1 l to (by omega) h
    simp only [List.nil_append] at g1
    subst g1
    refine ⟨a, ha, by omega, g4, by omega, ?_⟩
    rw [← part_part h1 g3, h4, g5, listB, g2]
  · rw [tl_bad hT he] at h
    cases h
    exact absurd rfl he

theorem tb_exact {s : ByteArray} {t : Int} {b : Bool} {to : Int} (h : tbR s t = (b, to, 0)) : ∃ a : Nat, t = (a : Int) ∧ a < s.size ∧ to = (a : Int) + 1 ∧ s.extract a (a + 1) = boolS b := by
  unfold tbR at h
  split at h
  · cases h
  · rename_i ht
    split at h
    · cases h
    · rename_i h1
      obtain ⟨a, rfl⟩ := Int.eq_ofNat_of_zero_le (show 0 ≤ t by omega)
      have ha : a < s.size := by omega
      rw [Int.toNat_natCast] at h
      obtain ⟨c, hc⟩ : ∃ c, s.data.toList.getD a 0 = c := ⟨_, rfl⟩
      simp only [hc] at h
      split at h
      · cases h
      · rename_i h2
        simp only [Prod.mk.injEq, and_true] at h
        obtain ⟨h3, h4⟩ := h
        refine ⟨a, rfl, ha, h4.symm, ?_⟩
        have hp : Takes.part s a (a + 1) = [c] := by
          unfold Takes.part
          have hl : a < s.data.toList.length := by rw [size_list]; exact ha
          rw [List.drop_eq_getElem_cons hl, show a + 1 - a = 1 by omega]
          have : s.data.toList.getD a 0 = s.data.toList[a] := by rw [List.getD_eq_getElem?_getD, List.getElem?_eq_getElem hl]; rfl
          rw [← hc, this]
          simp
        rw [ext_str hp]
        have hcc : c.toNat = 0 ∨ c.toNat = 1 := by omega
        rcases hcc with h0 | h0
        · have e : c = 0 := UInt8.toNat_inj.1 h0
          subst e
          have : b = false := by rw [← h3]; rfl
          subst this
          rfl
        · have e : c = 1 := UInt8.toNat_inj.1 h0
          subst e
          have : b = true := by rw [← h3]; rfl
          subst this
          rfl

end Go.Proofs.Ytpbmkapeieoiaaa.Facts
