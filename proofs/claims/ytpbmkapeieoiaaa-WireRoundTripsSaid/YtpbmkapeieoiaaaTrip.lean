/- Encodings are decoded to their values, and beginnings of them are truncated: plain facts on texts. -/
import Derived.Test.YtpbmkapeieoiaaaFacts
namespace Go.Proofs.Ytpbmkapeieoiaaa.Facts
open Go.RowKit hiding intOf
open Go.Lib Go.Proofs.Ytpbmkapeieoiaaa.Var Go.Proofs.Ytpbmkapeieoiaaa.Uints Go.Proofs.Ytpbmkapeieoiaaa.Takes Go.Proofs.Ytpbmkapeieoiaaa.Build Go.Proofs.Ytpbmkapeieoiaaa.Reads Go.Proofs.Ytpbmkapeieoiaaa.Ints

theorem tu_str {A B : List UInt8} {n k e : Nat} (h : scan 0 0 B = (n, k, e)) : tu (str (A ++ B)) (A.length : Int) = (n, if e = 0 then A.length + k else 0, e) := by
  have hs : (str (A ++ B)).size = A.length + B.length := by rw [str_size]; simp
  rw [tu, if_neg (by omega), Int.toNat_natCast, list_str, List.drop_left, h]

/-- A number between other bytes. -/
theorem tu_trip (A C : List UInt8) {n : Nat} (hn : n < 18446744073709551616) : tu (str (A ++ (uvarint n ++ C))) (A.length : Int) = (n, A.length + (uvarint n).length, 0) := by
  have h := scan_enc n 0 0 C (.inl rfl) (by simpa using hn) (by omega)
  rw [tu_str h]
  simp
/-- The beginning of a number. -/
theorem tu_short (A : List UInt8) {n j : Nat} (hn : n < 18446744073709551616) (hj : j < (uvarint n).length) : tu (str (A ++ (uvarint n).take j)) (A.length : Int) = (0, 0, 5) := by
  have h := scan_cut n 0 0 j (.inl rfl) (by simpa using hn) (by omega) hj
  rw [tu_str h]
  simp

theorem tis_trip : ∀ (vs : List Int) (A C : List UInt8) (acc : List Int), (∀ x ∈ vs, (Lit.int .i64 x).wf = true) → tis (str (A ++ (flat vs ++ C))) vs.length acc A.length = (acc ++ vs, A.length + (flat vs).length, 0)
  | [], A, C, acc, _ => by simp [tis, flat]
  | x :: vs, A, C, acc, h => by
    have hx := wf_bounds (h x (by simp))
    have hf : flat (x :: vs) = uvarint (zigzag x) ++ flat vs := rfl
    have h1 := tu_trip A (flat vs ++ C) (zigzag_lt hx.1 hx.2)
    rw [hf, List.append_assoc, List.length_cons, tis_more h1, unzig_zigzag]
    have ih := tis_trip vs (A ++ uvarint (zigzag x)) C (acc ++ [x]) (fun y hy => h y (by simp [hy]))
    rw [List.append_assoc, List.length_append] at ih
    rw [ih]
    simp [Nat.add_assoc]

theorem tis_short : ∀ (vs : List Int) (A : List UInt8) (acc : List Int) (j : Nat), (∀ x ∈ vs, (Lit.int .i64 x).wf = true) → j < (flat vs).length → tis (str (A ++ (flat vs).take j)) vs.length acc A.length = ([], 0, 5)
  | [], A, acc, j, _, hj => by simp [flat] at hj
  | x :: vs, A, acc, j, h, hj => by
    have hx := wf_bounds (h x (by simp))
    have hz := zigzag_lt hx.1 hx.2
    have hf : flat (x :: vs) = uvarint (zigzag x) ++ flat vs := rfl
    rw [hf] at hj ⊢
    rw [List.length_append] at hj
    by_cases hlt : j < (uvarint (zigzag x)).length
    · rw [List.take_append_of_le_length (by omega), List.length_cons]
      exact tis_bad (tu_short A hz hlt) (by decide)
    · have e : (uvarint (zigzag x) ++ flat vs).take j = uvarint (zigzag x) ++ (flat vs).take (j - (uvarint (zigzag x)).length) := by
        rw [List.take_append, List.take_of_length_le (by omega)]
      rw [e, List.length_cons, tis_more (tu_trip A _ hz), unzig_zigzag]
      have ih := tis_short vs (A ++ uvarint (zigzag x)) (acc ++ [x]) (j - (uvarint (zigzag x)).length) (fun y hy => h y (by simp [hy])) (by omega)
      rw [List.append_assoc, List.length_append] at ih
      exact ih

theorem flat_ge (l : List Int) : l.length ≤ (flat l).length := by
  induction l with
  | nil => simp [flat]
  | cons x l ih =>
    have hf : flat (x :: l) = uvarint (zigzag x) ++ flat l := rfl
    rw [hf, List.length_append, List.length_cons]
    have := uvarint_pos (zigzag x)
    omega

/-- A length between other bytes. -/
theorem tc_trip (A C : List UInt8) {n : Nat} {most : Int} (hn : n < 18446744073709551616) (hm : (n : Int) ≤ most) (hc : n ≤ C.length) : tc (str (A ++ (uvarint n ++ C))) (A.length : Int) most = (n, A.length + (uvarint n).length, 0) := by
  rw [tc_cases (tu_trip A C hn), if_neg (by simp), if_neg (by omega), if_neg]
  rw [str_size]
  simp
  omega
theorem tc_lack (A C : List UInt8) {n : Nat} {most : Int} (hn : n < 18446744073709551616) (hm : (n : Int) ≤ most) (hc : C.length < n) : tc (str (A ++ (uvarint n ++ C))) (A.length : Int) most = (0, 0, 5) := by
  rw [tc_cases (tu_trip A C hn), if_neg (by simp), if_neg (by omega), if_pos]
  rw [str_size]
  simp
  omega
theorem tc_short (A : List UInt8) {n j : Nat} {most : Int} (hn : n < 18446744073709551616) (hj : j < (uvarint n).length) : tc (str (A ++ (uvarint n).take j)) (A.length : Int) most = (0, 0, 5) := by
  rw [tc_cases (tu_short A hn hj), if_pos (by decide)]

theorem tl_trip (l : List Int) (A C : List UInt8) {most : Int} (hw : ∀ x ∈ l, (Lit.int .i64 x).wf = true) (hl : l.length ≤ 100000) (hm : (l.length : Int) ≤ most) : tl (str (A ++ (listB l ++ C))) (A.length : Int) most = (l, A.length + (listB l).length, 0) := by
  have hg := flat_ge l
  unfold listB
  rw [List.append_assoc]
  rw [tl_go (tc_trip A (flat l ++ C) (by omega) hm (by simp; omega))]
  have := tis_trip l (A ++ uvarint l.length) C [] hw
  rw [List.append_assoc, List.length_append] at this
  rw [this]
  simp [Nat.add_assoc]
theorem tl_short (l : List Int) {j : Nat} (hw : ∀ x ∈ l, (Lit.int .i64 x).wf = true) (hl : l.length ≤ 400) (hj : j < (listB l).length) : tl (str ((listB l).take j)) 0 400 = ([], 0, 5) := by
  unfold listB at hj ⊢
  rw [List.length_append] at hj
  by_cases hlt : j < (uvarint l.length).length
  · rw [List.take_append_of_le_length (by omega)]
    exact tl_bad (tc_short [] (by omega) hlt) (by decide)
  · have e : (uvarint l.length ++ flat l).take j = uvarint l.length ++ (flat l).take (j - (uvarint l.length).length) := by
      rw [List.take_append, List.take_of_length_le (by omega)]
    rw [e]
    by_cases hk : ((flat l).take (j - (uvarint l.length).length)).length < l.length
    · exact tl_bad (tc_lack [] _ (by omega) (by omega) hk) (by decide)
    · have h1 := tc_trip [] ((flat l).take (j - (uvarint l.length).length)) (n := l.length) (most := 400) (by omega) (by omega) (by omega)
      have h2 := tl_go h1
      rw [show tl (str (uvarint l.length ++ (flat l).take (j - (uvarint l.length).length))) 0 400 = tl (str ([] ++ (uvarint l.length ++ (flat l).take (j - (uvarint l.length).length)))) (([] : List UInt8).length : Int) 400 from rfl, h2]
      have := tis_short l (uvarint l.length) [] (j - (uvarint l.length).length) hw (by omega)
      simpa using this

/-- The bytes of a text. -/
def textB (s : ByteArray) : List UInt8 := uvarint s.size ++ s.data.toList
theorem textS_str (s : ByteArray) : textS s = str (textB s) := by
  unfold textS textB
  show ByteArray.mk _ ++ s = ByteArray.mk _
  apply ByteArray.ext
  simp [ByteArray.data_append]
theorem tc_text (A C : List UInt8) (s : ByteArray) (hs : s.size ≤ 100000) : tc (str (A ++ (textB s ++ C))) (A.length : Int) (s.size : Int) = (s.size, A.length + (uvarint s.size).length, 0) := by
  unfold textB
  rw [List.append_assoc]
  exact tc_trip A _ (by omega) (Int.le_refl _) (by rw [List.length_append, size_list]; omega)
theorem part_text (A C : List UInt8) (s : ByteArray) : Takes.part (str (A ++ (textB s ++ C))) (A.length + (uvarint s.size).length) (A.length + (uvarint s.size).length + s.size) = s.data.toList := by
  unfold Takes.part textB
  rw [list_str, Nat.add_sub_cancel_left]
  have e : A ++ (uvarint s.size ++ s.data.toList ++ C) = (A ++ uvarint s.size) ++ (s.data.toList ++ C) := by simp
  rw [e, show A.length + (uvarint s.size).length = (A ++ uvarint s.size).length by simp, List.drop_left, show s.size = s.data.toList.length from (size_list s).symm, List.take_left]
theorem tc_text_short (s : ByteArray) {j : Nat} (hs : s.size ≤ 400) (hj : j < (textB s).length) : tc (str ((textB s).take j)) 0 400 = (0, 0, 5) := by
  unfold textB at hj ⊢
  rw [List.length_append, size_list] at hj
  by_cases hlt : j < (uvarint s.size).length
  · rw [List.take_append_of_le_length (by omega)]
    exact tc_short [] (by omega) hlt
  · have e : (uvarint s.size ++ s.data.toList).take j = uvarint s.size ++ s.data.toList.take (j - (uvarint s.size).length) := by
      rw [List.take_append, List.take_of_length_le (by omega)]
    rw [e]
    exact tc_lack [] _ (by omega) (by omega) (by have := size_list s; simp only [List.length_take, this]; omega)

end Go.Proofs.Ytpbmkapeieoiaaa.Facts
