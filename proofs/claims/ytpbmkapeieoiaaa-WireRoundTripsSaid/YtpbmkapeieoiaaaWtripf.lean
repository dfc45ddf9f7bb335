/- Encodings between other texts, decoded: the calls. -/
import Derived.Test.YtpbmkapeieoiaaaWenc
namespace Go.Proofs.Ytpbmkapeieoiaaa.Values
open Go.RowKit hiding intOf
open Go.Lib Go.Sort Go.Proofs.Ytpbmkapeieoiaaa.Var Go.Proofs.Ytpbmkapeieoiaaa.Uints Go.Proofs.Ytpbmkapeieoiaaa.Takes Go.Proofs.Ytpbmkapeieoiaaa.Build Go.Proofs.Ytpbmkapeieoiaaa.Reads Go.Proofs.Ytpbmkapeieoiaaa.Ints Go.Proofs.Ytpbmkapeieoiaaa.Facts

theorem cat3 (p q : ByteArray) (B : List UInt8) : p ++ str B ++ q = str (p.data.toList ++ (B ++ q.data.toList)) := by
  apply ByteArray.ext
  simp [str, ByteArray.data_append]
theorem cat3_size (p q E : ByteArray) : (p ++ E ++ q).size = p.size + E.size + q.size := by simp [ByteArray.size_append]
theorem add1 {P : Program} (w : World) (p E : ByteArray) (hp : p.size ≤ 400) (hE : E.size ≤ 5000) : (Op.stringOp .add p E).run P w = .ok (.string (p ++ E)) w := run_string_add_sum w _ _ (by omega)
theorem add2 {P : Program} (w : World) (p E q : ByteArray) (hp : p.size ≤ 400) (hE : E.size ≤ 5000) (hq : q.size ≤ 400) : (Op.stringOp .add (p ++ E) q).run P w = .ok (.string (p ++ E ++ q)) w :=
  run_string_add_sum w _ _ (by rw [ByteArray.size_append]; omega)

section
variable {p q : ByteArray} (hp : p.size ≤ 400) (hq : q.size ≤ 400)
include hp hq
theorem trip_uint {u : Nat} (hu : u < 18446744073709551616) (w : World) :
    Calls Try.prog 22 #[.string (p ++ enc u ++ q), .int .i64 (p.size : Int)] w fun e w' => e = .returned (.tuple #[.int .u64 (u : Int), .int .i64 ((p.size : Int) + ((enc u).size : Int)), .int .i64 0]) ∧ Below w.heap.size w w' := by
  have hE := (enc_len1 hu).2
  have h := takeUint_any (p ++ enc u ++ q) (p.size : Int) w (by rw [cat3_size]; omega)
  have e : tu (p ++ enc u ++ q) (p.size : Int) = (u, p.size + (enc u).size, 0) := by
    rw [enc_size', show p ++ enc u ++ q = str (p.data.toList ++ (uvarint u ++ q.data.toList)) from cat3 p q _, ← size_list p]
    exact tu_trip _ _ hu
  rw [tuV_of e, show ((p.size + (enc u).size : Nat) : Int) = (p.size : Int) + ((enc u).size : Int) by omega] at h
  exact h
theorem trip_int {n : Int} (hn : -9223372036854775808 ≤ n ∧ n ≤ 9223372036854775807) (w : World) :
    Calls Try.prog 24 #[.string (p ++ intS n ++ q), .int .i64 (p.size : Int)] w fun e w' => e = .returned (.tuple #[.int .i64 n, .int .i64 ((p.size : Int) + ((intS n).size : Int)), .int .i64 0]) ∧ Below w.heap.size w w' := by
  have hz := zigzag_lt hn.1 hn.2
  have hE : (intS n).size ≤ 5000 := (enc_len1 hz).2
  have h := takeInt_any (p ++ intS n ++ q) (p.size : Int) w (by rw [cat3_size]; omega)
  have e : tu (p ++ intS n ++ q) (p.size : Int) = (zigzag n, p.size + (intS n).size, 0) := by
    unfold intS
    rw [enc_size', show p ++ enc (zigzag n) ++ q = str (p.data.toList ++ (uvarint (zigzag n) ++ q.data.toList)) from cat3 p q _, ← size_list p]
    exact tu_trip _ _ hz
  rw [tiV_of e, unzig_zigzag, show ((p.size + (intS n).size : Nat) : Int) = (p.size : Int) + ((intS n).size : Int) by omega] at h
  exact h
theorem trip_bool (b : Bool) (w : World) :
    Calls Try.prog 26 #[.string (p ++ boolS b ++ q), .int .i64 (p.size : Int)] w fun e w' => e = .returned (.tuple #[.bool b, .int .i64 ((p.size : Int) + 1), .int .i64 0]) ∧ w = w' := by
  have hb : (boolS b).size = 1 := by cases b <;> rfl
  have h := takeBool_any (p ++ boolS b ++ q) (p.size : Int) w (by rw [cat3_size]; omega)
  have hg : (p ++ boolS b ++ q).data.toList.getD p.size 0 = if b then 1 else 0 := by
    have hl : p.size = p.data.toList.length := (size_list p).symm
    rw [hl, List.getD_eq_getElem?_getD]
    cases b <;> simp [ByteArray.data_append, boolS]
  have e : tbR (p ++ boolS b ++ q) (p.size : Int) = (b, (p.size : Int) + 1, 0) := by
    rw [tbR, if_neg (by rw [cat3_size]; omega), if_neg (by rw [cat3_size]; omega), Int.toNat_natCast, hg]
    cases b <;> rfl
  rw [tbV_of e] at h
  exact h
theorem trip_text {s : ByteArray} (hs : s.size ≤ 400) (w : World) :
    Calls Try.prog 28 #[.string (p ++ textS s ++ q), .int .i64 (p.size : Int), .int .i64 (s.size : Int)] w fun e w' => e = .returned (.tuple #[.string s, .int .i64 ((p.size : Int) + ((textS s).size : Int)), .int .i64 0]) ∧ Below w.heap.size w w' := by
  have hE := (text_len hs).2
  have h := takeText_any (p ++ textS s ++ q) (p.size : Int) (s.size : Int) w (by rw [cat3_size]; omega) (by omega)
  have e1 : p ++ textS s ++ q = str (p.data.toList ++ (textB s ++ q.data.toList)) := by rw [textS_str]; exact cat3 p q _
  have e : ttV (p ++ textS s ++ q) (p.size : Int) (s.size : Int) = .tuple #[.string s, .int .i64 ((p.size : Int) + ((textS s).size : Int)), .int .i64 0] := by
    have ht : (textS s).size = (uvarint s.size).length + s.size := by
      rw [text_size]
      unfold textB
      rw [List.length_append, size_list]
    rw [ht, e1, ← size_list p]
    have hc := tc_text p.data.toList q.data.toList s (by omega)
    simp only [ttV, hc]
    rw [if_neg (by simp), part_text, str_list]
    rw [show ((p.data.toList.length + (uvarint s.size).length + s.size : Nat) : Int) = (p.data.toList.length : Int) + (((uvarint s.size).length + s.size : Nat) : Int) by omega]
  rw [e] at h
  exact h
theorem trip_list {l : List Int} (hl : l.length ≤ 400) (hw : ∀ x ∈ l, (Lit.int .i64 x).wf = true) (w : World) :
    Calls Try.prog 32 #[.string (p ++ listS l ++ q), .int .i64 (p.size : Int), .int .i64 (l.length : Int)] w
      fun e w' => ∃ v, e = .returned (.tuple #[v, .int .i64 ((p.size : Int) + ((listS l).size : Int)), .int .i64 0]) ∧ Reads w'.heap.size w' v l ∧ Below w.heap.size w w' := by
  have hE := (list_len hl hw).2
  have h := takeInts_any (p ++ listS l ++ q) (p.size : Int) (l.length : Int) w (by rw [cat3_size]; omega) (by omega)
  have e : tl (p ++ listS l ++ q) (p.size : Int) (l.length : Int) = (l, p.size + (listS l).size, 0) := by
    rw [show (listS l).size = (listB l).length from str_size _, show p ++ listS l ++ q = str (p.data.toList ++ (listB l ++ q.data.toList)) from cat3 p q _, ← size_list p]
    exact tl_trip l _ _ hw (by omega) (Int.le_refl _)
  rw [e] at h
  refine h.mono fun e w' ⟨v, he, hr, hb⟩ => ⟨v, ?_, hr, hb⟩
  rw [he, show ((p.size + (listS l).size : Nat) : Int) = (p.size : Int) + ((listS l).size : Int) by omega]
  rfl
end

/-- The cells of a boxed value. -/
def Boxed (g : Nat) (W : World) (u n : Int) (b : Bool) (s : ByteArray) (v : Value) : Prop :=
  W.cell? ⟨g, 0, none⟩ = some (.int .u64 u) ∧ W.cell? ⟨g, 1, none⟩ = some (.int .i64 n) ∧ W.cell? ⟨g, 2, none⟩ = some (.bool b) ∧ W.cell? ⟨g, 3, none⟩ = some (.string s) ∧ W.cell? ⟨g, 4, none⟩ = some v
theorem Boxed.next {g : Nat} {W W' : World} {u n : Int} {b : Bool} {s : ByteArray} {v : Value} (h : Boxed g W u n b s v) (hb : Below W.heap.size W W') : Boxed g W' u n b s v := by
  have hg : g < W.heap.size := block_lt_of_cell h.1
  have key : ∀ j, W'.cell? ⟨g, j, none⟩ = W.cell? ⟨g, j, none⟩ := fun j => hb.cell (p := ⟨g, j, none⟩) hg
  exact ⟨(key 0).trans h.1, (key 1).trans h.2.1, (key 2).trans h.2.2.1, (key 3).trans h.2.2.2.1, (key 4).trans h.2.2.2.2⟩

end Go.Proofs.Ytpbmkapeieoiaaa.Values
