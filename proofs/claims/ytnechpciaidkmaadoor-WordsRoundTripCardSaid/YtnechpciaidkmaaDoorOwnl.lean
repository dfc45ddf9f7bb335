/- Lists of lines that a call builds: what it owns, and what its lines are read from. -/
import Derived.Test.YtnechpciaidkmaaDoorRows2
import Derived.Test.YtnechpciaidkmaaDoorDebw
import Derived.Test.YtnechpciaidkmaaDoorShelf
import Derived.Maps.AppendAt
namespace Go.Proofs.YtnechpciaidkmaaDoor.Ownl
open Go.RowKit Go.Lib Go.Proofs.YtnechpciaidkmaaDoor.Text Go.Proofs.YtnechpciaidkmaaDoor.Reads Go.Proofs.YtnechpciaidkmaaDoor.Rows2 Go.Proofs.YtnechpciaidkmaaDoor.Debw

theorem infoS : (Tryd.prog.info? 9).map (fun i => (i.zero, i.size, i.bytes)) = some (some (.string ByteArray.empty), 1, 16) := by kernel_rfl
theorem infoL : (Tryd.prog.info? 33).map (fun i => (i.zero, i.size, i.bytes)) = some (some (.slice none 0 0), 1, 24) := by kernel_rfl
theorem infoI : (Tryd.prog.info? 3).map (fun i => (i.zero, i.size, i.bytes)) = some (some (.int .i64 0), 1, 8) := by kernel_rfl

theorem grown_of_below {w w' : World} (h : Below w.heap.size w w') (row : Option Nat) : w.grownBy w' row := ⟨h.os, h.tape, h.output, h.size, fun k hk _ => h.block k hk⟩

/-- The slice v of the call's own holds lists that read as ls, none of them from v's own block nor from block no. -/
def OwnL (B : Nat) (w : World) (v : Value) (ls : List (List (List UInt8))) (no : Option Nat) : Prop :=
  ∃ xs : List Value, w.ownsRow B 33 1 v ls.length xs ∧ (v.ownBlock = none ∨ v.ownBlock ≠ no) ∧
    ∀ (j : Nat) (x : Value) (l : List (List UInt8)), xs[j]? = some x → ls[j]? = some l → Strs (fun b => b < w.heap.size ∧ some b ≠ v.ownBlock ∧ some b ≠ no) w x l

theorem ownL_nil (B : Nat) (w : World) (no : Option Nat) : OwnL B w (.slice none 0 0) [] no := ⟨[], World.ownsRow_nil _ _ _ _, .inl rfl, fun j x l hx _ => by simp at hx⟩
theorem OwnL.other {B : Nat} {w w' : World} {v : Value} {ls : List (List (List UInt8))} {no no' : Option Nat} (h : OwnL B w v ls no) (hg : w.grownBy w' no) (hn : no' = no ∨ no' = none ∨ ∃ k, no' = some k ∧ w.heap.size ≤ k) : OwnL B w' v ls no' := by
  obtain ⟨xs, h1, h2, h3⟩ := h
  refine ⟨xs, h1.kept hg h2, ?_, fun j x l hx hl => (h3 j x l hx hl).keep fun b ⟨hb1, hb2, hb3⟩ => ⟨⟨Nat.lt_of_lt_of_le hb1 hg.size, hb2, ?_⟩, hg.block b hb1 hb3⟩⟩
  · cases hv : v.ownBlock with
    | none => exact .inl rfl
    | some g =>
      right
      have hlt := (h1.lt g hv).2
      rcases hn with rfl | rfl | ⟨k, rfl, hk⟩
      · rw [hv] at h2
        rcases h2 with h2 | h2
        · cases h2
        · exact h2
      · simp
      · simp; omega
  · rcases hn with rfl | rfl | ⟨k, rfl, hk⟩
    · exact hb3
    · simp
    · simp; omega
theorem OwnL.next {B : Nat} {w w' : World} {v : Value} {ls : List (List (List UInt8))} {no : Option Nat} (h : OwnL B w v ls no) (hb : Below w.heap.size w w') : OwnL B w' v ls no := h.other (grown_of_below hb no) (.inl rfl)
theorem ownL_push {B : Nat} {wr w1 : World} {v v1 x : Value} {ls : List (List (List UInt8))} {l : List (List UInt8)} {no : Option Nat} {T : TypeId} (hx : Strs (fun b => b < wr.heap.size ∧ some b ≠ v.ownBlock) wr x l)
    {xs : List Value} (h1 : w1.ownsRow B 33 1 v1 (ls.length + 1) (xs ++ [x])) (hxs : ∀ (j : Nat) (x : Value) (l : List (List UInt8)), xs[j]? = some x → ls[j]? = some l → Strs (fun b => b < wr.heap.size ∧ some b ≠ v.ownBlock ∧ some b ≠ no) wr x l)
    (hg : (wr.alloc (.cells #[x] T)).grownBy w1 v.ownBlock) (hblk : v1.ownBlock = v.ownBlock ∨ v1.ownBlock = some (wr.alloc (.cells #[x] T)).heap.size) : OwnL B w1 v1 (ls ++ [l]) none := by
  have hal : ∀ b, b < wr.heap.size → some b ≠ v.ownBlock → (b < w1.heap.size ∧ some b ≠ v1.ownBlock ∧ some b ≠ none) ∧ w1.heap[b]? = wr.heap[b]? := by
    intro b hb hne
    have hs : (wr.alloc (.cells #[x] T)).heap.size = wr.heap.size + 1 := by simp
    have hsz := hg.size
    refine ⟨⟨by omega, ?_, by simp⟩, ?_⟩
    · rcases hblk with e | e
      · rw [e]; exact hne
      · rw [e, hs]; simp; omega
    · rw [hg.block b (by omega) hne]
      exact (((Below.refl _ wr).alloc (Nat.le_refl _) (.cells #[x] T)).block b hb)
  have hlen : xs.length = ls.length := by
    have := h1.1
    simp at this
    omega
  refine ⟨xs ++ [x], by rw [List.length_append]; exact h1, ?_, fun j y m hy hm => ?_⟩
  · cases v1.ownBlock with
    | none => exact .inl rfl
    | some g => exact .inr (by simp)
  · by_cases hj : j < xs.length
    · rw [List.getElem?_append_left hj] at hy
      rw [List.getElem?_append_left (by omega)] at hm
      exact (hxs j y m hy hm).keep fun b ⟨hb1, hb2, _⟩ => hal b hb1 hb2
    · rw [List.getElem?_append_right (by omega)] at hy hm
      have h0 : j = xs.length := by
        rcases Nat.lt_or_eq_of_le (Nat.le_of_not_lt hj) with h | h
        · rw [List.getElem?_eq_none (by simp; omega)] at hy
          cases hy
        · exact h.symm
      subst h0
      rw [← hlen] at hm
      simp at hy hm
      subst hy hm
      exact hx.keep fun b ⟨hb1, hb2⟩ => hal b hb1 hb2
theorem OwnL.lns {B : Nat} {w : World} {v : Value} {ls : List (List (List UInt8))} {no : Option Nat} (h : OwnL B w v ls no) : Lns (fun b => b < w.heap.size) w v ls := by
  obtain ⟨xs, h1, _, h3⟩ := h
  have hlen : xs.length = ls.length := by
    have := h1.1
    simp at this
    omega
  rw [← hlen] at h1
  exact ⟨xs, row_own h1 (fun g _ hg => hg), hlen, fun j x l hx hl => (h3 j x l hx hl).keep fun b hb => ⟨hb.1, rfl⟩⟩

/-! The library's Cut and Split at one byte. -/
theorem cut_any (c : UInt8) (l : (List UInt8)) (w : World) (hl : l.length ≤ 1000000) (hdeb : Deb w) :
    Calls Tryd.prog 29 #[.string (bs l), .string ⟨#[c]⟩] w fun e w' => e = .returned (.tuple #[.string (bs (Lib.cut l [c]).1), .string (bs (Lib.cut l [c]).2.1), .bool (Lib.cut l [c]).2.2]) ∧ Below w.heap.size w w' := by
  obtain ⟨⟨m, hm⟩, _⟩ := hdeb
  refine (Tryd.strings_Cut (bs l) ⟨#[c]⟩ m w (by rw [bs_size]; omega) hm).mono ?_
  rintro e w' ⟨rfl, n, rfl⟩
  exact ⟨rfl, below_drewN (Below.refl _ _) _⟩
/-- What Split hands back: the parts, in a block of its own. -/
def SplitOut (c : UInt8) (l : (List UInt8)) (w : World) (e : Ending) (w' : World) : Prop :=
  ∃ v, e = .returned v ∧ Strs (fun b => w.heap.size ≤ b ∧ b < w'.heap.size) w' v (parts c [] l) ∧ Below w.heap.size w w'
theorem split_any (c : UInt8) (l : (List UInt8)) (w : World) (hl : l.length ≤ 1000000) (hdeb : Deb w) :
    Calls Tryd.prog 30 #[.string (bs l), .string ⟨#[c]⟩] w (SplitOut c l w) := by
  obtain ⟨⟨m, hm⟩, _⟩ := hdeb
  refine (Tryd.strings_Split (bs l) ⟨#[c]⟩ m w (by rw [bs_size]; omega) hm (Nat.le_refl 1)).mono ?_
  rintro e w' ⟨rfl, rfl⟩
  have hp := parts_length c l []
  refine ⟨_, rfl, ?_, (Below.refl _ _).alloc (Nat.le_refl _) _⟩
  have hs := strs_fresh (parts c [] l) (T := 9) (w := w) (cs := ((splitB ⟨#[c]⟩ 0 (countB (bs l) ⟨#[c]⟩) (bs l)).map Value.string).toArray) (n := countB (bs l) ⟨#[c]⟩ + 1) (by rw [split_parts, List.map_map]; rfl) (split_count c l) (by rw [split_count]; unfold maxLen; omega)
    (fun s hs => by have := parts_mem c l [] s hs; simp at this; unfold maxLen; omega)
  obtain ⟨⟨a, cap, h1, h2, h3, h4⟩, h5⟩ := hs
  refine ⟨⟨a, cap, h1, h2, h3, h4.imp id fun ⟨b, off, e, hb, hc⟩ => ⟨b, off, e, ⟨?_, hb⟩, hc⟩⟩, h5⟩
  rw [e] at h1
  simp only [Value.slice.injEq, Option.some.injEq] at h1
  have hb1 : w.heap.size = b := congrArg Addr.block h1.1
  rw [hb1]
  exact Nat.le_refl _

end Go.Proofs.YtnechpciaidkmaaDoor.Ownl
