/- Texts of this proof, merged: Text, Reads, Rows2, Lay, Numt, Layf, Lsid, Ldup, Lext, Ljoi, Lnam. -/
import Derived.Lib.SplitLaws
import Derived.Lib.IndexMore
import Derived.Lib.Join
import Derived.WalkKit
import Derived.Below
import Derived.BigQuiet
import Derived.Deep.QuietTactic
import Derived.Sort.OwnSortedInts
import Derived.Test.YtjhimekojiegjaaDoorProg
import Derived.Outline
import Derived.Lib.Hide
import Derived.Lib.AppendIntMem
import Derived.Deep.DeepFit
import Derived.Lib.QuietBelow
import Derived.Lib.AtoiAllCases
import Derived.Lib.ItoaMem
import Derived.Lib.ItoaLen
import Derived.Lib.Strings
import Derived.Laws.ResultCell
import Derived.Maps.AppendAt

/- Lines, words and parts of texts: plain mathematics over bytes. No program. -/
namespace Go.Proofs.YtjhimekojiegjaaDoor.Text
open Go.Lib


/-! What Cut and Split compute where the separator is one byte. -/
theorem index_miss (c : UInt8) : ∀ l : (List UInt8), c ∉ l → index l [c] = -1
  | [], _ => rfl
  | b :: l, h => by
    have hb : b ≠ c := fun e => h (by simp [e])
    have ih := index_miss c l (fun hm => h (by simp [hm]))
    have hp : ([c] : (List UInt8)).isPrefixOf (b :: l) = false := by simp [List.isPrefixOf, Ne.symm hb]
    unfold index
    rw [hp, ih]
    rfl
theorem index_hit (c : UInt8) : ∀ (l r : (List UInt8)), c ∉ l → index (l ++ c :: r) [c] = (l.length : Int)
  | [], r, _ => by
    have hp : ([c] : (List UInt8)).isPrefixOf (c :: r) = true := by simp [List.isPrefixOf]
    show index (c :: r) [c] = _
    unfold index
    rw [hp]
    rfl
  | b :: l, r, h => by
    have hb : b ≠ c := fun e => h (by simp [e])
    have ih := index_hit c l r (fun hm => h (by simp [hm]))
    have hp : ([c] : (List UInt8)).isPrefixOf (b :: (l ++ c :: r)) = false := by simp [List.isPrefixOf, Ne.symm hb]
    show index (b :: (l ++ c :: r)) [c] = _
    unfold index
    rw [hp, ih]
    have : (((l.length : Nat) : Int) == -1) = false := by rw [beq_eq_false_iff_ne]; omega
    simp [this]
theorem cut_miss (c : UInt8) (s : (List UInt8)) (h : c ∉ s) : Lib.cut s [c] = (s, [], false) := by
  unfold Lib.cut
  rw [index_miss c s h, if_neg (by decide)]
theorem cut_hit (c : UInt8) (l r : (List UInt8)) (h : c ∉ l) : Lib.cut (l ++ c :: r) [c] = (l, r, true) := by
  unfold Lib.cut
  rw [index_hit c l r h, if_pos (by omega)]
  simp

/-- The parts of a text between separators; cur is what was read of the first one. -/
def parts (c : UInt8) (cur : (List UInt8)) : (List UInt8) → List (List UInt8)
  | [] => [cur]
  | b :: r => if b = c then cur :: parts c [] r else parts c (cur ++ [b]) r

theorem parts_miss (c : UInt8) : ∀ (l cur : (List UInt8)), c ∉ l → parts c cur l = [cur ++ l]
  | [], cur, _ => by simp [parts]
  | b :: l, cur, h => by
    have hb : b ≠ c := fun e => h (by simp [e])
    rw [parts, if_neg hb, parts_miss c l _ (fun hm => h (by simp [hm]))]
    simp
theorem parts_hit (c : UInt8) : ∀ (l r cur : (List UInt8)), c ∉ l → parts c cur (l ++ c :: r) = (cur ++ l) :: parts c [] r
  | [], r, cur, _ => by simp [parts]
  | b :: l, r, cur, h => by
    have hb : b ≠ c := fun e => h (by simp [e])
    rw [List.cons_append, parts, if_neg hb, parts_hit c l r _ (fun hm => h (by simp [hm]))]
    simp
theorem first_of (c : UInt8) : ∀ s : (List UInt8), c ∉ s ∨ ∃ l r, s = l ++ c :: r ∧ c ∉ l
  | [] => .inl (by simp)
  | b :: s => by
    by_cases hb : b = c
    · exact .inr ⟨[], s, by simp [hb], by simp⟩
    · rcases first_of c s with h | ⟨l, r, rfl, h⟩
      · exact .inl (by simp [h, Ne.symm hb])
      · exact .inr ⟨b :: l, r, rfl, by simp [h, Ne.symm hb]⟩
theorem splitK_parts (c : UInt8) : ∀ (n : Nat) (s : (List UInt8)), s.length ≤ n → splitK [c] 0 (s.count c) s = parts c [] s
  | n, s, hn => by
    rcases first_of c s with h | ⟨l, r, rfl, h⟩
    · rw [List.count_eq_zero.2 h, parts_miss c s [] h]
      rfl
    · have hc : (l ++ c :: r).count c = r.count c + 1 := by
        rw [List.count_append, List.count_eq_zero.2 h, List.count_cons]
        simp
      rw [hc, splitK, index_hit c l r h, if_neg (by simp), parts_hit c l r [] h]
      match n, hn with
      | 0, hn => simp at hn
      | n + 1, hn =>
        have ih := splitK_parts c n r (by simp at hn; omega)
        simp only [Int.toNat_natCast, Nat.add_zero, List.length_singleton]
        have e1 : (l ++ c :: r).take l.length = l := by simp
        have e2 : (l ++ c :: r).drop (l.length + 1) = r := by simp
        rw [e1, e2, ih, List.nil_append]

/-- The string of these bytes. -/
def bs (l : (List UInt8)) : ByteArray := ⟨l.toArray⟩
theorem bs_list (l : (List UInt8)) : (bs l).data.toList = l := rfl
theorem bs_size (l : (List UInt8)) : (bs l).size = l.length := rfl
theorem bs_of (s : ByteArray) : bs s.data.toList = s := rfl
theorem bs_inj {a b : (List UInt8)} (h : bs a = bs b) : a = b := by rw [← bs_list a, h, bs_list]
theorem bs_append (a b : (List UInt8)) : bs a ++ bs b = bs (a ++ b) := by
  apply ByteArray.ext
  simp [bs]

/-- strings.Split at one byte. -/
theorem split_parts (c : UInt8) (s : (List UInt8)) : splitB ⟨#[c]⟩ 0 (countB (bs s) ⟨#[c]⟩) (bs s) = (parts c [] s).map bs := by
  have h := splitB_data ⟨#[c]⟩ 0 (countB (bs s) ⟨#[c]⟩) (bs s)
  have hc : countB (bs s) ⟨#[c]⟩ = s.count c := count_one c s
  rw [hc] at h ⊢
  have h2 : splitK [c] 0 (s.count c) s = parts c [] s := splitK_parts c _ s (Nat.le_refl _)
  have h3 : (splitB ⟨#[c]⟩ 0 (s.count c) (bs s)).map (·.data.toList) = parts c [] s := h.trans h2
  rw [← h3, List.map_map]
  have : (bs ∘ fun x : ByteArray => x.data.toList) = id := by funext x; rfl
  rw [this, List.map_id]
theorem split_count (c : UInt8) (s : (List UInt8)) : countB (bs s) ⟨#[c]⟩ + 1 = (parts c [] s).length := by
  have := splitB_all ⟨#[c]⟩ (Nat.le_refl 1) 0 _ (bs s) rfl
  rw [split_parts, List.length_map] at this
  exact this.symm
theorem parts_length (c : UInt8) : ∀ (l cur : (List UInt8)), (parts c cur l).length ≤ l.length + 1
  | [], cur => by simp [parts]
  | b :: l, cur => by
    rw [parts]
    split
    · have := parts_length c l []; simp; omega
    · have := parts_length c l (cur ++ [b]); simp; omega
theorem parts_ne (c : UInt8) : ∀ (l cur : (List UInt8)), parts c cur l ≠ []
  | [], cur => by simp [parts]
  | b :: l, cur => by
    rw [parts]
    split
    · simp
    · exact parts_ne c l _
theorem parts_mem (c : UInt8) : ∀ (l cur : (List UInt8)), ∀ p ∈ parts c cur l, p.length ≤ cur.length + l.length
  | [], cur, p, hp => by
    simp [parts] at hp
    simp [hp]
  | b :: l, cur, p, hp => by
    rw [parts] at hp
    split at hp
    · rcases List.mem_cons.1 hp with rfl | hp
      · simp
      · have := parts_mem c l [] p hp; simp at this ⊢; omega
    · have := parts_mem c l _ p hp; simp at this ⊢; omega

/-! The parts and the joined text. -/
def tailL (c : UInt8) (ps : List (List UInt8)) : (List UInt8) := (ps.map (c :: ·)).flatten
theorem join_tail (c : UInt8) (p : (List UInt8)) (ps : List (List UInt8)) : Lib.join (p :: ps) [c] = p ++ tailL c ps := join_cons p ps [c]
theorem parts_join (c : UInt8) : ∀ (l cur : (List UInt8)), Lib.join (parts c cur l) [c] = cur ++ l
  | [], cur => by rw [parts, join_one, List.append_nil]
  | b :: l, cur => by
    rw [parts]
    split
    · rename_i hb
      subst hb
      have ih := parts_join b l []
      obtain ⟨p, ps, hp⟩ : ∃ p ps, parts b [] l = p :: ps := by
        cases h : parts b [] l with
        | nil => exact absurd h (parts_ne b l [])
        | cons p ps => exact ⟨p, ps, rfl⟩
      rw [hp] at ih ⊢
      rw [join_tail] at ih ⊢
      simp only [tailL, List.map_cons, List.flatten_cons, List.cons_append]
      rw [show (List.map (fun x => b :: x) ps).flatten = tailL b ps from rfl, ih]
      simp
    · rw [parts_join c l]
      simp
theorem parts_of_join (c : UInt8) : ∀ (ps : List (List UInt8)) (p : (List UInt8)), (∀ q ∈ p :: ps, c ∉ q) → parts c [] (Lib.join (p :: ps) [c]) = p :: ps
  | [], p, h => by rw [join_one, parts_miss c p [] (h p (by simp))]; simp
  | q :: ps, p, h => by
    have ih := parts_of_join c ps q (fun x hx => h x (List.mem_cons_of_mem _ hx))
    rw [join_tail] at ih ⊢
    have : p ++ tailL c (q :: ps) = p ++ c :: (q ++ tailL c ps) := by simp [tailL]
    rw [this, parts_hit c p _ [] (h p (by simp)), ih]
    simp

/-! Words and lines. -/
def inWord (b : UInt8) : Bool := decide (33 ≤ b.toNat) && decide (b.toNat ≤ 126)
def wordL (l : (List UInt8)) : Bool := decide (l ≠ []) && decide (l.length ≤ 64) && l.all inWord
def lineL (ws : List (List UInt8)) : Bool := decide (ws ≠ []) && ws.all wordL

theorem word_not {l : (List UInt8)} (h : wordL l = true) {c : UInt8} (hc : inWord c = false) : c ∉ l := by
  intro hm
  simp only [wordL, Bool.and_eq_true, List.all_eq_true] at h
  rw [h.2 c hm] at hc
  cases hc
theorem word_no32 {l : (List UInt8)} (h : wordL l = true) : (32 : UInt8) ∉ l := word_not h (by decide)
theorem word_no10 {l : (List UInt8)} (h : wordL l = true) : (10 : UInt8) ∉ l := word_not h (by decide)
theorem word_len {l : (List UInt8)} (h : wordL l = true) : l.length ≤ 64 := by
  simp only [wordL, Bool.and_eq_true, decide_eq_true_eq] at h
  exact h.1.2

/-- A text read byte by byte: k lines before, the words of this line, what was read of this word. -/
def scan (k : Nat) (line : List (List UInt8)) (cur : (List UInt8)) : (List UInt8) → Except Nat (List (List (List UInt8)))
  | [] => if cur = [] ∧ line = [] then .ok [] else .error (k + 1)
  | c :: r =>
    if c ≠ 32 ∧ c ≠ 10 then scan k line (cur ++ [c]) r
    else if wordL cur = false then .error (k + 1)
    else if c = 10 then (scan (k + 1) [] [] r).map ((line ++ [cur]) :: ·)
    else scan k (line ++ [cur]) [] r

theorem scan_end (k : Nat) : ∀ (l : (List UInt8)) (line : List (List UInt8)) (cur : (List UInt8)), (10 : UInt8) ∉ l → (l ≠ [] ∨ cur ≠ [] ∨ line ≠ []) → scan k line cur l = .error (k + 1)
  | [], line, cur, _, h => by
    rw [scan, if_neg]
    rintro ⟨rfl, rfl⟩
    simp at h
  | c :: l, line, cur, hn, _ => by
    have hc : c ≠ 10 := fun e => hn (by simp [e])
    have hl : (10 : UInt8) ∉ l := fun hm => hn (by simp [hm])
    rw [scan]
    split
    · exact scan_end k l line _ hl (by simp)
    · split
      · rfl
      · exact scan_end k l _ _ hl (by simp)
theorem scan_line (k : Nat) (r : (List UInt8)) : ∀ (l : (List UInt8)) (line : List (List UInt8)) (cur : (List UInt8)), (10 : UInt8) ∉ l →
    scan k line cur (l ++ 10 :: r) = if (parts 32 cur l).all wordL then (scan (k + 1) [] [] r).map ((line ++ parts 32 cur l) :: ·) else .error (k + 1)
  | [], line, cur, _ => by
    rw [List.nil_append, scan, if_neg (by simp), parts]
    by_cases h : wordL cur = true
    · rw [if_neg (by simp [h]), if_pos rfl, if_pos (by simp [h])]
    · rw [if_pos (by simpa using h), if_neg (by simpa using h)]
  | c :: l, line, cur, hn => by
    have hc : c ≠ 10 := fun e => hn (by simp [e])
    have hl : (10 : UInt8) ∉ l := fun hm => hn (by simp [hm])
    rw [List.cons_append, scan, parts]
    by_cases h32 : c = 32
    · subst h32
      rw [if_neg (by simp), if_pos rfl]
      by_cases h : wordL cur = true
      · rw [if_neg (by simp [h]), if_neg (by decide), scan_line k r l _ _ hl]
        simp only [List.all_cons, h, Bool.true_and]
        simp
      · rw [if_pos (by simpa using h), if_neg]
        simp only [List.all_cons, Bool.and_eq_true, not_and]
        exact fun h' => absurd h' h
    · rw [if_pos ⟨h32, hc⟩, if_neg h32]
      exact scan_line k r l _ _ hl

/-- The joined text. -/
def lineT (ws : List (List UInt8)) : (List UInt8) := Lib.join ws [32] ++ [10]
def joinT (ls : List (List (List UInt8))) : (List UInt8) := (ls.map lineT).flatten
theorem joinT_nil : joinT [] = [] := rfl
theorem joinT_cons (ws : List (List UInt8)) (ls : List (List (List UInt8))) : joinT (ws :: ls) = lineT ws ++ joinT ls := by simp [joinT]
theorem joinT_snoc (ls : List (List (List UInt8))) (ws : List (List UInt8)) : joinT (ls ++ [ws]) = joinT ls ++ lineT ws := by simp [joinT]

def pre (line : List (List UInt8)) : (List UInt8) := (line.map (· ++ [32])).flatten
theorem join_pre : ∀ (line : List (List UInt8)) (cur : (List UInt8)), Lib.join (line ++ [cur]) [32] = pre line ++ cur
  | [], cur => by simp [pre, join_one]
  | p :: line, cur => by
    have ih := join_pre line cur
    rw [List.cons_append, join_tail]
    obtain ⟨q, qs, hq⟩ : ∃ q qs, line ++ [cur] = q :: qs := by
      cases h : line ++ [cur] with
      | nil => simp at h
      | cons q qs => exact ⟨q, qs, rfl⟩
    rw [hq] at ih ⊢
    rw [join_tail] at ih
    simp only [tailL, List.map_cons, List.flatten_cons] at ih ⊢
    rw [List.cons_append, ih]
    simp [pre]

theorem scan_join : ∀ (r : (List UInt8)) (k : Nat) (line : List (List UInt8)) (cur : (List UInt8)) (ls : List (List (List UInt8))), scan k line cur r = .ok ls → joinT ls = pre line ++ cur ++ r
  | [], k, line, cur, ls, h => by
    rw [scan] at h
    split at h
    · rename_i h0
      obtain ⟨rfl, rfl⟩ := h0
      injection h with h
      subst h
      rfl
    · cases h
  | c :: r, k, line, cur, ls, h => by
    rw [scan] at h
    split at h
    · rw [scan_join r k line _ ls h]
      simp
    · rename_i h0
      split at h
      · cases h
      · split at h
        · rename_i hc
          subst hc
          cases hs : scan (k + 1) [] [] r with
          | error e => rw [hs] at h; cases h
          | ok ls' =>
            rw [hs] at h
            injection h with h
            subst h
            have ih := scan_join r _ _ _ _ hs
            rw [joinT_cons, lineT, join_pre, ih]
            simp [pre]
        · rename_i hc
          have : c = 32 := by
            by_cases h32 : c = 32
            · exact h32
            · exact absurd ⟨h32, hc⟩ h0
          subst this
          rw [scan_join r k _ _ ls h]
          simp [pre]
theorem scan_good : ∀ (r : (List UInt8)) (k : Nat) (line : List (List UInt8)) (cur : (List UInt8)) (ls : List (List (List UInt8))), scan k line cur r = .ok ls → line.all wordL = true → ls.all lineL = true
  | [], k, line, cur, ls, h, _ => by
    rw [scan] at h
    split at h
    · injection h with h
      subst h
      rfl
    · cases h
  | c :: r, k, line, cur, ls, h, hl => by
    rw [scan] at h
    split at h
    · exact scan_good r k line _ ls h hl
    · split at h
      · cases h
      · rename_i hw
        have hw' : wordL cur = true := by simpa using hw
        have hl' : (line ++ [cur]).all wordL = true := by rw [List.all_append, hl]; simp [hw']
        split at h
        · cases hs : scan (k + 1) [] [] r with
          | error e => rw [hs] at h; cases h
          | ok ls' =>
            rw [hs] at h
            injection h with h
            subst h
            have ih := scan_good r _ _ _ _ hs rfl
            rw [List.all_cons, ih, lineL, hl']
            simp
        · exact scan_good r k _ _ ls h hl'
theorem join_no10 : ∀ ws : List (List UInt8), ws.all wordL = true → (10 : UInt8) ∉ Lib.join ws [32]
  | [], _ => by simp [join_nil]
  | p :: ps, h => by
    rw [join_tail]
    simp only [List.all_eq_true] at h
    intro hm
    rcases List.mem_append.1 hm with hm | hm
    · exact word_no10 (h p (by simp)) hm
    · simp only [tailL, List.mem_flatten, List.mem_map] at hm
      obtain ⟨x, ⟨q, hq, rfl⟩, hx⟩ := hm
      rcases List.mem_cons.1 hx with hx | hx
      · cases hx
      · exact word_no10 (h q (by simp [hq])) hx
theorem scan_of_join : ∀ (ls : List (List (List UInt8))) (k : Nat), ls.all lineL = true → scan k [] [] (joinT ls) = .ok ls
  | [], k, _ => rfl
  | ws :: ls, k, h => by
    rw [List.all_cons, Bool.and_eq_true] at h
    obtain ⟨hw, hl⟩ := h
    simp only [lineL, Bool.and_eq_true, decide_eq_true_eq] at hw
    obtain ⟨p, ps, rfl⟩ : ∃ p ps, ws = p :: ps := by
      cases ws with
      | nil => exact absurd rfl hw.1
      | cons p ps => exact ⟨p, ps, rfl⟩
    have hp : parts 32 [] (Lib.join (p :: ps) [32]) = p :: ps := parts_of_join 32 ps p (fun q hq => word_no32 (List.all_eq_true.1 hw.2 q hq))
    rw [joinT_cons, lineT, List.append_assoc, List.singleton_append, scan_line k _ _ _ _ (join_no10 _ hw.2), hp, if_pos hw.2, scan_of_join ls (k + 1) hl]
    rfl

/-! The answers. -/
/-- Lines: the lines, the number of the bad line, the error. -/
def endL (out : List (List (List UInt8))) : Except Nat (List (List (List UInt8))) → List (List (List UInt8)) × Nat × Nat
  | .ok ls => (out ++ ls, 0, 0)
  | .error k => ([], k, 4)
def linesR (s : (List UInt8)) : List (List (List UInt8)) × Nat × Nat := if 32768 < s.length then ([], 0, 2) else endL [] (scan 0 [] [] s)
/-- Join: the text, the error. -/
def joinR (ls : List (List (List UInt8))) : (List UInt8) × Nat :=
  if ls.all lineL = false then ([], 1) else if 32768 < (joinT ls).length then ([], 2) else (joinT ls, 0)

theorem endL_ok {out : List (List (List UInt8))} {x : Except Nat (List (List (List UInt8)))} {ls : List (List (List UInt8))} {n : Nat} (h : endL out x = (ls, n, 0)) : ∃ l, x = .ok l ∧ ls = out ++ l ∧ n = 0 := by
  cases x with
  | ok l => simp only [endL, Prod.mk.injEq] at h; exact ⟨l, rfl, h.1.symm, h.2.1.symm⟩
  | error k => simp [endL] at h
/-- Lines are restored from the joined text. -/
theorem lines_of_join {ls : List (List (List UInt8))} {t : (List UInt8)} (h : joinR ls = (t, 0)) : linesR t = (ls, 0, 0) := by
  unfold joinR at h
  split at h
  · simp at h
  · rename_i hg
    split at h
    · simp at h
    · rename_i hl
      simp only [Prod.mk.injEq, and_true] at h
      subst h
      unfold linesR
      rw [if_neg hl, scan_of_join ls 0 (by simpa using hg)]
      rfl
/-- A text that is accepted is the joined text of its lines. -/
theorem join_of_lines {s : (List UInt8)} {ls : List (List (List UInt8))} {n : Nat} (h : linesR s = (ls, n, 0)) : joinR ls = (s, 0) := by
  unfold linesR at h
  split at h
  · simp at h
  · rename_i hl
    obtain ⟨l, hs, hls, _⟩ := endL_ok h
    rw [List.nil_append] at hls
    subst hls
    have hj := scan_join s 0 [] [] ls hs
    have hg := scan_good s 0 [] [] ls hs rfl
    simp only [pre, List.map_nil, List.flatten_nil, List.nil_append] at hj ⊢
    unfold joinR
    rw [hg, if_neg (by simp), hj, if_neg hl]

end Go.Proofs.YtjhimekojiegjaaDoor.Text

/- Slices of ints that are only read: what they read as, wherever they lie. No program. -/
namespace Go.Proofs.YtjhimekojiegjaaDoor.Reads
open Go.RowKit Go.Sort

theorem below_drewN {B : Nat} {a w : World} (h : Below B a w) (n : Nat) : Below B a (w.drewN n) := ⟨h.os, h.tape, h.output, h.size, h.block⟩
theorem wf_bounds {x : Int} (h : (Lit.int .i64 x).wf = true) : -9223372036854775808 ≤ x ∧ x ≤ 9223372036854775807 := by
  have hmin : IntKind.i64.min = -9223372036854775808 := rfl
  have hmax : IntKind.i64.max = 9223372036854775807 := rfl
  simp only [Lit.wf, Bool.and_eq_true, decide_eq_true_eq] at h
  omega

/-- The slice v reads as the ints xs; what it is read from lies below block B. -/
def Reads (B : Nat) (w : World) (v : Value) (xs : List Int) : Prop :=
  ∃ a cap, v = .slice a xs.length cap ∧ xs.length ≤ cap ∧ cap ≤ maxLen ∧ (∀ n ∈ xs, (Lit.int .i64 n).wf = true) ∧
    (xs = [] ∨ ∃ b off, a = some ⟨b, off, none⟩ ∧ b < B ∧ ∀ j, j < xs.length → w.cell? ⟨b, off + j, none⟩ = some (.int .i64 (xs.getD j 0)))

theorem Reads.mono {B B' : Nat} {w : World} {v : Value} {xs : List Int} (h : Reads B w v xs) (hB : B ≤ B') : Reads B' w v xs := by
  obtain ⟨a, cap, h1, h2, h3, h4, h5⟩ := h
  exact ⟨a, cap, h1, h2, h3, h4, h5.imp id fun ⟨b, off, e, hb, hc⟩ => ⟨b, off, e, by omega, hc⟩⟩
theorem Reads.below {B B' : Nat} {w w' : World} {v : Value} {xs : List Int} (h : Reads B w v xs) (hB : B ≤ B') (hw : Below B' w w') : Reads B w' v xs := by
  obtain ⟨a, cap, h1, h2, h3, h4, h5⟩ := h
  exact ⟨a, cap, h1, h2, h3, h4, h5.imp id fun ⟨b, off, e, hb, hc⟩ => ⟨b, off, e, hb, fun j hj => (hw.cell (p := ⟨b, off + j, none⟩) (show b < B' by omega)).trans (hc j hj)⟩⟩
theorem Reads.wf {B : Nat} {w : World} {v : Value} {xs : List Int} (h : Reads B w v xs) : ∀ n ∈ xs, (Lit.int .i64 n).wf = true := by
  obtain ⟨_, _, _, _, _, h4, _⟩ := h
  exact h4
theorem Reads.len {B : Nat} {w : World} {v : Value} {xs : List Int} (h : Reads B w v xs) : xs.length ≤ maxLen := by
  obtain ⟨_, _, _, h2, h3, _, _⟩ := h
  omega
theorem reads_nil (B : Nat) (w : World) : Reads B w (.slice none 0 0) [] := ⟨none, 0, rfl, Nat.le_refl _, Nat.zero_le _, by simp, .inl rfl⟩

theorem Reads.cons {B : Nat} {w : World} {v : Value} {x : Int} {xs : List Int} (h : Reads B w v (x :: xs)) :
    ∃ b off cap, v = .slice (some ⟨b, off, none⟩) (xs.length + 1) cap ∧ xs.length + 1 ≤ cap ∧ cap ≤ maxLen ∧ b < B ∧ w.cell? ⟨b, off, none⟩ = some (.int .i64 x) ∧ (Lit.int .i64 x).wf = true ∧
      (∀ a, xs = [] → Reads B w (.slice a xs.length (cap - 1)) xs) ∧ Reads B w (.slice (some ⟨b, off + 1, none⟩) xs.length (cap - 1)) xs := by
  obtain ⟨a, cap, h1, h2, h3, h4, h5⟩ := h
  rcases h5 with h5 | ⟨b, off, rfl, hb, hc⟩
  · cases h5
  · simp only [List.length_cons] at h1 h2 hc
    refine ⟨b, off, cap, h1, h2, h3, hb, by simpa using hc 0 (by omega), h4 _ (by simp), ?_, ?_⟩
    · intro a hx
      exact ⟨a, cap - 1, rfl, by omega, by omega, fun n hn => h4 n (by simp [hn]), .inl hx⟩
    · refine ⟨_, cap - 1, rfl, by omega, by omega, fun n hn => h4 n (by simp [hn]), .inr ⟨b, off + 1, rfl, hb, fun j hj => ?_⟩⟩
      have := hc (j + 1) (by omega)
      rw [show off + (j + 1) = off + 1 + j by omega] at this
      simpa using this

/-- A slice of the call's own reads as what it owns. -/
theorem reads_own {B base : Nat} {e : TypeId} {w : World} {v : Value} {xs : List Int} (h : w.ownsRow base e 1 v xs.length (xs.map (Value.int .i64))) (hw : ∀ n ∈ xs, (Lit.int .i64 n).wf = true) (hB : w.heap.size ≤ B) : Reads B w v xs := by
  have hx := h
  obtain ⟨_, hor⟩ := hx
  rcases hor with ⟨rfl, h0⟩ | ⟨g, cap, cur, rfl, hg, hh, hn, hcap, _, _⟩
  · have := List.length_eq_zero_iff.1 h0
    subst this
    exact reads_nil _ _
  · refine ⟨_, cap, rfl, hn, hcap, hw, .inr ⟨g, 0, rfl, ?_, fun j hj => ?_⟩⟩
    · have := (h.lt g rfl).2; omega
    · have := h.cells (g := g) rfl j (.int .i64 (xs.getD j 0)) (by simp [hj, List.getD_eq_getElem?_getD])
      simp only [Addr.add] at this
      rw [← this]
      by_cases h0 : j = 0
      · subst h0; simp
      · simp [h0]

/-- The cells as the shelf's contracts ask for them. -/
theorem Reads.at {B : Nat} {w : World} {v : Value} {xs : List Int} (h : Reads B w v xs) (h0 : xs ≠ []) :
    ∃ b off cap, v = .slice (some ⟨b, off, none⟩) xs.length cap ∧ xs.length ≤ cap ∧ cap ≤ maxLen ∧ b < B ∧ ∀ j, j < xs.length → w.cell? ⟨b, off + j, none⟩ = some (.int .i64 (xs.getD j 0)) := by
  obtain ⟨a, cap, h1, h2, h3, h4, h5⟩ := h
  rcases h5 with h5 | ⟨b, off, rfl, hb, hc⟩
  · exact absurd h5 h0
  · exact ⟨b, off, cap, h1, h2, h3, hb, hc⟩
theorem Reads.empty {B : Nat} {w : World} {v : Value} (h : Reads B w v []) : ∃ a cap, v = .slice a 0 cap ∧ cap ≤ maxLen := by
  obtain ⟨a, cap, h1, h2, h3, _⟩ := h
  exact ⟨a, cap, h1, h3⟩
/-- A slice of length 0 reads as the empty list. -/
theorem reads_empty (B : Nat) (w : World) (a : Option Addr) (cap : Nat) (h : cap ≤ maxLen) : Reads B w (.slice a 0 cap) [] := ⟨a, cap, rfl, Nat.zero_le _, h, by simp, .inl rfl⟩
/-- A slice of a row that is known. -/
theorem reads_mk {B b off cap : Nat} {w : World} (xs : List Int) (hB : b < B) (hl : xs.length ≤ cap) (hcap : cap ≤ maxLen) (hw : ∀ n ∈ xs, (Lit.int .i64 n).wf = true)
    (hc : ∀ j, j < xs.length → w.cell? ⟨b, off + j, none⟩ = some (.int .i64 (xs.getD j 0))) : Reads B w (.slice (some ⟨b, off, none⟩) xs.length cap) xs :=
  ⟨_, cap, rfl, hl, hcap, hw, .inr ⟨b, off, rfl, hB, hc⟩⟩
/-- What came in as an argument, as the frame opens it. -/
theorem reads_arg {w : World} {a : Option Addr} {len cap : Nat} {zs : List Int}
    (h : (a = none ∧ len = 0 ∧ cap = 0 ∧ zs = []) ∨ ∃ x, a = some x ∧ len ≤ cap ∧ cap ≤ maxLen ∧ zs.length = cap ∧ (∀ i, i < zs.length → w.cell? (x.add i) = some (.int .i64 (zs.getD i 0))) ∧ ∀ n ∈ zs, (Lit.int .i64 n).wf = true) :
    Reads w.heap.size w (.slice a len cap) (zs.take len) ∧ (zs.take len).length = len := by
  rcases h with ⟨rfl, rfl, rfl, rfl⟩ | ⟨x, rfl, hl, hm, hz, hcell, hwz⟩
  · exact ⟨reads_nil _ _, rfl⟩
  · have e : (zs.take len).length = len := by simp; omega
    refine ⟨⟨_, cap, by rw [e], by omega, hm, fun n hn => hwz n (List.mem_of_mem_take hn), ?_⟩, e⟩
    by_cases h0 : len = 0
    · subst h0; left; simp
    · right
      obtain ⟨b, off, spot⟩ := x
      have hc := hcell 0 (by omega)
      have hspot : spot = none := by simpa [Addr.add] using World.cell?_spot hc
      subst hspot
      have hb : b < w.heap.size := by
        have := World.block_lt_of_cell? w _ hc
        by_cases h : (0 : Nat) = 0
        · simpa [Addr.add] using this
        · omega
      refine ⟨b, off, rfl, hb, fun i hi => ?_⟩
      have := hcell i (by omega)
      have e2 : (zs.take len).getD i 0 = zs.getD i 0 := by rw [e] at hi; simp [List.getD_eq_getElem?_getD, hi]
      rw [e2, ← this]
      simp only [Addr.add]
      by_cases h0 : i = 0
      · subst h0; simp
      · simp [h0]

end Go.Proofs.YtjhimekojiegjaaDoor.Reads

/- Slices of any one-cell elements, of texts, and of slices of texts: what they read as, wherever they lie. -/
namespace Go.Proofs.YtjhimekojiegjaaDoor.Rows2
open Go.RowKit Go.Lib Go.Proofs.YtjhimekojiegjaaDoor.Text Go.Proofs.YtjhimekojiegjaaDoor.Reads

/-- The slice v reads as these cells; what it is read from lies in blocks that are ok. -/
def Row (ok : Nat → Prop) (w : World) (v : Value) (vs : List Value) : Prop :=
  ∃ a cap, v = .slice a vs.length cap ∧ vs.length ≤ cap ∧ cap ≤ maxLen ∧
    (vs = [] ∨ ∃ b off, a = some ⟨b, off, none⟩ ∧ ok b ∧ ∀ j x, vs[j]? = some x → w.cell? ⟨b, off + j, none⟩ = some x)

theorem cell_same {w w' : World} {p : Addr} (h : w'.heap[p.block]? = w.heap[p.block]?) : w'.cell? p = w.cell? p := by
  unfold World.cell?
  rw [h]
theorem Row.keep {ok ok' : Nat → Prop} {w w' : World} {v : Value} {vs : List Value} (h : Row ok w v vs) (hk : ∀ b, ok b → ok' b ∧ w'.heap[b]? = w.heap[b]?) : Row ok' w' v vs := by
  obtain ⟨a, cap, h1, h2, h3, h4⟩ := h
  refine ⟨a, cap, h1, h2, h3, h4.imp id fun ⟨b, off, e, hb, hc⟩ => ⟨b, off, e, (hk b hb).1, fun j x hx => ?_⟩⟩
  rw [cell_same (hk b hb).2]
  exact hc j x hx
theorem Row.len {ok : Nat → Prop} {w : World} {v : Value} {vs : List Value} (h : Row ok w v vs) : vs.length ≤ maxLen := by
  obtain ⟨_, _, _, h2, h3, _⟩ := h
  omega
theorem row_nil (ok : Nat → Prop) (w : World) : Row ok w (.slice none 0 0) [] := ⟨none, 0, rfl, Nat.le_refl _, Nat.zero_le _, .inl rfl⟩
theorem row_mk {ok : Nat → Prop} {w : World} {b off cap : Nat} (vs : List Value) (hb : ok b) (hl : vs.length ≤ cap) (hm : cap ≤ maxLen) (hc : ∀ j x, vs[j]? = some x → w.cell? ⟨b, off + j, none⟩ = some x) : Row ok w (.slice (some ⟨b, off, none⟩) vs.length cap) vs :=
  ⟨_, cap, rfl, hl, hm, .inr ⟨b, off, rfl, hb, hc⟩⟩
/-- A slice of the call's own reads as what it owns. -/
theorem row_own {ok : Nat → Prop} {base : Nat} {e : TypeId} {w : World} {v : Value} {vs : List Value} (h : w.ownsRow base e 1 v vs.length vs) (hok : ∀ g, v.ownBlock = some g → g < w.heap.size → ok g) : Row ok w v vs := by
  have hx := h
  obtain ⟨_, hor⟩ := hx
  rcases hor with ⟨rfl, h0⟩ | ⟨g, cap, cur, rfl, hg, hh, hn, hcap, _, _⟩
  · have := List.length_eq_zero_iff.1 h0
    subst this
    exact row_nil _ _
  · refine ⟨_, cap, rfl, hn, hcap, .inr ⟨g, 0, rfl, hok g rfl (h.lt g rfl).2, fun j x hx => ?_⟩⟩
    have := h.cells (g := g) rfl j x hx
    simp only [Addr.add] at this
    rw [← this]
    by_cases h0 : j = 0
    · subst h0; simp
    · simp [h0]
theorem Row.shape {ok : Nat → Prop} {w : World} {v : Value} {vs : List Value} (h : Row ok w v vs) :
    ∃ a cap, v = .slice a vs.length cap ∧ (vs.length : Int) ≤ 9223372036854775807 ∧ cap ≤ maxLen ∧ vs.length ≤ cap ∧ ∀ k x, vs[k]? = some x → ∃ b off, a = some ⟨b, off, none⟩ ∧ ok b ∧ w.cell? ⟨b, off + k, none⟩ = some x := by
  have hm := h.len
  obtain ⟨a, cap, rfl, h2, h3, h4⟩ := h
  refine ⟨a, cap, rfl, by unfold maxLen at hm; omega, h3, h2, fun k x hx => ?_⟩
  rcases h4 with rfl | ⟨b, off, rfl, hb, hc⟩
  · simp at hx
  · exact ⟨b, off, rfl, hb, hc k x hx⟩

/-- The cells of these texts. -/
def strV (ss : List (List UInt8)) : List Value := ss.map fun s => .string (bs s)
theorem strV_len (ss : List (List UInt8)) : (strV ss).length = ss.length := by simp [strV]
theorem strV_at {ss : List (List UInt8)} {k : Nat} {s : (List UInt8)} (h : ss[k]? = some s) : (strV ss)[k]? = some (.string (bs s)) := by simp [strV, h]
theorem at_lt {α : Type} {l : List α} {k : Nat} (h : k < l.length) : ∃ x, l[k]? = some x := ⟨l[k], List.getElem?_eq_getElem h⟩

/-- The slice v reads as these texts. -/
def Strs (ok : Nat → Prop) (w : World) (v : Value) (ss : List (List UInt8)) : Prop := Row ok w v (strV ss) ∧ ∀ s ∈ ss, s.length ≤ maxLen
/-- The slice v reads as these lists of texts. -/
def Lns (ok : Nat → Prop) (w : World) (v : Value) (ls : List (List (List UInt8))) : Prop :=
  ∃ vs : List Value, Row ok w v vs ∧ vs.length = ls.length ∧ ∀ (j : Nat) (x : Value) (l : List (List UInt8)), vs[j]? = some x → ls[j]? = some l → Strs ok w x l

theorem Strs.keep {ok ok' : Nat → Prop} {w w' : World} {v : Value} {ss : List (List UInt8)} (h : Strs ok w v ss) (hk : ∀ b, ok b → ok' b ∧ w'.heap[b]? = w.heap[b]?) : Strs ok' w' v ss := ⟨h.1.keep hk, h.2⟩
theorem Lns.keep {ok ok' : Nat → Prop} {w w' : World} {v : Value} {ls : List (List (List UInt8))} (h : Lns ok w v ls) (hk : ∀ b, ok b → ok' b ∧ w'.heap[b]? = w.heap[b]?) : Lns ok' w' v ls := by
  obtain ⟨vs, h1, h2, h3⟩ := h
  exact ⟨vs, h1.keep hk, h2, fun j x l hx hl => (h3 j x l hx hl).keep hk⟩
theorem strs_nil (ok : Nat → Prop) (w : World) : Strs ok w (.slice none 0 0) [] := ⟨row_nil _ _, fun s hs => by cases hs⟩
theorem lns_nil (ok : Nat → Prop) (w : World) : Lns ok w (.slice none 0 0) [] := ⟨[], row_nil _ _, rfl, fun j x l hx _ => by simp at hx⟩

theorem keep_below {B B' : Nat} {w w' : World} (h : Below B w w') (hB : B ≤ B') : ∀ b, b < B → b < B' ∧ w'.heap[b]? = w.heap[b]? := fun b hb => ⟨Nat.lt_of_lt_of_le hb hB, h.block b hb⟩
theorem keep_next {w w' : World} (h : Below w.heap.size w w') : ∀ b, b < w.heap.size → b < w'.heap.size ∧ w'.heap[b]? = w.heap[b]? := keep_below h h.size

theorem Strs.shape {ok : Nat → Prop} {w : World} {v : Value} {ss : List (List UInt8)} (h : Strs ok w v ss) :
    ∃ a cap, v = .slice a ss.length cap ∧ (ss.length : Int) ≤ 9223372036854775807 ∧ cap ≤ maxLen ∧ ss.length ≤ cap ∧ ∀ k s, ss[k]? = some s → s.length ≤ maxLen ∧ ∃ b off, a = some ⟨b, off, none⟩ ∧ ok b ∧ w.cell? ⟨b, off + k, none⟩ = some (.string (bs s)) := by
  obtain ⟨a, cap, h1, h2, h3, h4, h5⟩ := h.1.shape
  rw [strV_len] at h1 h2 h4
  exact ⟨a, cap, h1, h2, h3, h4, fun k s hs => ⟨h.2 s (List.mem_of_getElem? hs), h5 k _ (strV_at hs)⟩⟩
theorem Lns.shape {ok : Nat → Prop} {w : World} {v : Value} {ls : List (List (List UInt8))} (h : Lns ok w v ls) :
    ∃ a cap, v = .slice a ls.length cap ∧ (ls.length : Int) ≤ 9223372036854775807 ∧ cap ≤ maxLen ∧ ls.length ≤ cap ∧ ∀ k l, ls[k]? = some l → ∃ b off x, a = some ⟨b, off, none⟩ ∧ ok b ∧ w.cell? ⟨b, off + k, none⟩ = some x ∧ Strs ok w x l := by
  obtain ⟨vs, h1, hlen, h3⟩ := h
  obtain ⟨a, cap, e1, e2, e3, e4, e5⟩ := h1.shape
  rw [hlen] at e1 e2 e4
  refine ⟨a, cap, e1, e2, e3, e4, fun k l hl => ?_⟩
  have hk : k < vs.length := by
    rw [hlen]
    exact (List.getElem?_eq_some_iff.1 hl).1
  obtain ⟨x, hx⟩ := at_lt hk
  obtain ⟨b, off, f1, f2, f3⟩ := e5 k x hx
  exact ⟨b, off, x, f1, f2, f3, h3 k x l hx hl⟩

/-- A slice that a call made whole, at the end of the heap. -/
theorem row_fresh (vs : List Value) {T : TypeId} {w : World} {cs : Array Value} {n : Nat} (hcs : cs = vs.toArray) (hn : n = vs.length) (hm : n ≤ maxLen) : Row (fun b => b < (w.alloc (.cells cs T)).heap.size) (w.alloc (.cells cs T)) (.slice (some ⟨w.heap.size, 0, none⟩) n n) vs := by
  subst hcs hn
  refine row_mk vs (by simp) (Nat.le_refl _) hm fun j x hx => ?_
  rw [World.cell?_alloc_at _ _ _ _ rfl]
  simpa using hx
theorem strs_fresh (ss : List (List UInt8)) {T : TypeId} {w : World} {cs : Array Value} {n : Nat} (hcs : cs = (strV ss).toArray) (hn : n = ss.length) (hm : n ≤ maxLen) (hs : ∀ s ∈ ss, s.length ≤ maxLen) : Strs (fun b => b < (w.alloc (.cells cs T)).heap.size) (w.alloc (.cells cs T)) (.slice (some ⟨w.heap.size, 0, none⟩) n n) ss :=
  ⟨row_fresh (strV ss) hcs (by rw [strV_len]; exact hn) hm, hs⟩

end Go.Proofs.YtjhimekojiegjaaDoor.Rows2

/- Layouts as plain data, and how a value of the type reads as one. -/
namespace Go.Proofs.YtjhimekojiegjaaDoor.Lay
open Go.RowKit Go.Lib Go.Proofs.YtjhimekojiegjaaDoor.Text Go.Proofs.YtjhimekojiegjaaDoor.Reads Go.Proofs.YtjhimekojiegjaaDoor.Rows2

structure Elem where
  name : List UInt8
  kind : Int
  len : Int
  grade : Int
  speed : Int
  slow : Int
  sec : Int
structure Sig where
  name : List UInt8
  spot : Int × Int
  over : Int
structure Bal where
  id : Int
  el : Int
  off : Int
structure Lay where
  name : List UInt8
  secs : List (List UInt8)
  els : List Elem
  joints : List ((Int × Int) × (Int × Int))
  sigs : List Sig
  bals : List Bal

def Elem.cells (e : Elem) : List Value := [.string (bs e.name), .int .i64 e.kind, .int .i64 e.len, .int .i64 e.grade, .int .i64 e.speed, .int .i64 e.slow, .int .i64 e.sec]
def jCells (j : (Int × Int) × (Int × Int)) : List Value := [.int .i64 j.1.1, .int .i64 j.1.2, .int .i64 j.2.1, .int .i64 j.2.2]
def Sig.cells (s : Sig) : List Value := [.string (bs s.name), .int .i64 s.spot.1, .int .i64 s.spot.2, .int .i64 s.over]
def Bal.cells (b : Bal) : List Value := [.int .i64 b.id, .int .i64 b.el, .int .i64 b.off]
def pCells (p : Int × Int) : List Value := [.int .i64 p.1, .int .i64 p.2]

/-- An int. -/
def Wf (x : Int) : Prop := (Lit.int .i64 x).wf = true
def pWf (p : Int × Int) : Prop := Wf p.1 ∧ Wf p.2
def Elem.Wf (x : Elem) : Prop := Lay.Wf x.kind ∧ Lay.Wf x.len ∧ Lay.Wf x.grade ∧ Lay.Wf x.speed ∧ Lay.Wf x.slow ∧ Lay.Wf x.sec
def jWf (j : (Int × Int) × (Int × Int)) : Prop := pWf j.1 ∧ pWf j.2
def Sig.Wf (s : Sig) : Prop := pWf s.spot ∧ Lay.Wf s.over
def Bal.Wf (b : Bal) : Prop := Lay.Wf b.id ∧ Lay.Wf b.el ∧ Lay.Wf b.off
/-- The slice v reads as these rows of sz cells each; what it is read from lies in blocks that are ok. -/
def Grid (ok : Nat → Prop) (w : World) (v : Value) (sz : Nat) (rows : List (List Value)) : Prop :=
  ∃ a cap, v = .slice a rows.length cap ∧ rows.length ≤ cap ∧ cap ≤ maxLen ∧
    (rows = [] ∨ ∃ b off, a = some ⟨b, off, none⟩ ∧ ok b ∧ ∀ i r, rows[i]? = some r → ∀ j x, r[j]? = some x → w.cell? ⟨b, off + i * sz + j, none⟩ = some x)
theorem Grid.keep {ok ok' : Nat → Prop} {w w' : World} {v : Value} {sz : Nat} {rows : List (List Value)} (h : Grid ok w v sz rows) (hk : ∀ b, ok b → ok' b ∧ w'.heap[b]? = w.heap[b]?) : Grid ok' w' v sz rows := by
  obtain ⟨a, cap, h1, h2, h3, h4⟩ := h
  refine ⟨a, cap, h1, h2, h3, h4.imp id fun ⟨b, off, e, hb, hc⟩ => ⟨b, off, e, (hk b hb).1, fun i r hr j x hx => ?_⟩⟩
  rw [cell_same (hk b hb).2]
  exact hc i r hr j x hx
theorem grid_nil (ok : Nat → Prop) (w : World) (sz : Nat) : Grid ok w (.slice none 0 0) sz [] := ⟨none, 0, rfl, Nat.le_refl _, Nat.zero_le _, .inl rfl⟩
theorem Grid.shape {ok : Nat → Prop} {w : World} {v : Value} {sz : Nat} {rows : List (List Value)} (h : Grid ok w v sz rows) :
    ∃ a cap, v = .slice a rows.length cap ∧ (rows.length : Int) ≤ 9223372036854775807 ∧ cap ≤ maxLen ∧ rows.length ≤ cap ∧
      ∀ i r, rows[i]? = some r → ∃ b off, a = some ⟨b, off, none⟩ ∧ ok b ∧ ∀ j x, r[j]? = some x → w.cell? ⟨b, off + i * sz + j, none⟩ = some x := by
  obtain ⟨a, cap, rfl, h2, h3, h4⟩ := h
  refine ⟨a, cap, rfl, by unfold maxLen at h3; omega, h3, h2, fun i r hr => ?_⟩
  rcases h4 with rfl | ⟨b, off, rfl, hb, hc⟩
  · simp at hr
  · exact ⟨b, off, rfl, hb, hc i r hr⟩

/-- A value of the type reads as a layout. -/
structure LayAt (ok : Nat → Prop) (w : World) (L : Lay) (vs ve vj vg vb : Value) : Prop where
  secs : Strs ok w vs L.secs
  els : Grid ok w ve 7 (L.els.map Elem.cells)
  joints : Grid ok w vj 4 (L.joints.map jCells)
  sigs : Grid ok w vg 4 (L.sigs.map Sig.cells)
  bals : Grid ok w vb 3 (L.bals.map Bal.cells)
  name : L.name.length ≤ maxLen
  elName : ∀ x ∈ L.els, x.name.length ≤ maxLen
  sigName : ∀ x ∈ L.sigs, x.name.length ≤ maxLen
  ewf : ∀ x ∈ L.els, x.Wf
  jwf : ∀ x ∈ L.joints, jWf x
  swf : ∀ x ∈ L.sigs, x.Wf
  bwf : ∀ x ∈ L.bals, x.Wf
  some_ : vs = .slice none 0 0 ∨ ∃ ad n c, vs = .slice (some ad) n c
theorem LayAt.keep {ok ok' : Nat → Prop} {w w' : World} {L : Lay} {vs ve vj vg vb : Value} (h : LayAt ok w L vs ve vj vg vb) (hk : ∀ b, ok b → ok' b ∧ w'.heap[b]? = w.heap[b]?) : LayAt ok' w' L vs ve vj vg vb :=
  ⟨h.secs.keep hk, h.els.keep hk, h.joints.keep hk, h.sigs.keep hk, h.bals.keep hk, h.name, h.elName, h.sigName, h.ewf, h.jwf, h.swf, h.bwf, h.some_⟩
/-- As Below, but for one block that may be written. -/
structure But (g B : Nat) (w w' : World) : Prop where
  os : w'.os = w.os
  tape : w'.tape = w.tape
  output : w'.output = w.output
  size : w.heap.size ≤ w'.heap.size
  block : ∀ k, k < B → k ≠ g → w'.heap[k]? = w.heap[k]?
theorem But.refl (g B : Nat) (w : World) : But g B w w := ⟨rfl, rfl, rfl, Nat.le_refl _, fun _ _ _ => rfl⟩
theorem But.below {g B B' : Nat} {w W wr : World} (h : Below B' w W) (hb : But g B W wr) (h1 : B' ≤ B) (h2 : B' ≤ g) : Below B' w wr :=
  ⟨hb.os.trans h.os, hb.tape.trans h.tape, hb.output.trans h.output, Nat.le_trans h.size hb.size, fun k hk => (hb.block k (by omega) (by omega)).trans (h.block k hk)⟩
theorem But.alloc {g B : Nat} {a w : World} (h : But g B a w) (hB : B ≤ w.heap.size) (o : Obj) : But g B a (w.alloc o) :=
  ⟨h.os, h.tape, h.output, Nat.le_trans h.size (by simp), fun k hk hg => (Below.heap_alloc w o k (by omega)).trans (h.block k hk hg)⟩
theorem But.setCell {g B : Nat} {a w : World} (h : But g B a w) {p : Addr} (hp : p.block = g ∨ B ≤ p.block) (u : Value) : But g B a (w.setCell p u) :=
  ⟨h.os, h.tape, h.output, Nat.le_trans h.size (by simp [World.setCell]), fun k hk hg => (Below.heap_setCell w p u k (by omega)).trans (h.block k hk hg)⟩
theorem But.grown {g B : Nat} {a w w' : World} {row : Option Nat} (h : But g B a w) (hg : w.grownBy w' row) (hB : B ≤ w.heap.size) (hr : ∀ k, row = some k → B ≤ k ∨ k = g) : But g B a w' :=
  ⟨hg.os.trans h.os, hg.tape.trans h.tape, hg.output.trans h.output, Nat.le_trans h.size hg.size, fun k hk hne => (hg.block k (by omega) (fun e => by have := hr k e.symm; omega)).trans (h.block k hk hne)⟩
theorem But.cell {g B : Nat} {w w' : World} (h : But g B w w') {p : Addr} (hp : p.block < B) (hg : p.block ≠ g) : w'.cell? p = w.cell? p := cell_same (h.block _ hp hg)
/-- Below the heap's end. -/
def In (w : World) (b : Nat) : Prop := b < w.heap.size
theorem LayAt.next {w w' : World} {L : Lay} {vs ve vj vg vb : Value} (h : LayAt (In w) w L vs ve vj vg vb) (hb : Below w.heap.size w w') : LayAt (In w') w' L vs ve vj vg vb := h.keep (keep_next hb)
/-- The value. -/
def layV (L : Lay) (vs ve vj vg vb : Value) : Value := .agg #[.string (bs L.name), vs, ve, vj, vg, vb]

/-- A layout in a box of its own. -/
def LBox (g : Nat) (W : World) (L : Lay) (vs ve vj vg vb : Value) : Prop :=
  W.cell? ⟨g, 0, none⟩ = some (.string (bs L.name)) ∧ W.cell? ⟨g, 1, none⟩ = some vs ∧ W.cell? ⟨g, 2, none⟩ = some ve ∧ W.cell? ⟨g, 3, none⟩ = some vj ∧ W.cell? ⟨g, 4, none⟩ = some vg ∧ W.cell? ⟨g, 5, none⟩ = some vb
theorem lbox_new (w : World) (T : TypeId) (L : Lay) (vs ve vj vg vb : Value) : LBox w.heap.size (w.alloc (.cells #[.string (bs L.name), vs, ve, vj, vg, vb] T)) L vs ve vj vg vb := by
  refine ⟨?_, ?_, ?_, ?_, ?_, ?_⟩
  all_goals
    rw [World.cell?_alloc_at _ _ _ _ rfl]
    rfl
theorem LBox.next {g : Nat} {W W' : World} {L : Lay} {vs ve vj vg vb : Value} (h : LBox g W L vs ve vj vg vb) (hb : Below W.heap.size W W') (hg : g < W.heap.size) : LBox g W' L vs ve vj vg vb :=
  ⟨(hb.cell hg).trans h.1, (hb.cell hg).trans h.2.1, (hb.cell hg).trans h.2.2.1, (hb.cell hg).trans h.2.2.2.1, (hb.cell hg).trans h.2.2.2.2.1, (hb.cell hg).trans h.2.2.2.2.2⟩

/-- An element's seven cells at an index. -/
theorem LayAt.el {w : World} {L : Lay} {vs ve vj vg vb : Value} (h : LayAt (In w) w L vs ve vj vg vb) :
    ∃ a cap, ve = .slice a L.els.length cap ∧ (L.els.length : Int) ≤ 9223372036854775807 ∧ ∀ (wr : World), Below w.heap.size w wr → ∀ (i : Nat) (x : Elem), L.els[i]? = some x → ∃ b off, a = some ⟨b, off, none⟩ ∧
      wr.cell? ⟨b, off + i * 7, none⟩ = some (.string (bs x.name)) ∧
      wr.cell? ⟨b, off + i * 7 + 1, none⟩ = some (.int .i64 x.kind) ∧
      wr.cell? ⟨b, off + i * 7 + 2, none⟩ = some (.int .i64 x.len) ∧
      wr.cell? ⟨b, off + i * 7 + 3, none⟩ = some (.int .i64 x.grade) ∧
      wr.cell? ⟨b, off + i * 7 + 4, none⟩ = some (.int .i64 x.speed) ∧
      wr.cell? ⟨b, off + i * 7 + 5, none⟩ = some (.int .i64 x.slow) ∧
      wr.cell? ⟨b, off + i * 7 + 6, none⟩ = some (.int .i64 x.sec) := by
  obtain ⟨a, cap, h1, h2, _, _, h5⟩ := h.els.shape
  rw [List.length_map] at h1 h2
  refine ⟨a, cap, h1, h2, fun wr hb i x hx => ?_⟩
  obtain ⟨b, off, e, hbl, hc⟩ := h5 i _ (by rw [List.getElem?_map, hx]; rfl)
  exact ⟨b, off, e, (hb.cell (show b < w.heap.size from hbl)).trans (hc 0 _ rfl), (hb.cell (show b < w.heap.size from hbl)).trans (hc 1 _ rfl), (hb.cell (show b < w.heap.size from hbl)).trans (hc 2 _ rfl), (hb.cell (show b < w.heap.size from hbl)).trans (hc 3 _ rfl), (hb.cell (show b < w.heap.size from hbl)).trans (hc 4 _ rfl), (hb.cell (show b < w.heap.size from hbl)).trans (hc 5 _ rfl), (hb.cell (show b < w.heap.size from hbl)).trans (hc 6 _ rfl)⟩
/-- A joint's four cells. -/
theorem LayAt.jt {w : World} {L : Lay} {vs ve vj vg vb : Value} (h : LayAt (In w) w L vs ve vj vg vb) :
    ∃ a cap, vj = .slice a L.joints.length cap ∧ (L.joints.length : Int) ≤ 9223372036854775807 ∧ ∀ (wr : World), Below w.heap.size w wr → ∀ (i : Nat) (x : (Int × Int) × (Int × Int)), L.joints[i]? = some x → ∃ b off, a = some ⟨b, off, none⟩ ∧
      wr.cell? ⟨b, off + i * 4, none⟩ = some (.int .i64 x.1.1) ∧
      wr.cell? ⟨b, off + i * 4 + 1, none⟩ = some (.int .i64 x.1.2) ∧
      wr.cell? ⟨b, off + i * 4 + 2, none⟩ = some (.int .i64 x.2.1) ∧
      wr.cell? ⟨b, off + i * 4 + 3, none⟩ = some (.int .i64 x.2.2) := by
  obtain ⟨a, cap, h1, h2, _, _, h5⟩ := h.joints.shape
  rw [List.length_map] at h1 h2
  refine ⟨a, cap, h1, h2, fun wr hb i x hx => ?_⟩
  obtain ⟨b, off, e, hbl, hc⟩ := h5 i _ (by rw [List.getElem?_map, hx]; rfl)
  exact ⟨b, off, e, (hb.cell (show b < w.heap.size from hbl)).trans (hc 0 _ rfl), (hb.cell (show b < w.heap.size from hbl)).trans (hc 1 _ rfl), (hb.cell (show b < w.heap.size from hbl)).trans (hc 2 _ rfl), (hb.cell (show b < w.heap.size from hbl)).trans (hc 3 _ rfl)⟩
/-- A signal's four cells. -/
theorem LayAt.sg {w : World} {L : Lay} {vs ve vj vg vb : Value} (h : LayAt (In w) w L vs ve vj vg vb) :
    ∃ a cap, vg = .slice a L.sigs.length cap ∧ (L.sigs.length : Int) ≤ 9223372036854775807 ∧ ∀ (wr : World), Below w.heap.size w wr → ∀ (i : Nat) (x : Sig), L.sigs[i]? = some x → ∃ b off, a = some ⟨b, off, none⟩ ∧
      wr.cell? ⟨b, off + i * 4, none⟩ = some (.string (bs x.name)) ∧
      wr.cell? ⟨b, off + i * 4 + 1, none⟩ = some (.int .i64 x.spot.1) ∧
      wr.cell? ⟨b, off + i * 4 + 2, none⟩ = some (.int .i64 x.spot.2) ∧
      wr.cell? ⟨b, off + i * 4 + 3, none⟩ = some (.int .i64 x.over) := by
  obtain ⟨a, cap, h1, h2, _, _, h5⟩ := h.sigs.shape
  rw [List.length_map] at h1 h2
  refine ⟨a, cap, h1, h2, fun wr hb i x hx => ?_⟩
  obtain ⟨b, off, e, hbl, hc⟩ := h5 i _ (by rw [List.getElem?_map, hx]; rfl)
  exact ⟨b, off, e, (hb.cell (show b < w.heap.size from hbl)).trans (hc 0 _ rfl), (hb.cell (show b < w.heap.size from hbl)).trans (hc 1 _ rfl), (hb.cell (show b < w.heap.size from hbl)).trans (hc 2 _ rfl), (hb.cell (show b < w.heap.size from hbl)).trans (hc 3 _ rfl)⟩
/-- A balise's three cells. -/
theorem LayAt.bl {w : World} {L : Lay} {vs ve vj vg vb : Value} (h : LayAt (In w) w L vs ve vj vg vb) :
    ∃ a cap, vb = .slice a L.bals.length cap ∧ (L.bals.length : Int) ≤ 9223372036854775807 ∧ ∀ (wr : World), Below w.heap.size w wr → ∀ (i : Nat) (x : Bal), L.bals[i]? = some x → ∃ b off, a = some ⟨b, off, none⟩ ∧
      wr.cell? ⟨b, off + i * 3, none⟩ = some (.int .i64 x.id) ∧
      wr.cell? ⟨b, off + i * 3 + 1, none⟩ = some (.int .i64 x.el) ∧
      wr.cell? ⟨b, off + i * 3 + 2, none⟩ = some (.int .i64 x.off) := by
  obtain ⟨a, cap, h1, h2, _, _, h5⟩ := h.bals.shape
  rw [List.length_map] at h1 h2
  refine ⟨a, cap, h1, h2, fun wr hb i x hx => ?_⟩
  obtain ⟨b, off, e, hbl, hc⟩ := h5 i _ (by rw [List.getElem?_map, hx]; rfl)
  exact ⟨b, off, e, (hb.cell (show b < w.heap.size from hbl)).trans (hc 0 _ rfl), (hb.cell (show b < w.heap.size from hbl)).trans (hc 1 _ rfl), (hb.cell (show b < w.heap.size from hbl)).trans (hc 2 _ rfl)⟩
/-- A section's name. -/
theorem LayAt.sn {w : World} {L : Lay} {vs ve vj vg vb : Value} (h : LayAt (In w) w L vs ve vj vg vb) :
    ∃ a cap, vs = .slice a L.secs.length cap ∧ (L.secs.length : Int) ≤ 9223372036854775807 ∧ ∀ (wr : World), Below w.heap.size w wr → ∀ (i : Nat) (x : List UInt8), L.secs[i]? = some x → ∃ b off, a = some ⟨b, off, none⟩ ∧
      wr.cell? ⟨b, off + i, none⟩ = some (.string (bs x)) := by
  obtain ⟨a, cap, h1, h2, _, _, h5⟩ := h.secs.shape
  refine ⟨a, cap, h1, h2, fun wr hb i x hx => ?_⟩
  obtain ⟨_, b, off, e, hbl, hc⟩ := h5 i x hx
  exact ⟨b, off, e, (hb.cell (show b < w.heap.size from hbl)).trans hc⟩

/-- A box beside the layout: what is below stays. -/
theorem LayAt.box {w : World} {L : Lay} {vs ve vj vg vb : Value} (h : LayAt (In w) w L vs ve vj vg vb) (o : Obj) : LayAt (In (w.alloc o)) (w.alloc o) L vs ve vj vg vb := h.next ((Below.refl _ _).alloc (Nat.le_refl _) o)

end Go.Proofs.YtjhimekojiegjaaDoor.Lay

/- Decimal forms, names and lists of numbers: plain mathematics over bytes. No program. -/
namespace Go.Proofs.YtjhimekojiegjaaDoor.Numt
open Go.Lib Go.Proofs.YtjhimekojiegjaaDoor.Text

def isDig (b : UInt8) : Bool := decide (48 ≤ b.toNat) && decide (b.toNat ≤ 57)
def strip (l : (List UInt8)) : (List UInt8) := if l.head? = some 45 then l.tail else l
def negL (l : (List UInt8)) : Bool := decide (l.head? = some 45)
/-- Digits, without leading noughts. -/
def digsL (d : (List UInt8)) : Bool := d.all isDig && (decide (0 < d.length) && (decide (d.head? ≠ some 48) || decide (d.length = 1)))
/-- The decimal form of an integer, as the reference asks for it. -/
def decL (l : (List UInt8)) : Bool := digsL (strip l) && !(negL l && decide (strip l = [48]))
/-- The same, as the program asks for it. -/
def decP (l : (List UInt8)) : Bool := decide (l = [48]) || (decide (strip l ≠ []) && decide ((strip l).head? ≠ some 48) && (strip l).all isDig)

theorem strip_neg (r : (List UInt8)) : strip (45 :: r) = r := rfl
theorem strip_pos {l : (List UInt8)} (h : l.head? ≠ some 45) : strip l = l := by rw [strip, if_neg h]
theorem trim_strip (l : (List UInt8)) : Lib.trimPrefix l [45] = strip l := by
  unfold Lib.trimPrefix Lib.hasPrefix
  cases l with
  | nil => rfl
  | cons b l =>
    by_cases hb : b = 45
    · subst hb; simp [List.isPrefixOf, strip]
    · rw [strip_pos (by simpa using hb)]
      simp [List.isPrefixOf, Ne.symm hb]
theorem one_of {d : (List UInt8)} (h1 : d.length = 1) (h2 : d.head? = some 48) : d = [48] := by
  match d, h1 with
  | [a], _ => simp at h2; rw [h2]
theorem dec_eq (l : (List UInt8)) : decP l = decL l := by
  rw [Bool.eq_iff_iff]
  unfold decP decL digsL
  simp only [Bool.or_eq_true, Bool.and_eq_true, decide_eq_true_eq, Bool.not_eq_true', Bool.and_eq_false_iff, decide_eq_false_iff_not]
  constructor
  · rintro (rfl | ⟨⟨h1, h2⟩, h3⟩)
    · decide
    · refine ⟨⟨h3, List.length_pos_iff.2 h1, .inl h2⟩, .inr fun e => ?_⟩
      rw [e] at h2
      simp at h2
  · rintro ⟨⟨h1, h2, h3⟩, h4⟩
    have hne : strip l ≠ [] := List.length_pos_iff.1 h2
    by_cases h48 : (strip l).head? = some 48
    · rcases h3 with h3 | h3
      · exact absurd h48 h3
      · have e := one_of h3 h48
        rcases h4 with h4 | h4
        · left
          unfold negL at h4
          rw [decide_eq_false_iff_not] at h4
          rw [strip_pos h4] at e
          exact e
        · exact absurd e h4
    · exact .inr ⟨⟨hne, h48⟩, h1⟩

/-- The number that digits represent, behind what acc represents. -/
def val (acc : Nat) (l : (List UInt8)) : Nat := l.foldl (fun a (c : UInt8) => a * 10 + (c.toNat - 48)) acc
theorem val_cons (acc : Nat) (c : UInt8) (r : (List UInt8)) : val acc (c :: r) = val (acc * 10 + (c.toNat - 48)) r := by
  unfold val
  rw [List.foldl_cons]
theorem val_nil (acc : Nat) : val acc [] = acc := by
  unfold val
  rw [List.foldl_nil]
theorem head_app {a b : (List UInt8)} (h : a ≠ []) : (a ++ b).head? = a.head? := by
  cases a with
  | nil => exact absurd rfl h
  | cons x r => rfl
theorem val_ge (l : (List UInt8)) : ∀ acc : Nat, acc ≤ val acc l := by
  induction l with
  | nil => intro acc; rw [val_nil]; exact Nat.le_refl _
  | cons c r ih =>
    intro acc
    have := ih (acc * 10 + (c.toNat - 48))
    rw [val_cons]
    omega
theorem val_snoc (l : (List UInt8)) : ∀ (acc : Nat) (c : UInt8), val acc (l ++ [c]) = val acc l * 10 + (c.toNat - 48) := by
  induction l with
  | nil => intro acc c; rw [List.nil_append, val_cons, val_nil, val_nil]
  | cons b l ih => intro acc c; rw [List.cons_append, val_cons, val_cons, ih]

/-- The answer of Int: the number, the error. -/
def intR (l : (List UInt8)) : Int × Nat :=
  if decL l = false then (0, 4)
  else if negL l = true then (if 9223372036854775808 < val 0 (strip l) then (0, 17) else (-(val 0 (strip l) : Int), 0))
  else if 9223372036854775808 ≤ val 0 (strip l) then (0, 17) else ((val 0 (strip l) : Int), 0)

theorem intR_range (l : (List UInt8)) : -9223372036854775808 ≤ (intR l).1 ∧ (intR l).1 ≤ 9223372036854775807 := by
  unfold intR
  split
  · decide
  · split <;> split <;> simp <;> omega

/-! What strconv.Atoi answers. -/
theorem parse_digs : ∀ (l : (List UInt8)) (acc : Nat), l.all isDig = true → acc < 18446744073709551616 → parseUint10 acc l = if val acc l < 18446744073709551616 then .ok (val acc l) else .range
  | [], acc, _, ha => by rw [parseUint10, val_nil, if_pos ha]
  | c :: r, acc, h, ha => by
    simp only [List.all_cons, Bool.and_eq_true, isDig, decide_eq_true_eq] at h
    obtain ⟨⟨h1, h2⟩, h3⟩ := h
    have hg := val_ge r (acc * 10 + (c.toNat - 48))
    rw [parseUint10, if_pos ⟨h1, h2⟩, val_cons]
    split
    · rw [if_neg (by omega)]
    · split
      · rw [if_neg (by omega)]
      · exact parse_digs r _ (by simpa [isDig] using h3) (by omega)
theorem dec_digs {l : (List UInt8)} (h : decL l = true) : (strip l).all isDig = true ∧ strip l ≠ [] := by
  unfold decL digsL at h
  simp only [Bool.and_eq_true, decide_eq_true_eq] at h
  exact ⟨h.1.1, List.length_pos_iff.1 h.1.2.1⟩
/-- On a decimal form Atoi gives the number or says that it is out of range. -/
theorem atoi_dec {l : (List UInt8)} (h : decL l = true) : (∃ v, atoiAll l = .ok v ∧ intR l = (v, 0)) ∨ (atoiAll l = .range ∧ intR l = (0, 17)) := by
  obtain ⟨h1, h2⟩ := dec_digs h
  have hp : parseMag (strip l) = if val 0 (strip l) < 18446744073709551616 then .ok (val 0 (strip l)) else .range := by
    rw [parseMag, if_neg h2, parse_digs _ 0 h1 (by decide)]
  have hi : intR l = if negL l = true then (if 9223372036854775808 < val 0 (strip l) then (0, 17) else (-(val 0 (strip l) : Int), 0))
      else if 9223372036854775808 ≤ val 0 (strip l) then (0, 17) else ((val 0 (strip l) : Int), 0) := by
    rw [intR, h, if_neg (by decide)]
  cases l with
  | nil => exact absurd rfl h2
  | cons b r =>
    by_cases hb : b = 45
    · subst hb
      rw [strip_neg] at hp hi
      have hn : negL (45 :: r) = true := rfl
      rw [hn, if_pos rfl] at hi
      rw [atoiAll_minus, hp, hi]
      by_cases h63 : 9223372036854775808 < val 0 r
      · right
        rw [if_pos h63]
        refine ⟨?_, rfl⟩
        split
        · simp [signed, h63]
        · rfl
      · left
        rw [if_neg h63, if_pos (by omega)]
        exact ⟨_, by simp only [signed]; rw [if_neg h63], rfl⟩
    · have hs : strip (b :: r) = b :: r := strip_pos (by simpa using hb)
      rw [hs] at hp hi h1
      have hn : negL (b :: r) = false := by simp [negL, hb]
      rw [hn, if_neg (by decide)] at hi
      have hd : 48 ≤ b.toNat ∧ b.toNat ≤ 57 := by
        simp only [List.all_cons, Bool.and_eq_true, isDig, decide_eq_true_eq] at h1
        exact h1.1
      rw [atoiAll_plain b r (by omega) (by omega), hp, hi]
      by_cases h63 : 9223372036854775808 ≤ val 0 (b :: r)
      · right
        rw [if_pos h63]
        refine ⟨?_, rfl⟩
        split
        · simp [signless, h63]
        · rfl
      · left
        rw [if_neg h63, if_pos (by omega)]
        exact ⟨_, by simp only [signless]; rw [if_neg h63], rfl⟩

/-! Decimal forms and numbers. -/
theorem toNat_dig {i : Nat} (h : i < 10) : (UInt8.ofNat (48 + i)).toNat = 48 + i := by
  simp [UInt8.toNat_ofNat']
  omega
theorem digs_of (u : Nat) : (decDigits u).all isDig = true ∧ val 0 (decDigits u) = u ∧ decDigits u ≠ [] ∧ ((decDigits u).head? = some 48 → u = 0) := by
  induction u using Nat.strongRecOn with
  | _ u ih =>
    by_cases h : u < 10
    · rw [decDigits, dif_pos h]
      have := toNat_dig h
      refine ⟨by simp only [List.all_cons, List.all_nil, isDig, this, Bool.and_true, Bool.and_eq_true, decide_eq_true_eq]; omega, by rw [val_cons, val_nil, this]; omega, by simp, ?_⟩
      intro e
      simp only [List.head?_cons, Option.some.injEq] at e
      rw [e] at this
      have e48 : (48 : UInt8).toNat = 48 := rfl
      omega
    · obtain ⟨i1, i2, i3, i4⟩ := ih (u / 10) (by omega)
      have hd : u % 10 < 10 := Nat.mod_lt _ (by decide)
      have := toNat_dig hd
      rw [decDigits, dif_neg h]
      refine ⟨?_, ?_, by simp, ?_⟩
      · rw [List.all_append, i1]
        simp only [List.all_cons, List.all_nil, isDig, this, Bool.and_true, Bool.true_and, Bool.and_eq_true, decide_eq_true_eq]
        omega
      · rw [val_snoc, i2, this]
        omega
      · intro e
        rw [head_app i3] at e
        have := i4 e
        omega
theorem decDigits_head45 (u : Nat) : (decDigits u).head? ≠ some 45 := by
  obtain ⟨h1, _, h3, _⟩ := digs_of u
  cases h : decDigits u with
  | nil => exact absurd h h3
  | cons b r =>
    rw [h] at h1
    simp only [List.all_cons, Bool.and_eq_true, isDig, decide_eq_true_eq] at h1
    intro e
    simp only [List.head?_cons, Option.some.injEq] at e
    rw [e] at h1
    exact absurd h1.1.1 (by decide)
theorem digs_digs (u : Nat) : digsL (decDigits u) = true := by
  obtain ⟨h1, h2, h3, h4⟩ := digs_of u
  unfold digsL
  simp only [Bool.and_eq_true, Bool.or_eq_true, decide_eq_true_eq]
  refine ⟨h1, List.length_pos_iff.2 h3, ?_⟩
  by_cases h : (decDigits u).head? = some 48
  · right
    rw [h4 h, decDigits, dif_pos (by decide)]
    rfl
  · exact .inl h
theorem digs_not0 {u : Nat} (h : 1 ≤ u) : decDigits u ≠ [48] := by
  intro e
  have := (digs_of u).2.2.2 (by rw [e]; rfl)
  omega
/-- Int restores a number from its decimal form. -/
theorem int_of_itoa {n : Int} (h0 : -9223372036854775808 ≤ n) (h1 : n ≤ 9223372036854775807) : intR (itoa n) = (n, 0) := by
  by_cases h : n < 0
  · have e : itoa n = 45 :: decDigits n.natAbs := by rw [itoa, if_pos h]
    have hd : decL (itoa n) = true := by
      rw [decL, e, strip_neg, digs_digs]
      have := digs_not0 (u := n.natAbs) (by omega)
      simp [this]
    rw [intR, hd, if_neg (by decide), e, strip_neg, (digs_of _).2.1]
    rw [if_pos (by rfl), if_neg (by omega)]
    have : -(n.natAbs : Int) = n := by omega
    rw [this]
  · have e : itoa n = decDigits n.toNat := by rw [itoa, if_neg h]
    have hs := strip_pos (decDigits_head45 n.toNat)
    have hn : negL (decDigits n.toNat) = false := by simp [negL, decDigits_head45]
    have hd : decL (itoa n) = true := by
      rw [decL, e, hs, digs_digs, hn]
      rfl
    rw [intR, hd, if_neg (by decide), e, hs, hn, (digs_of _).2.1, if_neg (by decide), if_neg (by omega)]
    have : (n.toNat : Int) = n := by omega
    rw [this]
theorem digs_one (c : UInt8) (hc : 48 ≤ c.toNat ∧ c.toNat ≤ 57) : decDigits (val 0 [c]) = [c] := by
  have e : val 0 [c] = c.toNat - 48 := by rw [val_cons, val_nil]; omega
  rw [e, decDigits, dif_pos (by omega)]
  have : UInt8.ofNat (48 + (c.toNat - 48)) = c := by
    apply UInt8.toNat_inj.1
    rw [toNat_dig (by omega)]
    omega
  rw [this]
theorem val_pos {d : (List UInt8)} (hne : d ≠ []) (hd : d.all isDig = true) (h48 : d.head? ≠ some 48) : 1 ≤ val 0 d := by
  cases d with
  | nil => exact absurd rfl hne
  | cons b r =>
    simp only [List.all_cons, Bool.and_eq_true, isDig, decide_eq_true_eq] at hd
    have hb : b.toNat ≠ 48 := fun e => h48 (by rw [List.head?_cons]; congr 1; exact UInt8.toNat_inj.1 e)
    have := val_ge r (0 * 10 + (b.toNat - 48))
    rw [val_cons]
    omega
theorem digs_more {d : (List UInt8)} {c : UInt8} (hp : 1 ≤ val 0 d) (hc : 48 ≤ c.toNat ∧ c.toNat ≤ 57) (ih : decDigits (val 0 d) = d) : decDigits (val 0 (d ++ [c])) = d ++ [c] := by
  rw [val_snoc]
  generalize hv : val 0 d = v at hp ih ⊢
  have e1 : (v * 10 + (c.toNat - 48)) / 10 = v := by omega
  have e2 : 48 + (v * 10 + (c.toNat - 48)) % 10 = 48 + (c.toNat - 48) := by omega
  have e3 : UInt8.ofNat (48 + (c.toNat - 48)) = c := by
    apply UInt8.toNat_inj.1
    rw [toNat_dig (by omega)]
    omega
  rw [decDigits, dif_neg (by omega), e1, e2, e3, ih]
theorem all_snoc {d : (List UInt8)} {c : UInt8} (h : (d ++ [c]).all isDig = true) : d.all isDig = true ∧ 48 ≤ c.toNat ∧ c.toNat ≤ 57 := by
  rw [List.all_append, Bool.and_eq_true] at h
  refine ⟨h.1, ?_⟩
  have := h.2
  simp only [List.all_cons, List.all_nil, Bool.and_true, isDig, Bool.and_eq_true, decide_eq_true_eq] at this
  exact this
theorem snoc_of {d : (List UInt8)} (h : d ≠ []) : ∃ d' c, d = d' ++ [c] := ⟨d.dropLast, d.getLast h, (List.dropLast_concat_getLast h).symm⟩
theorem digs_snoc (k : Nat) : ∀ d : (List UInt8), d.length = k + 1 → d.all isDig = true → (d.head? ≠ some 48 ∨ d.length = 1) → decDigits (val 0 d) = d := by
  induction k with
  | zero =>
    intro d hk hd _
    obtain ⟨d', c, rfl⟩ := snoc_of (d := d) (by rintro rfl; simp at hk)
    have : d' = [] := by simpa using hk
    subst this
    exact digs_one c (all_snoc hd).2
  | succ k ih =>
    intro d hk hd hh
    obtain ⟨d', c, rfl⟩ := snoc_of (d := d) (by rintro rfl; simp at hk)
    have hl : d'.length = k + 1 := by simpa using hk
    have hne' : d' ≠ [] := by rintro rfl; simp at hl
    have h48 : d'.head? ≠ some 48 := by
      rcases hh with hh | hh
      · rwa [head_app hne'] at hh
      · rw [List.length_append, hl] at hh; simp at hh
    have hd' := all_snoc hd
    exact digs_more (val_pos hne' hd'.1 h48) hd'.2 (ih d' hl hd'.1 (.inl h48))
/-- What Int accepts is the decimal form of its result. -/
theorem itoa_of_int {l : (List UInt8)} {n : Int} (h : intR l = (n, 0)) : itoa n = l := by
  unfold intR at h
  split at h
  · simp at h
  · rename_i hd
    have hd' : decL l = true := by simpa using hd
    unfold decL digsL at hd'
    simp only [Bool.and_eq_true, Bool.or_eq_true, decide_eq_true_eq, Bool.not_eq_true', Bool.and_eq_false_iff, decide_eq_false_iff_not] at hd'
    obtain ⟨⟨d1, d2, d3⟩, d4⟩ := hd'
    have hs : decDigits (val 0 (strip l)) = strip l := digs_snoc ((strip l).length - 1) _ (by omega) d1 d3
    split at h
    · rename_i hn
      split at h
      · simp at h
      · simp only [Prod.mk.injEq, and_true] at h
        obtain ⟨r, rfl⟩ : ∃ r, l = 45 :: r := by
          cases l with
          | nil => simp [negL] at hn
          | cons b r => simp [negL] at hn; exact ⟨r, by rw [hn]⟩
        rw [strip_neg] at hs h d4
        have hv : val 0 r ≠ 0 := by
          intro e
          rw [e, decDigits, dif_pos (by decide)] at hs
          rcases d4 with d4 | d4
          · rw [hn] at d4; cases d4
          · exact d4 hs.symm
        have e : n.natAbs = val 0 r := by omega
        rw [itoa, if_pos (by omega), e, hs]
    · rename_i hn
      split at h
      · simp at h
      · simp only [Prod.mk.injEq, and_true] at h
        have hh : l.head? ≠ some 45 := by simpa [negL] using hn
        rw [strip_pos hh] at hs h
        have e : n.toNat = val 0 l := by omega
        rw [itoa, if_neg (by omega), e, hs]

/-! Names. -/
def isLet (b : UInt8) : Bool := decide (97 ≤ b.toNat) && decide (b.toNat ≤ 122)
def inName (b : UInt8) : Bool := isLet b || isDig b || decide (b.toNat = 95)
def nameL (l : (List UInt8)) : Bool := decide (l ≠ []) && decide (l.length ≤ 12) && (match l with | [] => false | b :: _ => isLet b) && l.all inName

/-! Lists of numbers. -/
def seqI (acc : List Int) : List (List UInt8) → List Int × Nat
  | [] => (acc, 0)
  | p :: ps => if (intR p).2 ≠ 0 then ([], (intR p).2) else seqI (acc ++ [(intR p).1]) ps
def listR (s : (List UInt8)) : List Int × Nat := if s = [45] then ([], 0) else seqI [] (parts 44 [] s)
def fmtL (l : List Int) : (List UInt8) := if l = [] then [45] else Lib.join (l.map itoa) [44]

theorem seqI_bad {acc : List Int} {p : (List UInt8)} {ps : List (List UInt8)} {n : Int} {e : Nat} (h : intR p = (n, e)) (he : e ≠ 0) : seqI acc (p :: ps) = ([], e) := by rw [seqI, h, if_pos he]
theorem seqI_more {acc : List Int} {p : (List UInt8)} {ps : List (List UInt8)} {n : Int} (h : intR p = (n, 0)) : seqI acc (p :: ps) = seqI (acc ++ [n]) ps := by rw [seqI, h, if_neg (by simp)]
theorem seqI_itoa : ∀ (l acc : List Int), (∀ n ∈ l, -9223372036854775808 ≤ n ∧ n ≤ 9223372036854775807) → seqI acc (l.map itoa) = (acc ++ l, 0)
  | [], acc, _ => by simp [seqI]
  | n :: l, acc, h => by
    have hn := h n (by simp)
    rw [List.map_cons, seqI_more (int_of_itoa hn.1 hn.2), seqI_itoa l _ (fun m hm => h m (by simp [hm]))]
    simp
theorem itoa_of_seqI : ∀ (ps : List (List UInt8)) (acc l : List Int), seqI acc ps = (l, 0) → ∃ k, l = acc ++ k ∧ k.map itoa = ps
  | [], acc, l, h => by
    simp only [seqI, Prod.mk.injEq, and_true] at h
    exact ⟨[], by simp [h], rfl⟩
  | p :: ps, acc, l, h => by
    obtain ⟨⟨n, e⟩, hp⟩ : ∃ r, intR p = r := ⟨_, rfl⟩
    by_cases he : e = 0
    · subst he
      rw [seqI_more hp] at h
      obtain ⟨k, rfl, hk⟩ := itoa_of_seqI ps _ _ h
      exact ⟨n :: k, by simp, by rw [List.map_cons, hk, itoa_of_int hp]⟩
    · rw [seqI_bad hp he] at h
      simp only [Prod.mk.injEq] at h
      exact absurd h.2 he
theorem itoa_no44 (n : Int) : (44 : UInt8) ∉ itoa n := by
  have hd : ∀ u, (44 : UInt8) ∉ decDigits u := by
    intro u hm
    have := List.all_eq_true.1 (digs_of u).1 _ hm
    exact absurd this (by decide)
  unfold itoa
  split
  · intro hm
    rcases List.mem_cons.1 hm with hm | hm
    · cases hm
    · exact hd _ hm
  · exact hd _
/-- Lists are restored from their text. -/
theorem list_of_fmt {l : List Int} (h : ∀ n ∈ l, -9223372036854775808 ≤ n ∧ n ≤ 9223372036854775807) : listR (fmtL l) = (l, 0) := by
  cases l with
  | nil => rfl
  | cons n l =>
    have hp : parts 44 [] (fmtL (n :: l)) = (n :: l).map itoa := by
      unfold fmtL
      rw [if_neg (by simp), List.map_cons]
      apply parts_of_join
      intro q hq
      rw [← List.map_cons] at hq
      obtain ⟨m, _, rfl⟩ := List.mem_map.1 hq
      exact itoa_no44 m
    have hne : fmtL (n :: l) ≠ [45] := by
      intro e
      rw [e] at hp
      have hn := h n (by simp)
      have : itoa n = [45] := by
        rw [List.map_cons] at hp
        have h2 : parts 44 [] [45] = [[45]] := rfl
        rw [h2] at hp
        exact (List.cons.inj hp).1.symm
      have h3 := int_of_itoa hn.1 hn.2
      rw [this] at h3
      have h4 : (intR [45]).2 = 4 := by decide
      rw [h3] at h4
      cases h4
    unfold listR
    rw [if_neg hne, hp, seqI_itoa _ _ h]
    rfl
/-- What List accepts is the form of its result. -/
theorem fmt_of_list {s : (List UInt8)} {l : List Int} (h : listR s = (l, 0)) : fmtL l = s := by
  unfold listR at h
  split at h
  · rename_i hs
    simp only [Prod.mk.injEq, and_true] at h
    rw [hs, ← h]
    rfl
  · obtain ⟨k, hl, hk⟩ := itoa_of_seqI _ _ _ h
    rw [List.nil_append] at hl
    subst hl
    unfold fmtL
    have hne : l ≠ [] := by
      rintro rfl
      exact parts_ne 44 s [] hk.symm
    rw [if_neg hne, hk, parts_join]
    rfl

end Go.Proofs.YtjhimekojiegjaaDoor.Numt

/- What layer 7 asks of layouts: plain mathematics, of no program. -/
namespace Go.Proofs.YtjhimekojiegjaaDoor.Layf
open Go.Proofs.YtjhimekojiegjaaDoor.Lay Go.Proofs.YtjhimekojiegjaaDoor.Numt

/-- The indexes, from i on, of the parts that meet p. -/
def pick {α : Type} (p : α → Bool) : Nat → List α → List Int
  | _, [] => []
  | i, x :: l => if p x = true then (i : Int) :: pick p (i + 1) l else pick p (i + 1) l
theorem pick_yes {α : Type} {p : α → Bool} {i : Nat} {x : α} {l : List α} (h : p x = true) : pick p i (x :: l) = (i : Int) :: pick p (i + 1) l := by rw [pick, if_pos h]
theorem pick_no {α : Type} {p : α → Bool} {i : Nat} {x : α} {l : List α} (h : p x = false) : pick p i (x :: l) = pick p (i + 1) l := by rw [pick, if_neg (by simp [h])]
theorem drop_at {α : Type} {l : List α} {j : Nat} {x : α} (h : l[j]? = some x) : l.drop j = x :: l.drop (j + 1) := by
  obtain ⟨hj, rfl⟩ := List.getElem?_eq_some_iff.1 h
  exact List.drop_eq_getElem_cons hj

def isMember (n : Nat) (s : Int) (x : Elem) : Bool := x.sec == s && (decide (0 ≤ s) && decide (s < (n : Int)))
def membersF (L : Lay) (s : Int) : List Int := pick (isMember L.secs.length s) 0 L.els
def isPoint (x : Elem) : Bool := x.kind == 2
def pointsF (L : Lay) : List Int := pick isPoint 0 L.els

/-- Whether something is in a list twice. -/
def dupB {α : Type} [DecidableEq α] : List α → Bool
  | [] => false
  | x :: l => decide (x ∈ l) || dupB l
theorem dup_iff {α : Type} [DecidableEq α] : ∀ {l : List α}, dupB l = true ↔ ∃ (a b : Nat) (x : α), a < b ∧ l[a]? = some x ∧ l[b]? = some x
  | [] => by simp [dupB]
  | y :: l => by
    rw [dupB, Bool.or_eq_true, decide_eq_true_eq, dup_iff]
    constructor
    · rintro (h | ⟨a, b, x, hab, ha, hb⟩)
      · obtain ⟨i, hi⟩ := List.mem_iff_getElem?.1 h
        exact ⟨0, i + 1, y, by omega, rfl, by simpa using hi⟩
      · exact ⟨a + 1, b + 1, x, by omega, by simpa using ha, by simpa using hb⟩
    · rintro ⟨a, b, x, hab, ha, hb⟩
      obtain ⟨b, rfl⟩ : ∃ c, b = c + 1 := ⟨b - 1, by omega⟩
      rw [List.getElem?_cons_succ] at hb
      cases a with
      | zero =>
        rw [List.getElem?_cons_zero] at ha
        cases ha
        exact .inl (List.mem_iff_getElem?.2 ⟨b, hb⟩)
      | succ a =>
        rw [List.getElem?_cons_succ] at ha
        exact .inr ⟨a, b, x, by omega, ha, hb⟩

/-- Whether an element is as the fourth condition says, in a layout of n sections. -/
def rightB (n : Nat) (x : Elem) : Bool :=
  decide (1 ≤ x.kind ∧ x.kind ≤ 3 ∧ 500 ≤ x.len ∧ x.len ≤ 1000000 ∧ -50 ≤ x.grade ∧ x.grade ≤ 50 ∧ 100 ≤ x.speed ∧ x.speed ≤ 10000 ∧ 0 ≤ x.sec ∧ x.sec < (n : Int) ∧ (x.kind ≠ 2 ∨ (100 ≤ x.slow ∧ x.slow ≤ x.speed)) ∧ (x.kind = 2 ∨ x.slow = 0))
def sidesN (k : Int) : Int := if k = 1 then 2 else if k = 2 then 3 else if k = 3 then 4 else 0
/-- Whether an end exists. -/
def existsB (els : List Elem) (p : Int × Int) : Bool :=
  match els[p.1.toNat]? with
  | some x => decide (0 ≤ p.1) && (decide (0 ≤ p.2) && decide (p.2 < sidesN x.kind))
  | none => false
theorem exists_yes {els : List Elem} {p : Int × Int} {x : Elem} (h0 : 0 ≤ p.1) (h1 : 0 ≤ p.2) (hx : els[p.1.toNat]? = some x) : existsB els p = decide (p.2 < sidesN x.kind) := by
  simp [existsB, hx, h0, h1]
theorem exists_neg {els : List Elem} {p : Int × Int} (h : p.1 < 0 ∨ (els.length : Int) ≤ p.1 ∨ p.2 < 0) : existsB els p = false := by
  unfold existsB
  cases hx : els[p.1.toNat]? with
  | none => rfl
  | some x =>
    have := (List.getElem?_eq_some_iff.1 hx).1
    rcases h with h | h | h
    · simp; omega
    · omega
    · simp; omega

/-- The other end of the first joint that has the end e. -/
def joinR (e : Int × Int) : List ((Int × Int) × (Int × Int)) → (Int × Int) × Bool
  | [] => ((0, 0), false)
  | (a, b) :: l => if a = e then (b, true) else if b = e then (a, true) else joinR e l
def joinedF (L : Lay) (e : Int × Int) : (Int × Int) × Bool := joinR e L.joints
theorem joinR_a {e b : Int × Int} {l : List ((Int × Int) × (Int × Int))} : joinR e ((e, b) :: l) = (b, true) := by rw [joinR, if_pos rfl]
theorem joinR_b {e a : Int × Int} {l : List ((Int × Int) × (Int × Int))} (h : a ≠ e) : joinR e ((a, e) :: l) = (a, true) := by rw [joinR, if_neg h, if_pos rfl]
theorem joinR_no {e a b : Int × Int} {l : List ((Int × Int) × (Int × Int))} (h : a ≠ e) (h2 : b ≠ e) : joinR e ((a, b) :: l) = joinR e l := by rw [joinR, if_neg h, if_neg h2]

/-! The conditions 1 to 3. -/
def limitB (L : Lay) : Bool := decide (1 ≤ L.els.length ∧ L.els.length ≤ 32 ∧ 1 ≤ L.secs.length ∧ L.secs.length ≤ 24 ∧ L.sigs.length ≤ 20 ∧ L.bals.length ≤ 24)
def allNames (L : Lay) : List (List UInt8) := L.name :: (L.secs ++ (L.els.map (·.name) ++ L.sigs.map (·.name)))
def dupN (L : Lay) : Bool := dupB L.secs || (dupB (L.els.map (·.name)) || dupB (L.sigs.map (·.name)))
def namedF (L : Lay) : Int := if limitB L = false then 2 else if (allNames L).all nameL = false then 3 else if dupN L = true then 8 else 0
theorem named_limit {L : Lay} (h : limitB L = false) : namedF L = 2 := by rw [namedF, if_pos h]
theorem named_name {L : Lay} (h : limitB L = true) (h2 : (allNames L).all nameL = false) : namedF L = 3 := by rw [namedF, if_neg (by simp [h]), if_pos h2]
theorem named_dup {L : Lay} (h : limitB L = true) (h2 : (allNames L).all nameL = true) (h3 : dupN L = true) : namedF L = 8 := by rw [namedF, if_neg (by simp [h]), if_neg (by simp [h2]), if_pos h3]
theorem named_ok {L : Lay} (h : limitB L = true) (h2 : (allNames L).all nameL = true) (h3 : dupN L = false) : namedF L = 0 := by rw [namedF, if_neg (by simp [h]), if_neg (by simp [h2]), if_neg (by simp [h3])]

/-! The conditions 4 to 7. -/
def jointB (els : List Elem) (j : (Int × Int) × (Int × Int)) : Bool := existsB els j.1 && (existsB els j.2 && !decide (j.1 = j.2))
def endsOf (js : List ((Int × Int) × (Int × Int))) : List (Int × Int) := js.flatMap fun j => [j.1, j.2]
/-- Each section from i on has an element, n of them. -/
def heldR (L : Lay) : Nat → Nat → Bool
  | _, 0 => true
  | i, n + 1 => !decide (membersF L (i : Int) = []) && heldR L (i + 1) n
def elementsF (L : Lay) : Int :=
  if L.els.all (rightB L.secs.length) = false then 1 else if heldR L 0 L.secs.length = false then 1 else if L.joints.all (jointB L.els) = false then 1 else if dupB (endsOf L.joints) = true then 8 else 0
theorem elements_right {L : Lay} (h : L.els.all (rightB L.secs.length) = false) : elementsF L = 1 := by rw [elementsF, if_pos h]
theorem elements_held {L : Lay} (h : L.els.all (rightB L.secs.length) = true) (h2 : heldR L 0 L.secs.length = false) : elementsF L = 1 := by rw [elementsF, if_neg (by simp [h]), if_pos h2]
theorem elements_joint {L : Lay} (h : L.els.all (rightB L.secs.length) = true) (h2 : heldR L 0 L.secs.length = true) (h3 : L.joints.all (jointB L.els) = false) : elementsF L = 1 := by rw [elementsF, if_neg (by simp [h]), if_neg (by simp [h2]), if_pos h3]
theorem elements_dup {L : Lay} (h : L.els.all (rightB L.secs.length) = true) (h2 : heldR L 0 L.secs.length = true) (h3 : L.joints.all (jointB L.els) = true) (h4 : dupB (endsOf L.joints) = true) : elementsF L = 8 := by rw [elementsF, if_neg (by simp [h]), if_neg (by simp [h2]), if_neg (by simp [h3]), if_pos h4]
theorem elements_ok {L : Lay} (h : L.els.all (rightB L.secs.length) = true) (h2 : heldR L 0 L.secs.length = true) (h3 : L.joints.all (jointB L.els) = true) (h4 : dupB (endsOf L.joints) = false) : elementsF L = 0 := by rw [elementsF, if_neg (by simp [h]), if_neg (by simp [h2]), if_neg (by simp [h3]), if_neg (by simp [h4])]
theorem held_step {L : Lay} {i n : Nat} {l : List Int} (h : membersF L (i : Int) = l) : heldR L i (n + 1) = (!decide (l = []) && heldR L (i + 1) n) := by rw [heldR, h]

/-! The conditions 8 to 10. -/
def sigB (els : List Elem) (s : Sig) : Bool := existsB els s.spot && (decide (0 ≤ s.over) && decide (s.over ≤ 1000000))
def secAt (els : List Elem) (i : Int) : Option Int := (els[i.toNat]?).map (·.sec)
def safeB (L : Lay) (e : Int × Int) : Bool := (joinedF L e).2 && !decide (secAt L.els (joinedF L e).1.1 = secAt L.els e.1)
def signalsF (L : Lay) : Int :=
  if L.sigs.all (sigB L.els) = false then 1 else if dupB (L.sigs.map (·.spot)) = true then 8 else if (L.sigs.map (·.spot)).all (safeB L) = false then 14 else 0
theorem signals_arg {L : Lay} (h : L.sigs.all (sigB L.els) = false) : signalsF L = 1 := by rw [signalsF, if_pos h]
theorem signals_dup {L : Lay} (h : L.sigs.all (sigB L.els) = true) (h2 : dupB (L.sigs.map (·.spot)) = true) : signalsF L = 8 := by rw [signalsF, if_neg (by simp [h]), if_pos h2]
theorem signals_safe {L : Lay} (h : L.sigs.all (sigB L.els) = true) (h2 : dupB (L.sigs.map (·.spot)) = false) (h3 : (L.sigs.map (·.spot)).all (safeB L) = false) : signalsF L = 14 := by rw [signalsF, if_neg (by simp [h]), if_neg (by simp [h2]), if_pos h3]
theorem signals_ok {L : Lay} (h : L.sigs.all (sigB L.els) = true) (h2 : dupB (L.sigs.map (·.spot)) = false) (h3 : (L.sigs.map (·.spot)).all (safeB L) = true) : signalsF L = 0 := by rw [signalsF, if_neg (by simp [h]), if_neg (by simp [h2]), if_neg (by simp [h3])]

/-! The conditions 11 and 12. -/
def balB (els : List Elem) (b : Bal) : Bool :=
  match els[b.el.toNat]? with
  | some x => decide (1 ≤ b.id ∧ b.id ≤ 1073741824 ∧ 0 ≤ b.el ∧ 0 ≤ b.off ∧ b.off ≤ x.len)
  | none => false
def balisesF (L : Lay) : Int := if L.bals.all (balB L.els) = false then 1 else if dupB (L.bals.map (·.id)) = true then 8 else 0
theorem balises_arg {L : Lay} (h : L.bals.all (balB L.els) = false) : balisesF L = 1 := by rw [balisesF, if_pos h]
theorem balises_dup {L : Lay} (h : L.bals.all (balB L.els) = true) (h2 : dupB (L.bals.map (·.id)) = true) : balisesF L = 8 := by rw [balisesF, if_neg (by simp [h]), if_pos h2]
theorem balises_ok {L : Lay} (h : L.bals.all (balB L.els) = true) (h2 : dupB (L.bals.map (·.id)) = false) : balisesF L = 0 := by rw [balisesF, if_neg (by simp [h]), if_neg (by simp [h2])]

/-- The first error of a layout. -/
def checkF (L : Lay) : Int := if namedF L ≠ 0 then namedF L else if elementsF L ≠ 0 then elementsF L else if signalsF L ≠ 0 then signalsF L else balisesF L

end Go.Proofs.YtjhimekojiegjaaDoor.Layf

/- The call of the reference's Sides. -/
namespace Go.Proofs.YtjhimekojiegjaaDoor.Lsid
open Go.RowKit Go.Lib Go.Proofs.YtjhimekojiegjaaDoor.Layf
theorem kinds (k : Int) : k = 1 ∨ k = 2 ∨ k = 3 ∨ (k ≠ 1 ∧ k ≠ 2 ∧ k ≠ 3) := by omega
theorem rsides_any (k : Int) (w : World) : Calls Tryd.prog 90 #[.int .i64 k] w fun e w' => e = .returned (.int .i64 (sidesN k)) ∧ w = w' := by
  rcases kinds k with rfl | rfl | rfl | ⟨h1, h2, h3⟩
  all_goals
    go_enter Tryd.func90, Tryd.ntmps90
    go_wp2_with fail
    go_ret
    first
      | exact ⟨rfl, rfl⟩
      | exact ⟨by simp [sidesN, h1, h2, h3], rfl⟩

end Go.Proofs.YtjhimekojiegjaaDoor.Lsid

/- The calls of the reference's texts, numbers and ends: whether something is in a list twice. -/
namespace Go.Proofs.YtjhimekojiegjaaDoor.Ldup
open Go.RowKit Go.Lib Go.Proofs.YtjhimekojiegjaaDoor.Text Go.Proofs.YtjhimekojiegjaaDoor.Reads Go.Proofs.YtjhimekojiegjaaDoor.Rows2 Go.Proofs.YtjhimekojiegjaaDoor.Lay Go.Proofs.YtjhimekojiegjaaDoor.Layf

theorem bel_next {w W w' : World} (h : Below w.heap.size w W) (hb : Below W.heap.size W w') : Below w.heap.size w w' := h.trans (hb.mono h.size)
/-- What a call gives that returns a bool. -/
def BoolOut (b : Bool) (w : World) (e : Ending) (w' : World) : Prop := e = .returned (.bool b) ∧ Below w.heap.size w w'

/-- Until place i nothing is there twice; element x is not among the first k. -/
def Once {α : Type} (l : List α) (i : Nat) : Prop := ∀ a b x, a < b → b < i → l[a]? = some x → l[b]? ≠ some x
theorem once_zero {α : Type} (l : List α) : Once l 0 := fun _ _ _ _ h => absurd h (by omega)
theorem once_next {α : Type} {l : List α} {i : Nat} {x : α} (h : Once l i) (hx : l[i]? = some x) (hn : ∀ a, a < i → l[a]? ≠ some x) : Once l (i + 1) := by
  intro a b y hab hb ha hy
  by_cases e : b = i
  · subst e
    rw [hx] at hy
    cases hy
    exact hn a hab ha
  · exact h a b y hab (by omega) ha hy
theorem once_all {α : Type} [DecidableEq α] {l : List α} (h : Once l l.length) : dupB l = false := by
  rw [← Bool.not_eq_true]
  intro hd
  obtain ⟨a, b, x, hab, ha, hb⟩ := dup_iff.1 hd
  exact h a b x hab (List.getElem?_eq_some_iff.1 hb).1 ha hb
theorem bs_ne {s t : List UInt8} (h : s ≠ t) : ((bs s).toList == (bs t).toList) = false := by
  rw [beq_eq_false_iff_ne, ByteArray.toList_eq, ByteArray.toList_eq]
  exact h

theorem ints_shape {w : World} {v : Value} {xs : List Int} (h : Reads w.heap.size w v xs) :
    ∃ a cap, v = .slice a xs.length cap ∧ (xs.length : Int) ≤ 9223372036854775807 ∧ ∀ (k : Nat) (x : Int), xs[k]? = some x → ∃ b off, a = some ⟨b, off, none⟩ ∧ b < w.heap.size ∧ w.cell? ⟨b, off + k, none⟩ = some (.int .i64 x) := by
  have hm := h.len
  obtain ⟨a, cap, h1, h2, h3, h4, h5⟩ := h
  refine ⟨a, cap, h1, by unfold maxLen at hm; omega, fun k x hx => ?_⟩
  rcases h5 with rfl | ⟨b, off, e, hb, hc⟩
  · simp at hx
  · obtain ⟨hk, hx⟩ := List.getElem?_eq_some_iff.1 hx
    have := hc k hk
    rw [List.getD_eq_getElem?_getD, List.getElem?_eq_getElem hk, hx] at this
    exact ⟨b, off, e, hb, this⟩
theorem pairs_shape {w : World} {v : Value} {xs : List (Int × Int)} (h : Grid (In w) w v 2 (xs.map pCells)) :
    ∃ a cap, v = .slice a xs.length cap ∧ (xs.length : Int) ≤ 9223372036854775807 ∧ ∀ (k : Nat) (x : Int × Int), xs[k]? = some x → ∃ b off, a = some ⟨b, off, none⟩ ∧ b < w.heap.size ∧ w.cell? ⟨b, off + k * 2, none⟩ = some (.int .i64 x.1) ∧ w.cell? ⟨b, off + k * 2 + 1, none⟩ = some (.int .i64 x.2) := by
  obtain ⟨a, cap, h1, h2, _, _, h5⟩ := h.shape
  rw [List.length_map] at h1 h2
  refine ⟨a, cap, h1, h2, fun i x hx => ?_⟩
  obtain ⟨b, off, e, hbl, hc⟩ := h5 i _ (by rw [List.getElem?_map, hx]; rfl)
  exact ⟨b, off, e, hbl, hc 0 _ rfl, hc 1 _ rfl⟩
set_option maxRecDepth 100000 in
set_option maxHeartbeats 800000 in
theorem texts_any {v : Value} {l : List (List UInt8)} {w : World} (h : Strs (In w) w v l) :
    Calls Tryd.prog 72 #[v] w (BoolOut (dupB l) w) := by
  obtain ⟨a, cap, rfl, hm, _, _, hc⟩ := h.shape
  have HC := Lib.hid hc
  clear h hc
  go_enter Tryd.func72, Tryd.ntmps72
  go_wp2_with fail
  go_loopw [7] (fun vi wr => ∃ i : Nat, vi = .int .i64 (i : Int) ∧ i ≤ l.length ∧ Once l i ∧ Below w.heap.size w wr) (fun vi _ => l.length - (Go.RowKit.intOf vi).toNat)
  case atStart => exact ⟨0, rfl, Nat.zero_le _, once_zero _, Below.refl _ _⟩
  case round =>
    obtain ⟨i, rfl, hi, ho, hbel⟩ := hrel
    have HO := Lib.hid ho
    have HB := Lib.hid hbel
    clear ho hbel
    obtain ⟨wo, rfl⟩ : ∃ wo : World, wo = wr := ⟨_, rfl⟩
    by_cases hlt : i < l.length
    · obtain ⟨x, hx⟩ := at_lt hlt
      obtain ⟨_, b, off, rfl, hbk, hcell⟩ := HC.out i x hx
      have HX := Lib.hid hx
      have HK := Lib.hid hbk
      have HL := Lib.hid hcell
      clear hx hbk hcell
      go_wp2_with fail
      go_loopw [11] (fun vk wx => ∃ k : Nat, vk = .int .i64 (k : Int) ∧ k ≤ i ∧ (∀ a, a < k → l[a]? ≠ some x) ∧ Below w.heap.size w wx) (fun vk _ => i - (Go.RowKit.intOf vk).toNat)
      case atStart => exact ⟨0, rfl, Nat.zero_le _, fun a ha => absurd ha (by omega), HB.out⟩
      case round =>
        obtain ⟨k, rfl, hk, hn, hbel⟩ := hrel
        have HN := Lib.hid hn
        have HBK := Lib.hid hbel
        clear hn hbel
        by_cases hki : k < i
        · have hkl : k < l.length := by omega
          obtain ⟨y, hy⟩ := at_lt hkl
          obtain ⟨_, b', off', e', _, hcell'⟩ := HC.out k y hy
          cases e'
          have g1 := (HBK.out.cell (p := ⟨b, off + i, none⟩) HK.out).trans HL.out
          have g2 := (HBK.out.cell (p := ⟨b, off + k, none⟩) HK.out).trans hcell'
          have HY := Lib.hid hy
          clear hy hcell'
          by_cases hxy : x = y
          · subst hxy
            have HD := Lib.hid (show dupB l = true from dup_iff.2 ⟨k, i, x, hki, HY.out, HX.out⟩)
            go_wp2_with fail
            go_quiet (fail)
            go_wp2_with fail
            try rw [Exit.noGoto_ret]
            go_ret
            exact ⟨by rw [HD.out]; rfl, below_drewN HBK.out _⟩
          · have hne := bs_ne hxy
            have HNN := Lib.hid hxy
            go_wp2_with fail
            go_quiet (fail)
            go_wp2_with fail
            go_roundw
            case rel => exact ⟨k + 1, by simp, by omega, fun a ha => by
              by_cases e : a = k
              · subst e
                rw [HY.out]
                exact fun e => HNN.out (Option.some.inj e).symm
              · exact HN.out a (by omega), below_drewN HBK.out _⟩
            case measure => simp [Go.RowKit.intOf]; omega
        · have he : k = i := by omega
          subst he
          go_wp2_with fail
          go_roundw
          case rel => exact ⟨k + 1, by simp, by omega, once_next HO.out HX.out HN.out, HBK.out⟩
          case measure => simp [Go.RowKit.intOf]; omega
    · have he : i = l.length := by omega
      subst he
      go_wp2_with fail
      go_ret
      exact ⟨by rw [once_all HO.out]; rfl, HB.out⟩

set_option maxRecDepth 100000 in
set_option maxHeartbeats 800000 in
theorem numbers_any {v : Value} {l : List Int} {w : World} (h : Reads w.heap.size w v l) :
    Calls Tryd.prog 77 #[v] w (BoolOut (dupB l) w) := by
  obtain ⟨a, cap, rfl, hm, hc⟩ := ints_shape h
  have HC := Lib.hid hc
  clear h hc
  go_enter Tryd.func77, Tryd.ntmps77
  go_wp2_with fail
  go_loopw [7] (fun vi wr => ∃ i : Nat, vi = .int .i64 (i : Int) ∧ i ≤ l.length ∧ Once l i ∧ Below w.heap.size w wr) (fun vi _ => l.length - (Go.RowKit.intOf vi).toNat)
  case atStart => exact ⟨0, rfl, Nat.zero_le _, once_zero _, Below.refl _ _⟩
  case round =>
    obtain ⟨i, rfl, hi, ho, hbel⟩ := hrel
    have HO := Lib.hid ho
    have HB := Lib.hid hbel
    clear ho hbel
    obtain ⟨wo, rfl⟩ : ∃ wo : World, wo = wr := ⟨_, rfl⟩
    by_cases hlt : i < l.length
    · obtain ⟨x, hx⟩ := at_lt hlt
      obtain ⟨b, off, rfl, hbk, hcell⟩ := HC.out i x hx
      have HX := Lib.hid hx
      have HK := Lib.hid hbk
      have HL := Lib.hid hcell
      clear hx hbk hcell
      go_wp2_with fail
      go_loopw [11] (fun vk wx => ∃ k : Nat, vk = .int .i64 (k : Int) ∧ k ≤ i ∧ (∀ a, a < k → l[a]? ≠ some x) ∧ Below w.heap.size w wx) (fun vk _ => i - (Go.RowKit.intOf vk).toNat)
      case atStart => exact ⟨0, rfl, Nat.zero_le _, fun a ha => absurd ha (by omega), HB.out⟩
      case round =>
        obtain ⟨k, rfl, hk, hn, hbel⟩ := hrel
        have HN := Lib.hid hn
        have HBK := Lib.hid hbel
        clear hn hbel
        by_cases hki : k < i
        · have hkl : k < l.length := by omega
          obtain ⟨y, hy⟩ := at_lt hkl
          obtain ⟨b', off', e', _, hcell'⟩ := HC.out k y hy
          cases e'
          have g1 := (HBK.out.cell (p := ⟨b, off + i, none⟩) HK.out).trans HL.out
          have g2 := (HBK.out.cell (p := ⟨b, off + k, none⟩) HK.out).trans hcell'
          have HY := Lib.hid hy
          clear hy hcell'
          by_cases hxy : x = y
          · subst hxy
            have HD := Lib.hid (show dupB l = true from dup_iff.2 ⟨k, i, x, hki, HY.out, HX.out⟩)
            go_wp2_with fail
            go_quiet (fail)
            go_wp2_with fail
            try rw [Exit.noGoto_ret]
            go_ret
            exact ⟨by rw [HD.out]; rfl, below_drewN HBK.out _⟩
          · have hne : (x == y) = false := by simp [hxy]
            have HNN := Lib.hid hxy
            go_wp2_with fail
            go_quiet (fail)
            go_wp2_with fail
            go_roundw
            case rel => exact ⟨k + 1, by simp, by omega, fun a ha => by
              by_cases e : a = k
              · subst e
                rw [HY.out]
                exact fun e => HNN.out (Option.some.inj e).symm
              · exact HN.out a (by omega), below_drewN HBK.out _⟩
            case measure => simp [Go.RowKit.intOf]; omega
        · have he : k = i := by omega
          subst he
          go_wp2_with fail
          go_roundw
          case rel => exact ⟨k + 1, by simp, by omega, once_next HO.out HX.out HN.out, HBK.out⟩
          case measure => simp [Go.RowKit.intOf]; omega
    · have he : i = l.length := by omega
      subst he
      go_wp2_with fail
      go_ret
      exact ⟨by rw [once_all HO.out]; rfl, HB.out⟩

set_option maxRecDepth 100000 in
set_option maxHeartbeats 800000 in
theorem ends_any {v : Value} {l : List (Int × Int)} {w : World} (h : Grid (In w) w v 2 (l.map pCells)) :
    Calls Tryd.prog 76 #[v] w (BoolOut (dupB l) w) := by
  obtain ⟨a, cap, rfl, hm, hc⟩ := pairs_shape h
  have HC := Lib.hid hc
  clear h hc
  go_enter Tryd.func76, Tryd.ntmps76
  go_wp2_with fail
  go_loopw [7] (fun vi wr => ∃ i : Nat, vi = .int .i64 (i : Int) ∧ i ≤ l.length ∧ Once l i ∧ Below w.heap.size w wr) (fun vi _ => l.length - (Go.RowKit.intOf vi).toNat)
  case atStart => exact ⟨0, rfl, Nat.zero_le _, once_zero _, Below.refl _ _⟩
  case round =>
    obtain ⟨i, rfl, hi, ho, hbel⟩ := hrel
    have HO := Lib.hid ho
    have HB := Lib.hid hbel
    clear ho hbel
    obtain ⟨wo, rfl⟩ : ∃ wo : World, wo = wr := ⟨_, rfl⟩
    by_cases hlt : i < l.length
    · obtain ⟨x, hx⟩ := at_lt hlt
      obtain ⟨b, off, rfl, hbk, hcell, hcel2⟩ := HC.out i x hx
      have HX := Lib.hid hx
      have HK := Lib.hid hbk
      have HL := Lib.hid hcell
      have HL2 := Lib.hid hcel2
      obtain ⟨x1, x2⟩ := x
      clear hx hbk hcell hcel2
      go_wp2_with fail
      go_loopw [11] (fun vk wx => ∃ k : Nat, vk = .int .i64 (k : Int) ∧ k ≤ i ∧ (∀ a, a < k → l[a]? ≠ some (x1, x2)) ∧ Below w.heap.size w wx) (fun vk _ => i - (Go.RowKit.intOf vk).toNat)
      case atStart => exact ⟨0, rfl, Nat.zero_le _, fun a ha => absurd ha (by omega), HB.out⟩
      case round =>
        obtain ⟨k, rfl, hk, hn, hbel⟩ := hrel
        have HN := Lib.hid hn
        have HBK := Lib.hid hbel
        clear hn hbel
        by_cases hki : k < i
        · have hkl : k < l.length := by omega
          obtain ⟨y, hy⟩ := at_lt hkl
          obtain ⟨b', off', e', _, hcell', hcel2'⟩ := HC.out k y hy
          obtain ⟨y1, y2⟩ := y
          cases e'
          have g1 := (HBK.out.cell (p := ⟨b, off + i * 2, none⟩) HK.out).trans HL.out
          have g2 := (HBK.out.cell (p := ⟨b, off + k * 2, none⟩) HK.out).trans hcell'
          have g3 := (HBK.out.cell (p := ⟨b, off + i * 2 + 1, none⟩) HK.out).trans HL2.out
          have g4 := (HBK.out.cell (p := ⟨b, off + k * 2 + 1, none⟩) HK.out).trans hcel2'
          simp only at g1 g2 g3 g4
          have HY := Lib.hid hy
          clear hy hcell' hcel2'
          by_cases hxy : x1 = y1 ∧ x2 = y2
          · obtain ⟨rfl, rfl⟩ := hxy
            have HD := Lib.hid (show dupB l = true from dup_iff.2 ⟨k, i, (x1, x2), hki, HY.out, HX.out⟩)
            go_wp2_with fail
            go_quiet (fail)
            go_wp2_with fail
            try rw [Exit.noGoto_ret]
            go_ret
            exact ⟨by rw [HD.out]; rfl, below_drewN HBK.out _⟩
          · have HNN := Lib.hid (show ¬ (x1, x2) = (y1, y2) by simpa using hxy)
            have hne : (x1 == y1) = false ∨ ((x1 == y1) = true ∧ (x2 == y2) = false) := by
              simp only [beq_eq_false_iff_ne, beq_iff_eq]
              omega
            clear hxy
            rcases hne with hne | ⟨hne, hne2⟩
            all_goals
              go_wp2_with fail
              go_quiet (fail)
              go_wp2_with fail
              go_roundw
              case rel => exact ⟨k + 1, by simp, by omega, fun a ha => by
                by_cases e : a = k
                · subst e
                  rw [HY.out]
                  exact fun e => HNN.out (Option.some.inj e).symm
                · exact HN.out a (by omega), below_drewN HBK.out _⟩
              case measure => simp [Go.RowKit.intOf]; omega
        · have he : k = i := by omega
          subst he
          go_wp2_with fail
          go_roundw
          case rel => exact ⟨k + 1, by simp, by omega, once_next HO.out HX.out HN.out, HBK.out⟩
          case measure => simp [Go.RowKit.intOf]; omega
    · have he : i = l.length := by omega
      subst he
      go_wp2_with fail
      go_ret
      exact ⟨by rw [once_all HO.out]; rfl, HB.out⟩

end Go.Proofs.YtjhimekojiegjaaDoor.Ldup

/- The calls of the reference's right and exists. -/
namespace Go.Proofs.YtjhimekojiegjaaDoor.Lext
open Go.RowKit Go.Lib Go.Proofs.YtjhimekojiegjaaDoor.Text Go.Proofs.YtjhimekojiegjaaDoor.Reads Go.Proofs.YtjhimekojiegjaaDoor.Rows2 Go.Proofs.YtjhimekojiegjaaDoor.Lay Go.Proofs.YtjhimekojiegjaaDoor.Layf Go.Proofs.YtjhimekojiegjaaDoor.Lsid Go.Proofs.YtjhimekojiegjaaDoor.Ldup

def elV (x : Elem) : Value := .agg #[.string (bs x.name), .int .i64 x.kind, .int .i64 x.len, .int .i64 x.grade, .int .i64 x.speed, .int .i64 x.slow, .int .i64 x.sec]
def pV (p : Int × Int) : Value := .agg #[.int .i64 p.1, .int .i64 p.2]

theorem rleaf {n : Nat} {x : Elem} {r b : Bool} {w w' : World} (hr : rightB n x = r) (hb : Below w.heap.size w w') (h : b = rightB n x) : BoolOut r w (.returned (.bool b)) w' := by
  subst hr
  exact ⟨by rw [h], hb⟩

set_option maxRecDepth 100000 in
set_option maxHeartbeats 1600000 in
theorem right_any (L : Lay) (x : Elem) {vs ve vj vg vb : Value} (w : World) (h : LayAt (In w) w L vs ve vj vg vb) :
    Calls Tryd.prog 73 #[layV L vs ve vj vg vb, elV x] w (BoolOut (rightB L.secs.length x) w) := by
  obtain ⟨r, hr⟩ : ∃ r, rightB L.secs.length x = r := ⟨_, rfl⟩
  rw [hr]
  have HR := Lib.hid hr
  clear hr
  obtain ⟨a2, cap2, rfl, hm2, _⟩ := h.sn
  have HB := Lib.hid (((Below.refl w.heap.size w).alloc (Nat.le_refl _) (.cells #[.string (bs L.name), .slice a2 L.secs.length cap2, ve, vj, vg, vb] 28)).alloc (by simp) (.cells #[.string (bs x.name), .int .i64 x.kind, .int .i64 x.len, .int .i64 x.grade, .int .i64 x.speed, .int .i64 x.slow, .int .i64 x.sec] 54))
  clear h
  obtain ⟨nm, kd, ln, gr, sp, sl, sc⟩ := x
  unfold layV elV
  simp only at HB ⊢
  by_cases hk : kd = 2
  · subst hk
    go_enter Tryd.func73, Tryd.ntmps73
    go_wp2_with fail
    all_goals
      go_ret
      refine rleaf HR.out HB.out ?_
      simp only [rightB]
      symm
      first
        | exact decide_eq_true (by omega)
        | exact decide_eq_false (by omega)
        | (rw [Bool.eq_iff_iff]
           simp only [decide_eq_true_eq, true_or, and_true]
           omega)
  · have hq : (kd == 2) = false := by simp [hk]
    go_enter Tryd.func73, Tryd.ntmps73
    go_wp2_with fail
    all_goals
      go_ret
      refine rleaf HR.out HB.out ?_
      simp only [rightB]
      symm
      first
        | exact decide_eq_true (by omega)
        | exact decide_eq_false (by omega)
        | (rw [Bool.eq_iff_iff]
           simp only [decide_eq_true_eq, beq_iff_eq]
           omega)

set_option maxRecDepth 100000 in
set_option maxHeartbeats 1600000 in
theorem rexists_any (L : Lay) (p : Int × Int) {vs ve vj vg vb : Value} (w : World) (h : LayAt (In w) w L vs ve vj vg vb) :
    Calls Tryd.prog 75 #[layV L vs ve vj vg vb, pV p] w (BoolOut (existsB L.els p) w) := by
  obtain ⟨a, cap, rfl, hm, hel⟩ := h.el
  have HB := Lib.hid (((Below.refl w.heap.size w).alloc (Nat.le_refl _) (.cells #[.string (bs L.name), vs, .slice a L.els.length cap, vj, vg, vb] 28)).alloc (by simp) (.cells #[.int .i64 p.1, .int .i64 p.2] 32))
  have HE := Lib.hid (hel w (Below.refl _ _))
  clear h hel
  obtain ⟨p, q⟩ := p
  unfold layV pV
  simp only at HB ⊢
  by_cases h0 : 0 ≤ p
  · by_cases h1 : p < (L.els.length : Int)
    · by_cases h2 : 0 ≤ q
      · obtain ⟨i, rfl⟩ := Int.eq_ofNat_of_zero_le h0
        obtain ⟨x, hx⟩ := at_lt (l := L.els) (k := i) (by omega)
        obtain ⟨b, off, rfl, _, c1, _⟩ := HE.out i x hx
        have HV := Lib.hid (exists_yes (els := L.els) (p := ((i : Int), q)) (x := x) h0 h2 (by simpa using hx))
        obtain ⟨nm, kd, ln, gr, sp, sl, sc⟩ := x
        simp only at c1 HV
        have HS := Lib.hid (fun w => (rsides_any kd w).mono (fun _ _ ⟨he, hw⟩ => (⟨he, hw.symm⟩ : _ ∧ _ = w)))
        obtain ⟨s, hs⟩ : ∃ s, sidesN kd = s := ⟨_, rfl⟩
        rw [hs] at HS HV
        have hbl : b < w.heap.size := block_lt_of_cell c1
        clear hx hs
        go_enter Tryd.func75, Tryd.ntmps75
        go_wp2_with fail
        go_quiet ((go_at_call 90; exact Calls.quiet_of_same (HS.out _)))
        go_wp2_with fail
        go_ret
        exact ⟨by rw [HV.out]; rfl, below_drewN HB.out _⟩
      · have HV := Lib.hid (exists_neg (els := L.els) (p := (p, q)) (.inr (.inr (by simpa using h2))))
        have hd : decide (0 ≤ q) = false := by simpa using h2
        go_enter Tryd.func75, Tryd.ntmps75
        go_wp2_with fail
        go_quiet (fail)
        go_wp2_with fail
        go_ret
        exact ⟨by rw [HV.out]; rfl, below_drewN HB.out _⟩
    · have HV := Lib.hid (exists_neg (els := L.els) (p := (p, q)) (.inr (.inl (by simp only; omega))))
      have hd : decide (p < (L.els.length : Int)) = false := by simpa using h1
      go_enter Tryd.func75, Tryd.ntmps75
      go_wp2_with fail
      go_quiet (fail)
      go_wp2_with fail
      go_ret
      exact ⟨by rw [HV.out]; rfl, below_drewN HB.out _⟩
  · have HV := Lib.hid (exists_neg (els := L.els) (p := (p, q)) (.inl (by simp only; omega)))
    have hd : decide (0 ≤ p) = false := by simpa using h0
    go_enter Tryd.func75, Tryd.ntmps75
    go_wp2_with fail
    go_quiet (fail)
    go_wp2_with fail
    go_ret
    exact ⟨by rw [HV.out]; rfl, below_drewN HB.out _⟩

end Go.Proofs.YtjhimekojiegjaaDoor.Lext

/- The call of the reference's Joined. -/
namespace Go.Proofs.YtjhimekojiegjaaDoor.Ljoi
open Go.RowKit Go.Lib Go.Proofs.YtjhimekojiegjaaDoor.Text Go.Proofs.YtjhimekojiegjaaDoor.Reads Go.Proofs.YtjhimekojiegjaaDoor.Rows2 Go.Proofs.YtjhimekojiegjaaDoor.Lay Go.Proofs.YtjhimekojiegjaaDoor.Layf Go.Proofs.YtjhimekojiegjaaDoor.Ldup Go.Proofs.YtjhimekojiegjaaDoor.Lext

/-- What a call gives that returns an end and whether there is one. -/
def EndOut (r : (Int × Int) × Bool) (w : World) (e : Ending) (w' : World) : Prop := e = .returned (.tuple #[pV r.1, .bool r.2]) ∧ Below w.heap.size w w'
theorem ne_cases {x1 x2 y1 y2 : Int} (h : ¬ (x1, x2) = (y1, y2)) : (x1 == y1) = false ∨ ((x1 == y1) = true ∧ (x2 == y2) = false) := by
  simp only [beq_eq_false_iff_ne, beq_iff_eq]
  simp only [Prod.mk.injEq] at h
  omega

theorem box3 (w : World) (A B C : Array Value) (TA TB TC : TypeId) :
    (∀ j, (((w.alloc (.cells A TA)).alloc (.cells B TB)).alloc (.cells C TC)).cell? ⟨w.heap.size, j, none⟩ = A[j]?) ∧
    (∀ j, (((w.alloc (.cells A TA)).alloc (.cells B TB)).alloc (.cells C TC)).cell? ⟨w.heap.size + 1, j, none⟩ = B[j]?) ∧
    (((w.alloc (.cells A TA)).alloc (.cells B TB)).alloc (.cells C TC)).heap[w.heap.size + 1 + 1]? = some (.cells C TC (0, 0)) ∧
    (((w.alloc (.cells A TA)).alloc (.cells B TB)).alloc (.cells C TC)).heap.size = w.heap.size + 1 + 1 + 1 := by
  refine ⟨fun j => ?_, fun j => ?_, ?_, by simp⟩
  · rw [World.cell?_alloc_past _ _ _ (by simp; omega), World.cell?_alloc_past _ _ _ (by simp), World.cell?_alloc_at _ _ _ _ rfl]
  · rw [World.cell?_alloc_past _ _ _ (by simp), World.cell?_alloc_at _ _ _ _ (by simp)]
  · have := heap_alloc_new ((w.alloc (.cells A TA)).alloc (.cells B TB)) (.cells C TC)
    simpa using this

theorem jfin {w wr : World} {g : Nat} (hb : Below w.heap.size w wr) (hg : w.heap.size ≤ g) (o : Obj) (x y : Value) : Below w.heap.size w (((wr.setCell ⟨g, 0, none⟩ x).setCell ⟨g, 1, none⟩ y).alloc o) :=
  ((hb.setCell (p := ⟨g, 0, none⟩) hg _).setCell (p := ⟨g, 1, none⟩) hg _).alloc (by have := hb.size; simpa using this) o

set_option maxRecDepth 100000 in
set_option maxHeartbeats 1600000 in
theorem rjoined_any (L : Lay) (p : Int × Int) {vs ve vj vg vb : Value} (w : World) (h : LayAt (In w) w L vs ve vj vg vb) :
    Calls Tryd.prog 34 #[layV L vs ve vj vg vb, pV p] w (EndOut (joinedF L p) w) := by
  obtain ⟨r, hr⟩ : ∃ r, joinedF L p = r := ⟨_, rfl⟩
  rw [hr]
  have HR := Lib.hid hr
  clear hr
  obtain ⟨a, cap, rfl, hm, _⟩ := h.jt
  obtain ⟨e1, e2⟩ := p
  have b1 := (Below.refl w.heap.size w).alloc (Nat.le_refl _) (.cells #[.string (bs L.name), vs, ve, .slice a L.joints.length cap, vg, vb] 28)
  have b2 := b1.alloc b1.size (.cells #[.int .i64 e1, .int .i64 e2] 32)
  have b3 := b2.alloc b2.size (.cells #[.int .i64 0, .int .i64 0] 32)
  have H0 := h.next b3
  have X0 := box3 w #[.string (bs L.name), vs, ve, .slice a L.joints.length cap, vg, vb] #[.int .i64 e1, .int .i64 e2] #[.int .i64 0, .int .i64 0] 28 32 32
  clear b1 b2
  unfold layV pV
  go_enter Tryd.func34, Tryd.ntmps34
  go_wp2_with fail
  obtain ⟨W, hW⟩ : ∃ W, ((w.alloc (.cells #[.string (bs L.name), vs, ve, .slice a L.joints.length cap, vg, vb] 28)).alloc (.cells #[.int .i64 e1, .int .i64 e2] 32)).alloc (.cells #[.int .i64 0, .int .i64 0] 32) = W := ⟨_, rfl⟩
  rw [hW] at H0 X0 b3 ⊢
  clear hW h
  obtain ⟨x0, x1, x2, x3⟩ := X0
  have C1 := Lib.hid (x1 0)
  have C2 := Lib.hid (x1 1)
  have CR := Lib.hid x2
  have WS := Lib.hid x3
  have B0 := Lib.hid b3
  obtain ⟨a', cap', he, _, hel⟩ := H0.jt
  cases he
  have HE := Lib.hid hel
  clear hel H0 x0 x1 x2 x3 b3
  go_loopw [11] (fun vj wr => ∃ j : Nat, vj = .int .i64 (j : Int) ∧ j ≤ L.joints.length ∧ r = joinR (e1, e2) (L.joints.drop j) ∧ Below W.heap.size W wr) (fun vj _ => L.joints.length - (Go.RowKit.intOf vj).toNat)
  case atStart => exact ⟨0, rfl, Nat.zero_le _, by rw [← HR.out]; rfl, Below.refl _ _⟩
  case round =>
    obtain ⟨j, rfl, hj, hrj, hb⟩ := hrel
    have HB := Lib.hid hb
    have HJ := Lib.hid hrj
    have g1 := (hb.cell (p := ⟨w.heap.size + 1, 0, none⟩) (by rw [WS.out]; simp)).trans C1.out
    have g2 := (hb.cell (p := ⟨w.heap.size + 1, 1, none⟩) (by rw [WS.out]; simp)).trans C2.out
    have g3 := (hb.block (w.heap.size + 1 + 1) (by rw [WS.out]; omega)).trans CR.out
    have g4 := cell_of_row wr _ 0 _ _ _ g3
    have g5 := cell_of_row wr _ 1 _ _ _ g3
    have g6 := frozen_of_row wr _ 0 _ _ g3
    have g7 := frozen_of_row wr _ 1 _ _ g3
    have HG := Lib.hid g3
    have hlt : w.heap.size + 1 + 1 < wr.heap.size := Nat.lt_of_lt_of_le (by rw [WS.out]; omega) hb.size
    have hlt1 : w.heap.size + 1 < wr.heap.size := by omega
    simp at g1 g2 g4 g5
    clear hb hrj g3
    by_cases hl : j < L.joints.length
    · obtain ⟨x, hx⟩ := at_lt hl
      obtain ⟨b, off, rfl, c0, c1, c2, c3⟩ := HE.out wr HB.out j x hx
      obtain ⟨⟨u1, u2⟩, ⟨v1, v2⟩⟩ := x
      simp only at c0 c1 c2 c3
      have HD := Lib.hid (Go.Proofs.YtjhimekojiegjaaDoor.Layf.drop_at hx)
      clear hx
      by_cases ha : (u1, u2) = (e1, e2)
      · cases ha
        have HV := Lib.hid (show r = ((v1, v2), true) by rw [HJ.out, HD.out, joinR_a])
        go_wp2_with fail
        (try simp only [Exit.inBlock, Exit.then])
        refine bodyPost_ret (v := .tuple #[.agg #[.int .i64 v1, .int .i64 v2], .bool true]) ?_ rfl ⟨?_, ?_⟩
        · rw [results_cell_tmp rfl]
          go_simp
        · rw [HV.out]
          rfl
        · exact jfin (bel_next B0.out HB.out) (by omega) _ _ _
      · have hc := ne_cases ha
        by_cases hb : (v1, v2) = (e1, e2)
        · cases hb
          have HV := Lib.hid (show r = ((u1, u2), true) by rw [HJ.out, HD.out, joinR_b ha])
          clear ha
          rcases hc with hc | ⟨hc, hc2⟩
          all_goals
            go_wp2_with fail
            (try simp only [Exit.inBlock, Exit.then])
            refine bodyPost_ret (v := .tuple #[.agg #[.int .i64 u1, .int .i64 u2], .bool true]) ?_ rfl ⟨?_, ?_⟩
            · rw [results_cell_tmp rfl]
              go_simp
            · rw [HV.out]
              rfl
            · exact jfin (bel_next B0.out HB.out) (by omega) _ _ _
        · have HV := Lib.hid (show r = joinR (e1, e2) (L.joints.drop (j + 1)) by rw [HJ.out, HD.out, joinR_no ha hb])
          have hd := ne_cases hb
          clear ha hb
          rcases hc with hc | ⟨hc, hc2⟩
          all_goals
            rcases hd with hd | ⟨hd, hd2⟩
            all_goals
              go_wp2_with fail
              go_roundw
              case rel => exact ⟨j + 1, by simp, by omega, HV.out, HB.out.alloc HB.out.size _⟩
              case measure => simp [Go.RowKit.intOf]; omega
    · have he : j = L.joints.length := by omega
      subst he
      go_wp2_with fail
      (try simp only [Exit.inBlock, Exit.then])
      refine bodyPost_ret (v := .tuple #[.agg #[.int .i64 0, .int .i64 0], .bool false]) ?_ rfl ⟨?_, ?_⟩
      · rw [results_cell_tmp rfl]
        go_simp
      · rw [HJ.out, List.drop_length]
        rfl
      · exact ((bel_next B0.out HB.out).setCell (by simp; omega) _).setCell (by simp; omega) _

end Go.Proofs.YtjhimekojiegjaaDoor.Ljoi

/- The call of the reference's names. -/
namespace Go.Proofs.YtjhimekojiegjaaDoor.Lnam
open Go.RowKit Go.Lib Go.Proofs.YtjhimekojiegjaaDoor.Text Go.Proofs.YtjhimekojiegjaaDoor.Reads Go.Proofs.YtjhimekojiegjaaDoor.Rows2 Go.Proofs.YtjhimekojiegjaaDoor.Lay Go.Proofs.YtjhimekojiegjaaDoor.Layf Go.Proofs.YtjhimekojiegjaaDoor.Ldup Go.Proofs.YtjhimekojiegjaaDoor.Ljoi

theorem infoS : (Tryd.prog.info? 9).map (fun i => (i.zero, i.size, i.bytes)) = some (some (.string ByteArray.empty), 1, 16) := by kernel_rfl
/-- A slice value that is nil or has an address. -/
def Sn (v : Value) : Prop := v = .slice none 0 0 ∨ ∃ ad n c, v = .slice (some ad) n c
theorem sn_own {B : Nat} {w : World} {e : TypeId} {v : Value} {n : Nat} {xs : List Value} (h : w.ownsRow B e 1 v n xs) : Sn v := by
  obtain ⟨_, hor⟩ := h
  rcases hor with ⟨rfl, _⟩ | ⟨g, cap, cur, rfl, _⟩
  · exact .inl rfl
  · exact .inr ⟨_, _, _, rfl⟩
theorem own_slice {B : Nat} {w : World} {e : TypeId} {v : Value} {n : Nat} {xs : List Value} (h : w.ownsRow B e 1 v n xs) : ∃ a n c, v = .slice a n c := by
  rcases sn_own h with rfl | ⟨ad, n, c, rfl⟩
  · exact ⟨_, _, _, rfl⟩
  · exact ⟨_, _, _, rfl⟩
theorem strs_row {B : Nat} {w : World} {e : TypeId} {v : Value} {ss : List (List UInt8)} (h : w.ownsRow B e 1 v ss.length (strV ss)) (hs : ∀ s ∈ ss, s.length ≤ maxLen) : Strs (fun b => B ≤ b ∧ b < w.heap.size) w v ss := by
  rw [← strV_len ss] at h
  exact ⟨row_own h (fun g hg hlt => ⟨(h.lt g hg).1, hlt⟩), hs⟩
/-- What a call gives that returns the three lists of names. -/
def NamesOut (L : Lay) (w : World) (e : Ending) (w' : World) : Prop :=
  ∃ v0 v1 v2, e = .returned (.agg #[v0, v1, v2]) ∧ (Strs (In w') w' v0 L.secs ∧ Sn v0) ∧ (Strs (In w') w' v1 (L.els.map (·.name)) ∧ Sn v1) ∧ (Strs (In w') w' v2 (L.sigs.map (·.name)) ∧ Sn v2) ∧ Below w.heap.size w w'

/-- Behind the first append: the rows of the three boxes and of the list. -/
def Mid (L : Lay) (vs ve vj vg vb : Value) (w W : World) (v0 : Value) : Prop :=
  LBox w.heap.size W L vs ve vj vg vb ∧ W.heap[w.heap.size + 1 + 1]? = some (.cells #[v0, .slice none 0 0, .slice none 0 0] 92 (0, 0)) ∧ W.heap[w.heap.size + 1]? = some (.cells #[.slice none 0 0, .slice none 0 0, .slice none 0 0] 92 (0, 0)) ∧
  Strs (fun b => b < W.heap.size ∧ b ≠ w.heap.size + 1 + 1 ∧ b ≠ w.heap.size + 1) W v0 L.secs ∧ Sn v0 ∧ Below w.heap.size w W ∧ w.heap.size + 1 + 1 < W.heap.size

theorem strV_one (ss : List (List UInt8)) : ∀ u ∈ strV ss, u.oneCell' = true := by
  intro u hu
  obtain ⟨s, _, rfl⟩ := List.mem_map.1 hu
  rfl
def nil3 : Array Value := #[.slice none 0 0, .slice none 0 0, .slice none 0 0]
theorem add_mk (b off j : Nat) : (⟨b, off, none⟩ : Addr).add j = ⟨b, off + j, none⟩ := by
  unfold Addr.add
  by_cases h : j = 0
  · subst h; simp
  · simp [h]
/-- The world with the three boxes. -/
def W3 (w : World) (L : Lay) (vs ve vj vg vb : Value) : World := ((w.alloc (.cells #[.string (bs L.name), vs, ve, vj, vg, vb] 28)).alloc (.cells #[.slice none 0 0, .slice none 0 0, .slice none 0 0] 92)).alloc (.cells #[.slice none 0 0, .slice none 0 0, .slice none 0 0] 92)
theorem w3_size (w : World) (L : Lay) (vs ve vj vg vb : Value) : (W3 w L vs ve vj vg vb).heap.size = w.heap.size + 1 + 1 + 1 := by simp [W3]
theorem w3_below (w : World) (L : Lay) (vs ve vj vg vb : Value) : Below w.heap.size w (W3 w L vs ve vj vg vb) := by
  have b1 := (Below.refl w.heap.size w).alloc (Nat.le_refl _) (.cells #[.string (bs L.name), vs, ve, vj, vg, vb] 28)
  have b2 := b1.alloc b1.size (.cells #[.slice none 0 0, .slice none 0 0, .slice none 0 0] 92)
  exact b2.alloc b2.size _
theorem mid_of {L : Lay} {vs ve vj vg vb v0 : Value} {w w1 : World} {row : Option Nat} (hr : row = none) (hg : (W3 w L vs ve vj vg vb).grownBy w1 row) (ho : w1.ownsRow (w.heap.size + 1 + 1 + 1) 9 1 v0 (strV L.secs).length (strV L.secs)) (hs : ∀ s ∈ L.secs, s.length ≤ maxLen) :
    w1.cell? ⟨w.heap.size, 2, none⟩ = some ve ∧ w1.cell? ⟨w.heap.size + 1 + 1, 0, none⟩ = some (.slice none 0 0) ∧ w1.frozen? ⟨w.heap.size + 1 + 1, 0, none⟩ = false ∧ Mid L vs ve vj vg vb w (w1.setCell ⟨w.heap.size + 1 + 1, 0, none⟩ v0) v0 := by
  subst hr
  obtain ⟨x0, _, x2, x3⟩ := box3 w #[.string (bs L.name), vs, ve, vj, vg, vb] #[.slice none 0 0, .slice none 0 0, .slice none 0 0] #[.slice none 0 0, .slice none 0 0, .slice none 0 0] 28 92 92
  have hsz := w3_size w L vs ve vj vg vb
  have hblk : ∀ k, k < w.heap.size + 1 + 1 + 1 → w1.heap[k]? = (W3 w L vs ve vj vg vb).heap[k]? := fun k hk => hg.block k (by rw [hsz]; exact hk) (by intro e; cases e)
  have y0 : ∀ j, w1.cell? ⟨w.heap.size, j, none⟩ = #[.string (bs L.name), vs, ve, vj, vg, vb][j]? := fun j => (cell_same (hblk w.heap.size (by omega))).trans (x0 j)
  have y2 := (hblk (w.heap.size + 1 + 1) (by omega)).trans x2
  have y1 : w1.heap[w.heap.size + 1]? = some (.cells #[.slice none 0 0, .slice none 0 0, .slice none 0 0] 92 (0, 0)) := by
    refine (hblk (w.heap.size + 1) (by omega)).trans ?_
    have e := heap_alloc_new (w.alloc (.cells #[.string (bs L.name), vs, ve, vj, vg, vb] 28)) (.cells #[.slice none 0 0, .slice none 0 0, .slice none 0 0] 92)
    rw [show (w.alloc (.cells #[.string (bs L.name), vs, ve, vj, vg, vb] 28)).heap.size = w.heap.size + 1 by simp] at e
    exact (Below.heap_alloc _ _ _ (by simp)).trans e
  have hs1 : w.heap.size + 1 + 1 + 1 ≤ w1.heap.size := by have := hg.size; rw [hsz] at this; exact this
  have hlen : (strV L.secs).length = L.secs.length := strV_len _
  refine ⟨by simpa using y0 2, (cell_of_row _ _ 0 _ _ _ y2).trans rfl, frozen_of_row _ _ 0 _ _ y2, ?_, ?_, ?_, ?_, sn_own ho, ?_, ?_⟩
  · have z : ∀ j, (w1.setCell ⟨w.heap.size + 1 + 1, 0, none⟩ v0).cell? ⟨w.heap.size, j, none⟩ = w1.cell? ⟨w.heap.size, j, none⟩ := fun j => cell_same (heap_setCell_other w1 _ _ _ (by simp; omega))
    exact ⟨(z 0).trans (y0 0), (z 1).trans (y0 1), (z 2).trans (y0 2), (z 3).trans (y0 3), (z 4).trans (y0 4), (z 5).trans (y0 5)⟩
  · rw [heap_setCell_same _ _ 0 _ _ _ y2]
    rfl
  · rw [heap_setCell_other w1 _ _ _ (by simp)]
    exact y1
  · have hrow : Row (fun b => w.heap.size + 1 + 1 + 1 ≤ b ∧ b < w1.heap.size) w1 v0 (strV L.secs) := row_own ho (fun g hg' hlt => ⟨(ho.lt g hg').1, hlt⟩)
    refine ⟨hrow.keep fun b hb => ⟨⟨by simp [World.setCell]; exact hb.2, by omega, by omega⟩, heap_setCell_other w1 _ _ _ (by simp; omega)⟩, hs⟩
  · have := (w3_below w L vs ve vj vg vb).grown hg (by rw [hsz]; omega) (fun k e => by cases e)
    exact this.setCell (by simp; omega) _
  · simp [World.setCell]; omega

theorem box_step {g B k : Nat} {cs : Array Value} {T e : TypeId} {W wr w1 : World} {v1 v1' : Value} {acc : List (List UInt8)} {s : List UInt8} {o1 o2 : Obj} (hrow : wr.heap[g]? = some (.cells cs T (0, 0))) (hg : g < B) (ho : wr.ownsRow B e 1 v1 acc.length (strV acc)) (hb : But g B W wr) (hB : B ≤ W.heap.size)
    (h1 : w1.ownsRow B e 1 v1' (acc.length + 1) (strV acc ++ [.string (bs s)])) (hg1 : ((wr.alloc o1).alloc o2).grownBy w1 v1.ownBlock) :
    w1.heap[g]? = some (.cells cs T (0, 0)) ∧ (w1.setCell ⟨g, k, none⟩ v1').heap[g]? = some (.cells (cs.setIfInBounds k v1') T (0, 0)) ∧ But g B W w1 ∧ But g B W (w1.setCell ⟨g, k, none⟩ v1') ∧ (w1.setCell ⟨g, k, none⟩ v1').ownsRow B e 1 v1' (acc ++ [s]).length (strV (acc ++ [s])) := by
  have hw := hb.size
  have hne : ∀ x, v1.ownBlock = some x → B ≤ x ∨ x = g := fun x hx => .inl (ho.lt x hx).1
  have b2 := (hb.alloc (by omega) o1).alloc (by simp; omega) o2
  have b3 := b2.grown hg1 (by simp; omega) hne
  have r1 : w1.heap[g]? = some (.cells cs T (0, 0)) := by
    rw [hg1.block g (by simp; omega) (fun e => by have := (ho.lt g e.symm).1; omega), Below.heap_alloc _ _ _ (by simp; omega), Below.heap_alloc _ _ _ (by omega)]
    exact hrow
  refine ⟨r1, heap_setCell_same _ _ _ _ _ _ r1, b3, b3.setCell (.inl rfl) _, ?_⟩
  have := ownsRow_setCell_below h1 (a := ⟨g, k, none⟩) hg v1'
  simpa [strV] using this
/-- What holds at the head of a loop that fills cell k of the box g with names. -/
def NRel (g k n : Nat) (all : List (List UInt8)) (cs : Array Value) (T e : TypeId) (W : World) (vj : Value) (wr : World) : Prop :=
  ∃ (j : Nat) (v : Value), vj = .int .i64 (j : Int) ∧ j ≤ n ∧ wr.heap[g]? = some (.cells (cs.setIfInBounds k v) T (0, 0)) ∧ wr.ownsRow W.heap.size e 1 v (all.take j).length (strV (all.take j)) ∧ But g W.heap.size W wr
theorem take_next {all : List (List UInt8)} {j : Nat} {s : List UInt8} (h : all[j]? = some s) : all.take (j + 1) = all.take j ++ [s] := by
  obtain ⟨hj, rfl⟩ := List.getElem?_eq_some_iff.1 h
  exact List.take_succ_eq_append_getElem hj
theorem set_set (cs : Array Value) (k : Nat) (x y : Value) : (cs.setIfInBounds k x).setIfInBounds k y = cs.setIfInBounds k y := by
  simp
theorem nrel_next {g k n j : Nat} {all : List (List UInt8)} {s : List UInt8} {cs : Array Value} {T e : TypeId} {W wr w1 : World} {v v' : Value} {o1 o2 : Obj} (hs : all[j]? = some s) (hj : j < n) (hrow : wr.heap[g]? = some (.cells (cs.setIfInBounds k v) T (0, 0))) (hg : g < W.heap.size) (ho : wr.ownsRow W.heap.size e 1 v (all.take j).length (strV (all.take j))) (hb : But g W.heap.size W wr)
    (h1 : w1.ownsRow W.heap.size e 1 v' ((all.take j).length + 1) (strV (all.take j) ++ [.string (bs s)])) (hg1 : ((wr.alloc o1).alloc o2).grownBy w1 v.ownBlock) : NRel g k n all cs T e W (.int .i64 ((j : Int) + 1)) (w1.setCell ⟨g, k, none⟩ v') := by
  obtain ⟨_, r2, _, b2, o2⟩ := box_step (k := k) hrow hg ho hb (Nat.le_refl _) h1 hg1
  rw [set_set] at r2
  exact ⟨j + 1, v', by simp, hj, r2, by rw [take_next hs]; exact o2, b2⟩
theorem cells_at {wr : World} {g : Nat} {cs : Array Value} {T : TypeId} (h : wr.heap[g]? = some (.cells cs T (0, 0))) (j : Nat) : wr.cell? ⟨g, j, none⟩ = cs[j]? ∧ wr.frozen? ⟨g, j, none⟩ = false := ⟨cell_of_row _ _ _ _ _ _ h, frozen_of_row _ _ _ _ _ h⟩

theorem row3 {wr : World} {g : Nat} {x y z : Value} {T : TypeId} (h : wr.heap[g]? = some (.cells #[x, y, z] T (0, 0))) (a b c : Value) :
    (((wr.setCell ⟨g, 0, none⟩ a).setCell ⟨g, 1, none⟩ b).setCell ⟨g, 2, none⟩ c).heap[g]? = some (.cells #[a, b, c] T (0, 0)) := by
  have h1 := heap_setCell_same _ _ 0 _ _ a h
  have h2 := heap_setCell_same _ _ 1 _ _ b h1
  exact heap_setCell_same _ _ 2 _ _ c h2
theorem keep3 {wr : World} {g : Nat} (a b c : Value) : ∀ k, (k < wr.heap.size ∧ k ≠ g) → In (((wr.setCell ⟨g, 0, none⟩ a).setCell ⟨g, 1, none⟩ b).setCell ⟨g, 2, none⟩ c) k ∧ (((wr.setCell ⟨g, 0, none⟩ a).setCell ⟨g, 1, none⟩ b).setCell ⟨g, 2, none⟩ c).heap[k]? = wr.heap[k]? := by
  intro k hk
  refine ⟨by simpa [In, World.setCell] using hk.1, ?_⟩
  rw [heap_setCell_other _ _ _ _ hk.2, heap_setCell_other _ _ _ _ hk.2, heap_setCell_other _ _ _ _ hk.2]

theorem grown_self (w : World) : w.grownBy w none := ⟨rfl, rfl, rfl, Nat.le_refl _, fun _ _ _ => rfl⟩
theorem mid_nil {L : Lay} {vs ve vj vg vb : Value} (hn : L.secs = []) (w : World) : Mid L vs ve vj vg vb w (W3 w L vs ve vj vg vb) (.slice none 0 0) := by
  have e : (W3 w L vs ve vj vg vb).setCell ⟨w.heap.size + 1 + 1, 0, none⟩ (.slice none 0 0) = W3 w L vs ve vj vg vb := by
    unfold W3
    rw [World.setCell_alloc_at _ _ _ _ _ (by simp)]
    rfl
  have m := (mid_of (w := w) (L := L) (vs := vs) (ve := ve) (vj := vj) (vg := vg) (vb := vb) rfl (grown_self _) (by rw [hn]; exact World.ownsRow_nil _ _ _ _) (by rw [hn]; intro s hs; cases hs)).2.2.2
  rwa [e] at m

set_option maxRecDepth 100000 in
set_option maxHeartbeats 1600000 in
theorem rnames_some (L : Lay) {vs ve vj vg vb : Value} (w : World) (h : LayAt (In w) w L vs ve vj vg vb) (hn : L.secs.length ≤ 1000) (hn2 : L.els.length ≤ 1000) (hn3 : L.sigs.length ≤ 1000) {ad : Addr} {n c : Nat} (e : vs = .slice (some ad) n c) :
    Calls Tryd.prog 70 #[layV L vs ve vj vg vb] w (NamesOut L w) := by
  obtain ⟨a, cap, rfl, hm, hel⟩ := h.el
  obtain ⟨a3, cap3, rfl, hm3, hsg⟩ := h.sg
  obtain ⟨a2, cap2, rfl, hm2, hsn⟩ := h.sn
  obtain ⟨i0, hi, hz0, hz1, hz2⟩ := info_parts infoS
  have HI0 := Lib.hid hi
  have HZ0 := Lib.hid hz0
  have HZ1 := Lib.hid hz1
  have HZ2 := Lib.hid hz2
  have HSL := Lib.hid h.secs.2
  have HEN := Lib.hid h.elName
  have HSN := Lib.hid h.sigName
  clear hi hz0 hz1 hz2
  unfold layV
  cases e
  have HN : Hid (∀ j u, (strV L.secs)[j]? = some u → (W3 w L (.slice (some ad) L.secs.length c) (.slice a L.els.length cap) vj (.slice a3 L.sigs.length cap3) vb).cell? (ad.add j) = some u) := by
    intro j u hu
    obtain ⟨s, hs, rfl⟩ : ∃ s, L.secs[j]? = some s ∧ .string (bs s) = u := by simpa [strV] using hu
    obtain ⟨b, off, e, hc⟩ := hsn _ (w3_below w L (.slice (some ad) L.secs.length c) (.slice a L.els.length cap) vj (.slice a3 L.sigs.length cap3) vb) j s hs
    cases e
    rw [add_mk]
    exact hc
  clear hsn
  go_enter Tryd.func70, Tryd.ntmps70
  go_wp2_with (at_builtin; refine wpList_append_own_at _ rfl (.tmp 10) (.tmp 12) 22 rfl (w.heap.size + 1 + 1 + 1) 9 i0 (.string ByteArray.empty) 1 16 Tryd.underlying22 HI0.out HZ0.out HZ1.out HZ2.out rfl (by decide) _ _ _ rfl (World.ownsRow_nil _ _ _ _) ad L.secs.length c (strV L.secs) rfl (by simp [strV]) HN.out (strV_one _) (by unfold maxLen; omega) (by omega) (by simp) ?_; intro v0 w1 h1own hg1 _ _; obtain ⟨A0, n0, c0, rfl⟩ := own_slice h1own; obtain ⟨k0, k1, k2, k3⟩ := mid_of rfl hg1 (by simpa [strV] using h1own) HSL.out; have HMID := Lib.hid k3; clear h1own hg1 k3)
  obtain ⟨W, hW⟩ : ∃ W, w1.setCell ⟨w.heap.size + 1 + 1, 0, none⟩ (.slice A0 n0 c0) = W := ⟨_, rfl⟩
  rw [hW] at HMID ⊢
  clear hW k0 k1 k2 HN
  obtain ⟨m1, m2, m3, m4, m5, m6, m7⟩ := HMID.out
  have M1 := Lib.hid m1
  have M3 := Lib.hid m3
  have M4 := Lib.hid m4
  have M5 := Lib.hid m5
  have M6 := Lib.hid m6
  have M7 := Lib.hid m7
  have M2 := Lib.hid m2
  clear m1 m2 m3 m4 m5 m6 m7 HMID
  go_loopw [18] (fun vj wr => NRel (w.heap.size + 1 + 1) 1 L.els.length (L.els.map (·.name)) #[.slice A0 n0 c0, .slice none 0 0, .slice none 0 0] 92 9 W vj wr) (fun vj _ => L.els.length - (Go.RowKit.intOf vj).toNat)
  case atStart => exact ⟨0, .slice none 0 0, rfl, Nat.zero_le _, M2.out, World.ownsRow_nil _ _ _ _, But.refl _ _ _⟩
  case round =>
    obtain ⟨j, v1, rfl, hj, hrow, ho, hb⟩ := hrel
    obtain ⟨A1, n1, c1, rfl⟩ := own_slice ho
    have HB := Lib.hid hb
    have HS := Lib.hid hb.size
    have HR := Lib.hid hrow
    have HO := Lib.hid ho
    have HBW := Lib.hid (hb.below M6.out (by have := M6.out.size; omega) (by omega))
    obtain ⟨p1, f1⟩ := cells_at hrow 1
    simp at p1
    clear hb hrow ho
    by_cases hl : j < L.els.length
    · obtain ⟨x, hx⟩ := at_lt hl
      obtain ⟨b, off, rfl, d0, d1, d2, d3, d4, d5, d6⟩ := hel wr HBW.out j x hx
      have HX := Lib.hid (show (L.els.map (·.name))[j]? = some x.name by rw [List.getElem?_map, hx]; rfl)
      obtain ⟨nm, kd, ln, gr, sp, sl, sc⟩ := x
      simp only at d0 d1 d2 d3 d4 d5 d6 HX
      have hlt : w.heap.size + 1 + 1 < wr.heap.size := Nat.lt_of_lt_of_le M7.out HS.out
      have htl : (List.take j (L.els.map (·.name))).length ≤ 1000 := by simp; omega
      clear hx
      go_wp2_with (at_builtin; refine wpList_append_own_at _ rfl (.tmp 23) (.tmp 26) 22 rfl W.heap.size 9 i0 (.string ByteArray.empty) 1 16 Tryd.underlying22 HI0.out HZ0.out HZ1.out HZ2.out rfl (by decide) _ _ _ rfl ((HO.out.alloc _).alloc _) ⟨wr.heap.size + 1, 0, none⟩ 1 1 [.string (bs nm)] rfl rfl (by simpa using cell_one_new (wr.alloc _) (.string (bs nm)) 9) (by intro u hu; simp at hu; subst hu; rfl) (by unfold maxLen; omega) (by omega) (by have := HS.out; simp; omega) ?_; intro v2 w2 h1own hg1 _ _; obtain ⟨A2, n2, c2, rfl⟩ := own_slice h1own; obtain ⟨q1, _, _, _, _⟩ := box_step (k := 1) HR.out M7.out HO.out HB.out (Nat.le_refl _) h1own hg1; obtain ⟨q2, q3⟩ := cells_at q1 1; simp at q2; have R1 := Lib.hid h1own; have R2 := Lib.hid hg1; clear h1own hg1 q1)
      go_roundw
      case rel => exact nrel_next HX.out hl HR.out M7.out HO.out HB.out R1.out R2.out
      case measure => simp [Go.RowKit.intOf]; omega
    · have he : j = L.els.length := by omega
      subst he
      obtain ⟨W2, rfl⟩ : ∃ W2 : World, W2 = wr := ⟨_, rfl⟩
      have g4 := (HB.out.cell (p := ⟨w.heap.size, 4, none⟩) (by have := M7.out; simp; omega) (by simp; omega)).trans M1.out.2.2.2.2.1
      have hx0 := M4.out.keep (ok' := fun b => b < W2.heap.size ∧ b ≠ w.heap.size + 1 + 1 ∧ b ≠ w.heap.size + 1) fun b hb => ⟨⟨Nat.lt_of_lt_of_le hb.1 HS.out, hb.2⟩, HB.out.block b hb.1 hb.2.1⟩
      have hx1 := strs_row HO.out (fun s hs => by
        obtain ⟨x, hx, rfl⟩ := List.mem_map.1 (List.mem_of_mem_take hs)
        exact HEN.out x hx)
      rw [show (L.els.map (·.name)).take L.els.length = L.els.map (·.name) from List.take_of_length_le (by simp)] at hx1
      have N0 := Lib.hid hx0
      have N1 := Lib.hid (hx1.keep (ok' := fun b => b < W2.heap.size ∧ b ≠ w.heap.size + 1 + 1 ∧ b ≠ w.heap.size + 1) fun b hb => ⟨⟨hb.2, by have := M7.out; omega, by have := M7.out; omega⟩, rfl⟩)
      have S1 := Lib.hid (sn_own HO.out)
      have N7 := Lib.hid (Nat.lt_of_lt_of_le M7.out HS.out)
      have N3 := Lib.hid ((HB.out.block (w.heap.size + 1) (by have := M7.out; omega) (by omega)).trans M3.out)
      clear hx0 hx1 hel p1 f1
      go_wp2_with fail
      go_loopw [33] (fun vj wx => NRel (w.heap.size + 1 + 1) 2 L.sigs.length (L.sigs.map (·.name)) #[.slice A0 n0 c0, .slice A1 n1 c1, .slice none 0 0] 92 9 W2 vj wx) (fun vj _ => L.sigs.length - (Go.RowKit.intOf vj).toNat)
      case atStart => exact ⟨0, .slice none 0 0, rfl, Nat.zero_le _, HR.out, World.ownsRow_nil _ _ _ _, But.refl _ _ _⟩
      case round =>
        have HBW1 := Lib.hid HBW.out
        clear HBW
        obtain ⟨j, v2, rfl, hj, hrow, ho, hb⟩ := hrel
        obtain ⟨A2, n2, c2, rfl⟩ := own_slice ho
        have HB2 := Lib.hid hb
        have HS2 := Lib.hid hb.size
        have HR2 := Lib.hid hrow
        have HO2 := Lib.hid ho
        have HBW2 := Lib.hid (hb.below HBW1.out (by have := HBW1.out.size; omega) (by omega))
        obtain ⟨p2, f2⟩ := cells_at hrow 2
        have hlt : w.heap.size + 1 + 1 < wr.heap.size := Nat.lt_of_lt_of_le N7.out HS2.out
        simp at p2
        clear hb hrow ho
        by_cases hl : j < L.sigs.length
        · obtain ⟨x, hx⟩ := at_lt hl
          obtain ⟨b, off, rfl, d0, d1, d2, d3⟩ := hsg wr HBW2.out j x hx
          have HX := Lib.hid (show (L.sigs.map (·.name))[j]? = some x.name by rw [List.getElem?_map, hx]; rfl)
          obtain ⟨nm, sp, ov⟩ := x
          simp only at d0 d1 d2 d3 HX
          have htl : (List.take j (L.sigs.map (·.name))).length ≤ 1000 := by simp; omega
          clear hx
          go_wp2_with (at_builtin; refine wpList_append_own_at _ rfl (.tmp 38) (.tmp 41) 22 rfl W2.heap.size 9 i0 (.string ByteArray.empty) 1 16 Tryd.underlying22 HI0.out HZ0.out HZ1.out HZ2.out rfl (by decide) _ _ _ rfl ((HO2.out.alloc _).alloc _) ⟨wr.heap.size + 1, 0, none⟩ 1 1 [.string (bs nm)] rfl rfl (by simpa using cell_one_new (wr.alloc _) (.string (bs nm)) 9) (by intro u hu; simp at hu; subst hu; rfl) (by unfold maxLen; omega) (by omega) (by have := HS2.out; simp; omega) ?_; intro v3 w3 h1own hg1 _ _; obtain ⟨A3, n3, c3, rfl⟩ := own_slice h1own; obtain ⟨q1, _, _, _, _⟩ := box_step (k := 2) HR2.out N7.out HO2.out HB2.out (Nat.le_refl _) h1own hg1; obtain ⟨q2, q3⟩ := cells_at q1 2; simp at q2; have R1 := Lib.hid h1own; have R2 := Lib.hid hg1; clear h1own hg1 q1)
          go_roundw
          case rel => exact nrel_next HX.out hl HR2.out N7.out HO2.out HB2.out R1.out R2.out
          case measure => simp [Go.RowKit.intOf]; omega
        · have he : j = L.sigs.length := by omega
          subst he
          have hx2 := strs_row HO2.out (fun s hs => by
            obtain ⟨x, hx, rfl⟩ := List.mem_map.1 (List.mem_of_mem_take hs)
            exact HSN.out x hx)
          rw [show (L.sigs.map (·.name)).take L.sigs.length = L.sigs.map (·.name) from List.take_of_length_le (by simp)] at hx2
          have K0 := Lib.hid (N0.out.keep (ok' := fun b => b < wr.heap.size ∧ b ≠ w.heap.size + 1) fun b hb => ⟨⟨Nat.lt_of_lt_of_le hb.1 HS2.out, hb.2.2⟩, HB2.out.block b hb.1 hb.2.1⟩)
          have K1 := Lib.hid (N1.out.keep (ok' := fun b => b < wr.heap.size ∧ b ≠ w.heap.size + 1) fun b hb => ⟨⟨Nat.lt_of_lt_of_le hb.1 HS2.out, hb.2.2⟩, HB2.out.block b hb.1 hb.2.1⟩)
          have K2 := Lib.hid (hx2.keep (ok' := fun b => b < wr.heap.size ∧ b ≠ w.heap.size + 1) fun b hb => ⟨⟨hb.2, by have := N7.out; omega⟩, rfl⟩)
          have K3 := Lib.hid ((HB2.out.block (w.heap.size + 1) (by have := N7.out; omega) (by omega)).trans N3.out)
          have S2 := Lib.hid (sn_own HO2.out)
          obtain ⟨p0, _⟩ := cells_at HR2.out 0
          obtain ⟨p1, _⟩ := cells_at HR2.out 1
          obtain ⟨e0, r0⟩ := cells_at K3.out 0
          obtain ⟨e1, r1⟩ := cells_at K3.out 1
          obtain ⟨e2, r2⟩ := cells_at K3.out 2
          simp at p0 p1 e0 e1 e2
          clear hx2 hsg hj hl
          go_wp2_with fail
          (try simp only [Exit.inBlock, Exit.then])
          refine bodyPost_ret (v := .agg #[.slice A0 n0 c0, .slice A1 n1 c1, .slice A2 n2 c2]) ?_ rfl ?_
          · exact results_cell_row rfl _ _ (w.heap.size + 1) 92 _ (0, 0) _ rfl (row3 K3.out _ _ _) Tryd.underlying92 rfl (by kernel_rfl)
          · exact ⟨_, _, _, rfl, ⟨K0.out.keep (keep3 _ _ _), M5.out⟩, ⟨K1.out.keep (keep3 _ _ _), S1.out⟩, ⟨K2.out.keep (keep3 _ _ _), S2.out⟩, ((HBW2.out.setCell (by simp) _).setCell (by simp) _).setCell (by simp) _⟩

set_option maxRecDepth 100000 in
set_option maxHeartbeats 1600000 in
theorem rnames_nil (L : Lay) {vs ve vj vg vb : Value} (w : World) (h : LayAt (In w) w L vs ve vj vg vb) (_hn : L.secs.length ≤ 1000) (hn2 : L.els.length ≤ 1000) (hn3 : L.sigs.length ≤ 1000) (e : vs = .slice none 0 0) :
    Calls Tryd.prog 70 #[layV L vs ve vj vg vb] w (NamesOut L w) := by
  obtain ⟨a, cap, rfl, hm, hel⟩ := h.el
  obtain ⟨a3, cap3, rfl, hm3, hsg⟩ := h.sg
  obtain ⟨a2, cap2, rfl, hm2, hsn⟩ := h.sn
  obtain ⟨i0, hi, hz0, hz1, hz2⟩ := info_parts infoS
  have HI0 := Lib.hid hi
  have HZ0 := Lib.hid hz0
  have HZ1 := Lib.hid hz1
  have HZ2 := Lib.hid hz2
  have HSL := Lib.hid h.secs.2
  have HEN := Lib.hid h.elName
  have HSN := Lib.hid h.sigName
  clear hi hz0 hz1 hz2
  unfold layV
  simp only [Value.slice.injEq] at e
  obtain ⟨rfl, hl0, rfl⟩ := e
  have hnil := List.length_eq_zero_iff.1 hl0
  rw [hl0]
  have HMID := Lib.hid (mid_nil (vs := .slice none 0 0) (ve := .slice a L.els.length cap) (vj := vj) (vg := .slice a3 L.sigs.length cap3) (vb := vb) hnil w)
  have HW3 := box3 w #[.string (bs L.name), .slice none 0 0, .slice a L.els.length cap, vj, .slice a3 L.sigs.length cap3, vb] #[.slice none 0 0, .slice none 0 0, .slice none 0 0] #[.slice none 0 0, .slice none 0 0, .slice none 0 0] 28 92 92
  clear hsn hm2 hl0 hnil
  go_enter Tryd.func70, Tryd.ntmps70
  go_wp2_with fail
  obtain ⟨W, hW⟩ : ∃ W, W3 w L (.slice none 0 0) (.slice a L.els.length cap) vj (.slice a3 L.sigs.length cap3) vb = W := ⟨_, rfl⟩
  rw [hW] at HMID
  unfold W3 at hW
  rw [hW]
  clear hW HW3
  obtain ⟨m1, m2, m3, m4, m5, m6, m7⟩ := HMID.out
  have M1 := Lib.hid m1
  have M3 := Lib.hid m3
  have M4 := Lib.hid m4
  have M5 := Lib.hid m5
  have M6 := Lib.hid m6
  have M7 := Lib.hid m7
  have M2 := Lib.hid m2
  clear m1 m2 m3 m4 m5 m6 m7 HMID
  go_loopw [18] (fun vj wr => NRel (w.heap.size + 1 + 1) 1 L.els.length (L.els.map (·.name)) #[.slice none 0 0, .slice none 0 0, .slice none 0 0] 92 9 W vj wr) (fun vj _ => L.els.length - (Go.RowKit.intOf vj).toNat)
  case atStart => exact ⟨0, .slice none 0 0, rfl, Nat.zero_le _, M2.out, World.ownsRow_nil _ _ _ _, But.refl _ _ _⟩
  case round =>
    obtain ⟨j, v1, rfl, hj, hrow, ho, hb⟩ := hrel
    obtain ⟨A1, n1, c1, rfl⟩ := own_slice ho
    have HB := Lib.hid hb
    have HS := Lib.hid hb.size
    have HR := Lib.hid hrow
    have HO := Lib.hid ho
    have HBW := Lib.hid (hb.below M6.out (by have := M6.out.size; omega) (by omega))
    obtain ⟨p1, f1⟩ := cells_at hrow 1
    simp at p1
    clear hb hrow ho
    by_cases hl : j < L.els.length
    · obtain ⟨x, hx⟩ := at_lt hl
      obtain ⟨b, off, rfl, d0, d1, d2, d3, d4, d5, d6⟩ := hel wr HBW.out j x hx
      have HX := Lib.hid (show (L.els.map (·.name))[j]? = some x.name by rw [List.getElem?_map, hx]; rfl)
      obtain ⟨nm, kd, ln, gr, sp, sl, sc⟩ := x
      simp only at d0 d1 d2 d3 d4 d5 d6 HX
      have hlt : w.heap.size + 1 + 1 < wr.heap.size := Nat.lt_of_lt_of_le M7.out HS.out
      have htl : (List.take j (L.els.map (·.name))).length ≤ 1000 := by simp; omega
      clear hx
      go_wp2_with (at_builtin; refine wpList_append_own_at _ rfl (.tmp 23) (.tmp 26) 22 rfl W.heap.size 9 i0 (.string ByteArray.empty) 1 16 Tryd.underlying22 HI0.out HZ0.out HZ1.out HZ2.out rfl (by decide) _ _ _ rfl ((HO.out.alloc _).alloc _) ⟨wr.heap.size + 1, 0, none⟩ 1 1 [.string (bs nm)] rfl rfl (by simpa using cell_one_new (wr.alloc _) (.string (bs nm)) 9) (by intro u hu; simp at hu; subst hu; rfl) (by unfold maxLen; omega) (by omega) (by have := HS.out; simp; omega) ?_; intro v2 w2 h1own hg1 _ _; obtain ⟨A2, n2, c2, rfl⟩ := own_slice h1own; obtain ⟨q1, _, _, _, _⟩ := box_step (k := 1) HR.out M7.out HO.out HB.out (Nat.le_refl _) h1own hg1; obtain ⟨q2, q3⟩ := cells_at q1 1; simp at q2; have R1 := Lib.hid h1own; have R2 := Lib.hid hg1; clear h1own hg1 q1)
      go_roundw
      case rel => exact nrel_next HX.out hl HR.out M7.out HO.out HB.out R1.out R2.out
      case measure => simp [Go.RowKit.intOf]; omega
    · have he : j = L.els.length := by omega
      subst he
      obtain ⟨W2, rfl⟩ : ∃ W2 : World, W2 = wr := ⟨_, rfl⟩
      have g4 := (HB.out.cell (p := ⟨w.heap.size, 4, none⟩) (by have := M7.out; simp; omega) (by simp; omega)).trans M1.out.2.2.2.2.1
      have hx0 := M4.out.keep (ok' := fun b => b < W2.heap.size ∧ b ≠ w.heap.size + 1 + 1 ∧ b ≠ w.heap.size + 1) fun b hb => ⟨⟨Nat.lt_of_lt_of_le hb.1 HS.out, hb.2⟩, HB.out.block b hb.1 hb.2.1⟩
      have hx1 := strs_row HO.out (fun s hs => by
        obtain ⟨x, hx, rfl⟩ := List.mem_map.1 (List.mem_of_mem_take hs)
        exact HEN.out x hx)
      rw [show (L.els.map (·.name)).take L.els.length = L.els.map (·.name) from List.take_of_length_le (by simp)] at hx1
      have N0 := Lib.hid hx0
      have N1 := Lib.hid (hx1.keep (ok' := fun b => b < W2.heap.size ∧ b ≠ w.heap.size + 1 + 1 ∧ b ≠ w.heap.size + 1) fun b hb => ⟨⟨hb.2, by have := M7.out; omega, by have := M7.out; omega⟩, rfl⟩)
      have S1 := Lib.hid (sn_own HO.out)
      have N7 := Lib.hid (Nat.lt_of_lt_of_le M7.out HS.out)
      have N3 := Lib.hid ((HB.out.block (w.heap.size + 1) (by have := M7.out; omega) (by omega)).trans M3.out)
      clear hx0 hx1 hel p1 f1
      go_wp2_with fail
      go_loopw [33] (fun vj wx => NRel (w.heap.size + 1 + 1) 2 L.sigs.length (L.sigs.map (·.name)) #[.slice none 0 0, .slice A1 n1 c1, .slice none 0 0] 92 9 W2 vj wx) (fun vj _ => L.sigs.length - (Go.RowKit.intOf vj).toNat)
      case atStart => exact ⟨0, .slice none 0 0, rfl, Nat.zero_le _, HR.out, World.ownsRow_nil _ _ _ _, But.refl _ _ _⟩
      case round =>
        have HBW1 := Lib.hid HBW.out
        clear HBW
        obtain ⟨j, v2, rfl, hj, hrow, ho, hb⟩ := hrel
        obtain ⟨A2, n2, c2, rfl⟩ := own_slice ho
        have HB2 := Lib.hid hb
        have HS2 := Lib.hid hb.size
        have HR2 := Lib.hid hrow
        have HO2 := Lib.hid ho
        have HBW2 := Lib.hid (hb.below HBW1.out (by have := HBW1.out.size; omega) (by omega))
        obtain ⟨p2, f2⟩ := cells_at hrow 2
        have hlt : w.heap.size + 1 + 1 < wr.heap.size := Nat.lt_of_lt_of_le N7.out HS2.out
        simp at p2
        clear hb hrow ho
        by_cases hl : j < L.sigs.length
        · obtain ⟨x, hx⟩ := at_lt hl
          obtain ⟨b, off, rfl, d0, d1, d2, d3⟩ := hsg wr HBW2.out j x hx
          have HX := Lib.hid (show (L.sigs.map (·.name))[j]? = some x.name by rw [List.getElem?_map, hx]; rfl)
          obtain ⟨nm, sp, ov⟩ := x
          simp only at d0 d1 d2 d3 HX
          have htl : (List.take j (L.sigs.map (·.name))).length ≤ 1000 := by simp; omega
          clear hx
          go_wp2_with (at_builtin; refine wpList_append_own_at _ rfl (.tmp 38) (.tmp 41) 22 rfl W2.heap.size 9 i0 (.string ByteArray.empty) 1 16 Tryd.underlying22 HI0.out HZ0.out HZ1.out HZ2.out rfl (by decide) _ _ _ rfl ((HO2.out.alloc _).alloc _) ⟨wr.heap.size + 1, 0, none⟩ 1 1 [.string (bs nm)] rfl rfl (by simpa using cell_one_new (wr.alloc _) (.string (bs nm)) 9) (by intro u hu; simp at hu; subst hu; rfl) (by unfold maxLen; omega) (by omega) (by have := HS2.out; simp; omega) ?_; intro v3 w3 h1own hg1 _ _; obtain ⟨A3, n3, c3, rfl⟩ := own_slice h1own; obtain ⟨q1, _, _, _, _⟩ := box_step (k := 2) HR2.out N7.out HO2.out HB2.out (Nat.le_refl _) h1own hg1; obtain ⟨q2, q3⟩ := cells_at q1 2; simp at q2; have R1 := Lib.hid h1own; have R2 := Lib.hid hg1; clear h1own hg1 q1)
          go_roundw
          case rel => exact nrel_next HX.out hl HR2.out N7.out HO2.out HB2.out R1.out R2.out
          case measure => simp [Go.RowKit.intOf]; omega
        · have he : j = L.sigs.length := by omega
          subst he
          have hx2 := strs_row HO2.out (fun s hs => by
            obtain ⟨x, hx, rfl⟩ := List.mem_map.1 (List.mem_of_mem_take hs)
            exact HSN.out x hx)
          rw [show (L.sigs.map (·.name)).take L.sigs.length = L.sigs.map (·.name) from List.take_of_length_le (by simp)] at hx2
          have K0 := Lib.hid (N0.out.keep (ok' := fun b => b < wr.heap.size ∧ b ≠ w.heap.size + 1) fun b hb => ⟨⟨Nat.lt_of_lt_of_le hb.1 HS2.out, hb.2.2⟩, HB2.out.block b hb.1 hb.2.1⟩)
          have K1 := Lib.hid (N1.out.keep (ok' := fun b => b < wr.heap.size ∧ b ≠ w.heap.size + 1) fun b hb => ⟨⟨Nat.lt_of_lt_of_le hb.1 HS2.out, hb.2.2⟩, HB2.out.block b hb.1 hb.2.1⟩)
          have K2 := Lib.hid (hx2.keep (ok' := fun b => b < wr.heap.size ∧ b ≠ w.heap.size + 1) fun b hb => ⟨⟨hb.2, by have := N7.out; omega⟩, rfl⟩)
          have K3 := Lib.hid ((HB2.out.block (w.heap.size + 1) (by have := N7.out; omega) (by omega)).trans N3.out)
          have S2 := Lib.hid (sn_own HO2.out)
          obtain ⟨p0, _⟩ := cells_at HR2.out 0
          obtain ⟨p1, _⟩ := cells_at HR2.out 1
          obtain ⟨e0, r0⟩ := cells_at K3.out 0
          obtain ⟨e1, r1⟩ := cells_at K3.out 1
          obtain ⟨e2, r2⟩ := cells_at K3.out 2
          simp at p0 p1 e0 e1 e2
          clear hx2 hsg hj hl
          go_wp2_with fail
          (try simp only [Exit.inBlock, Exit.then])
          refine bodyPost_ret (v := .agg #[.slice none 0 0, .slice A1 n1 c1, .slice A2 n2 c2]) ?_ rfl ?_
          · exact results_cell_row rfl _ _ (w.heap.size + 1) 92 _ (0, 0) _ rfl (row3 K3.out _ _ _) Tryd.underlying92 rfl (by kernel_rfl)
          · exact ⟨_, _, _, rfl, ⟨K0.out.keep (keep3 _ _ _), M5.out⟩, ⟨K1.out.keep (keep3 _ _ _), S1.out⟩, ⟨K2.out.keep (keep3 _ _ _), S2.out⟩, ((HBW2.out.setCell (by simp) _).setCell (by simp) _).setCell (by simp) _⟩

theorem rnames_any (L : Lay) {vs ve vj vg vb : Value} (w : World) (h : LayAt (In w) w L vs ve vj vg vb) (hn : L.secs.length ≤ 1000) (hn2 : L.els.length ≤ 1000) (hn3 : L.sigs.length ≤ 1000) :
    Calls Tryd.prog 70 #[layV L vs ve vj vg vb] w (NamesOut L w) := by
  rcases h.some_ with e | ⟨ad, n, c, e⟩
  · exact rnames_nil L w h hn hn2 hn3 e
  · exact rnames_some L w h hn hn2 hn3 e

end Go.Proofs.YtjhimekojiegjaaDoor.Lnam
