/- Lines, words and parts of texts: plain mathematics over bytes. No program. -/
import Derived.Lib.SplitLaws
import Derived.Lib.IndexMore
import Derived.Lib.Join
namespace Go.Proofs.YtkoldgammeojkaaDoor.Text
open Go.Lib


/-! What Cut and Split compute where the separator is one byte. -/
theorem index_miss (c : UInt8) : ∀ l : (List UInt8), c ∉ l → index l [c] = -1
  | [], _ => rfl
  | b :: l, h => by
    have hb : b ≠ c := fun e => h (by simp [e])
    have ih := index_miss c l (fun hm => h (by simp [hm]))
    have hp : ([c] : (List UInt8)).isPrefixOf (b :: l) = false := by simp [List.isPrefixOf, Ne.symm hb]
    unfold index
    rw [hp, ih]
    rfl
theorem index_hit (c : UInt8) : ∀ (l r : (List UInt8)), c ∉ l → index (l ++ c :: r) [c] = (l.length : Int)
  | [], r, _ => by
    have hp : ([c] : (List UInt8)).isPrefixOf (c :: r) = true := by simp [List.isPrefixOf]
    show index (c :: r) [c] = _
    unfold index
    rw [hp]
    rfl
  | b :: l, r, h => by
    have hb : b ≠ c := fun e => h (by simp [e])
    have ih := index_hit c l r (fun hm => h (by simp [hm]))
    have hp : ([c] : (List UInt8)).isPrefixOf (b :: (l ++ c :: r)) = false := by simp [List.isPrefixOf, Ne.symm hb]
    show index (b :: (l ++ c :: r)) [c] = _
    unfold index
    rw [hp, ih]
    have : (((l.length : Nat) : Int) == -1) = false := by rw [beq_eq_false_iff_ne]; omega
    simp [this]
theorem cut_miss (c : UInt8) (s : (List UInt8)) (h : c ∉ s) : Lib.cut s [c] = (s, [], false) := by
  unfold Lib.cut
  rw [index_miss c s h, if_neg (by decide)]
theorem cut_hit (c : UInt8) (l r : (List UInt8)) (h : c ∉ l) : Lib.cut (l ++ c :: r) [c] = (l, r, true) := by
  unfold Lib.cut
  rw [index_hit c l r h, if_pos (by omega)]
  simp

/-- The parts of a text between separators; cur is what was read of the first one. -/
def parts (c : UInt8) (cur : (List UInt8)) : (List UInt8) → List (List UInt8)
  | [] => [cur]
  | b :: r => if b = c then cur :: parts c [] r else parts c (cur ++ [b]) r

theorem parts_miss (c : UInt8) : ∀ (l cur : (List UInt8)), c ∉ l → parts c cur l = [cur ++ l]
  | [], cur, _ => by simp [parts]
  | b :: l, cur, h => by
    have hb : b ≠ c := fun e => h (by simp [e])
    rw [parts, if_neg hb, parts_miss c l _ (fun hm => h (by simp [hm]))]
    simp
theorem parts_hit (c : UInt8) : ∀ (l r cur : (List UInt8)), c ∉ l → parts c cur (l ++ c :: r) = (cur ++ l) :: parts c [] r
  | [], r, cur, _ => by simp [parts]
  | b :: l, r, cur, h => by
    have hb : b ≠ c := fun e => h (by simp [e])
    rw [List.cons_append, parts, if_neg hb, parts_hit c l r _ (fun hm => h (by simp [hm]))]
    simp
theorem first_of (c : UInt8) : ∀ s : (List UInt8), c ∉ s ∨ ∃ l r, s = l ++ c :: r ∧ c ∉ l
  | [] => .inl (by simp)
  | b :: s => by
    by_cases hb : b = c
    · exact .inr ⟨[], s, by simp [hb], by simp⟩
    · rcases first_of c s with h | ⟨l, r, rfl, h⟩
      · exact .inl (by simp [h, Ne.symm hb])
      · exact .inr ⟨b :: l, r, rfl, by simp [h, Ne.symm hb]⟩
theorem splitK_parts (c : UInt8) : ∀ (n : Nat) (s : (List UInt8)), s.length ≤ n → splitK [c] 0 (s.count c) s = parts c [] s
  | n, s, hn => by
    rcases first_of c s with h | ⟨l, r, rfl, h⟩
    · rw [List.count_eq_zero.2 h, parts_miss c s [] h]
      rfl
    · have hc : (l ++ c :: r).count c = r.count c + 1 := by
        rw [List.count_append, List.count_eq_zero.2 h, List.count_cons]
        simp
      rw [hc, splitK, index_hit c l r h, if_neg (by simp), parts_hit c l r [] h]
      match n, hn with
      | 0, hn => simp at hn
      | n + 1, hn =>
        have ih := splitK_parts c n r (by simp at hn; omega)
        simp only [Int.toNat_natCast, Nat.add_zero, List.length_singleton]
        have e1 : (l ++ c :: r).take l.length = l := by simp
        have e2 : (l ++ c :: r).drop (l.length + 1) = r := by simp
        rw [e1, e2, ih, List.nil_append]

/-- The string of these bytes. -/
def bs (l : (List UInt8)) : ByteArray := ⟨l.toArray⟩
theorem bs_list (l : (List UInt8)) : (bs l).data.toList = l := rfl
theorem bs_size (l : (List UInt8)) : (bs l).size = l.length := rfl
theorem bs_of (s : ByteArray) : bs s.data.toList = s := rfl
theorem bs_inj {a b : (List UInt8)} (h : bs a = bs b) : a = b := by rw [← bs_list a, h, bs_list]
theorem bs_append (a b : (List UInt8)) : bs a ++ bs b = bs (a ++ b) := by
  apply ByteArray.ext
  simp [bs]

/-- strings.Split at one byte. -/
theorem split_parts (c : UInt8) (s : (List UInt8)) : splitB ⟨#[c]⟩ 0 (countB (bs s) ⟨#[c]⟩) (bs s) = (parts c [] s).map bs := by
  have h := splitB_data ⟨#[c]⟩ 0 (countB (bs s) ⟨#[c]⟩) (bs s)
  have hc : countB (bs s) ⟨#[c]⟩ = s.count c := count_one c s
  rw [hc] at h ⊢
  have h2 : splitK [c] 0 (s.count c) s = parts c [] s := splitK_parts c _ s (Nat.le_refl _)
  have h3 : (splitB ⟨#[c]⟩ 0 (s.count c) (bs s)).map (·.data.toList) = parts c [] s := h.trans h2
  rw [← h3, List.map_map]
  have : (bs ∘ fun x : ByteArray => x.data.toList) = id := by funext x; rfl
  rw [this, List.map_id]
theorem split_count (c : UInt8) (s : (List UInt8)) : countB (bs s) ⟨#[c]⟩ + 1 = (parts c [] s).length := by
  have := splitB_all ⟨#[c]⟩ (Nat.le_refl 1) 0 _ (bs s) rfl
  rw [split_parts, List.length_map] at this
  exact this.symm
theorem parts_length (c : UInt8) : ∀ (l cur : (List UInt8)), (parts c cur l).length ≤ l.length + 1
  | [], cur => by simp [parts]
  | b :: l, cur => by
    rw [parts]
    split
    · have := parts_length c l []; simp; omega
    · have := parts_length c l (cur ++ [b]); simp; omega
theorem parts_ne (c : UInt8) : ∀ (l cur : (List UInt8)), parts c cur l ≠ []
  | [], cur => by simp [parts]
  | b :: l, cur => by
    rw [parts]
    split
    · simp
    · exact parts_ne c l _
theorem parts_mem (c : UInt8) : ∀ (l cur : (List UInt8)), ∀ p ∈ parts c cur l, p.length ≤ cur.length + l.length
  | [], cur, p, hp => by
    simp [parts] at hp
    simp [hp]
  | b :: l, cur, p, hp => by
    rw [parts] at hp
    split at hp
    · rcases List.mem_cons.1 hp with rfl | hp
      · simp
      · have := parts_mem c l [] p hp; simp at this ⊢; omega
    · have := parts_mem c l _ p hp; simp at this ⊢; omega

/-! The parts and the joined text. -/
def tailL (c : UInt8) (ps : List (List UInt8)) : (List UInt8) := (ps.map (c :: ·)).flatten
theorem join_tail (c : UInt8) (p : (List UInt8)) (ps : List (List UInt8)) : Lib.join (p :: ps) [c] = p ++ tailL c ps := join_cons p ps [c]
theorem parts_join (c : UInt8) : ∀ (l cur : (List UInt8)), Lib.join (parts c cur l) [c] = cur ++ l
  | [], cur => by rw [parts, join_one, List.append_nil]
  | b :: l, cur => by
    rw [parts]
    split
    · rename_i hb
      subst hb
      have ih := parts_join b l []
      obtain ⟨p, ps, hp⟩ : ∃ p ps, parts b [] l = p :: ps := by
        cases h : parts b [] l with
        | nil => exact absurd h (parts_ne b l [])
        | cons p ps => exact ⟨p, ps, rfl⟩
      rw [hp] at ih ⊢
      rw [join_tail] at ih ⊢
      simp only [tailL, List.map_cons, List.flatten_cons, List.cons_append]
      rw [show (List.map (fun x => b :: x) ps).flatten = tailL b ps from rfl, ih]
      simp
    · rw [parts_join c l]
      simp
theorem parts_of_join (c : UInt8) : ∀ (ps : List (List UInt8)) (p : (List UInt8)), (∀ q ∈ p :: ps, c ∉ q) → parts c [] (Lib.join (p :: ps) [c]) = p :: ps
  | [], p, h => by rw [join_one, parts_miss c p [] (h p (by simp))]; simp
  | q :: ps, p, h => by
    have ih := parts_of_join c ps q (fun x hx => h x (List.mem_cons_of_mem _ hx))
    rw [join_tail] at ih ⊢
    have : p ++ tailL c (q :: ps) = p ++ c :: (q ++ tailL c ps) := by simp [tailL]
    rw [this, parts_hit c p _ [] (h p (by simp)), ih]
    simp

/-! Words and lines. -/
def inWord (b : UInt8) : Bool := decide (33 ≤ b.toNat) && decide (b.toNat ≤ 126)
def wordL (l : (List UInt8)) : Bool := decide (l ≠ []) && decide (l.length ≤ 64) && l.all inWord
def lineL (ws : List (List UInt8)) : Bool := decide (ws ≠ []) && ws.all wordL

theorem word_not {l : (List UInt8)} (h : wordL l = true) {c : UInt8} (hc : inWord c = false) : c ∉ l := by
  intro hm
  simp only [wordL, Bool.and_eq_true, List.all_eq_true] at h
  rw [h.2 c hm] at hc
  cases hc
theorem word_no32 {l : (List UInt8)} (h : wordL l = true) : (32 : UInt8) ∉ l := word_not h (by decide)
theorem word_no10 {l : (List UInt8)} (h : wordL l = true) : (10 : UInt8) ∉ l := word_not h (by decide)
theorem word_len {l : (List UInt8)} (h : wordL l = true) : l.length ≤ 64 := by
  simp only [wordL, Bool.and_eq_true, decide_eq_true_eq] at h
  exact h.1.2

/-- A text read byte by byte: k lines before, the words of this line, what was read of this word. -/
def scan (k : Nat) (line : List (List UInt8)) (cur : (List UInt8)) : (List UInt8) → Except Nat (List (List (List UInt8)))
  | [] => if cur = [] ∧ line = [] then .ok [] else .error (k + 1)
  | c :: r =>
    if c ≠ 32 ∧ c ≠ 10 then scan k line (cur ++ [c]) r
    else if wordL cur = false then .error (k + 1)
    else if c = 10 then (scan (k + 1) [] [] r).map ((line ++ [cur]) :: ·)
    else scan k (line ++ [cur]) [] r

theorem scan_end (k : Nat) : ∀ (l : (List UInt8)) (line : List (List UInt8)) (cur : (List UInt8)), (10 : UInt8) ∉ l → (l ≠ [] ∨ cur ≠ [] ∨ line ≠ []) → scan k line cur l = .error (k + 1)
  | [], line, cur, _, h => by
    rw [scan, if_neg]
    rintro ⟨rfl, rfl⟩
    simp at h
  | c :: l, line, cur, hn, _ => by
    have hc : c ≠ 10 := fun e => hn (by simp [e])
    have hl : (10 : UInt8) ∉ l := fun hm => hn (by simp [hm])
    rw [scan]
    split
    · exact scan_end k l line _ hl (by simp)
    · split
      · rfl
      · exact scan_end k l _ _ hl (by simp)
theorem scan_line (k : Nat) (r : (List UInt8)) : ∀ (l : (List UInt8)) (line : List (List UInt8)) (cur : (List UInt8)), (10 : UInt8) ∉ l →
    scan k line cur (l ++ 10 :: r) = if (parts 32 cur l).all wordL then (scan (k + 1) [] [] r).map ((line ++ parts 32 cur l) :: ·) else .error (k + 1)
  | [], line, cur, _ => by
    rw [List.nil_append, scan, if_neg (by simp), parts]
    by_cases h : wordL cur = true
    · rw [if_neg (by simp [h]), if_pos rfl, if_pos (by simp [h])]
    · rw [if_pos (by simpa using h), if_neg (by simpa using h)]
  | c :: l, line, cur, hn => by
    have hc : c ≠ 10 := fun e => hn (by simp [e])
    have hl : (10 : UInt8) ∉ l := fun hm => hn (by simp [hm])
    rw [List.cons_append, scan, parts]
    by_cases h32 : c = 32
    · subst h32
      rw [if_neg (by simp), if_pos rfl]
      by_cases h : wordL cur = true
      · rw [if_neg (by simp [h]), if_neg (by decide), scan_line k r l _ _ hl]
        simp only [List.all_cons, h, Bool.true_and]
        simp
      · rw [if_pos (by simpa using h), if_neg]
        simp only [List.all_cons, Bool.and_eq_true, not_and]
        exact fun h' => absurd h' h
    · rw [if_pos ⟨h32, hc⟩, if_neg h32]
      exact scan_line k r l _ _ hl

/-- The joined text. -/
def lineT (ws : List (List UInt8)) : (List UInt8) := Lib.join ws [32] ++ [10]
def joinT (ls : List (List (List UInt8))) : (List UInt8) := (ls.map lineT).flatten
theorem joinT_nil : joinT [] = [] := rfl
theorem joinT_cons (ws : List (List UInt8)) (ls : List (List (List UInt8))) : joinT (ws :: ls) = lineT ws ++ joinT ls := by simp [joinT]
theorem joinT_snoc (ls : List (List (List UInt8))) (ws : List (List UInt8)) : joinT (ls ++ [ws]) = joinT ls ++ lineT ws := by simp [joinT]

def pre (line : List (List UInt8)) : (List UInt8) := (line.map (· ++ [32])).flatten
theorem join_pre : ∀ (line : List (List UInt8)) (cur : (List UInt8)), Lib.join (line ++ [cur]) [32] = pre line ++ cur
  | [], cur => by simp [pre, join_one]
  | p :: line, cur => by
    have ih := join_pre line cur
    rw [List.cons_append, join_tail]
    obtain ⟨q, qs, hq⟩ : ∃ q qs, line ++ [cur] = q :: qs := by
      cases h : line ++ [cur] with
      | nil => simp at h
      | cons q qs => exact ⟨q, qs, rfl⟩
    rw [hq] at ih ⊢
    rw [join_tail] at ih
    simp only [tailL, List.map_cons, List.flatten_cons] at ih ⊢
    rw [List.cons_append, ih]
    simp [pre]

theorem scan_join : ∀ (r : (List UInt8)) (k : Nat) (line : List (List UInt8)) (cur : (List UInt8)) (ls : List (List (List UInt8))), scan k line cur r = .ok ls → joinT ls = pre line ++ cur ++ r
  | [], k, line, cur, ls, h => by
    rw [scan] at h
    split at h
    · rename_i h0
      obtain ⟨rfl, rfl⟩ := h0
      injection h with h
      subst h
      rfl
    · cases h
  | c :: r, k, line, cur, ls, h => by
    rw [scan] at h
    split at h
    · rw [scan_join r k line _ ls h]
      simp
    · rename_i h0
      split at h
      · cases h
      · split at h
        · rename_i hc
          subst hc
          cases hs : scan (k + 1) [] [] r with
          | error e => rw [hs] at h; cases h
          | ok ls' =>
            rw [hs] at h
            injection h with h
            subst h
            have ih := scan_join r _ _ _ _ hs
            rw [joinT_cons, lineT, join_pre, ih]
            simp [pre]
        · rename_i hc
          have : c = 32 := by
            by_cases h32 : c = 32
            · exact h32
            · exact absurd ⟨h32, hc⟩ h0
          subst this
          rw [scan_join r k _ _ ls h]
          simp [pre]
theorem scan_good : ∀ (r : (List UInt8)) (k : Nat) (line : List (List UInt8)) (cur : (List UInt8)) (ls : List (List (List UInt8))), scan k line cur r = .ok ls → line.all wordL = true → ls.all lineL = true
  | [], k, line, cur, ls, h, _ => by
    rw [scan] at h
    split at h
    · injection h with h
      subst h
      rfl
    · cases h
  | c :: r, k, line, cur, ls, h, hl => by
    rw [scan] at h
    split at h
    · exact scan_good r k line _ ls h hl
    · split at h
      · cases h
      · rename_i hw
        have hw' : wordL cur = true := by simpa using hw
        have hl' : (line ++ [cur]).all wordL = true := by rw [List.all_append, hl]; simp [hw']
        split at h
        · cases hs : scan (k + 1) [] [] r with
          | error e => rw [hs] at h; cases h
          | ok ls' =>
            rw [hs] at h
            injection h with h
            subst h
            have ih := scan_good r _ _ _ _ hs rfl
            rw [List.all_cons, ih, lineL, hl']
            simp
        · exact scan_good r k _ _ ls h hl'
theorem join_no10 : ∀ ws : List (List UInt8), ws.all wordL = true → (10 : UInt8) ∉ Lib.join ws [32]
  | [], _ => by simp [join_nil]
  | p :: ps, h => by
    rw [join_tail]
    simp only [List.all_eq_true] at h
    intro hm
    rcases List.mem_append.1 hm with hm | hm
    · exact word_no10 (h p (by simp)) hm
    · simp only [tailL, List.mem_flatten, List.mem_map] at hm
      obtain ⟨x, ⟨q, hq, rfl⟩, hx⟩ := hm
      rcases List.mem_cons.1 hx with hx | hx
      · cases hx
      · exact word_no10 (h q (by simp [hq])) hx
theorem scan_of_join : ∀ (ls : List (List (List UInt8))) (k : Nat), ls.all lineL = true → scan k [] [] (joinT ls) = .ok ls
  | [], k, _ => rfl
  | ws :: ls, k, h => by
    rw [List.all_cons, Bool.and_eq_true] at h
    obtain ⟨hw, hl⟩ := h
    simp only [lineL, Bool.and_eq_true, decide_eq_true_eq] at hw
    obtain ⟨p, ps, rfl⟩ : ∃ p ps, ws = p :: ps := by
      cases ws with
      | nil => exact absurd rfl hw.1
      | cons p ps => exact ⟨p, ps, rfl⟩
    have hp : parts 32 [] (Lib.join (p :: ps) [32]) = p :: ps := parts_of_join 32 ps p (fun q hq => word_no32 (List.all_eq_true.1 hw.2 q hq))
    rw [joinT_cons, lineT, List.append_assoc, List.singleton_append, scan_line k _ _ _ _ (join_no10 _ hw.2), hp, if_pos hw.2, scan_of_join ls (k + 1) hl]
    rfl

/-! The answers. -/
/-- Lines: the lines, the number of the bad line, the error. -/
def endL (out : List (List (List UInt8))) : Except Nat (List (List (List UInt8))) → List (List (List UInt8)) × Nat × Nat
  | .ok ls => (out ++ ls, 0, 0)
  | .error k => ([], k, 4)
def linesR (s : (List UInt8)) : List (List (List UInt8)) × Nat × Nat := if 32768 < s.length then ([], 0, 2) else endL [] (scan 0 [] [] s)
/-- Join: the text, the error. -/
def joinR (ls : List (List (List UInt8))) : (List UInt8) × Nat :=
  if ls.all lineL = false then ([], 1) else if 32768 < (joinT ls).length then ([], 2) else (joinT ls, 0)

theorem endL_ok {out : List (List (List UInt8))} {x : Except Nat (List (List (List UInt8)))} {ls : List (List (List UInt8))} {n : Nat} (h : endL out x = (ls, n, 0)) : ∃ l, x = .ok l ∧ ls = out ++ l ∧ n = 0 := by
  cases x with
  | ok l => simp only [endL, Prod.mk.injEq] at h; exact ⟨l, rfl, h.1.symm, h.2.1.symm⟩
  | error k => simp [endL] at h
/-- Lines are restored from the joined text. -/
theorem lines_of_join {ls : List (List (List UInt8))} {t : (List UInt8)} (h : joinR ls = (t, 0)) : linesR t = (ls, 0, 0) := by
  unfold joinR at h
  split at h
  · simp at h
  · rename_i hg
    split at h
    · simp at h
    · rename_i hl
      simp only [Prod.mk.injEq, and_true] at h
      subst h
      unfold linesR
      rw [if_neg hl, scan_of_join ls 0 (by simpa using hg)]
      rfl
/-- A text that is accepted is the joined text of its lines. -/
theorem join_of_lines {s : (List UInt8)} {ls : List (List (List UInt8))} {n : Nat} (h : linesR s = (ls, n, 0)) : joinR ls = (s, 0) := by
  unfold linesR at h
  split at h
  · simp at h
  · rename_i hl
    obtain ⟨l, hs, hls, _⟩ := endL_ok h
    rw [List.nil_append] at hls
    subst hls
    have hj := scan_join s 0 [] [] ls hs
    have hg := scan_good s 0 [] [] ls hs rfl
    simp only [pre, List.map_nil, List.flatten_nil, List.nil_append] at hj ⊢
    unfold joinR
    rw [hg, if_neg (by simp), hj, if_neg hl]

end Go.Proofs.YtkoldgammeojkaaDoor.Text
