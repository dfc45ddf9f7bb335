/- Lines of the reference. -/
import Derived.Test.YtnechpciaidkmaaDoorLinw
namespace Go.Proofs.YtnechpciaidkmaaDoor.Rlinw
open Go.RowKit Go.Lib Go.Proofs.YtnechpciaidkmaaDoor.Text Go.Proofs.YtnechpciaidkmaaDoor.Kind Go.Proofs.YtnechpciaidkmaaDoor.Word Go.Proofs.YtnechpciaidkmaaDoor.Rword Go.Proofs.YtnechpciaidkmaaDoor.Reads Go.Proofs.YtnechpciaidkmaaDoor.Rows2 Go.Proofs.YtnechpciaidkmaaDoor.Samew Go.Proofs.YtnechpciaidkmaaDoor.Debw Go.Proofs.YtnechpciaidkmaaDoor.Ownl Go.Proofs.YtnechpciaidkmaaDoor.Linw

/-- The bytes from place f up to place k. -/
def cur (s : ByteArray) (f k : Nat) : (List UInt8) := (s.data.toList.drop f).take (k - f)
theorem cur_ext (s : ByteArray) (f k : Nat) : (s.extract f k).data.toList = cur s f k := Lib.extract_data s f k
theorem cur_bs (s : ByteArray) (f k : Nat) : s.extract f k = bs (cur s f k) := by rw [← cur_ext, bs_of]
theorem cur_self (s : ByteArray) (k : Nat) : cur s k k = [] := by simp [cur]
theorem cur_more {s : ByteArray} {f k : Nat} (hf : f ≤ k) (h : k < s.size) : cur s f (k + 1) = cur s f k ++ [s[k]'h] := by
  have hk : k < s.data.toList.length := by rw [← Lib.size_eq]; exact h
  unfold cur
  rw [show k + 1 - f = (k - f) + 1 by omega, List.take_add_one]
  congr 1
  rw [List.getElem?_drop, show f + (k - f) = k by omega, List.getElem?_eq_getElem hk]
  rfl
theorem cur_len {s : ByteArray} {f k : Nat} (h : k ≤ s.size) : (cur s f k).length = k - f := by
  unfold cur
  rw [List.length_take, List.length_drop, ← Lib.size_eq]
  omega
theorem scan_char {k : Nat} {line : List (List UInt8)} {c0 : (List UInt8)} {c : UInt8} {r : (List UInt8)} (h : c ≠ 32 ∧ c ≠ 10) : scan k line c0 (c :: r) = scan k line (c0 ++ [c]) r := by rw [scan, if_pos h]
theorem scan_bad {k : Nat} {line : List (List UInt8)} {c0 : (List UInt8)} {c : UInt8} {r : (List UInt8)} (h : ¬ (c ≠ 32 ∧ c ≠ 10)) (hw : wordL c0 = false) : scan k line c0 (c :: r) = .error (k + 1) := by rw [scan, if_neg h, if_pos hw]
theorem scan_sp {k : Nat} {line : List (List UInt8)} {c0 : (List UInt8)} {r : (List UInt8)} (hw : wordL c0 = true) : scan k line c0 (32 :: r) = scan k (line ++ [c0]) [] r := by rw [scan, if_neg (by simp), if_neg (by simp [hw]), if_neg (by decide)]
theorem scan_nl {k : Nat} {line : List (List UInt8)} {c0 : (List UInt8)} {r : (List UInt8)} (hw : wordL c0 = true) : scan k line c0 (10 :: r) = (scan (k + 1) [] [] r).map ((line ++ [c0]) :: ·) := by rw [scan, if_neg (by simp), if_neg (by simp [hw]), if_pos rfl]

/-- The words of a line that is being read, of the call's own. -/
def OwnS (B : Nat) (w : World) (v : Value) (ss : List (List UInt8)) : Prop := w.ownsRow B 9 1 v ss.length (strV ss) ∧ ∀ s ∈ ss, s.length ≤ maxLen
/-- What holds at the head of the loop. -/
def RRel (R : List (List (List UInt8)) × Nat × Nat) (s : ByteArray) (w : World) (vout vline vfrom vi : Value) (wr : World) : Prop :=
  ∃ (k f : Nat) (line : List (List UInt8)) (outs : List (List (List UInt8))), vi = .int .i64 k ∧ k ≤ s.size ∧ vfrom = .int .i64 f ∧ f ≤ k ∧ endL outs (scan outs.length line (cur s f k) (s.data.toList.drop k)) = R ∧
    outs.length ≤ k ∧ line.length ≤ k ∧ OwnS w.heap.size wr vline line ∧ OwnL w.heap.size wr vout outs vline.ownBlock ∧ Below w.heap.size w wr

theorem strV_snoc (ss : List (List UInt8)) (s : (List UInt8)) : strV (ss ++ [s]) = strV ss ++ [.string (bs s)] := by simp [strV]
/-- A word more on the line. -/
theorem own_word {B : Nat} {w wr w1 : World} {vline v1 vout : Value} {line : List (List UInt8)} {c : (List UInt8)} {outs : List (List (List UInt8))} {T : TypeId} (hl : OwnS B wr vline line) (hc : c.length ≤ maxLen) (ho : OwnL B wr vout outs vline.ownBlock) (hB : B = w.heap.size) (hb : Below B w wr)
    (h1 : w1.ownsRow B 9 1 v1 (line.length + 1) (strV line ++ [.string (bs c)])) (hg : (wr.alloc (.cells #[.string (bs c)] T)).grownBy w1 vline.ownBlock) (hblk : v1.ownBlock = vline.ownBlock ∨ v1.ownBlock = some (wr.alloc (.cells #[.string (bs c)] T)).heap.size) :
    OwnS B w1 v1 (line ++ [c]) ∧ OwnL B w1 vout outs v1.ownBlock ∧ Below B w w1 := by
  subst hB
  refine ⟨⟨by rw [strV_snoc, List.length_append]; exact h1, fun s hs => ?_⟩, ?_, ?_⟩
  · rcases List.mem_append.1 hs with hs | hs
    · exact hl.2 s hs
    · rw [List.mem_singleton.1 hs]; exact hc
  · have h2 := ho.next ((Below.refl _ wr).alloc (Nat.le_refl _) (.cells #[.string (bs c)] T))
    refine h2.other hg ?_
    rcases hblk with e | e
    · exact .inl e
    · exact .inr (.inr ⟨_, e, Nat.le_refl _⟩)
  · exact grown_end hb (fun g hg => (hl.1.lt g hg).1) hg
/-- The line's words, to be laid among the lines. -/
theorem strs_line {B : Nat} {w : World} {vline vout : Value} {line : List (List UInt8)} {outs : List (List (List UInt8))} (hl : OwnS B w vline line) (ho : OwnL B w vout outs vline.ownBlock) : Strs (fun b => b < w.heap.size ∧ some b ≠ vout.ownBlock) w vline line := by
  obtain ⟨xs, h1, h2, _⟩ := ho
  have hl1 := hl.1
  rw [← strV_len line] at hl1
  refine ⟨row_own hl1 fun g hg hlt => ⟨hlt, ?_⟩, hl.2⟩
  rcases h2 with h2 | h2
  · rw [h2]; simp
  · rw [hg] at h2
    exact fun e => h2 e.symm

set_option maxRecDepth 100000 in
set_option maxHeartbeats 3200000 in
theorem rlines_any (s : ByteArray) (w : World) (hs : s.size ≤ 9223372036854775807) :
    Calls Tryd.prog 13 #[.string s] w (LinesOut (linesR s.data.toList) w) := by
  have hsz : s.size = s.data.toList.length := Lib.size_eq s
  by_cases hlong : 32768 < s.size
  · have HR := Lib.hid (lines_long (l := s.data.toList) (by omega))
    clear hsz
    go_enter Tryd.func13, Tryd.ntmps13
    go_wp2_with fail
    go_ret3
    exact lines_bad HR.out rfl (Below.refl _ _)
  · have hR := lines_short (l := s.data.toList) (by omega)
    obtain ⟨R, hRR⟩ : ∃ R, linesR s.data.toList = R := ⟨_, rfl⟩
    rw [hRR] at hR ⊢
    have HR := Lib.hid hR.symm
    obtain ⟨i0, hi, hz0, hz1, hz2⟩ := info_parts infoL
    have HI := Lib.hid hi
    have HZ0 := Lib.hid hz0
    have HZ1 := Lib.hid hz1
    have HZ2 := Lib.hid hz2
    obtain ⟨j0, hi, hz0, hz1, hz2⟩ := info_parts infoS
    have HJ := Lib.hid hi
    have HY0 := Lib.hid hz0
    have HY1 := Lib.hid hz1
    have HY2 := Lib.hid hz2
    clear hi hz0 hz1 hz2 hR hRR hsz
    go_enter Tryd.func13, Tryd.ntmps13
    go_wp2_with fail
    go_loopw [5, 6, 7, 8] (fun vo vl vf vi wr => RRel R s w vo vl vf vi wr) (fun _ _ _ vi _ => s.size - (RowKit.intOf vi).toNat)
    case atStart => exact ⟨0, 0, [], [], rfl, Nat.zero_le _, rfl, Nat.le_refl _, by rw [cur_self]; exact HR.out, Nat.le_refl _, Nat.le_refl _, ⟨World.ownsRow_nil _ _ _ _, by simp⟩, ownL_nil _ _ _, Below.refl _ _⟩
    case round =>
      obtain ⟨k, f, line, outs, rfl, hk, rfl, hf, hr, hok, hlk, hl, ho, hb⟩ := hrel
      obtain ⟨ao, co, rfl⟩ := ownL_shape ho
      obtain ⟨al, cl, rfl⟩ := own_shape hl.1
      have HRR := Lib.hid hr
      have HO := Lib.hid ho
      have HL := Lib.hid hl
      have HB := Lib.hid hb
      clear hr ho hl hb
      by_cases hlt : k < s.size
      · rw [drop_at s k hlt] at HRR
        obtain ⟨c, hc⟩ : ∃ c, s[k]'hlt = c := ⟨_, rfl⟩
        rw [hc] at HRR
        have HCM := Lib.hid (cur_more hf hlt)
        rw [hc] at HCM
        have hW := rword_any (bs (cur s f k)) 
        rw [← cur_bs, cur_ext] at hW
        have HW := Lib.hid (fun w => hW w (by rw [Lib.size_eq, cur_ext, cur_len hk]; omega))
        clear hW
        have HCL := Lib.hid (show (cur s f k).length ≤ maxLen by rw [cur_len hk]; unfold maxLen; omega)
        have HCB := Lib.hid (cur_bs s f k)
        by_cases hch : c ≠ 32 ∧ c ≠ 10
        · have q1 : ((c.toNat : Int) != 32) = true := by
            have : c.toNat ≠ 32 := fun h => hch.1 (UInt8.toNat_inj.1 h)
            simp; omega
          have q2 : ((c.toNat : Int) != 10) = true := by
            have : c.toNat ≠ 10 := fun h => hch.2 (UInt8.toNat_inj.1 h)
            simp; omega
          have HE := Lib.hid (show endL outs (scan outs.length line (cur s f (k + 1)) (s.data.toList.drop (k + 1))) = R by rw [HCM.out, ← scan_char hch]; exact HRR.out)
          clear hch
          go_wp2_with fail
          go_roundw
          case rel => exact ⟨k + 1, f, line, outs, by simp, by omega, rfl, by omega, HE.out, by omega, by omega, HL.out, HO.out, HB.out⟩
          case measure => simp [RowKit.intOf]; omega
        · rcases Bool.eq_false_or_eq_true (wordL (cur s f k)) with hA | hA
          · rw [hA] at HW
            have HA := Lib.hid hA
            have hc2 : c = 32 ∨ c = 10 := by
              by_cases h : c = 32
              · exact .inl h
              · by_cases h2 : c = 10
                · exact .inr h2
                · exact absurd ⟨h, h2⟩ hch
            rcases hc2 with h32 | h10
            · subst h32
              have hcn : (s[k]'hlt).toNat = 32 := by rw [hc]; rfl
              have HE := Lib.hid (show endL outs (scan outs.length (line ++ [cur s f k]) (cur s (k + 1) (k + 1)) (s.data.toList.drop (k + 1))) = R by rw [cur_self, ← scan_sp HA.out]; exact HRR.out)
              clear hch hA hc
              go_wp2_with fail
              refine (HW.out _).mono ?_
              rintro e wr ⟨rfl, rfl⟩
              go_wp2_with (at_builtin; refine wpList_append_own_at _ rfl (.tmp 37) (.tmp 42) 33 rfl w.heap.size 9 j0 (.string ByteArray.empty) 1 16 Tryd.underlying33 HJ.out HY0.out HY1.out HY2.out rfl (by decide) _ _ _ rfl (HL.out.1.alloc _) ⟨wr.heap.size, 0, none⟩ 1 1 [.string (s.extract f k)] rfl rfl (cell_one_new _ _ _) (by intro u hu; simp at hu; subst hu; rfl) (by unfold maxLen; omega) (by omega) (by have := HB.out.size; simp; omega) ?_; intro v1 w4 h1own hg1 _ hblk; obtain ⟨a1, c1, rfl⟩ := own_shape h1own; have R1 := Lib.hid h1own; have R2 := Lib.hid hg1; have R3 := Lib.hid hblk; clear h1own hg1 hblk)
              have HN := Lib.hid (own_word HL.out HCL.out HO.out rfl HB.out (by rw [← HCB.out]; exact R1.out) (T := 9) (by rw [← HCB.out]; exact R2.out) (by rw [← HCB.out]; exact R3.out))
              go_roundw
              case rel => exact ⟨k + 1, k + 1, line ++ [cur s f k], outs, by simp, by omega, by simp, Nat.le_refl _, HE.out, by omega, by simp; omega, HN.out.1, HN.out.2.1, HN.out.2.2⟩
              case measure => simp [RowKit.intOf]; omega
            · subst h10
              have hcn : (s[k]'hlt).toNat = 10 := by rw [hc]; rfl
              have HE := Lib.hid (show endL (outs ++ [line ++ [cur s f k]]) (scan (outs ++ [line ++ [cur s f k]]).length [] (cur s (k + 1) (k + 1)) (s.data.toList.drop (k + 1))) = R by
                rw [cur_self, ← HRR.out, scan_nl HA.out, end_map, List.length_append]; rfl)
              clear hch hA hc
              go_wp2_with fail
              refine (HW.out _).mono ?_
              rintro e wr ⟨rfl, rfl⟩
              go_wp2_with (at_builtin; first | (refine wpList_append_own_at _ rfl (.tmp 37) (.tmp 42) 33 rfl w.heap.size 9 j0 (.string ByteArray.empty) 1 16 Tryd.underlying33 HJ.out HY0.out HY1.out HY2.out rfl (by decide) _ _ _ rfl (HL.out.1.alloc _) ⟨wr.heap.size, 0, none⟩ 1 1 [.string (s.extract f k)] rfl rfl (cell_one_new _ _ _) (by intro u hu; simp at hu; subst hu; rfl) (by unfold maxLen; omega) (by omega) (by have := HB.out.size; simp; omega) ?_; intro v1 w4 h1own hg1 _ hblk; obtain ⟨a1, c1, rfl⟩ := own_shape h1own; have R1 := Lib.hid h1own; have R2 := Lib.hid hg1; have R3 := Lib.hid hblk; clear h1own hg1 hblk; have HN := Lib.hid (own_word HL.out HCL.out HO.out rfl HB.out (by rw [← HCB.out]; exact R1.out) (T := 9) (by rw [← HCB.out]; exact R2.out) (by rw [← HCB.out]; exact R3.out)); obtain ⟨xs, hxs1, hxs2, hxs3⟩ := HN.out.2.1; have HX1 := Lib.hid hxs1; have HX3 := Lib.hid hxs3; have hw4 : w.heap.size ≤ w4.heap.size := HN.out.2.2.size; clear hxs1 hxs2 hxs3) | (refine wpList_append_own_at _ rfl (.tmp 50) (.tmp 52) 23 rfl w.heap.size 33 i0 (.slice none 0 0) 1 24 Tryd.underlying23 HI.out HZ0.out HZ1.out HZ2.out rfl (by decide) _ _ _ rfl (HX1.out.alloc _) ⟨w4.heap.size, 0, none⟩ 1 1 [.slice a1 (line.length + 1) c1] rfl rfl (cell_one_new _ _ _) (by intro u hu; simp at hu; subst hu; rfl) (by unfold maxLen; omega) (by omega) (by simp; omega) ?_; intro v5 w5 h5own hg5 _ hblk5; have R5 := Lib.hid h5own; have R6 := Lib.hid hg5; have R7 := Lib.hid hblk5; clear h5own hg5 hblk5))
              go_roundw
              case rel => exact ⟨k + 1, k + 1, [], outs ++ [line ++ [cur s f k]], by simp, by omega, by simp, Nat.le_refl _, HE.out, by simp; omega, Nat.zero_le _, ⟨World.ownsRow_nil _ _ _ _, by simp⟩, ownL_push (strs_line HN.out.1 HN.out.2.1) R5.out HX3.out R6.out R7.out, grown_end HN.out.2.2 (fun g hg => (own_lt HN.out.2.1 g hg).1) R6.out⟩
              case measure => simp [RowKit.intOf]; omega
          · rw [hA] at HW
            have HE := Lib.hid (show R = ([], outs.length + 1, 4) by rw [← HRR.out, scan_bad hch hA]; rfl)
            clear hA
            by_cases h32 : c = 32
            · have hcn : (s[k]'hlt).toNat = 32 := by rw [hc, h32]; rfl
              clear hch hc h32
              go_wp2_with fail
              refine (HW.out _).mono ?_
              rintro e wr ⟨rfl, rfl⟩
              go_wp2_with fail
              go_ret3
              exact lines_bad HE.out (by simp) HB.out
            · have h10 : c = 10 := by
                by_cases h2 : c = 10
                · exact h2
                · exact absurd ⟨h32, h2⟩ hch
              have hcn : (s[k]'hlt).toNat = 10 := by rw [hc, h10]; rfl
              clear hch hc h32 h10
              go_wp2_with fail
              refine (HW.out _).mono ?_
              rintro e wr ⟨rfl, rfl⟩
              go_wp2_with fail
              go_ret3
              exact lines_bad HE.out (by simp) HB.out
      · obtain rfl : k = s.size := by omega
        rw [drop_end hlt] at HRR
        by_cases hfl : f < s.size
        · have HE := Lib.hid (show R = ([], outs.length + 1, 4) by
            rw [← HRR.out, scan, if_neg]; rfl
            rintro ⟨h, _⟩
            have := congrArg List.length h
            rw [cur_len (Nat.le_refl _)] at this
            simp at this
            omega)
          go_wp2_with fail
          go_ret3
          exact lines_bad HE.out (by simp) HB.out
        · have hcur : cur s f s.size = [] := by
            obtain rfl : f = s.size := by omega
            exact cur_self _ _
          rw [hcur] at HRR
          by_cases hln : line = []
          · subst hln
            have HE := Lib.hid (show R = (outs, 0, 0) by rw [← HRR.out, scan_nil, end_done])
            go_wp2_with fail
            go_ret3
            exact lines_ok HE.out rfl HO.out.lns HB.out
          · have HE := Lib.hid (show R = ([], outs.length + 1, 4) by
              rw [← HRR.out, scan, if_neg]; rfl
              exact fun h => hln h.2)
            have hl0 : 0 < line.length := List.length_pos_iff.2 hln
            have hl1 : decide ((0 : Int) < line.length) = true := decide_eq_true (by omega)
            clear hln
            go_wp2_with fail
            go_ret3
            exact lines_bad HE.out (by simp) HB.out

end Go.Proofs.YtnechpciaidkmaaDoor.Rlinw
