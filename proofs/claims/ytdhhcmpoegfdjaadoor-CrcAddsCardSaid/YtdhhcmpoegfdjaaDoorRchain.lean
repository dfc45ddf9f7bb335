/- The call of the reference's Chain. -/
import Derived.Test.YtdhhcmpoegfdjaaDoorFnv
import Derived.Laws.Rows
namespace Go.Proofs.YtdhhcmpoegfdjaaDoor.Rchain
open Go.RowKit Go.Lib Go.Proofs.YtdhhcmpoegfdjaaDoor.Crc Go.Proofs.YtdhhcmpoegfdjaaDoor.Sum Go.Proofs.YtdhhcmpoegfdjaaDoor.Ownb Go.Proofs.YtdhhcmpoegfdjaaDoor.Fnv

def rests (h n : Nat) : Nat → List UInt8
  | 0 => leN 8 h ++ leN 8 n
  | 1 => leN 8 n
  | _ => []
def two (h n : Nat) : Obj := .cells #[.int .u64 (h : Int), .int .u64 (n : Int)] 33
/-- What holds at the head of the loop over the two numbers. -/
def ORel (h n : Nat) (w : World) (v i : Value) (wr : World) : Prop :=
  ∃ (k : Nat) (l : List UInt8), i = .int .i64 k ∧ k ≤ 2 ∧ OwnB (w.heap.size + 1) wr v l ∧ Below (w.heap.size + 1) (w.alloc (two h n)) wr ∧ l ++ rests h n k = rests h n 0
/-- What holds at the head of the loop over a number's bytes. -/
def IRel (h n k : Nat) (w : World) (v y j : Value) (wr : World) : Prop :=
  ∃ (q b : Nat) (l : List UInt8), j = .int .i64 q ∧ q ≤ 8 ∧ y = .int .u64 (b : Int) ∧ b < 18446744073709551616 ∧ OwnB (w.heap.size + 1) wr v l ∧ Below (w.heap.size + 1) (w.alloc (two h n)) wr ∧ l ++ (leN (8 - q) b ++ rests h n (k + 1)) = rests h n 0

theorem rests_len (h n : Nat) : (rests h n 0).length = 16 := by simp [rests, leN_length]
theorem irel_len {h n k q b : Nat} {l : List UInt8} (e : l ++ (leN (8 - q) b ++ rests h n (k + 1)) = rests h n 0) : l.length ≤ 16 := by
  have := congrArg List.length e
  rw [rests_len, List.length_append] at this
  omega
theorem part_at {h n k : Nat} (hh : h < 18446744073709551616) (hn : n < 18446744073709551616) (hk : k < 2) (w : World) :
    ∃ m : Nat, m < 18446744073709551616 ∧ (w.alloc (two h n)).cell? ⟨w.heap.size, k, none⟩ = some (.int .u64 (m : Int)) ∧ rests h n k = leN 8 m ++ rests h n (k + 1) := by
  have hb := heap_alloc_new w (two h n)
  unfold two at hb ⊢
  obtain rfl | rfl : k = 0 ∨ k = 1 := by omega
  · exact ⟨h, hh, by rw [cell_of_row _ _ _ _ _ _ hb]; rfl, rfl⟩
  · exact ⟨n, hn, by rw [cell_of_row _ _ _ _ _ _ hb]; rfl, by simp [rests]⟩
theorem irel_more {h n k q b : Nat} {l : List UInt8} {w wr w1 : World} {vs v1 : Value} {X : Int} (hq : q < 8) (hb : b < 18446744073709551616) (ho : OwnB (w.heap.size + 1) wr vs l) (hbel : Below (w.heap.size + 1) (w.alloc (two h n)) wr)
    (he : l ++ (leN (8 - q) b ++ rests h n (k + 1)) = rests h n 0) (h1 : w1.ownsRow (w.heap.size + 1) 5 1 v1 (l.length + 1) (byteCells l ++ [.int .u8 X])) (hX : X = ((b % 256 : Nat) : Int)) (hg : (wr.alloc (.cells #[.int .u8 X] 5)).grownBy w1 vs.ownBlock) :
    IRel h n k w v1 (.int .u64 ((b / 256 : Nat) : Int)) (.int .i64 ((q + 1 : Nat) : Int)) w1 := by
  refine ⟨q + 1, b / 256, l ++ [(b % 256).toUInt8], rfl, by omega, rfl, by omega, own_snoc h1 hX (by omega), ?_, ?_⟩
  · have hz := hbel.size
    exact (hbel.alloc (by simpa using hz) _).grown hg (by simp at hz ⊢; omega) (own_ltB ho)
  · rw [← he, show 8 - q = 8 - (q + 1) + 1 by omega, leN]
    simp

theorem end_below {h n : Nat} {w wr w2 : World} {v : Value} {l : List UInt8} (hb : Below (w.heap.size + 1) (w.alloc (two h n)) wr) (ho : OwnB (w.heap.size + 1) wr v l) (hg : wr.grownBy w2 v.ownBlock) : Below w.heap.size w w2 :=
  ((Below.refl _ _).alloc (Nat.le_refl _) _).trans (((hb.grown hg (by have := hb.size; simpa using this) (own_ltB ho))).mono (Nat.le_succ _))

set_option maxHeartbeats 1600000 in
set_option maxRecDepth 100000 in
theorem rchain_any (h : Nat) (s : ByteArray) (w : World) (hh : h < 18446744073709551616) (hs : s.size ≤ 1000000) :
    Calls Tryd.prog 16 #[.int .u64 (h : Int), .string s] w fun e w' => e = .returned (.int .u64 (chainS h s : Int)) ∧ Below w.heap.size w w' := by
  obtain ⟨i0, hi, hz0, hz1, hz2⟩ := info_parts infoB
  have HI := Lib.hid hi
  have HZ0 := Lib.hid hz0
  have HZ1 := Lib.hid hz1
  have HZ2 := Lib.hid hz2
  have HH := Lib.hid hh
  have HS := Lib.hid hs
  clear hi hz0 hz1 hz2 hh
  go_enter Tryd.func16, Tryd.ntmps16
  go_wp2_with fail
  go_loopw [5, 18] (fun v i wr => ORel h s.size w v i wr) (fun _ i _ => 2 - (intOf i).toNat)
  case atStart => exact ⟨0, [], rfl, Nat.zero_le _, own_nil _ _, Below.refl _ _, rfl⟩
  case round =>
    obtain ⟨k, l, rfl, hk, ho, hbel, he⟩ := hrel
    have HO := Lib.hid ho
    have HB := Lib.hid hbel
    have HE := Lib.hid he
    clear ho hbel he
    by_cases hlt : k < 2
    · obtain ⟨m, hm, hcell, hrest⟩ := part_at HH.out (show s.size < 18446744073709551616 by omega) hlt w
      have hc : wr.cell? ⟨w.heap.size, k, none⟩ = some (.int .u64 (m : Int)) := (HB.out.cell (p := ⟨w.heap.size, k, none⟩) (by simp)).trans hcell
      have HM := Lib.hid hm
      rw [hrest] at HE
      have hlt' : decide ((k : Int) < 2) = true := by simp; omega
      clear hm hcell hrest
      go_wp2_with fail
      clear hc
      obtain ⟨wo, rfl⟩ : ∃ wo : World, wo = wr := ⟨_, rfl⟩
      go_loopw [5, 7, 8] (fun v y j wi => IRel h s.size k w v y j wi) (fun _ _ j _ => 8 - (intOf j).toNat)
      case atStart => exact ⟨0, m, l, rfl, Nat.zero_le _, rfl, HM.out, HO.out, HB.out, HE.out⟩
      case round =>
        obtain ⟨q, b, l2, rfl, hq, rfl, hb, ho, hbel, he⟩ := hrel
        have HO2 := Lib.hid ho
        have HB2 := Lib.hid hbel
        have HE2 := Lib.hid he
        have HBB := Lib.hid hb
        have hb' : (b : Int) ≤ 18446744073709551615 := by omega
        have hll := irel_len he
        clear ho hbel he hb
        by_cases hq8 : q < 8
        · go_wp2_with (at_builtin; refine wpList_append_own_at _ rfl (.tmp 26) (.tmp 29) 30 rfl (w.heap.size + 1) 5 i0 (.int .u8 0) 1 1 Tryd.underlying30 HI.out HZ0.out HZ1.out HZ2.out rfl (by decide) _ _ _ rfl (HO2.out.alloc _) ⟨wr.heap.size, 0, none⟩ 1 1 [_] rfl rfl (cell_one_new _ _ _) (by intro u hu; simp at hu; subst hu; rfl) (by unfold maxLen; omega) (by omega) (by have := HB2.out.size; simp at this ⊢; omega) ?_; intro v1 w1 h1own hg1 _ _; have R1 := Lib.hid h1own; have R2 := Lib.hid hg1; clear h1own hg1)
          go_roundw
          case rel => exact irel_more hq8 HBB.out HO2.out HB2.out HE2.out R1.out (by omega) R2.out
          case measure => simp [intOf]; omega
        · obtain rfl : q = 8 := by omega
          go_wp2_with fail
          go_roundw
          case rel => exact ⟨k + 1, l2, by go_num, by omega, HO2.out, HB2.out, by have := HE2.out; simpa [leN] using this⟩
          case measure => simp [intOf]; omega
    · obtain rfl : k = 2 := by omega
      have hL : l = rests h s.size 0 := by
        have := HE.out
        simpa [rests] using this
      subst hL
      have hl16 := rests_len h s.size
      go_wp2_with (at_builtin; refine Lib.wpList_append_own_string _ rfl _ _ 30 9 rfl (w.heap.size + 1) 5 i0 Tryd.underlying30 Tryd.underlying9 HI.out HZ0.out HZ1.out HZ2.out _ _ _ rfl HO.out s rfl (by have := HS.out; unfold maxLen; omega) (by have := HS.out; omega) (by have := HB.out.size; simpa using this) ?_; intro v' w2 hown' hgrow _; have HO2 := Lib.hid (own_string hown'); have HG2 := Lib.hid hgrow; clear hown' hgrow; obtain ⟨L, hL⟩ : ∃ L, rests h s.size 0 ++ s.data.toList = L := ⟨_, rfl⟩; rw [hL] at HO2; have HLL := Lib.hid hL; have HLN := Lib.hid (show L.length ≤ 2000000 by have := HS.out; rw [← hL, List.length_append, hl16, size_list]; omega); have HNE := Lib.hid (show L ≠ [] from (by intro e; rw [e] at hL; have := congrArg List.length hL; rw [List.length_append, hl16] at this; simp at this)); clear hL hl16; obtain ⟨g, cap, rfl, hc⟩ := own_back HO2.out HNE.out; have HC := Lib.hid hc; clear hc)
      have HBW := Lib.hid (end_below HB.out HO.out HG2.out)
      have hln := HLN.out
      go_loop [9, 39] (fun x i => ∃ (k a : Nat), i = .int .i64 k ∧ k ≤ L.length ∧ x = .int .u64 (a : Int) ∧ a < 18446744073709551616 ∧ fnvs a (L.drop k) = fnvs 14695981039346656037 L) (fun _ i => L.length - (intOf i).toNat)
      case atStart => exact ⟨0, 14695981039346656037, rfl, Nat.zero_le _, rfl, by decide, rfl⟩
      case round =>
        obtain ⟨k, a, rfl, hk, rfl, ha, hr⟩ := hrel
        have HA := Lib.hid ha
        have HR := Lib.hid hr
        clear ha hr
        by_cases hlt : k < L.length
        · have hc : w2.cell? ⟨g, k, none⟩ = some (.int .u8 (L[k].toNat : Int)) := by
            rw [← HC.out k hlt]
            congr 1
            simp [Addr.add]
          rw [List.drop_eq_getElem_cons hlt, fnvs] at HR
          obtain ⟨c, hcc⟩ : ∃ c, L[k] = c := ⟨_, rfl⟩
          rw [hcc] at hc HR
          have hF := fnv_step HA.out c
          have HLT := Lib.hid (fnv_lt a c)
          clear hcc
          go_wp2_with fail
          go_round
          case rel => exact ⟨k + 1, fnv a c, by go_num, by omega, rfl, HLT.out, HR.out⟩
          case measure => simp [intOf]; omega
        · obtain rfl : k = L.length := by omega
          go_wp2_with fail
          go_ret
          have e : a = chainS h s := by
            have h1 := HR.out
            rw [List.drop_of_length_le (Nat.le_refl _)] at h1
            rw [chainS, chain, size_list, ← List.append_assoc]
            show a = fnvs _ (rests h s.size 0 ++ s.data.toList)
            rw [HLL.out]
            exact h1
          exact ⟨by rw [e]; rfl, HBW.out⟩

end Go.Proofs.YtdhhcmpoegfdjaaDoor.Rchain
