/- The statements' bound on lists of lines. -/
import Derived.Test.YtnechpciaidkmaaDoorFlistw
namespace Go.Proofs.YtnechpciaidkmaaDoor.Smallw
open Go.RowKit Go.Lib Go.Proofs.YtnechpciaidkmaaDoor.Text Go.Proofs.YtnechpciaidkmaaDoor.Kind Go.Proofs.YtnechpciaidkmaaDoor.Reads Go.Proofs.YtnechpciaidkmaaDoor.Rows2 Go.Proofs.YtnechpciaidkmaaDoor.Samew Go.Proofs.YtnechpciaidkmaaDoor.Linw Go.Proofs.YtnechpciaidkmaaDoor.Joinw Go.Proofs.YtnechpciaidkmaaDoor.Rjoinw Go.Proofs.YtnechpciaidkmaaDoor.Flistw

def lensum (ls : List (List (List UInt8))) : Nat := (ls.map List.length).sum
theorem lensum_take {ls : List (List (List UInt8))} {k : Nat} {l : List (List UInt8)} (h : ls[k]? = some l) : lensum (ls.take (k + 1)) = lensum (ls.take k) + l.length := by
  rw [take_snoc h]
  simp [lensum]
/-- Every word of these lines has at most 100 bytes. -/
def Short (ls : List (List (List UInt8))) : Prop := ∀ l ∈ ls, ∀ p ∈ l, p.length ≤ 100
theorem joinT_le : ∀ ls : List (List (List UInt8)), Short ls → (joinT ls).length ≤ 101 * lensum ls + ls.length
  | [], _ => by simp [joinT]
  | l :: ls, h => by
    have ih := joinT_le ls (fun x hx => h x (by simp [hx]))
    have h1 := join_len 32 100 l (h l (by simp))
    have h2 : (lineT l).length = (Lib.join l [32]).length + 1 := by simp [lineT]
    have h3 : lensum (l :: ls) = l.length + lensum ls := by simp [lensum]
    rw [joinT_cons, List.length_append, List.length_cons, h3, h2]
    omega

/-- What the bound's call gives. -/
def SmallOut (ls : List (List (List UInt8))) (w : World) (e : Ending) (w' : World) : Prop :=
  ∃ b, e = .returned (.bool b) ∧ (b = true → (joinT ls).length ≤ 1000000000000) ∧ w' = w
theorem small_no {ls : List (List (List UInt8))} {w : World} {x : Ending} (hx : x = .returned (.bool false)) : SmallOut ls w x w := by
  refine ⟨false, hx, ?_, rfl⟩
  intro h
  cases h

set_option maxRecDepth 100000 in
set_option maxHeartbeats 1600000 in
theorem small_any {v : Value} {ls : List (List (List UInt8))} {w : World} (h : Lns (fun b => b < w.heap.size) w v ls) (hb : ∀ l ∈ ls, l.length ≤ 140737488355328) :
    Calls Tryd.prog 15 #[v] w (SmallOut ls w) := by
  obtain ⟨a, cap, rfl, hm, _, _, hc⟩ := h.shape
  have HC := Lib.hid hc
  have HB := Lib.hid hb
  clear h hc hb
  go_enter Tryd.func15, Tryd.ntmps15
  go_wp2_with fail
  go_loopw [3, 4] (fun vn vi wr => ∃ (k n : Nat), vn = .int .i64 n ∧ vi = .int .i64 k ∧ k ≤ ls.length ∧ n = ls.length + lensum (ls.take k) ∧ n ≤ 9223372036854775807 ∧ (n ≤ 3000 → Short (ls.take k)) ∧ wr = w) (fun _ vi _ => ls.length - (RowKit.intOf vi).toNat)
  case atStart => exact ⟨0, ls.length, rfl, rfl, Nat.zero_le _, by simp [lensum], by omega, fun _ l hl => by simp at hl, rfl⟩
  case round =>
    obtain ⟨k, n, rfl, rfl, hk, hn, hnm, hs, rfl⟩ := hrel
    have HN := Lib.hid hn
    have HS := Lib.hid hs
    clear hn hs
    by_cases hn3 : n ≤ 3000
    · by_cases hlt : k < ls.length
      · obtain ⟨l, hl⟩ := at_lt hlt
        obtain ⟨b, off, x, rfl, hb, hcell, hx⟩ := HC.out k l hl
        obtain ⟨al, cl, rfl, hlm, _, _, hlc⟩ := hx.shape
        have HLC := Lib.hid hlc
        have HL := Lib.hid hl
        have hll := HB.out l (List.mem_of_getElem? hl)
        have hn3' : decide ((n : Int) ≤ 3000) = true := by simp; omega
        clear hb hx hlc hl
        go_wp2_with fail
        clear hn3'
        obtain ⟨W0, rfl⟩ : ∃ g, g = wr := ⟨_, rfl⟩
        go_loopw [5] (fun vq wr => ∃ q : Nat, vq = .int .i64 q ∧ q ≤ l.length ∧ (∀ p ∈ l.take q, p.length ≤ 100) ∧ wr = W0) (fun vq _ => l.length - (RowKit.intOf vq).toNat)
        case atStart => exact ⟨0, rfl, Nat.zero_le _, fun p hp => by simp at hp, rfl⟩
        case round =>
          obtain ⟨q, rfl, hq, hrq, rfl⟩ := hrel
          have HRQ := Lib.hid hrq
          clear hrq
          by_cases hltq : q < l.length
          · by_cases hn4 : n + l.length ≤ 3000
            · have hn4' : decide ((n : Int) + l.length ≤ 3000) = true := by simp; omega
              obtain ⟨p, hp⟩ := at_lt hltq
              obtain ⟨hps, b2, off2, rfl, hb2, hcell2⟩ := HLC.out q p hp
              have hbs : (bs p).size = p.length := bs_size p
              by_cases h100 : 100 < p.length
              · clear hb2 hp
                go_wp2_with fail
                go_ret
                exact small_no rfl
              · have HN2 := Lib.hid (show ∀ x ∈ l.take (q + 1), x.length ≤ 100 by
                  rw [take_snoc hp]
                  intro x hx
                  rcases List.mem_append.1 hx with hx | hx
                  · exact HRQ.out x hx
                  · rw [List.mem_singleton.1 hx]; omega)
                clear hb2 hp
                go_wp2_with fail
                go_roundw
                case rel => exact ⟨q + 1, by simp, by omega, HN2.out, by simp⟩
                case measure => simp [RowKit.intOf]; omega
            · have hn4' : decide ((n : Int) + l.length ≤ 3000) = false := by simp; omega
              have HNN := Lib.hid (show n + l.length = ls.length + lensum (ls.take (k + 1)) by rw [lensum_take HL.out, HN.out]; omega)
              go_wp2_with fail
              go_roundw
              case rel => exact ⟨k + 1, n + l.length, by simp, by simp, by omega, HNN.out, by omega, fun h => absurd h hn4, by simp⟩
              case measure => simp [RowKit.intOf]; omega
          · have hfull := take_full (ls := l) hltq
            have HNN := Lib.hid (show n + l.length = ls.length + lensum (ls.take (k + 1)) by rw [lensum_take HL.out, HN.out]; omega)
            have HSS := Lib.hid (show Short (ls.take (k + 1)) by
              rw [take_snoc HL.out]
              intro x hx
              rcases List.mem_append.1 hx with hx | hx
              · exact HS.out hn3 x hx
              · rw [List.mem_singleton.1 hx]
                have := HRQ.out
                rw [hfull] at this
                exact this)
            clear hfull
            go_wp2_with fail
            go_roundw
            case rel => exact ⟨k + 1, n + l.length, by simp, by simp, by omega, HNN.out, by omega, fun _ => HSS.out, by simp⟩
            case measure => simp [RowKit.intOf]; omega
      · have hfull := take_full (ls := ls) hlt
        have hT : (joinT ls).length ≤ 1000000000000 := by
          have h1 := HS.out hn3
          have h2 := HN.out
          rw [hfull] at h1 h2
          have := joinT_le ls h1
          omega
        have HT := Lib.hid hT
        have hn3' : decide ((n : Int) ≤ 3000) = true := by simp; omega
        clear hfull hT
        go_wp2_with fail
        go_ret
        exact ⟨true, rfl, fun _ => HT.out, rfl⟩
    · have hn3' : decide ((n : Int) ≤ 3000) = false := by simp; omega
      by_cases hlt : k < ls.length
      · go_wp2_with fail
        go_ret
        exact small_no rfl
      · go_wp2_with fail
        go_ret
        exact small_no rfl

end Go.Proofs.YtnechpciaidkmaaDoor.Smallw
