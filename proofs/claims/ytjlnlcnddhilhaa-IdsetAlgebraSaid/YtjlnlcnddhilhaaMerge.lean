/- The call of idset's merge. -/
import Derived.Test.YtjlnlcnddhilhaaIdset
import Derived.Deep.DeepFit
namespace Go.Proofs.Ytjlnlcnddhilhaa.Idset
open Go.RowKit Go.Sort Go.Proofs.Ytjlnlcnddhilhaa.Sets Go.Proofs.Ytjlnlcnddhilhaa.Reads

def lenOf : Value → Nat | .slice _ n _ => n | _ => 0

/-- What holds at the head of merge's loop: what is left of the two sets, and what was kept. -/
def MRel (kp : Bool → Bool → Bool) (A B : List Int) (w : World) (va vb vk : Value) (wr : World) : Prop :=
  ∃ aa bb xs, Reads w.heap.size wr va aa ∧ Reads w.heap.size wr vb bb ∧ wr.ownsRow w.heap.size 3 1 vk xs.length (xs.map (Value.int .i64)) ∧ (∀ n ∈ xs, (Lit.int .i64 n).wf = true) ∧
    mrg kp A B = xs ++ mrg kp aa bb ∧ aa.length + bb.length + xs.length ≤ A.length + B.length ∧ Below w.heap.size w wr

theorem own_drewN {w : World} {B T n k : Nat} {v : Value} {xs : List Value} (h : w.ownsRow B T 1 v k xs) : (w.drewN n).ownsRow B T 1 v k xs := h
theorem own_lt {w : World} {B T k : Nat} {v : Value} {xs : List Value} (h : w.ownsRow B T 1 v k xs) : ∀ g, v.ownBlock = some g → B ≤ g := fun g hg => (h.lt g hg).1

theorem rel_drop {kp : Bool → Bool → Bool} {A B aa bb aa' bb' xs : List Int} {w wr : World} {va vb vk : Value} {x : Int} {q : Bool} (n : Nat) (hq : q = false) (HE : mrg kp A B = xs ++ mrg kp aa bb) (ST : mrg kp aa bb = keepIf q x (mrg kp aa' bb'))
    (HL : aa.length + bb.length + xs.length ≤ A.length + B.length) (hl : aa'.length + bb'.length < aa.length + bb.length) (RA : Reads w.heap.size wr va aa') (RB : Reads w.heap.size wr vb bb')
    (HV : wr.ownsRow w.heap.size 3 1 vk xs.length (xs.map (Value.int .i64))) (HW : ∀ n ∈ xs, (Lit.int .i64 n).wf = true) (HBEL : Below w.heap.size w wr) : MRel kp A B w va vb vk (wr.drewN n) := by
  subst hq
  have hb := below_drewN (Below.refl w.heap.size wr) n
  exact ⟨aa', bb', xs, RA.below (Nat.le_refl _) hb, RB.below (Nat.le_refl _) hb, own_drewN HV, HW, by rw [HE, ST]; rfl, by omega, below_drewN HBEL n⟩

theorem rel_keep {kp : Bool → Bool → Bool} {A B aa bb aa' bb' xs : List Int} {w wr w1 : World} {va vb vk v1 : Value} {x : Int} {q : Bool} {n : Nat} (hq : q = true) (HE : mrg kp A B = xs ++ mrg kp aa bb) (ST : mrg kp aa bb = keepIf q x (mrg kp aa' bb'))
    (HL : aa.length + bb.length + xs.length ≤ A.length + B.length) (hl : aa'.length + bb'.length < aa.length + bb.length) (RA : Reads w.heap.size wr va aa') (RB : Reads w.heap.size wr vb bb')
    (HV : wr.ownsRow w.heap.size 3 1 vk xs.length (xs.map (Value.int .i64))) (HW : ∀ n ∈ xs, (Lit.int .i64 n).wf = true) (hx : (Lit.int .i64 x).wf = true) (HBEL : Below w.heap.size w wr)
    (h1 : w1.ownsRow w.heap.size 3 1 v1 (xs.length + 1) (xs.map (Value.int .i64) ++ [.int .i64 x])) (hg : ((wr.drewN n).alloc (.cells #[.int .i64 x] 3)).grownBy w1 vk.ownBlock) : MRel kp A B w va vb v1 w1 := by
  subst hq
  have hs : w.heap.size ≤ wr.heap.size := HBEL.size
  have hb : Below w.heap.size wr w1 := ((below_drewN (Below.refl w.heap.size wr) n).alloc hs _).grown hg (by simp; show w.heap.size ≤ wr.heap.size + 1; omega) (own_lt HV)
  refine ⟨aa', bb', xs ++ [x], RA.below (Nat.le_refl _) hb, RB.below (Nat.le_refl _) hb, by simpa using h1, ?_, by rw [HE, ST]; simp [keepIf], by simp; omega, HBEL.trans hb⟩
  intro m hm
  rcases List.mem_append.1 hm with hm | hm
  · exact HW m hm
  · rw [List.mem_singleton.1 hm]; exact hx

theorem info : (Try.prog.info? 3).map (fun i => (i.zero, i.size, i.bytes)) = some (some (.int .i64 0), 1, 8) := by kernel_rfl

set_option maxHeartbeats 8000000 in
theorem merge_any (K : Nat) (kp : Bool → Bool → Bool) (hrun : ∀ (x y : Bool) (w : World), Sem.run Try.prog (callFunc K #[.bool x, .bool y]) w = .ok (.enter K #[.bool x, .bool y]) w)
    (hk : ∀ x y w, Calls Try.prog K #[.bool x, .bool y] w fun e w' => e = .returned (.bool (kp x y)) ∧ w = w')
    {va vb : Value} {A B : List Int} {w : World} (hA : Reads w.heap.size w va A) (hB : Reads w.heap.size w vb B) (lA : A.length ≤ 1099511627776) (lB : B.length ≤ 1099511627776) :
    Calls Try.prog 27 #[va, vb, .func (.func K) #[] #[]] w (SetOut (mrg kp A B) w) := by
  have HA := Lib.hid hA
  have HB := Lib.hid hB
  have HK := Lib.hid hk
  have LA := Lib.hid lA
  have LB := Lib.hid lB
  clear hA hB hk lA lB
  obtain ⟨i0, hi, hz0, hz1, hz2⟩ := info_parts info
  have HI := Lib.hid hi
  have HZ0 := Lib.hid hz0
  have HZ1 := Lib.hid hz1
  have HZ2 := Lib.hid hz2
  clear hi hz0 hz1 hz2
  go_enter Try.func27, Try.ntmps27
  go_wp2_with fail
  go_loopw [0, 1, 7] (fun va vb vk wr => MRel kp A B w va vb vk wr) (fun va vb _ _ => lenOf va + lenOf vb)
  case atStart => exact ⟨A, B, [], HA.out, HB.out, World.ownsRow_nil _ _ _ _, by simp, rfl, by simp, Below.refl _ _⟩
  case round =>
    obtain ⟨aa, bb, xs, ha, hb, hv, hw, he, hl, hbel⟩ := hrel
    have HA' := Lib.hid ha
    have HB' := Lib.hid hb
    have HV := Lib.hid hv
    have HW := Lib.hid hw
    have HE := Lib.hid he
    have HL := Lib.hid hl
    have HBEL := Lib.hid hbel
    clear ha hb hv hw he hl hbel
    have hlx : xs.length ≤ 2199023255552 := by have := HL.out; have := LA.out; have := LB.out; omega
    have HS := Lib.hid HBEL.out.size
    rcases aa with _ | ⟨a, aa⟩
    · obtain ⟨pa, ca, rfl, h1⟩ := HA'.out.empty
      rcases bb with _ | ⟨c, bb⟩
      · obtain ⟨pb, cb, rfl, h7⟩ := HB'.out.empty
        have R := Lib.hid (show Reads wr.heap.size wr u7 xs from reads_own HV.out HW.out (Nat.le_refl _))
        go_wp2_with fail
        go_ret
        exact ⟨_, rfl, by rw [HE.out]; simpa [mrg] using R.out, HBEL.out⟩
      · obtain ⟨b2, off2, cap2, rfl, k1, k2, k3, k4, k5, k6⟩ := HB'.out.cons
        have K5 := Lib.hid k5
        have K6 := Lib.hid k6
        clear k5 k6
        have ST : Hid (mrg kp [] (c :: bb) = keepIf (kp false true) c (mrg kp [] bb)) := by unfold Hid; rw [mrg]
        obtain ⟨q, hq⟩ : ∃ q, kp false true = q := ⟨_, rfl⟩
        rw [hq] at ST
        have HQ := Lib.hid hq
        clear hq
        by_cases hc2 : cap2 = 1
        · subst hc2
          obtain rfl : bb = [] := List.length_eq_zero_iff.1 (by omega)
          go_wp2_with fail
          go_quiet (fail)
          go_wp2_with fail
          go_quiet (fail)
          go_wp2_with fail
          go_quiet (fail)
          go_wp2_with fail
          refine (HK.out false true _).mono ?_
          rintro e w' ⟨rfl, rfl⟩
          rw [HQ.out]
          rcases q with _ | _
          · go_wp2_with fail
            go_roundw
            case rel => exact rel_drop _ rfl HE.out ST.out HL.out (by simp; try omega) HA'.out (K6.out.1 _ (by simp)) HV.out HW.out HBEL.out
            case measure => simp [lenOf]; try omega
          · go_wp2_with ((at_builtin; refine wpList_append_own_at _ rfl (.tmp 69) (.tmp 71) 22 rfl w.heap.size 3 i0 (.int .i64 0) 1 8 Try.underlying22 HI.out HZ0.out HZ1.out HZ2.out rfl (by decide) _ _ _ rfl ((own_drewN HV.out).alloc _) ⟨wr.heap.size, 0, none⟩ 1 1 [.int .i64 c] rfl rfl (cell_one_new _ _ _) (by intro u hu; simp at hu; subst hu; rfl) (by unfold maxLen; omega) (by omega) (by have := HS.out; simp; show w.heap.size ≤ wr.heap.size + 1; omega) ?_; intro v1 w1 h1own hg1 _ _; have R1 := Lib.hid h1own; have R2 := Lib.hid hg1; clear h1own hg1))
            go_roundw
            case rel => exact rel_keep rfl HE.out ST.out HL.out (by simp; try omega) HA'.out (K6.out.1 _ (by simp)) HV.out HW.out K5.out HBEL.out R1.out R2.out
            case measure => simp [lenOf]; try omega
        · go_wp2_with fail
          go_quiet (fail)
          go_wp2_with fail
          go_quiet (fail)
          go_wp2_with fail
          go_quiet (fail)
          go_wp2_with fail
          refine (HK.out false true _).mono ?_
          rintro e w' ⟨rfl, rfl⟩
          rw [HQ.out]
          rcases q with _ | _
          · go_wp2_with fail
            go_roundw
            case rel => exact rel_drop _ rfl HE.out ST.out HL.out (by simp; try omega) HA'.out K6.out.2 HV.out HW.out HBEL.out
            case measure => simp [lenOf]; try omega
          · go_wp2_with ((at_builtin; refine wpList_append_own_at _ rfl (.tmp 69) (.tmp 71) 22 rfl w.heap.size 3 i0 (.int .i64 0) 1 8 Try.underlying22 HI.out HZ0.out HZ1.out HZ2.out rfl (by decide) _ _ _ rfl ((own_drewN HV.out).alloc _) ⟨wr.heap.size, 0, none⟩ 1 1 [.int .i64 c] rfl rfl (cell_one_new _ _ _) (by intro u hu; simp at hu; subst hu; rfl) (by unfold maxLen; omega) (by omega) (by have := HS.out; simp; show w.heap.size ≤ wr.heap.size + 1; omega) ?_; intro v1 w1 h1own hg1 _ _; have R1 := Lib.hid h1own; have R2 := Lib.hid hg1; clear h1own hg1))
            go_roundw
            case rel => exact rel_keep rfl HE.out ST.out HL.out (by simp; try omega) HA'.out K6.out.2 HV.out HW.out K5.out HBEL.out R1.out R2.out
            case measure => simp [lenOf]; try omega
    · obtain ⟨b, off, cap, rfl, h1, h2, h3, h4, h5, h6⟩ := HA'.out.cons
      have H5 := Lib.hid h5
      have H6 := Lib.hid h6
      clear h5 h6
      rcases bb with _ | ⟨c, bb⟩
      · obtain ⟨pb, cb, rfl, k1⟩ := HB'.out.empty
        have ST : Hid (mrg kp (a :: aa) [] = keepIf (kp true false) a (mrg kp aa [])) := by unfold Hid; rw [mrg]
        obtain ⟨q, hq⟩ : ∃ q, kp true false = q := ⟨_, rfl⟩
        rw [hq] at ST
        have HQ := Lib.hid hq
        clear hq
        by_cases hc1 : cap = 1
        · subst hc1
          obtain rfl : aa = [] := List.length_eq_zero_iff.1 (by omega)
          go_wp2_with fail
          go_quiet (fail)
          go_wp2_with fail
          go_quiet (fail)
          go_wp2_with fail
          go_quiet (fail)
          go_wp2_with fail
          refine (HK.out true false _).mono ?_
          rintro e w' ⟨rfl, rfl⟩
          rw [HQ.out]
          rcases q with _ | _
          · go_wp2_with fail
            go_roundw
            case rel => exact rel_drop _ rfl HE.out ST.out HL.out (by simp; try omega) (H6.out.1 _ (by simp)) HB'.out HV.out HW.out HBEL.out
            case measure => simp [lenOf]; try omega
          · go_wp2_with ((at_builtin; refine wpList_append_own_at _ rfl (.tmp 69) (.tmp 71) 22 rfl w.heap.size 3 i0 (.int .i64 0) 1 8 Try.underlying22 HI.out HZ0.out HZ1.out HZ2.out rfl (by decide) _ _ _ rfl ((own_drewN HV.out).alloc _) ⟨wr.heap.size, 0, none⟩ 1 1 [.int .i64 a] rfl rfl (cell_one_new _ _ _) (by intro u hu; simp at hu; subst hu; rfl) (by unfold maxLen; omega) (by omega) (by have := HS.out; simp; show w.heap.size ≤ wr.heap.size + 1; omega) ?_; intro v1 w1 h1own hg1 _ _; have R1 := Lib.hid h1own; have R2 := Lib.hid hg1; clear h1own hg1))
            go_roundw
            case rel => exact rel_keep rfl HE.out ST.out HL.out (by simp; try omega) (H6.out.1 _ (by simp)) HB'.out HV.out HW.out H5.out HBEL.out R1.out R2.out
            case measure => simp [lenOf]; try omega
        · go_wp2_with fail
          go_quiet (fail)
          go_wp2_with fail
          go_quiet (fail)
          go_wp2_with fail
          go_quiet (fail)
          go_wp2_with fail
          refine (HK.out true false _).mono ?_
          rintro e w' ⟨rfl, rfl⟩
          rw [HQ.out]
          rcases q with _ | _
          · go_wp2_with fail
            go_roundw
            case rel => exact rel_drop _ rfl HE.out ST.out HL.out (by simp; try omega) H6.out.2 HB'.out HV.out HW.out HBEL.out
            case measure => simp [lenOf]; try omega
          · go_wp2_with ((at_builtin; refine wpList_append_own_at _ rfl (.tmp 69) (.tmp 71) 22 rfl w.heap.size 3 i0 (.int .i64 0) 1 8 Try.underlying22 HI.out HZ0.out HZ1.out HZ2.out rfl (by decide) _ _ _ rfl ((own_drewN HV.out).alloc _) ⟨wr.heap.size, 0, none⟩ 1 1 [.int .i64 a] rfl rfl (cell_one_new _ _ _) (by intro u hu; simp at hu; subst hu; rfl) (by unfold maxLen; omega) (by omega) (by have := HS.out; simp; show w.heap.size ≤ wr.heap.size + 1; omega) ?_; intro v1 w1 h1own hg1 _ _; have R1 := Lib.hid h1own; have R2 := Lib.hid hg1; clear h1own hg1))
            go_roundw
            case rel => exact rel_keep rfl HE.out ST.out HL.out (by simp; try omega) H6.out.2 HB'.out HV.out HW.out H5.out HBEL.out R1.out R2.out
            case measure => simp [lenOf]; try omega
      · obtain ⟨b2, off2, cap2, rfl, k1, k2, k3, k4, k5, k6⟩ := HB'.out.cons
        have K5 := Lib.hid k5
        have K6 := Lib.hid k6
        clear k5 k6
        rcases Int.lt_trichotomy a c with hac | hac | hac
        · have ST : Hid (mrg kp (a :: aa) (c :: bb) = keepIf (kp true false) a (mrg kp aa (c :: bb))) := by unfold Hid; rw [mrg, if_pos hac]
          obtain ⟨q, hq⟩ : ∃ q, kp true false = q := ⟨_, rfl⟩
          rw [hq] at ST
          have HQ := Lib.hid hq
          clear hq
          have g1 : a ≤ c := by omega
          have g2 : decide (c ≤ a) = false := by simp; omega
          by_cases hc1 : cap = 1
          · subst hc1
            obtain rfl : aa = [] := List.length_eq_zero_iff.1 (by omega)
            go_wp2_with fail
            go_quiet (fail)
            go_wp2_with fail
            go_quiet (fail)
            go_wp2_with fail
            go_quiet (fail)
            go_wp2_with fail
            refine (HK.out true false _).mono ?_
            rintro e w' ⟨rfl, rfl⟩
            rw [HQ.out]
            rcases q with _ | _
            · go_wp2_with fail
              go_roundw
              case rel => exact rel_drop _ rfl HE.out ST.out HL.out (by simp; try omega) (H6.out.1 _ (by simp)) HB'.out HV.out HW.out HBEL.out
              case measure => simp [lenOf]; try omega
            · go_wp2_with ((at_builtin; refine wpList_append_own_at _ rfl (.tmp 69) (.tmp 71) 22 rfl w.heap.size 3 i0 (.int .i64 0) 1 8 Try.underlying22 HI.out HZ0.out HZ1.out HZ2.out rfl (by decide) _ _ _ rfl ((own_drewN HV.out).alloc _) ⟨wr.heap.size, 0, none⟩ 1 1 [.int .i64 a] rfl rfl (cell_one_new _ _ _) (by intro u hu; simp at hu; subst hu; rfl) (by unfold maxLen; omega) (by omega) (by have := HS.out; simp; show w.heap.size ≤ wr.heap.size + 1; omega) ?_; intro v1 w1 h1own hg1 _ _; have R1 := Lib.hid h1own; have R2 := Lib.hid hg1; clear h1own hg1))
              go_roundw
              case rel => exact rel_keep rfl HE.out ST.out HL.out (by simp; try omega) (H6.out.1 _ (by simp)) HB'.out HV.out HW.out H5.out HBEL.out R1.out R2.out
              case measure => simp [lenOf]; try omega
          · go_wp2_with fail
            go_quiet (fail)
            go_wp2_with fail
            go_quiet (fail)
            go_wp2_with fail
            go_quiet (fail)
            go_wp2_with fail
            refine (HK.out true false _).mono ?_
            rintro e w' ⟨rfl, rfl⟩
            rw [HQ.out]
            rcases q with _ | _
            · go_wp2_with fail
              go_roundw
              case rel => exact rel_drop _ rfl HE.out ST.out HL.out (by simp; try omega) H6.out.2 HB'.out HV.out HW.out HBEL.out
              case measure => simp [lenOf]; try omega
            · go_wp2_with ((at_builtin; refine wpList_append_own_at _ rfl (.tmp 69) (.tmp 71) 22 rfl w.heap.size 3 i0 (.int .i64 0) 1 8 Try.underlying22 HI.out HZ0.out HZ1.out HZ2.out rfl (by decide) _ _ _ rfl ((own_drewN HV.out).alloc _) ⟨wr.heap.size, 0, none⟩ 1 1 [.int .i64 a] rfl rfl (cell_one_new _ _ _) (by intro u hu; simp at hu; subst hu; rfl) (by unfold maxLen; omega) (by omega) (by have := HS.out; simp; show w.heap.size ≤ wr.heap.size + 1; omega) ?_; intro v1 w1 h1own hg1 _ _; have R1 := Lib.hid h1own; have R2 := Lib.hid hg1; clear h1own hg1))
              go_roundw
              case rel => exact rel_keep rfl HE.out ST.out HL.out (by simp; try omega) H6.out.2 HB'.out HV.out HW.out H5.out HBEL.out R1.out R2.out
              case measure => simp [lenOf]; try omega
        · subst hac
          have ST : Hid (mrg kp (a :: aa) (a :: bb) = keepIf (kp true true) a (mrg kp aa bb)) := by unfold Hid; rw [mrg, if_neg (by omega), if_neg (by omega)]
          obtain ⟨q, hq⟩ : ∃ q, kp true true = q := ⟨_, rfl⟩
          rw [hq] at ST
          have HQ := Lib.hid hq
          clear hq
          by_cases hc1 : cap = 1
          · by_cases hc2 : cap2 = 1
            · subst hc1
              obtain rfl : aa = [] := List.length_eq_zero_iff.1 (by omega)
              subst hc2
              obtain rfl : bb = [] := List.length_eq_zero_iff.1 (by omega)
              go_wp2_with fail
              go_quiet (fail)
              go_wp2_with fail
              go_quiet (fail)
              go_wp2_with fail
              go_quiet (fail)
              go_wp2_with fail
              go_quiet (fail)
              go_wp2_with fail
              refine (HK.out true true _).mono ?_
              rintro e w' ⟨rfl, rfl⟩
              rw [HQ.out]
              rcases q with _ | _
              · go_wp2_with fail
                go_roundw
                case rel => exact rel_drop _ rfl HE.out ST.out HL.out (by simp; try omega) (H6.out.1 _ (by simp)) (K6.out.1 _ (by simp)) HV.out HW.out HBEL.out
                case measure => simp [lenOf]; try omega
              · go_wp2_with ((at_builtin; refine wpList_append_own_at _ rfl (.tmp 69) (.tmp 71) 22 rfl w.heap.size 3 i0 (.int .i64 0) 1 8 Try.underlying22 HI.out HZ0.out HZ1.out HZ2.out rfl (by decide) _ _ _ rfl ((own_drewN HV.out).alloc _) ⟨wr.heap.size, 0, none⟩ 1 1 [.int .i64 a] rfl rfl (cell_one_new _ _ _) (by intro u hu; simp at hu; subst hu; rfl) (by unfold maxLen; omega) (by omega) (by have := HS.out; simp; show w.heap.size ≤ wr.heap.size + 1; omega) ?_; intro v1 w1 h1own hg1 _ _; have R1 := Lib.hid h1own; have R2 := Lib.hid hg1; clear h1own hg1))
                go_roundw
                case rel => exact rel_keep rfl HE.out ST.out HL.out (by simp; try omega) (H6.out.1 _ (by simp)) (K6.out.1 _ (by simp)) HV.out HW.out H5.out HBEL.out R1.out R2.out
                case measure => simp [lenOf]; try omega
            · subst hc1
              obtain rfl : aa = [] := List.length_eq_zero_iff.1 (by omega)
              go_wp2_with fail
              go_quiet (fail)
              go_wp2_with fail
              go_quiet (fail)
              go_wp2_with fail
              go_quiet (fail)
              go_wp2_with fail
              go_quiet (fail)
              go_wp2_with fail
              refine (HK.out true true _).mono ?_
              rintro e w' ⟨rfl, rfl⟩
              rw [HQ.out]
              rcases q with _ | _
              · go_wp2_with fail
                go_roundw
                case rel => exact rel_drop _ rfl HE.out ST.out HL.out (by simp; try omega) (H6.out.1 _ (by simp)) K6.out.2 HV.out HW.out HBEL.out
                case measure => simp [lenOf]; try omega
              · go_wp2_with ((at_builtin; refine wpList_append_own_at _ rfl (.tmp 69) (.tmp 71) 22 rfl w.heap.size 3 i0 (.int .i64 0) 1 8 Try.underlying22 HI.out HZ0.out HZ1.out HZ2.out rfl (by decide) _ _ _ rfl ((own_drewN HV.out).alloc _) ⟨wr.heap.size, 0, none⟩ 1 1 [.int .i64 a] rfl rfl (cell_one_new _ _ _) (by intro u hu; simp at hu; subst hu; rfl) (by unfold maxLen; omega) (by omega) (by have := HS.out; simp; show w.heap.size ≤ wr.heap.size + 1; omega) ?_; intro v1 w1 h1own hg1 _ _; have R1 := Lib.hid h1own; have R2 := Lib.hid hg1; clear h1own hg1))
                go_roundw
                case rel => exact rel_keep rfl HE.out ST.out HL.out (by simp; try omega) (H6.out.1 _ (by simp)) K6.out.2 HV.out HW.out H5.out HBEL.out R1.out R2.out
                case measure => simp [lenOf]; try omega
          · by_cases hc2 : cap2 = 1
            · subst hc2
              obtain rfl : bb = [] := List.length_eq_zero_iff.1 (by omega)
              go_wp2_with fail
              go_quiet (fail)
              go_wp2_with fail
              go_quiet (fail)
              go_wp2_with fail
              go_quiet (fail)
              go_wp2_with fail
              go_quiet (fail)
              go_wp2_with fail
              refine (HK.out true true _).mono ?_
              rintro e w' ⟨rfl, rfl⟩
              rw [HQ.out]
              rcases q with _ | _
              · go_wp2_with fail
                go_roundw
                case rel => exact rel_drop _ rfl HE.out ST.out HL.out (by simp; try omega) H6.out.2 (K6.out.1 _ (by simp)) HV.out HW.out HBEL.out
                case measure => simp [lenOf]; try omega
              · go_wp2_with ((at_builtin; refine wpList_append_own_at _ rfl (.tmp 69) (.tmp 71) 22 rfl w.heap.size 3 i0 (.int .i64 0) 1 8 Try.underlying22 HI.out HZ0.out HZ1.out HZ2.out rfl (by decide) _ _ _ rfl ((own_drewN HV.out).alloc _) ⟨wr.heap.size, 0, none⟩ 1 1 [.int .i64 a] rfl rfl (cell_one_new _ _ _) (by intro u hu; simp at hu; subst hu; rfl) (by unfold maxLen; omega) (by omega) (by have := HS.out; simp; show w.heap.size ≤ wr.heap.size + 1; omega) ?_; intro v1 w1 h1own hg1 _ _; have R1 := Lib.hid h1own; have R2 := Lib.hid hg1; clear h1own hg1))
                go_roundw
                case rel => exact rel_keep rfl HE.out ST.out HL.out (by simp; try omega) H6.out.2 (K6.out.1 _ (by simp)) HV.out HW.out H5.out HBEL.out R1.out R2.out
                case measure => simp [lenOf]; try omega
            · go_wp2_with fail
              go_quiet (fail)
              go_wp2_with fail
              go_quiet (fail)
              go_wp2_with fail
              go_quiet (fail)
              go_wp2_with fail
              go_quiet (fail)
              go_wp2_with fail
              refine (HK.out true true _).mono ?_
              rintro e w' ⟨rfl, rfl⟩
              rw [HQ.out]
              rcases q with _ | _
              · go_wp2_with fail
                go_roundw
                case rel => exact rel_drop _ rfl HE.out ST.out HL.out (by simp; try omega) H6.out.2 K6.out.2 HV.out HW.out HBEL.out
                case measure => simp [lenOf]; try omega
              · go_wp2_with ((at_builtin; refine wpList_append_own_at _ rfl (.tmp 69) (.tmp 71) 22 rfl w.heap.size 3 i0 (.int .i64 0) 1 8 Try.underlying22 HI.out HZ0.out HZ1.out HZ2.out rfl (by decide) _ _ _ rfl ((own_drewN HV.out).alloc _) ⟨wr.heap.size, 0, none⟩ 1 1 [.int .i64 a] rfl rfl (cell_one_new _ _ _) (by intro u hu; simp at hu; subst hu; rfl) (by unfold maxLen; omega) (by omega) (by have := HS.out; simp; show w.heap.size ≤ wr.heap.size + 1; omega) ?_; intro v1 w1 h1own hg1 _ _; have R1 := Lib.hid h1own; have R2 := Lib.hid hg1; clear h1own hg1))
                go_roundw
                case rel => exact rel_keep rfl HE.out ST.out HL.out (by simp; try omega) H6.out.2 K6.out.2 HV.out HW.out H5.out HBEL.out R1.out R2.out
                case measure => simp [lenOf]; try omega
        · have ST : Hid (mrg kp (a :: aa) (c :: bb) = keepIf (kp false true) c (mrg kp (a :: aa) bb)) := by unfold Hid; rw [mrg, if_neg (by omega), if_pos hac]
          obtain ⟨q, hq⟩ : ∃ q, kp false true = q := ⟨_, rfl⟩
          rw [hq] at ST
          have HQ := Lib.hid hq
          clear hq
          have g1 : decide (a ≤ c) = false := by simp; omega
          have g2 : c ≤ a := by omega
          by_cases hc2 : cap2 = 1
          · subst hc2
            obtain rfl : bb = [] := List.length_eq_zero_iff.1 (by omega)
            go_wp2_with fail
            go_quiet (fail)
            go_wp2_with fail
            go_quiet (fail)
            go_wp2_with fail
            go_quiet (fail)
            go_wp2_with fail
            refine (HK.out false true _).mono ?_
            rintro e w' ⟨rfl, rfl⟩
            rw [HQ.out]
            rcases q with _ | _
            · go_wp2_with fail
              go_roundw
              case rel => exact rel_drop _ rfl HE.out ST.out HL.out (by simp; try omega) HA'.out (K6.out.1 _ (by simp)) HV.out HW.out HBEL.out
              case measure => simp [lenOf]; try omega
            · go_wp2_with ((at_builtin; refine wpList_append_own_at _ rfl (.tmp 69) (.tmp 71) 22 rfl w.heap.size 3 i0 (.int .i64 0) 1 8 Try.underlying22 HI.out HZ0.out HZ1.out HZ2.out rfl (by decide) _ _ _ rfl ((own_drewN HV.out).alloc _) ⟨wr.heap.size, 0, none⟩ 1 1 [.int .i64 c] rfl rfl (cell_one_new _ _ _) (by intro u hu; simp at hu; subst hu; rfl) (by unfold maxLen; omega) (by omega) (by have := HS.out; simp; show w.heap.size ≤ wr.heap.size + 1; omega) ?_; intro v1 w1 h1own hg1 _ _; have R1 := Lib.hid h1own; have R2 := Lib.hid hg1; clear h1own hg1))
              go_roundw
              case rel => exact rel_keep rfl HE.out ST.out HL.out (by simp; try omega) HA'.out (K6.out.1 _ (by simp)) HV.out HW.out K5.out HBEL.out R1.out R2.out
              case measure => simp [lenOf]; try omega
          · go_wp2_with fail
            go_quiet (fail)
            go_wp2_with fail
            go_quiet (fail)
            go_wp2_with fail
            go_quiet (fail)
            go_wp2_with fail
            refine (HK.out false true _).mono ?_
            rintro e w' ⟨rfl, rfl⟩
            rw [HQ.out]
            rcases q with _ | _
            · go_wp2_with fail
              go_roundw
              case rel => exact rel_drop _ rfl HE.out ST.out HL.out (by simp; try omega) HA'.out K6.out.2 HV.out HW.out HBEL.out
              case measure => simp [lenOf]; try omega
            · go_wp2_with ((at_builtin; refine wpList_append_own_at _ rfl (.tmp 69) (.tmp 71) 22 rfl w.heap.size 3 i0 (.int .i64 0) 1 8 Try.underlying22 HI.out HZ0.out HZ1.out HZ2.out rfl (by decide) _ _ _ rfl ((own_drewN HV.out).alloc _) ⟨wr.heap.size, 0, none⟩ 1 1 [.int .i64 c] rfl rfl (cell_one_new _ _ _) (by intro u hu; simp at hu; subst hu; rfl) (by unfold maxLen; omega) (by omega) (by have := HS.out; simp; show w.heap.size ≤ wr.heap.size + 1; omega) ?_; intro v1 w1 h1own hg1 _ _; have R1 := Lib.hid h1own; have R2 := Lib.hid hg1; clear h1own hg1))
              go_roundw
              case rel => exact rel_keep rfl HE.out ST.out HL.out (by simp; try omega) HA'.out K6.out.2 HV.out HW.out K5.out HBEL.out R1.out R2.out
              case measure => simp [lenOf]; try omega

theorem run_or (x y : Bool) (w : World) : Sem.run Try.prog (callFunc 28 #[.bool x, .bool y]) w = .ok (.enter 28 #[.bool x, .bool y]) w := by kernel_rfl
theorem run_and (x y : Bool) (w : World) : Sem.run Try.prog (callFunc 29 #[.bool x, .bool y]) w = .ok (.enter 29 #[.bool x, .bool y]) w := by kernel_rfl
theorem run_less (x y : Bool) (w : World) : Sem.run Try.prog (callFunc 31 #[.bool x, .bool y]) w = .ok (.enter 31 #[.bool x, .bool y]) w := by kernel_rfl

end Go.Proofs.Ytjlnlcnddhilhaa.Idset
