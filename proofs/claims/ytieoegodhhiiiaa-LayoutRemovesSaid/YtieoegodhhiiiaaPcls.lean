/- The program's conditions that go by a function literal: elements, joints, signals, sections behind signals, balises. -/
import Derived.Test.YtieoegodhhiiiaaPhas
import Derived.Test.YtieoegodhhiiiaaPjoe
import Derived.Lib.QuietBelow
import Derived.BigGuardPart
namespace Go.Proofs.Ytieoegodhhiiiaa.Pcls
open Go.RowKit Go.Lib Go.Proofs.Ytieoegodhhiiiaa.Numt Go.Proofs.Ytieoegodhhiiiaa.Reads Go.Proofs.Ytieoegodhhiiiaa.Rows2 Go.Proofs.Ytieoegodhhiiiaa.Lay Go.Proofs.Ytieoegodhhiiiaa.Layf Go.Proofs.Ytieoegodhhiiiaa.Lcon Go.Proofs.Ytieoegodhhiiiaa.Ldup Go.Proofs.Ytieoegodhhiiiaa.Lext Go.Proofs.Ytieoegodhhiiiaa.Lnmd Go.Proofs.Ytieoegodhhiiiaa.Pbas Go.Proofs.Ytieoegodhhiiiaa.Pfn Go.Proofs.Ytieoegodhhiiiaa.Lsev Go.Proofs.Ytieoegodhhiiiaa.Ppar Go.Proofs.Ytieoegodhhiiiaa.Omap Go.Proofs.Ytieoegodhhiiiaa.Omapn Go.Proofs.Ytieoegodhhiiiaa.Lmap Go.Proofs.Ytieoegodhhiiiaa.Pjoe
open Go.Proofs.Ytieoegodhhiiiaa.Ljoi (ne_cases)
open Go.Proofs.Ytieoegodhhiiiaa.Text hiding lineL joinR

/-- A layout in a box that a function literal captured. -/
structure Cap (B : Nat) (w : World) (L : Lay) (vs ve vj vg vb : Value) : Prop where
  box : LBox B w L vs ve vj vg vb
  lt : B < w.heap.size
  lay : LayAt (In w) w L vs ve vj vg vb
theorem Cap.next {B : Nat} {w w' : World} {L : Lay} {vs ve vj vg vb : Value} (h : Cap B w L vs ve vj vg vb) (hb : Below w.heap.size w w') : Cap B w' L vs ve vj vg vb :=
  ⟨h.box.next hb h.lt, Nat.lt_of_lt_of_le h.lt hb.size, h.lay.next hb⟩
theorem cap_new (w : World) (L : Lay) {vs ve vj vg vb : Value} (h : LayAt (In w) w L vs ve vj vg vb) : Cap w.heap.size (w.alloc (.cells #[.string (bs L.name), vs, ve, vj, vg, vb] 28)) L vs ve vj vg vb :=
  ⟨lbox_new w _ L vs ve vj vg vb, by simp, h.box _⟩

/-! Elements. -/
def slowB (x : Elem) : Bool := if x.kind = 2 then decide (100 ≤ x.slow ∧ x.slow ≤ x.speed) else decide (x.slow = 0)
set_option maxRecDepth 100000 in
theorem slow_any (x : Elem) (w : World) : Calls Try.prog 56 #[elV x] w (BoolOut (slowB x) w) := by
  have HB := Lib.hid (fun o => (Below.refl w.heap.size w).alloc (Nat.le_refl _) o)
  unfold slowB
  obtain ⟨nm, kd, ln, gr, sp, sl, sc⟩ := x
  unfold elV
  simp only
  by_cases hk : kd = 2
  · subst hk
    rw [if_pos rfl]
    have H := Lib.hid (fun w => between_any sl 100 sp w)
    obtain ⟨q, hq⟩ : ∃ q, decide (100 ≤ sl ∧ sl ≤ sp) = q := ⟨_, rfl⟩
    rw [hq] at H ⊢
    clear hq
    go_enter Try.func56, Try.ntmps56
    go_wp2_with fail
    refine (H.out _).mono ?_
    rintro e w' ⟨rfl, rfl⟩
    go_wp2_with fail
    go_ret
    exact ⟨rfl, HB.out _⟩
  · rw [if_neg hk]
    have hq : (kd == 2) = false := by simpa using hk
    rw [show decide (sl = 0) = (sl == 0) from rfl]
    clear hk
    go_enter Try.func56, Try.ntmps56
    go_wp2_with fail
    go_ret
    exact ⟨rfl, HB.out _⟩
theorem right_split (n : Nat) (x : Elem) : rightB n x = (decide (0 < sidesN x.kind) && (decide (500 ≤ x.len ∧ x.len ≤ 1000000) && (decide (-50 ≤ x.grade ∧ x.grade ≤ 50) && (decide (100 ≤ x.speed ∧ x.speed ≤ 10000) && (slowB x && decide (0 ≤ x.sec ∧ x.sec < (n : Int))))))) := by
  have hs : decide (0 < sidesN x.kind) = decide (1 ≤ x.kind ∧ x.kind ≤ 3) := by
    refine decide_eq_decide.2 ?_
    unfold sidesN
    split
    · omega
    · split
      · omega
      · split <;> omega
  rw [hs, Bool.eq_iff_iff]
  unfold rightB slowB
  by_cases hk : x.kind = 2
  · rw [if_pos hk]
    simp only [Bool.and_eq_true, decide_eq_true_eq]
    omega
  · rw [if_neg hk]
    simp only [Bool.and_eq_true, decide_eq_true_eq]
    omega
set_option maxRecDepth 100000 in
set_option maxHeartbeats 1600000 in
theorem tellRight (L : Lay) {xs : List Elem} {vs ve vj vg vb : Value} (B : Nat) (w : World) (h : Cap B w L vs ve vj vg vb) :
    Tells xs 54 #[.pointer (some ⟨B, 0, none⟩)] elV (rightB L.secs.length) w := fun W x _ hb => by
  have hc := h.next hb
  obtain ⟨a, cap, rfl, hm, -⟩ := hc.lay.sn
  have HBX := Lib.hid hc.box
  have hlt := hc.lt
  have HB := Lib.hid ((Below.refl W.heap.size W).alloc (Nat.le_refl _) (.cells #[.string (bs x.name), .int .i64 x.kind, .int .i64 x.len, .int .i64 x.grade, .int .i64 x.speed, .int .i64 x.slow, .int .i64 x.sec] 34))
  have HS := Lib.hid (fun w => sides_any x.kind w)
  have H1 := Lib.hid (fun w => between_any x.len 500 1000000 w)
  have H2 := Lib.hid (fun w => between_any x.grade (-50) 50 w)
  have H3 := Lib.hid (fun w => between_any x.speed 100 10000 w)
  have H4 := Lib.hid (fun w => slow_any x w)
  have H5 := Lib.hid (fun w => index_any x.sec (L.secs.length : Int) (by omega) hm w)
  have HV := Lib.hid (right_split L.secs.length x)
  obtain ⟨r, hr⟩ : ∃ r, rightB L.secs.length x = r := ⟨_, rfl⟩
  obtain ⟨q0, hq0⟩ : ∃ q, decide (0 < sidesN x.kind) = q := ⟨_, rfl⟩
  obtain ⟨q1, hq1⟩ : ∃ q, decide (500 ≤ x.len ∧ x.len ≤ 1000000) = q := ⟨_, rfl⟩
  obtain ⟨q2, hq2⟩ : ∃ q, decide (-50 ≤ x.grade ∧ x.grade ≤ 50) = q := ⟨_, rfl⟩
  obtain ⟨q3, hq3⟩ : ∃ q, decide (100 ≤ x.speed ∧ x.speed ≤ 10000) = q := ⟨_, rfl⟩
  obtain ⟨q4, hq4⟩ : ∃ q, slowB x = q := ⟨_, rfl⟩
  obtain ⟨q5, hq5⟩ : ∃ q, decide (0 ≤ x.sec ∧ x.sec < (L.secs.length : Int)) = q := ⟨_, rfl⟩
  rw [hr, hq0, hq1, hq2, hq3, hq4, hq5] at HV
  rw [hq1] at H1
  rw [hq2] at H2
  rw [hq3] at H3
  rw [hq4] at H4
  rw [hq5] at H5
  show Calls _ _ _ _ (BoolOut (rightB L.secs.length x) W)
  rw [hr]
  obtain ⟨nm, kd, ln, gr, sp, sl, sc⟩ := x
  unfold elV at H4 ⊢
  simp only at HB HS H1 H2 H3 H4 H5 hq0 ⊢
  obtain ⟨s, hs⟩ : ∃ s, sidesN kd = s := ⟨_, rfl⟩
  rw [hs] at HS hq0
  clear hr hq1 hq2 hq3 hq4 hq5 hs h hb hc
  obtain ⟨x0, x1, x2, x3, x4, x5⟩ := HBX.out
  go_enter Try.func54, Try.ntmps54
  go_wp2_with fail
  refine (HS.out _).mono ?_
  rintro e w' ⟨rfl, rfl⟩
  cases q0
  · go_wp2_with fail
    go_ret
    exact ⟨by rw [HV.out]; rfl, HB.out⟩
  · go_wp2_with fail
    refine (H1.out _).mono ?_
    rintro e w' ⟨rfl, rfl⟩
    cases q1
    · go_wp2_with fail
      go_ret
      exact ⟨by rw [HV.out]; rfl, HB.out⟩
    · go_wp2_with fail
      refine (H2.out _).mono ?_
      rintro e w' ⟨rfl, rfl⟩
      cases q2
      · go_wp2_with fail
        go_ret
        exact ⟨by rw [HV.out]; rfl, HB.out⟩
      · go_wp2_with fail
        refine (H3.out _).mono ?_
        rintro e w' ⟨rfl, rfl⟩
        cases q3
        · go_wp2_with fail
          go_ret
          exact ⟨by rw [HV.out]; rfl, HB.out⟩
        · go_wp2_with fail
          refine (H4.out _).mono ?_
          rintro e w2 ⟨rfl, b2⟩
          have HB2 := Lib.hid (bel_next HB.out b2)
          have y1 := (b2.cell (p := ⟨W.heap.size, 6, none⟩) (by simp)).trans (show _ = some (.int .i64 sc) by rw [World.cell?_alloc_at _ _ _ _ rfl]; rfl)
          clear b2 x0 x1 x2 x3 x4 x5
          obtain ⟨x0, x1, x2, x3, x4, x5⟩ := HBX.out.next HB2.out hlt
          cases q4
          · go_wp2_with fail
            go_ret
            exact ⟨by rw [HV.out]; rfl, HB2.out⟩
          · go_wp2_with fail
            refine (H5.out _).mono ?_
            rintro e w' ⟨rfl, rfl⟩
            go_wp2_with fail
            go_ret
            exact ⟨by rw [HV.out]; rfl, HB2.out⟩
set_option maxRecDepth 100000 in
theorem hasElements_any (L : Lay) {vs ve vj vg vb : Value} (w : World) (h : LayAt (In w) w L vs ve vj vg vb) :
    Calls Try.prog 21 #[layV L vs ve vj vg vb] w (BoolOut (L.els.all (rightB L.secs.length)) w) := by
  have b1 := (Below.refl w.heap.size w).alloc (Nat.le_refl _) (.cells #[.string (bs L.name), vs, ve, vj, vg, vb] 28)
  have HC := Lib.hid (allE (g := 54) (fun args w => enters_of Try.func54 (by kernel_rfl) rfl args w) (h.next b1).els (tellRight L w.heap.size _ (cap_new w L h)))
  have HB := Lib.hid b1
  have hmf : ∀ (fn : Fn) (first cap : Array Value) (w : World), (Instr.makeFunc fn first cap).run Try.prog w = .ok (.func fn first cap) w := fun _ _ _ _ => rfl
  clear h b1
  unfold layV
  go_enter Try.func21, Try.ntmps21
  go_wp2_with fail
  refine HC.out.mono ?_
  rintro e w' ⟨rfl, hb⟩
  have HB2 := Lib.hid (bel_next HB.out hb)
  clear hb
  go_wp2_with fail
  go_ret
  exact ⟨rfl, HB2.out⟩

/-! Joints. -/
set_option maxRecDepth 100000 in
set_option maxHeartbeats 1600000 in
theorem tellJoint (L : Lay) {xs : List ((Int × Int) × (Int × Int))} {vs ve vj vg vb : Value} (B : Nat) (w : World) (h : Cap B w L vs ve vj vg vb) :
    Tells xs 58 #[.pointer (some ⟨B, 0, none⟩)] joV (jointB L.els) w := fun W x _ hb => by
  have hc := h.next hb
  have HBX := Lib.hid hc.box
  have hlt := hc.lt
  obtain ⟨⟨u1, u2⟩, ⟨v1, v2⟩⟩ := x
  have HB := Lib.hid ((Below.refl W.heap.size W).alloc (Nat.le_refl _) (.cells #[.int .i64 u1, .int .i64 u2, .int .i64 v1, .int .i64 v2] 47))
  have H1 := Lib.hid (fun W' (b : Below W.heap.size W W') => exists_any L (u1, u2) W' (hc.lay.next b))
  have H2 := Lib.hid (fun W' (b : Below W.heap.size W W') => exists_any L (v1, v2) W' (hc.lay.next b))
  have HV := Lib.hid (show jointB L.els ((u1, u2), (v1, v2)) = (existsB L.els (u1, u2) && (existsB L.els (v1, v2) && !decide ((u1, u2) = (v1, v2)))) from rfl)
  obtain ⟨r, hr⟩ : ∃ r, jointB L.els ((u1, u2), (v1, v2)) = r := ⟨_, rfl⟩
  obtain ⟨q1, hq1⟩ : ∃ q, existsB L.els (u1, u2) = q := ⟨_, rfl⟩
  obtain ⟨q2, hq2⟩ : ∃ q, existsB L.els (v1, v2) = q := ⟨_, rfl⟩
  rw [hr, hq1, hq2] at HV
  rw [hq1] at H1
  rw [hq2] at H2
  show Calls _ _ _ _ (BoolOut (jointB L.els ((u1, u2), (v1, v2))) W)
  rw [hr]
  unfold layV pV at H1 H2
  unfold joV
  simp only at H1 H2 ⊢
  clear hr hq1 hq2 h hb hc
  obtain ⟨x0, x1, x2, x3, x4, x5⟩ := HBX.out
  go_enter Try.func58, Try.ntmps58
  go_wp2_with fail
  refine (H1.out _ HB.out).mono ?_
  rintro e w2 ⟨rfl, b2⟩
  have HB2 := Lib.hid (bel_next HB.out b2)
  have HK := Lib.hid (fun j (hj : j < 4) => b2.cell (p := ⟨W.heap.size, j, none⟩) (by simp))
  have y0 := (b2.cell (p := ⟨W.heap.size, 0, none⟩) (by simp)).trans (show _ = some (.int .i64 u1) by rw [World.cell?_alloc_at _ _ _ _ rfl]; rfl)
  have y1 := (b2.cell (p := ⟨W.heap.size, 1, none⟩) (by simp)).trans (show _ = some (.int .i64 u2) by rw [World.cell?_alloc_at _ _ _ _ rfl]; rfl)
  have y2 := (b2.cell (p := ⟨W.heap.size, 2, none⟩) (by simp)).trans (show _ = some (.int .i64 v1) by rw [World.cell?_alloc_at _ _ _ _ rfl]; rfl)
  have y3 := (b2.cell (p := ⟨W.heap.size, 3, none⟩) (by simp)).trans (show _ = some (.int .i64 v2) by rw [World.cell?_alloc_at _ _ _ _ rfl]; rfl)
  have hlt2 : W.heap.size < w2.heap.size := Nat.lt_of_lt_of_le (by simp) b2.size
  have Y := Lib.hid (And.intro (And.intro y0 y1) (And.intro y2 y3))
  have HLT2 := Lib.hid hlt2
  clear HK b2 x0 x1 x2 x3 x4 x5 hlt2
  obtain ⟨x0, x1, x2, x3, x4, x5⟩ := HBX.out.next HB2.out hlt
  cases q1
  · go_wp2_with fail
    go_ret
    exact ⟨by rw [HV.out]; rfl, HB2.out⟩
  · go_wp2_with fail
    refine (H2.out _ HB2.out).mono ?_
    rintro e w3 ⟨rfl, b3⟩
    have HB3 := Lib.hid (bel_next HB2.out b3)
    clear y0 y1 y2 y3
    have y0 := (b3.cell (p := ⟨W.heap.size, 0, none⟩) HLT2.out).trans Y.out.1.1
    have y1 := (b3.cell (p := ⟨W.heap.size, 1, none⟩) HLT2.out).trans Y.out.1.2
    have y2 := (b3.cell (p := ⟨W.heap.size, 2, none⟩) HLT2.out).trans Y.out.2.1
    have y3 := (b3.cell (p := ⟨W.heap.size, 3, none⟩) HLT2.out).trans Y.out.2.2
    clear b3 x0 x1 x2 x3 x4 x5
    cases q2
    · go_wp2_with fail
      go_ret
      exact ⟨by rw [HV.out]; rfl, HB3.out⟩
    · by_cases he : (u1, u2) = (v1, v2)
      · cases he
        rw [decide_eq_true rfl] at HV
        go_wp2_with fail
        go_ret
        exact ⟨by rw [HV.out]; rfl, HB3.out⟩
      · rw [decide_eq_false he] at HV
        have hn := ne_cases he
        clear he
        rcases hn with hn | ⟨hn, hn2⟩
        all_goals
          go_wp2_with fail
          go_ret
          exact ⟨by rw [HV.out]; rfl, HB3.out⟩
set_option maxRecDepth 100000 in
theorem hasJoints_any (L : Lay) {vs ve vj vg vb : Value} (w : World) (h : LayAt (In w) w L vs ve vj vg vb) :
    Calls Try.prog 23 #[layV L vs ve vj vg vb] w (BoolOut (L.joints.all (jointB L.els)) w) := by
  have b1 := (Below.refl w.heap.size w).alloc (Nat.le_refl _) (.cells #[.string (bs L.name), vs, ve, vj, vg, vb] 28)
  have HC := Lib.hid (allJ (g := 58) (fun args w => enters_of Try.func58 (by kernel_rfl) rfl args w) (h.next b1).joints (tellJoint L w.heap.size _ (cap_new w L h)))
  have HB := Lib.hid b1
  have hmf : ∀ (fn : Fn) (first cap : Array Value) (w : World), (Instr.makeFunc fn first cap).run Try.prog w = .ok (.func fn first cap) w := fun _ _ _ _ => rfl
  clear h b1
  unfold layV
  go_enter Try.func23, Try.ntmps23
  go_wp2_with fail
  refine HC.out.mono ?_
  rintro e w' ⟨rfl, hb⟩
  have HB2 := Lib.hid (bel_next HB.out hb)
  clear hb
  go_wp2_with fail
  go_ret
  exact ⟨rfl, HB2.out⟩

/-! Signals. -/
set_option maxRecDepth 100000 in
set_option maxHeartbeats 1600000 in
theorem tellSig (L : Lay) {xs : List Sig} {vs ve vj vg vb : Value} (B : Nat) (w : World) (h : Cap B w L vs ve vj vg vb) :
    Tells xs 61 #[.pointer (some ⟨B, 0, none⟩)] sgV (sigB L.els) w := fun W x _ hb => by
  have hc := h.next hb
  have HBX := Lib.hid hc.box
  have hlt := hc.lt
  obtain ⟨nm, ⟨u1, u2⟩, ov⟩ := x
  have HB := Lib.hid ((Below.refl W.heap.size W).alloc (Nat.le_refl _) (.cells #[.string (bs nm), .int .i64 u1, .int .i64 u2, .int .i64 ov] 55))
  have H1 := Lib.hid (fun W' (b : Below W.heap.size W W') => exists_any L (u1, u2) W' (hc.lay.next b))
  have H2 := Lib.hid (fun w => between_any ov 0 1000000 w)
  have HV := Lib.hid (show sigB L.els ⟨nm, (u1, u2), ov⟩ = (existsB L.els (u1, u2) && decide (0 ≤ ov ∧ ov ≤ 1000000)) by
    unfold sigB
    rw [Bool.decide_and])
  obtain ⟨r, hr⟩ : ∃ r, sigB L.els ⟨nm, (u1, u2), ov⟩ = r := ⟨_, rfl⟩
  obtain ⟨q1, hq1⟩ : ∃ q, existsB L.els (u1, u2) = q := ⟨_, rfl⟩
  obtain ⟨q2, hq2⟩ : ∃ q, decide (0 ≤ ov ∧ ov ≤ 1000000) = q := ⟨_, rfl⟩
  rw [hr, hq1, hq2] at HV
  rw [hq1] at H1
  rw [hq2] at H2
  show Calls _ _ _ _ (BoolOut (sigB L.els ⟨nm, (u1, u2), ov⟩) W)
  rw [hr]
  unfold layV pV at H1
  unfold sgV
  simp only at H1 ⊢
  clear hr hq1 hq2 h hb hc
  obtain ⟨x0, x1, x2, x3, x4, x5⟩ := HBX.out
  go_enter Try.func61, Try.ntmps61
  go_wp2_with fail
  refine (H1.out _ HB.out).mono ?_
  rintro e w2 ⟨rfl, b2⟩
  have HB2 := Lib.hid (bel_next HB.out b2)
  have y3 := (b2.cell (p := ⟨W.heap.size, 3, none⟩) (by simp)).trans (show _ = some (.int .i64 ov) by rw [World.cell?_alloc_at _ _ _ _ rfl]; rfl)
  clear b2 x0 x1 x2 x3 x4 x5
  cases q1
  · go_wp2_with fail
    go_ret
    exact ⟨by rw [HV.out]; rfl, HB2.out⟩
  · go_wp2_with fail
    refine (H2.out _).mono ?_
    rintro e w' ⟨rfl, rfl⟩
    go_wp2_with fail
    go_ret
    exact ⟨by rw [HV.out]; rfl, HB2.out⟩
set_option maxRecDepth 100000 in
theorem hasSignals_any (L : Lay) {vs ve vj vg vb : Value} (w : World) (h : LayAt (In w) w L vs ve vj vg vb) :
    Calls Try.prog 25 #[layV L vs ve vj vg vb] w (BoolOut (L.sigs.all (sigB L.els)) w) := by
  have b1 := (Below.refl w.heap.size w).alloc (Nat.le_refl _) (.cells #[.string (bs L.name), vs, ve, vj, vg, vb] 28)
  have HC := Lib.hid (allG (g := 61) (fun args w => enters_of Try.func61 (by kernel_rfl) rfl args w) (h.next b1).sigs (tellSig L w.heap.size _ (cap_new w L h)))
  have HB := Lib.hid b1
  have hmf : ∀ (fn : Fn) (first cap : Array Value) (w : World), (Instr.makeFunc fn first cap).run Try.prog w = .ok (.func fn first cap) w := fun _ _ _ _ => rfl
  clear h b1
  unfold layV
  go_enter Try.func25, Try.ntmps25
  go_wp2_with fail
  refine HC.out.mono ?_
  rintro e w' ⟨rfl, hb⟩
  have HB2 := Lib.hid (bel_next HB.out hb)
  clear hb
  go_wp2_with fail
  go_ret
  exact ⟨rfl, HB2.out⟩

/-! Balises. -/
theorem bal_in {els : List Elem} {i bo id : Int} {e : Nat} {x : Elem} (hi : i = (e : Int)) (hx : els[e]? = some x) : balB els ⟨id, i, bo⟩ = (decide (1 ≤ id ∧ id ≤ 1073741824) && decide (0 ≤ bo ∧ bo ≤ x.len)) := by
  subst hi
  simp only [balB, Int.toNat_natCast, hx]
  rw [Bool.eq_iff_iff]
  simp only [Bool.and_eq_true, decide_eq_true_eq]
  omega
theorem bal_out {els : List Elem} {i bo id : Int} (h : ¬ (0 ≤ i ∧ i < (els.length : Int))) : balB els ⟨id, i, bo⟩ = false := by
  unfold balB
  simp only
  cases hx : els[i.toNat]? with
  | none => rfl
  | some x =>
    have := (List.getElem?_eq_some_iff.1 hx).1
    simp only
    refine decide_eq_false fun hc => h ?_
    omega
theorem bal_id {els : List Elem} {i bo id : Int} (h : decide (1 ≤ id ∧ id ≤ 1073741824) = false) : balB els ⟨id, i, bo⟩ = false := by
  unfold balB
  simp only
  have h2 : ¬ (1 ≤ id ∧ id ≤ 1073741824) := of_decide_eq_false h
  cases hx : els[i.toNat]? with
  | none => rfl
  | some x =>
    simp only
    refine decide_eq_false fun hc => h2 ?_
    omega
set_option maxRecDepth 100000 in
set_option maxHeartbeats 1600000 in
theorem tellBal (L : Lay) {xs : List Bal} {vs ve vj vg vb : Value} (B : Nat) (w : World) (h : Cap B w L vs ve vj vg vb) :
    Tells xs 64 #[.pointer (some ⟨B, 0, none⟩)] baV (balB L.els) w := fun W x _ hb => by
  have hc := h.next hb
  obtain ⟨a, cap, rfl, hm, hel⟩ := hc.lay.el
  have HBX := Lib.hid hc.box
  have hlt := hc.lt
  have HE := Lib.hid (hel W (Below.refl _ _))
  obtain ⟨bi, be, bo⟩ := x
  have HB := Lib.hid ((Below.refl W.heap.size W).alloc (Nat.le_refl _) (.cells #[.int .i64 bi, .int .i64 be, .int .i64 bo] 61))
  have H1 := Lib.hid (fun w => between_any bi 1 1073741824 w)
  have H2 := Lib.hid (fun w => index_any be (L.els.length : Int) (by omega) hm w)
  show Calls _ _ _ _ (BoolOut (balB L.els ⟨bi, be, bo⟩) W)
  unfold baV
  simp only
  obtain ⟨q1, hq1⟩ : ∃ q, decide (1 ≤ bi ∧ bi ≤ 1073741824) = q := ⟨_, rfl⟩
  rw [hq1] at H1
  obtain ⟨r, hr⟩ : ∃ r, balB L.els ⟨bi, be, bo⟩ = r := ⟨_, rfl⟩
  rw [hr]
  clear h hb hc hel
  obtain ⟨x0, x1, x2, x3, x4, x5⟩ := HBX.out
  cases q1
  · have HV := Lib.hid (show r = false by rw [← hr]; exact bal_id hq1)
    clear hq1 hr
    go_enter Try.func64, Try.ntmps64
    go_wp2_with fail
    go_quiet ((go_at_call 47; exact Calls.quiet_of_same (H1.out _)))
    go_wp2_with fail
    go_ret
    exact ⟨by rw [HV.out]; rfl, below_drewN HB.out _⟩
  · by_cases h0 : 0 ≤ be ∧ be < (L.els.length : Int)
    · obtain ⟨i, rfl⟩ := Int.eq_ofNat_of_zero_le h0.1
      obtain ⟨x, hx⟩ := at_lt (l := L.els) (k := i) (by omega)
      obtain ⟨b, off, rfl, _, _, c2, _⟩ := HE.out i x hx
      have HJ := Lib.hid (fun w => between_any bo 0 x.len w)
      have HV := Lib.hid (show r = decide (0 ≤ bo ∧ bo ≤ x.len) by rw [← hr, bal_in rfl hx, hq1]; rfl)
      obtain ⟨t, ht⟩ : ∃ t, decide (0 ≤ bo ∧ bo ≤ x.len) = t := ⟨_, rfl⟩
      rw [ht] at HJ HV
      obtain ⟨nm, kd, ln, gr, sp, sl, sc⟩ := x
      simp only at c2 HJ
      rw [decide_eq_true h0] at H2
      have hbl : b < W.heap.size := block_lt_of_cell c2
      have hl2 := h0.2
      clear hx h0 ht hq1 hr
      go_enter Try.func64, Try.ntmps64
      go_wp2_with fail
      go_quiet (first | (go_at_call 47; first | with_reducible exact Calls.quiet_of_same (H1.out _) | with_reducible exact Calls.quiet_of_same (HJ.out _)) | (go_at_call 41; exact Calls.quiet_of_same (H2.out _)))
      go_wp2_with fail
      go_ret
      exact ⟨by rw [HV.out]; rfl, below_drewN HB.out _⟩
    · have HV := Lib.hid (show r = false by rw [← hr]; exact bal_out h0)
      rw [decide_eq_false h0] at H2
      clear h0 hq1 hr
      go_enter Try.func64, Try.ntmps64
      go_wp2_with fail
      go_quiet (first | (go_at_call 47; exact Calls.quiet_of_same (H1.out _)) | (go_at_call 41; exact Calls.quiet_of_same (H2.out _)))
      go_wp2_with fail
      go_ret
      exact ⟨by rw [HV.out]; rfl, below_drewN HB.out _⟩
set_option maxRecDepth 100000 in
theorem hasBalises_any (L : Lay) {vs ve vj vg vb : Value} (w : World) (h : LayAt (In w) w L vs ve vj vg vb) :
    Calls Try.prog 30 #[layV L vs ve vj vg vb] w (BoolOut (L.bals.all (balB L.els)) w) := by
  have b1 := (Below.refl w.heap.size w).alloc (Nat.le_refl _) (.cells #[.string (bs L.name), vs, ve, vj, vg, vb] 28)
  have HC := Lib.hid (allB (g := 64) (fun args w => enters_of Try.func64 (by kernel_rfl) rfl args w) (h.next b1).bals (tellBal L w.heap.size _ (cap_new w L h)))
  have HB := Lib.hid b1
  have hmf : ∀ (fn : Fn) (first cap : Array Value) (w : World), (Instr.makeFunc fn first cap).run Try.prog w = .ok (.func fn first cap) w := fun _ _ _ _ => rfl
  clear h b1
  unfold layV
  go_enter Try.func30, Try.ntmps30
  go_wp2_with fail
  refine HC.out.mono ?_
  rintro e w' ⟨rfl, hb⟩
  have HB2 := Lib.hid (bel_next HB.out hb)
  clear hb
  go_wp2_with fail
  go_ret
  exact ⟨rfl, HB2.out⟩

end Go.Proofs.Ytieoegodhhiiiaa.Pcls
