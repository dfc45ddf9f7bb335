/- Texts of this proof, merged: Pprn, Pkin, Pctn, Pend, Plia. -/
import Derived.Test.YtfdipcphohhlgaaGreatDoorG10
import Derived.Test.YtfdipcphohhlgaaGreatDoorG11
import Derived.Test.YtfdipcphohhlgaaGreatDoorG14
import Derived.Test.YtfdipcphohhlgaaGreatDoorG08
import Derived.Test.YtfdipcphohhlgaaGreatDoorG02
import Derived.MapKept
import Derived.Laws.IdiomRangeMap
import Derived.Maps.RangeRun
import Derived.Test.YtfdipcphohhlgaaGreatDoorG12
import Derived.Lib.AppendZerosOnto
import Derived.Deep.RegionHeld3

/- The call of the statement PlanPrints, from what the program's Print and Parse are to give. -/
namespace Go.Proofs.YtfdipcphohhlgaaGreatDoor.Pprn
open Go.RowKit Go.Lib Go.Proofs.YtfdipcphohhlgaaGreatDoor.Reads Go.Proofs.YtfdipcphohhlgaaGreatDoor.Rows2 Go.Proofs.YtfdipcphohhlgaaGreatDoor.Lay Go.Proofs.YtfdipcphohhlgaaGreatDoor.Layf Go.Proofs.YtfdipcphohhlgaaGreatDoor.Ldup Go.Proofs.YtfdipcphohhlgaaGreatDoor.Lext Go.Proofs.YtfdipcphohhlgaaGreatDoor.Lnmd Go.Proofs.YtfdipcphohhlgaaGreatDoor.Few0 Go.Proofs.YtfdipcphohhlgaaGreatDoor.Plnf Go.Proofs.YtfdipcphohhlgaaGreatDoor.Plna Go.Proofs.YtfdipcphohhlgaaGreatDoor.Plnc Go.Proofs.YtfdipcphohhlgaaGreatDoor.Ptwo Go.Proofs.YtfdipcphohhlgaaGreatDoor.Pali Go.Proofs.YtfdipcphohhlgaaGreatDoor.Pfew Go.Proofs.YtfdipcphohhlgaaGreatDoor.Rprt
open Go.Proofs.YtfdipcphohhlgaaGreatDoor.Text hiding lineL joinR

set_option maxRecDepth 100000 in
set_option maxHeartbeats 3200000 in
theorem prints_any {D : World → Prop} (T : Two D) (L : Lay) {vs ve vj vg vb : Value} (w : World) (h : LayAt (In w) w L vs ve vj vg vb) (hd : D w) :
    Calls Tryz.prog 3 #[layV L vs ve vj vg vb] w (BoolOut true w) := by
  have b0 := (Below.refl w.heap.size w).alloc (Nat.le_refl _) (.cells #[.string (bs L.name), vs, ve, vj, vg, vb] 28)
  have hh := h.next b0
  have hx := lbox_new w 28 L vs ve vj vg vb
  have dd := T.keep _ _ hd b0
  have hs0 : w.heap.size < (w.alloc (.cells #[.string (bs L.name), vs, ve, vj, vg, vb] 28)).heap.size := by simp
  obtain ⟨W, hW⟩ : ∃ W, w.alloc (.cells #[.string (bs L.name), vs, ve, vj, vg, vb] 28) = W := ⟨_, rfl⟩
  rw [hW] at b0 hh hx dd hs0
  have HW := Lib.hid hW
  have B0 := Lib.hid b0
  have HX := Lib.hid hx
  have HS := Lib.hid hs0
  have HH := Lib.hid hh
  have DD := Lib.hid (fun w' (b : Below W.heap.size W w') => T.keep _ _ dd b)
  have HF := Lib.hid (few8_any L _ hh)
  have HA := Lib.hid (fun w' (b : Below W.heap.size W w') => alive_any T _ (DD.out _ b))
  clear h hh hd dd hW b0 hx hs0
  obtain ⟨b, hb⟩ : ∃ b, fewB L = b := ⟨_, rfl⟩
  rw [hb] at HF
  have HFW := Lib.hid hb
  clear hb
  unfold layV at HF ⊢
  go_enter Tryz.func3, Tryz.ntmps3
  go_wp2_with fail
  rw [HW.out]
  obtain ⟨x0, x1, x2, x3, x4, x5⟩ := HX.out
  refine HF.out.mono ?_
  rintro e w1 ⟨rfl, b1⟩
  have B1 := Lib.hid b1
  clear b1 x0 x1 x2 x3 x4 x5
  obtain ⟨x0, x1, x2, x3, x4, x5⟩ := HX.out.next B1.out HS.out
  cases b
  · go_wp2_with fail
    refine (HA.out _ B1.out).mono ?_
    rintro e w2 ⟨rfl, b2⟩
    have B2 := Lib.hid (bel_next B1.out b2)
    clear b2
    go_wp2_with fail
    go_ret
    exact ⟨rfl, bel_next B0.out B2.out⟩
  · obtain ⟨f1, f2, f3, f4, f5⟩ := few_yes HFW.out
    have hT := T.prn L _ _ _ _ _ w1 (HH.out.next B1.out) (DD.out _ B1.out) (by omega)
    have hR := fun w' (b : Below W.heap.size W w') => rprint_any L w' (HH.out.next b) (by omega) (by omega) (by omega) (by omega) (by omega)
    obtain ⟨⟨t, e0⟩, hr⟩ : ∃ r, printF L = r := ⟨_, rfl⟩
    rw [hr] at hT hR
    have HT := Lib.hid hT
    have HR := Lib.hid hR
    clear hT hR hr f1 f2 f3 f4 f5
    unfold layV at HT HR
    go_wp2_with fail
    refine HT.out.mono ?_
    rintro e w2 ⟨rfl, b2⟩
    have B2 := Lib.hid (bel_next B1.out b2)
    clear b2 x0 x1 x2 x3 x4 x5
    obtain ⟨x0, x1, x2, x3, x4, x5⟩ := HX.out.next B2.out HS.out
    go_wp2_with fail
    refine (HR.out _ B2.out).mono ?_
    rintro e w3 ⟨rfl, b3⟩
    have B3 := Lib.hid (bel_next B2.out b3)
    clear b3 x0 x1 x2 x3 x4 x5
    have hne : (e0 == e0) = true := by simp
    go_wp2_with fail
    refine (HA.out _ B3.out).mono ?_
    rintro e w4 ⟨rfl, b4⟩
    have B4 := Lib.hid (bel_next B3.out b4)
    clear b4
    go_wp2_with fail
    go_ret
    exact ⟨rfl, bel_next B0.out B4.out⟩

end Go.Proofs.YtfdipcphohhlgaaGreatDoor.Pprn

/- The program's words of the kinds of elements, and the places of lines. -/
namespace Go.Proofs.YtfdipcphohhlgaaGreatDoor.Pkin
open Go.RowKit Go.Lib Go.Proofs.YtfdipcphohhlgaaGreatDoor.Reads Go.Proofs.YtfdipcphohhlgaaGreatDoor.Rows2 Go.Proofs.YtfdipcphohhlgaaGreatDoor.Lay Go.Proofs.YtfdipcphohhlgaaGreatDoor.Layf Go.Proofs.YtfdipcphohhlgaaGreatDoor.Lext Go.Proofs.YtfdipcphohhlgaaGreatDoor.Plnf
open Go.Proofs.YtfdipcphohhlgaaGreatDoor.Text hiding lineL joinR

/-- The entries of the map of the kinds. -/
def kEs : Array MapEntry := #[⟨.string (bs kTrk), .int .i64 1, 0⟩, ⟨.string (bs kPts), .int .i64 2, 1⟩, ⟨.string (bs kCrs), .int .i64 3, 2⟩]

theorem set_alloc (w : World) (o o' : Obj) : ({ (w.alloc o) with heap := (w.alloc o).heap.setIfInBounds w.heap.size o' } : World) = w.alloc o' := by
  have hp : ∀ (h : Array Obj) (x y : Obj), (h.push x).setIfInBounds h.size y = h.push y := by
    intro h x y
    apply Array.toList_inj.1
    simp
  show ({ (w.alloc o) with heap := (w.heap.push o).setIfInBounds w.heap.size o' } : World) = _
  rw [hp]
  rfl
theorem put_new (w : World) (es : Array MapEntry) (c : Nat) (k v : Value) (hk : MapKept.IsKey .string k) (hf : Instr.findNow .string k es.toList 0 = some none) :
    (Instr.mapUpdate 116 (.map (some w.heap.size)) k v).run Tryz.prog (w.alloc (.map es c)) = .ok () (w.alloc (.map (es.push ⟨k, v, c⟩) (c + 1))) := by
  have hb : (w.alloc (.map es c)).heap[w.heap.size]? = some (.map es c) := heap_alloc_new _ _
  have hs := MapKept.run_setObj_map (P := Tryz.prog) (.map (es.push ⟨k, v, c⟩) (c + 1)) hb
  rw [set_alloc] at hs
  have h1 := MapKept.run_checkKey (P := Tryz.prog) (w := w.alloc (.map es c)) Tryz.underlying9 hk false 9999
  have h2 := MapKept.run_findKey (P := Tryz.prog) (w := w.alloc (.map es c)) Tryz.underlying9 hf
  unfold Instr.mapUpdate
  simp only [Sem.run_bind, run_underlying Tryz.underlying116, Result.andThen_ok, MapKept.run_getObj_map hb, h1, h2]
  exact hs

theorem kinds_any (w : World) : Calls Tryz.prog 83 #[] w fun e w' => e = .returned (.map (some w.heap.size)) ∧ w' = w.alloc (.map kEs 3) := by
  have u1 := put_new w #[] 0 (.string ⟨#[116, 114, 97, 99, 107]⟩) (.int .i64 1) trivial rfl
  have u2 := put_new w (#[].push ⟨.string ⟨#[116, 114, 97, 99, 107]⟩, .int .i64 1, 0⟩) 1 (.string ⟨#[112, 111, 105, 110, 116, 115]⟩) (.int .i64 2) trivial (by rfl)
  have u3 := put_new w ((#[].push ⟨.string ⟨#[116, 114, 97, 99, 107]⟩, .int .i64 1, 0⟩).push ⟨.string ⟨#[112, 111, 105, 110, 116, 115]⟩, .int .i64 2, 1⟩) 2 (.string ⟨#[99, 114, 111, 115, 115]⟩) (.int .i64 3) trivial (by rfl)
  obtain ⟨W1, hW1⟩ : ∃ x, w.alloc (.map (#[].push ⟨.string ⟨#[116, 114, 97, 99, 107]⟩, .int .i64 1, 0⟩) (0 + 1)) = x := ⟨_, rfl⟩
  obtain ⟨W2, hW2⟩ : ∃ x, w.alloc (.map ((#[].push ⟨.string ⟨#[116, 114, 97, 99, 107]⟩, .int .i64 1, 0⟩).push ⟨.string ⟨#[112, 111, 105, 110, 116, 115]⟩, .int .i64 2, 1⟩) (1 + 1)) = x := ⟨_, rfl⟩
  obtain ⟨W3, hW3⟩ : ∃ x, w.alloc (.map (((#[].push ⟨.string ⟨#[116, 114, 97, 99, 107]⟩, .int .i64 1, 0⟩).push ⟨.string ⟨#[112, 111, 105, 110, 116, 115]⟩, .int .i64 2, 1⟩).push ⟨.string ⟨#[99, 114, 111, 115, 115]⟩, .int .i64 3, 2⟩) (2 + 1)) = x := ⟨_, rfl⟩
  rw [hW1] at u1
  rw [show (1 : Nat) = 0 + 1 from rfl, hW1, show (0 + 1 + 1 : Nat) = 1 + 1 from rfl, hW2] at u2
  rw [show (2 : Nat) = 1 + 1 from rfl, hW2, show (1 + 1 + 1 : Nat) = 2 + 1 from rfl, hW3] at u3
  have HE := Lib.hid (show w.alloc (.map kEs 3) = W3 by rw [← hW3]; rfl)
  clear hW1 hW2 hW3
  have hmm := @run_makeMap Tryz.prog
  go_enter Tryz.func83, Tryz.ntmps83
  go_wp2_with fail
  go_ret
  exact ⟨rfl, HE.out.symm⟩

/-- The word of a kind. -/
def wordOf (k : Int) : List UInt8 := if k = 1 then kTrk else if k = 2 then kPts else if k = 3 then kCrs else []
/-- The kind of a word, 0 if it is none. -/
def kindOf (s : List UInt8) : Int := if s = kTrk then 1 else if s = kPts then 2 else if s = kCrs then 3 else 0

theorem beq_bs (s t : List UInt8) : ((bs s) == (bs t)) = decide (s = t) := by
  rw [Bool.eq_iff_iff, MapKept.bytes_beq, decide_eq_true_eq]
  constructor
  · intro h
    have := congrArg (fun b : ByteArray => b.data.toList) h
    simpa [bs] using this
  · rintro rfl; rfl
theorem find_any (s : List UInt8) : Instr.findNow .string (.string (bs s)) kEs.toList 0 = some (if s = kTrk then some (0, .int .i64 1) else if s = kPts then some (1, .int .i64 2) else if s = kCrs then some (2, .int .i64 3) else none) := by
  show Instr.findNow .string (.string (bs s)) [⟨.string (bs kTrk), .int .i64 1, 0⟩, ⟨.string (bs kPts), .int .i64 2, 1⟩, ⟨.string (bs kCrs), .int .i64 3, 2⟩] 0 = _
  simp only [Instr.findNow, Instr.sameNow, beq_bs]
  by_cases h1 : s = kTrk
  · simp [h1]
  · by_cases h2 : s = kPts
    · subst h2; simp [show ¬ kPts = kTrk by decide]
    · by_cases h3 : s = kCrs
      · subst h3; simp [show ¬ kCrs = kTrk by decide, show ¬ kCrs = kPts by decide]
      · simp [h1, h2, h3]
theorem look_any (s : List UInt8) (b : Nat) (w : World) (hb : w.heap[b]? = some (.map kEs 3)) (ok : Bool) :
    (Instr.lookup 116 (.map (some b)) (.string (bs s)) ok).run Tryz.prog w = .ok (if ok then .tuple #[.int .i64 (kindOf s), .bool (decide (kindOf s ≠ 0))] else .int .i64 (kindOf s)) w := by
  have h1 := fun x => MapKept.run_checkKey (P := Tryz.prog) (w := w) Tryz.underlying9 (show MapKept.IsKey .string (.string (bs s)) from trivial) x 9999
  have h2 := MapKept.run_findKey (P := Tryz.prog) (w := w) Tryz.underlying9 (find_any s)
  have hz : (zeroValue 3).run Tryz.prog w = .ok (.int .i64 0) w := by kernel_rfl
  unfold Instr.lookup kindOf
  simp only [Sem.run_bind, run_underlying Tryz.underlying116, Result.andThen_ok, MapKept.run_getObj_map hb, h1, h2, Sem.run_pure]
  by_cases e1 : s = kTrk
  · cases ok <;> simp [e1]
  · by_cases e2 : s = kPts
    · cases ok <;> simp [e2, show ¬ kPts = kTrk by decide]
    · by_cases e3 : s = kCrs
      · cases ok <;> simp [e3, show ¬ kCrs = kTrk by decide, show ¬ kCrs = kPts by decide]
      · cases ok <;> simp [e1, e2, e3, hz]

/-- The place of a line, 0 if it has none. -/
def placeF (s : List UInt8) : Int := match rankL s with | none => 0 | some k => (k : Int) + 1
theorem str_eq (s t : List UInt8) : ((bs s).toList == t) = decide (s = t) := by
  rw [show (bs s).toList = s by rw [ByteArray.toList_eq]; rfl]
  exact Bool.beq_eq_decide_eq _ _

set_option maxRecDepth 100000 in
theorem place_any (s : List UInt8) (w : World) : Calls Tryz.prog 79 #[.string (bs s)] w fun e w' => e = .returned (.int .i64 (placeF s)) ∧ Below w.heap.size w w' := by
  have HB := Lib.hid (Below.refl w.heap.size w)
  by_cases h1 : s = kLay
  · have HP := Lib.hid (show placeF s = 1 by subst h1; decide)
    have q1 : ((bs s).toList == [108, 97, 121, 111, 117, 116]) = true := by rw [str_eq]; exact decide_eq_true h1
    clear h1
    go_enter Tryz.func79, Tryz.ntmps79
    go_wp2_with fail
    go_ret
    exact ⟨by rw [HP.out]; rfl, HB.out⟩
  have q1 : ((bs s).toList == [108, 97, 121, 111, 117, 116]) = false := by rw [str_eq]; exact decide_eq_false h1
  by_cases h2 : s = kSec
  · have HP := Lib.hid (show placeF s = 2 by subst h2; decide)
    have q2 : ((bs s).toList == [115, 101, 99, 116, 105, 111, 110]) = true := by rw [str_eq]; exact decide_eq_true h2
    clear h1 h2
    go_enter Tryz.func79, Tryz.ntmps79
    go_wp2_with fail
    go_ret
    exact ⟨by rw [HP.out]; rfl, HB.out⟩
  have q2 : ((bs s).toList == [115, 101, 99, 116, 105, 111, 110]) = false := by rw [str_eq]; exact decide_eq_false h2
  by_cases h3 : s = kJnt
  · have HP := Lib.hid (show placeF s = 4 by subst h3; decide)
    have q3 : ((bs s).toList == [106, 111, 105, 110, 116]) = true := by rw [str_eq]; exact decide_eq_true h3
    clear h1 h2 h3
    go_enter Tryz.func79, Tryz.ntmps79
    go_wp2_with fail
    go_ret
    exact ⟨by rw [HP.out]; rfl, HB.out⟩
  have q3 : ((bs s).toList == [106, 111, 105, 110, 116]) = false := by rw [str_eq]; exact decide_eq_false h3
  by_cases h4 : s = kSig
  · have HP := Lib.hid (show placeF s = 5 by subst h4; decide)
    have q4 : ((bs s).toList == [115, 105, 103, 110, 97, 108]) = true := by rw [str_eq]; exact decide_eq_true h4
    clear h1 h2 h3 h4
    go_enter Tryz.func79, Tryz.ntmps79
    go_wp2_with fail
    go_ret
    exact ⟨by rw [HP.out]; rfl, HB.out⟩
  have q4 : ((bs s).toList == [115, 105, 103, 110, 97, 108]) = false := by rw [str_eq]; exact decide_eq_false h4
  by_cases h5 : s = kBal
  · have HP := Lib.hid (show placeF s = 6 by subst h5; decide)
    have q5 : ((bs s).toList == [98, 97, 108, 105, 115, 101]) = true := by rw [str_eq]; exact decide_eq_true h5
    clear h1 h2 h3 h4 h5
    go_enter Tryz.func79, Tryz.ntmps79
    go_wp2_with fail
    go_ret
    exact ⟨by rw [HP.out]; rfl, HB.out⟩
  have q5 : ((bs s).toList == [98, 97, 108, 105, 115, 101]) = false := by rw [str_eq]; exact decide_eq_false h5
  have HC := Lib.hid (kinds_any w)
  have hlk := look_any s w.heap.size (w.alloc (.map kEs 3)) (heap_alloc_new _ _) true
  have HB2 := Lib.hid ((Below.refl w.heap.size w).alloc (Nat.le_refl _) (.map kEs 3))
  have hp : placeF s = if kindOf s = 0 then 0 else 3 := by
    unfold placeF rankL kindOf
    rw [if_neg h1, if_neg h2]
    by_cases e1 : s = kTrk
    · simp [e1]
    · by_cases e2 : s = kPts
      · simp [e2, show ¬ kPts = kTrk by decide]
      · by_cases e3 : s = kCrs
        · simp [e3, show ¬ kCrs = kTrk by decide, show ¬ kCrs = kPts by decide]
        · simp [e1, e2, e3, h3, h4, h5]
  have HP := Lib.hid hp
  obtain ⟨W, hW⟩ : ∃ W, w.alloc (.map kEs 3) = W := ⟨_, rfl⟩
  rw [hW] at HC hlk HB2
  clear h1 h2 h3 h4 h5 hp
  by_cases hk : kindOf s = 0
  · have hd : decide (kindOf s ≠ 0) = false := by simp [hk]
    rw [if_pos rfl, hd] at hlk
    have HK := Lib.hid hk
    clear hk hd hW
    obtain ⟨k, hkk⟩ : ∃ k, kindOf s = k := ⟨_, rfl⟩
    rw [hkk] at hlk HP HK
    clear hkk
    go_enter Tryz.func79, Tryz.ntmps79
    go_wp2_with fail
    refine HC.out.mono ?_
    rintro e w' ⟨rfl, rfl⟩
    go_wp2_with fail
    go_ret
    exact ⟨by rw [HP.out, if_pos HK.out]; rfl, HB2.out⟩
  · have hd : decide (kindOf s ≠ 0) = true := by simp [hk]
    rw [if_pos rfl, hd] at hlk
    have HK := Lib.hid hk
    clear hk hd hW
    obtain ⟨k, hkk⟩ : ∃ k, kindOf s = k := ⟨_, rfl⟩
    rw [hkk] at hlk HP HK
    clear hkk
    go_enter Tryz.func79, Tryz.ntmps79
    go_wp2_with fail
    refine HC.out.mono ?_
    rintro e w' ⟨rfl, rfl⟩
    go_wp2_with fail
    go_ret
    exact ⟨by rw [HP.out, if_neg HK.out]; rfl, HB2.out⟩

/-! The word of a kind: the map is met in any order. -/
theorem ent_kind {e : MapEntry} (h : e ∈ kEs.toList) : ∃ t k, e.key = .string (bs t) ∧ e.val = .int .i64 k ∧ wordOf k = t := by
  simp only [kEs, List.mem_cons, List.not_mem_nil, or_false] at h
  rcases h with rfl | rfl | rfl
  · exact ⟨kTrk, 1, rfl, rfl, rfl⟩
  · exact ⟨kPts, 2, rfl, rfl, rfl⟩
  · exact ⟨kCrs, 3, rfl, rfl, rfl⟩
theorem kes_stamped : MapKept.Stamped kEs 3 := by
  refine (MapKept.stamped_iff _ _).2 ⟨by decide, by decide, ?_⟩
  simp only [kEs, List.pairwise_cons, List.mem_cons, List.not_mem_nil, or_false, forall_eq_or_imp, forall_eq, Value.string.injEq, ne_eq, false_imp_iff, implies_true, List.Pairwise.nil, and_true]
  refine ⟨⟨fun h => ?_, fun h => ?_⟩, fun h => ?_⟩
  all_goals
    have := (MapKept.bytes_beq _ _).2 h
    rw [beq_bs] at this
    revert this
    decide
/-- No entry that was met has the kind k. -/
def Past (k : Int) (seen : Array Nat) : Prop := ∀ e ∈ kEs.toList, seen.contains e.born = true → e.val ≠ .int .i64 k
theorem past_end {k : Int} {seen : Array Nat} (h : Past k seen) (h0 : (leftOf kEs seen).size = 0) : wordOf k = [] := by
  have hall : ∀ e ∈ kEs.toList, seen.contains e.born = true := by
    intro e he
    have h1 : leftOf kEs seen = #[] := Array.eq_empty_of_size_eq_zero h0
    unfold leftOf at h1
    rw [Array.filter_eq_empty_iff] at h1
    have := h1 e (by simpa using he)
    simpa using this
  have n1 := h ⟨.string (bs kTrk), .int .i64 1, 0⟩ (by simp [kEs]) (hall _ (by simp [kEs]))
  have n2 := h ⟨.string (bs kPts), .int .i64 2, 1⟩ (by simp [kEs]) (hall _ (by simp [kEs]))
  have n3 := h ⟨.string (bs kCrs), .int .i64 3, 2⟩ (by simp [kEs]) (hall _ (by simp [kEs]))
  simp only [ne_eq, Value.int.injEq, true_and] at n1 n2 n3
  unfold wordOf
  rw [if_neg (fun e => n1 e.symm), if_neg (fun e => n2 e.symm), if_neg (fun e => n3 e.symm)]
theorem past_more {k : Int} {seen : Array Nat} {e : MapEntry} (h : Past k seen) (he : e ∈ kEs.toList) (hk : e.val ≠ .int .i64 k) : Past k (seen.push e.born) := by
  intro x hx hc
  by_cases hs : seen.contains x.born = true
  · exact h x hx hs
  · have hb : x.born = e.born := by
      simp only [Array.contains_eq_mem, Array.mem_push, decide_eq_true_eq] at hc hs
      rcases hc with hc | hc
      · exact absurd hc hs
      · exact hc
    have hxe : x = e := by
      simp only [kEs, List.mem_cons, List.not_mem_nil, or_false] at hx he
      rcases hx with rfl | rfl | rfl <;> rcases he with rfl | rfl | rfl <;> first | rfl | (simp at hb)
    rw [hxe]
    exact hk

theorem sb_below {B : Nat} {w wx w1 : World} {r : Nat} {o : Obj} (h : Below B w wx) (h1 : w1 = wx ∨ w1 = wx.drew) (hr : B ≤ r) : Below B w (ChangeMaps.setBlock w1 r o) := by
  have hb : Below B w w1 := by
    rcases h1 with rfl | rfl
    · exact h
    · exact h.drew
  refine ⟨hb.os, hb.tape, hb.output, ?_, fun j hj => ?_⟩
  · show _ ≤ (w1.heap.setIfInBounds r o).size
    rw [Array.size_setIfInBounds]
    exact hb.size
  · show (w1.heap.setIfInBounds r o)[j]? = _
    rw [Array.getElem?_setIfInBounds_ne (by omega)]
    exact hb.block j hj
theorem sb_at {wx w1 : World} {r : Nat} {o o' : Obj} (h : wx.heap[r]? = some o) (h1 : w1 = wx ∨ w1 = wx.drew) : (ChangeMaps.setBlock w1 r o').heap[r]? = some o' ∧ ∀ j, j ≠ r → (ChangeMaps.setBlock w1 r o').heap[j]? = wx.heap[j]? := by
  have hh : w1.heap = wx.heap := by rcases h1 with rfl | rfl <;> rfl
  have := MapKept.heap_set (w := w1) (o' := o') (by rw [hh]; exact h : w1.heap[r]? = some o)
  exact ⟨this.1, fun j hj => (this.2 j hj).trans (by rw [hh])⟩
theorem seen_of {w : World} {r : Nat} {a : Option Nat} {b c : Nat} {s : Array Nat} (h : w.heap[r]? = some (.mapIter a b s c)) : w.iterSeen r = s := by
  unfold World.iterSeen
  rw [h]
/-- What holds at the head of the loop. -/
def KRel (k : Int) (w : World) (b r : Nat) (s : Value) (wx : World) : Prop :=
  ∃ seen : Array Nat, wx.heap[r]? = some (.mapIter (some b) 3 seen 3) ∧ wx.heap[b]? = some (.map kEs 3) ∧ Below w.heap.size w wx ∧ s = .string ByteArray.empty ∧ Past k seen

set_option maxRecDepth 100000 in
theorem kword_any (k : Int) (w : World) : Calls Tryz.prog 93 #[.int .i64 k] w fun e w' => e = .returned (.string (bs (wordOf k))) ∧ Below w.heap.size w w' := by
  have HC := Lib.hid (kinds_any w)
  have hb : (w.alloc (.map kEs 3)).heap[w.heap.size]? = some (.map kEs 3) := heap_alloc_new _ _
  have HB := Lib.hid ((Below.refl w.heap.size w).alloc (Nat.le_refl _) (.map kEs 3))
  have hne : w.heap.size ≠ (w.alloc (.map kEs 3)).heap.size := by simp
  have hge : w.heap.size ≤ (w.alloc (.map kEs 3)).heap.size := by simp
  obtain ⟨W, hW⟩ : ∃ W, w.alloc (.map kEs 3) = W := ⟨_, rfl⟩
  rw [hW] at HC HB hb hne hge
  clear hW
  have hrg := run_range_map (P := Tryz.prog) W 116 9 3 w.heap.size kEs 3 Tryz.underlying116 hb
  have HI := Lib.hid (heap_alloc_new W (.mapIter (some w.heap.size) 3 #[] 3))
  have HM := Lib.hid ((heap_alloc_old W (.mapIter (some w.heap.size) 3 #[] 3) (Nat.lt_of_le_of_ne hge hne)).trans hb)
  have HB2 := Lib.hid (HB.out.alloc (Nat.le_trans (Nat.le_refl _) HB.out.size) (.mapIter (some w.heap.size) 3 #[] 3))
  have HNE := Lib.hid hne
  have HGE := Lib.hid hge
  obtain ⟨r, hr⟩ : ∃ r, W.heap.size = r := ⟨_, rfl⟩
  obtain ⟨W2, hW2⟩ : ∃ x, W.alloc (.mapIter (some w.heap.size) 3 #[] 3) = x := ⟨_, rfl⟩
  rw [hr] at hrg HI HNE HGE
  rw [hW2] at hrg HI HM HB2
  clear hb hne hge hr hW2
  go_enter Tryz.func93, Tryz.ntmps93
  go_wp2_with fail
  refine HC.out.mono ?_
  rintro e w' ⟨rfl, rfl⟩
  go_wp2_with fail
  go_loopw [2] (fun s wx => KRel k w w.heap.size r s wx) (fun _ wx => (leftOf kEs (wx.iterSeen r)).size)
  case atStart => exact ⟨#[], HI.out, HM.out, HB2.out, rfl, fun e _ hc => by simp at hc⟩
  case round =>
    obtain ⟨seen, h1, h2, h3, rfl, h5⟩ := hrel
    have H1 := Lib.hid h1
    have H2 := Lib.hid h2
    have H3 := Lib.hid h3
    have H5 := Lib.hid h5
    have hn := run_next_at (P := Tryz.prog) wr 0 r w.heap.size 3 3 seen kEs 3 h1 h2 kes_stamped.1 (Nat.le_refl _)
    clear h1 h2 h3 h5
    rcases hn with ⟨h0, hrun⟩ | ⟨e, he, w1, hw1, hrun⟩
    · have hnx : ∀ ty, (Instr.next (.pointer (some ⟨r, 0, none⟩)) false ty).run Tryz.prog wr = _ := fun _ => hrun
      have HE := Lib.hid (past_end H5.out h0)
      clear hrun h0
      go_wp2_with fail
      go_ret
      exact ⟨by rw [HE.out]; rfl, H3.out⟩
    · have hel := mem_left he
      obtain ⟨t, k', hk, hv, hwk⟩ := ent_kind hel.1
      rw [hk, hv] at hrun
      have hnx : ∀ ty, (Instr.next (.pointer (some ⟨r, 0, none⟩)) false ty).run Tryz.prog wr = _ := fun _ => hrun
      obtain ⟨b1, b2⟩ := sb_at (o' := .mapIter (some w.heap.size) 3 (seen.push e.born) 3) H1.out hw1
      have hen := run_entry_at (P := Tryz.prog) _ r w.heap.size 3 seen kEs 3 e b1 ((b2 _ HNE.out).trans H2.out) hel.1 kes_stamped.2.1
      rw [hk, hv] at hen
      have HB3 := Lib.hid (sb_below (o := .mapIter (some w.heap.size) 3 (seen.push e.born) 3) H3.out hw1 HGE.out)
      have HR1 := Lib.hid b1
      have HR2 := Lib.hid ((b2 _ HNE.out).trans H2.out)
      have HSH : Hid ((leftOf kEs (seen.push e.born)).size < (leftOf kEs seen).size) := left_shrinks kEs seen e he
      have HS1 := Lib.hid (seen_of b1)
      have HS0 := Lib.hid (seen_of H1.out)
      have HPM := Lib.hid (fun h => past_more H5.out hel.1 (show e.val ≠ .int .i64 k from h))
      rw [hv] at HPM
      have HWK := Lib.hid hwk
      obtain ⟨W4, hW4⟩ : ∃ x, ChangeMaps.setBlock w1 r (.mapIter (some w.heap.size) 3 (seen.push e.born) 3) = x := ⟨_, rfl⟩
      rw [hW4] at hen hnx HB3 HR1 HR2 HS1
      clear hrun b1 b2 hel hwk hw1 hW4 hk hv he
      by_cases hkk : k' = k
      · subst hkk
        go_wp2_with fail
        go_ret
        exact ⟨by rw [HWK.out]; rfl, HB3.out⟩
      · go_wp2_with fail
        go_roundw
        case rel => exact ⟨seen.push e.born, HR1.out, HR2.out, HB3.out, rfl, HPM.out (by simpa using hkk)⟩
        case measure => rw [HS1.out, HS0.out]; exact HSH.out

end Go.Proofs.YtfdipcphohhlgaaGreatDoor.Pkin

/- slices.Concat of texts. -/
namespace Go.Proofs.YtfdipcphohhlgaaGreatDoor.Pctn
open Go.RowKit Go.Lib Go.Proofs.YtfdipcphohhlgaaGreatDoor.Numt Go.Proofs.YtfdipcphohhlgaaGreatDoor.Reads Go.Proofs.YtfdipcphohhlgaaGreatDoor.Rows2 Go.Proofs.YtfdipcphohhlgaaGreatDoor.Lay Go.Proofs.YtfdipcphohhlgaaGreatDoor.Linw Go.Proofs.YtfdipcphohhlgaaGreatDoor.Ownl Go.Proofs.YtfdipcphohhlgaaGreatDoor.Owns Go.Proofs.YtfdipcphohhlgaaGreatDoor.Lnmd Go.Proofs.YtfdipcphohhlgaaGreatDoor.Rpla
open Go.Proofs.YtfdipcphohhlgaaGreatDoor.Text hiding lineL joinR

/-- The world with a new block. -/
def gw (w : World) (cs : Array Value) : World := w.drew.alloc (.cells cs 9)
theorem grow_run (n : Nat) (h1 : 1 ≤ n) (hn : n ≤ 100000) (w : World) : ∃ G cs, (∀ ty, (Builtin.append_ #[22, 3] ty #[.slice none 0 0, .int .i64 (n : Int)]).run Tryz.prog w = .ok (.slice (some ⟨w.heap.size, 0, none⟩) n G) (gw w cs)) ∧ n ≤ G ∧ G ≤ maxLen ∧ cs.size = G := by
  obtain ⟨i0, hi, hz0, hz1, hz2⟩ := info_parts infoS
  have h := fun ty => Lib.run_append_grow_zeros (P := Tryz.prog) w 22 3 ty 9 i0 _ .i64 .i64 Tryz.underlying22 Tryz.underlying3 hi hz0 none 0 0 [] (run_firstCells_none _ _ _ _ _) n (by omega) (by omega) (by omega) (by omega) (by rw [hz2]; omega) (growslice_fits (by omega) (by rw [hz2]; omega))
  simp only [Nat.zero_add] at h
  refine ⟨_, _, h, grownCap_ge _ _ _ _, grownCap_le_maxLen _ _ _ _ (by unfold maxLen; omega), ?_⟩
  have hg := grownCap_ge w n 0 9
  simp [Builtin.zeroCells, Value.cells]
  omega

/-- append of what is made, at the operation. -/
theorem step_make {P : Program} {ops : Array Oper} {rest : List Oper} {o : Oper} {a : Act} {w W : World} {Q : Exit → Act → World → Prop} (hg : o.guard = none) (s x : Operand) (t tn : TypeId) (hop : o.op = Op.call { callee := Callee.builtin Builtin.append, args := #[s, x], argTypes := #[t, tn] })
    {vs vx v : Value} (hs : a.eval s = vs) (hx : a.eval x = vx) (hr : ∀ ty, (Builtin.append_ #[t, tn] ty #[vs, vx]).run P w = .ok v W) (h : wpList P ops Q rest (a.put o.dst v) W) : wpList P ops Q (o :: rest) a w := by
  refine wpList_plain hg fun K' hK' => ?_
  unfold Oper.wp execOp
  simp only [hop, resolve, invoke, builtin, Sem.run_bind, Sem.run_pure, Result.andThen_ok, List.map_toArray, List.map_cons, List.map_nil, hs, hx, hr]
  exact hK' _ _ h

set_option maxRecDepth 100000 in
theorem grow_any (n : Nat) (h1 : 1 ≤ n) (hn : n ≤ 100000) (w : World) : Calls Tryz.prog 94 #[.slice none 0 0, .int .i64 (n : Int)] w fun e w' => ∃ v, e = .returned v ∧ (∃ a c, v = .slice a 0 c) ∧ w'.ownsRow w.heap.size 9 1 v 0 [] ∧ Below w.heap.size w w' := by
  obtain ⟨G, cs, hr, hG, hm, hcs⟩ := grow_run n h1 hn w
  have q1 : ¬ ((n : Int) < 0) := by omega
  have q2 : IntKind.i64.wrap (n : Int) = (n : Int) := by rw [IntKind.wrap_i64]; omega
  have q3 : (0 : Int) < (n : Int) := by omega
  have HW : Hid (∀ W, gw w cs = W → W.ownsRow w.heap.size 9 1 (.slice (some ⟨w.heap.size, 0, none⟩) 0 G) 0 [] ∧ Below w.heap.size w W) := by
    rintro W rfl
    refine ⟨⟨rfl, .inr ⟨w.heap.size, G, cs, rfl, Nat.le_refl _, heap_alloc_new w.drew _, Nat.zero_le _, hm, by omega, by simp⟩⟩, ?_⟩
    exact ((Below.refl w.heap.size w).drew).alloc (Nat.le_refl _) _
  obtain ⟨W, hW⟩ : ∃ W, gw w cs = W := ⟨_, rfl⟩
  obtain ⟨o1, o2⟩ := HW.out W hW
  simp only [hW] at hr
  have O1 := Lib.hid o1
  have O2 := Lib.hid o2
  have hG2 : (n : Int) ≤ (G : Int) := by omega
  have hG3 : (G : Int) ≤ 9223372036854775807 := by unfold maxLen at hm; omega
  have HR := Lib.hid hr
  clear o1 o2 hW hcs hm HW hr
  go_enter Tryz.func94, Tryz.ntmps94
  go_wp2_with (at_builtin; refine step_make rfl (.tmp 20) (.tmp 21) 22 3 rfl rfl rfl HR.out ?_)
  go_ret
  exact ⟨_, rfl, ⟨_, _, rfl⟩, O1.out, O2.out⟩

theorem flat_take {l : List (List UInt8)} {ls : List (List (List UInt8))} {j : Nat} (h : ls[j]? = some l) : (ls.take (j + 1)).flatten = (ls.take j).flatten ++ l := by
  obtain ⟨hj, rfl⟩ := List.getElem?_eq_some_iff.1 h
  rw [List.take_succ_eq_append_getElem hj, List.flatten_append, List.flatten_singleton]
theorem flat_le (ls : List (List (List UInt8))) (j : Nat) : (ls.take j).flatten.length ≤ ls.flatten.length := by
  have h : ls.flatten = (ls.take j).flatten ++ (ls.drop j).flatten := by rw [← List.flatten_append, List.take_append_drop]
  rw [h, List.length_append]
  exact Nat.le_add_right _ _

/-- The words of the first j. -/
def tot (ls : List (List (List UInt8))) (j : Nat) : Nat := (ls.take j).flatten.length
/-- What holds at the head of the loops. -/
def ZRel (ls : List (List (List UInt8))) (w : World) (vn vi : Value) (wr : World) : Prop := ∃ j : Nat, vi = .int .i64 (j : Int) ∧ j ≤ ls.length ∧ vn = .int .i64 (tot ls j : Int) ∧ w = wr
def YRel (ls : List (List (List UInt8))) (w : World) (vo vi : Value) (wr : World) : Prop := ∃ j : Nat, vi = .int .i64 (j : Int) ∧ j ≤ ls.length ∧ OwnS w.heap.size wr vo (ls.take j).flatten ∧ Below w.heap.size w wr

set_option maxRecDepth 100000 in
set_option maxHeartbeats 1600000 in
theorem concat_any {v : Value} {ls : List (List (List UInt8))} (w : World) (h : Lns (In w) w v ls) (hne : ∀ l ∈ ls, l ≠ []) (h1 : 1 ≤ ls.flatten.length) (hT : ls.flatten.length ≤ 1000) :
    Calls Tryz.prog 51 #[v] w (FreshOut ls.flatten w) := by
  obtain ⟨a, cap, rfl, hm, _, _, hsc⟩ := h.shape
  have HS := Lib.hid hsc
  have HG := Lib.hid (fun w' => grow_any (tot ls ls.length) (by unfold tot; rw [List.take_length]; exact h1) (by unfold tot; rw [List.take_length]; omega) w')
  have HT := Lib.hid hT
  have HNE := Lib.hid hne
  have HT2 := Lib.hid (show (ls.take ls.length).flatten = ls.flatten by rw [List.take_length])
  obtain ⟨N, hN⟩ : ∃ N, ls.length = N := ⟨_, rfl⟩
  rw [hN] at hm HG HT2
  have HN := Lib.hid hN
  obtain ⟨j0, hi, hz0, hz1, hz2⟩ := info_parts infoS
  have HJ := Lib.hid hi
  have HY0 := Lib.hid hz0
  have HY1 := Lib.hid hz1
  have HY2 := Lib.hid hz2
  rw [hN]
  clear hi hz0 hz1 hz2 h hsc hne h1 hT hN
  go_enter Tryz.func51, Tryz.ntmps51
  go_wp2_with fail
  go_loopw [3, 11] (fun vn vi wr => ZRel ls w vn vi wr) (fun _ vi _ => N - (RowKit.intOf vi).toNat)
  case atStart => exact ⟨0, rfl, Nat.zero_le _, rfl, rfl⟩
  case round =>
    obtain ⟨j, rfl, hj, rfl, rfl⟩ := hrel
    rw [HN.out] at hj
    by_cases hl : j < N
    · obtain ⟨l, hx⟩ := at_lt (l := ls) (k := j) (by rw [HN.out]; exact hl)
      obtain ⟨b, off, x, rfl, hb, hxc, hst⟩ := HS.out j l hx
      obtain ⟨xa, xc, rfl, hxn, _⟩ := hst.shape
      have hlt : (j : Int) < (N : Int) := by omega
      have hft := flat_take hx
      have hle := flat_le ls (j + 1)
      rw [hft, List.length_append] at hle
      have hTo := HT.out
      have hS : (ls.take j).flatten.length = tot ls j := rfl
      obtain ⟨M, hM⟩ : ∃ M, l.length = M := ⟨_, rfl⟩
      rw [hS, hM] at hle
      rw [hM] at hxc hxn
      have HFT : Hid (tot ls (j + 1) = tot ls j + M) := by
        show _ = _
        rw [tot, hft, List.length_append, hS, hM]
      obtain ⟨S, hS2⟩ : ∃ S, tot ls j = S := ⟨_, rfl⟩
      rw [hS2] at hle HFT
      rw [hS2]
      have hwr : IntKind.i64.wrap ((S : Int) + (M : Int)) = (S : Int) + (M : Int) := by rw [IntKind.wrap_i64]; omega
      have hnn : ¬ ((S : Int) + (M : Int) < 0) := by omega
      clear hx hst hft hle hTo hS hM hb hS2
      go_wp2_with fail
      go_roundw
      case rel => exact ⟨j + 1, by simp, by rw [HN.out]; omega, by rw [HFT.out]; simp, by first | rfl | trivial⟩
      case measure => simp [RowKit.intOf]; omega
    · obtain rfl : j = N := by omega
      obtain ⟨S, hS⟩ : ∃ S, tot ls j = S := ⟨_, rfl⟩
      rw [hS] at HG
      rw [hS]
      clear hS
      go_wp2_with fail
      refine (HG.out _).mono ?_
      rintro e w1 ⟨v1, rfl, ⟨va, vc, rfl⟩, o1, b1⟩
      have O1 := Lib.hid o1
      have B1 := Lib.hid b1
      clear o1 b1
      go_wp2_with fail
      go_loopw [6, 27] (fun vo vi wx => YRel ls w vo vi wx) (fun _ vi _ => j - (RowKit.intOf vi).toNat)
      case atStart => exact ⟨0, rfl, Nat.zero_le _, ⟨O1.out, fun s hs => by cases hs⟩, B1.out⟩
      case round =>
        obtain ⟨i, rfl, hi, ho, hb⟩ := hrel
        rw [HN.out] at hi
        have HO := Lib.hid ho
        have HB := Lib.hid hb
        clear ho hb hl hj
        obtain ⟨A1, C1, rfl⟩ := own_len HO.out.1
        by_cases hl : i < j
        · obtain ⟨l, hx⟩ := at_lt (l := ls) (k := i) (by rw [HN.out]; exact hl)
          obtain ⟨b, off, x, rfl, hbk, hxc, hst⟩ := HS.out i l hx
          have hne := HNE.out l (List.mem_of_getElem? hx)
          obtain ⟨xa, xc, rfl, hxn, _, _, hxs⟩ := hst.shape
          obtain ⟨s0, hs0⟩ := at_lt (List.length_pos_iff.2 hne)
          obtain ⟨_, b2, off2, rfl, hb2, _⟩ := hxs 0 s0 hs0
          have hft := flat_take hx
          have hle := flat_le ls (i + 1)
          rw [hft, List.length_append] at hle
          have hTo := HT.out
          have hxcell := (HB.out.cell (p := ⟨b, off + i, none⟩) hbk).trans hxc
          have HNW : Hid (∀ q u, (strV l)[q]? = some u → wr.cell? ((⟨b2, off2, none⟩ : Addr).add q) = some u) := by
            intro q u hu
            obtain ⟨s, hs, rfl⟩ : ∃ s, l[q]? = some s ∧ .string (bs s) = u := by simpa [strV] using hu
            obtain ⟨_, b', off', e', hb', hc⟩ := hxs q s hs
            cases e'
            rw [Lnam.add_mk]
            exact (HB.out.cell (p := ⟨b2, off2 + q, none⟩) hb').trans hc
          have HLW := Lib.hid hst.2
          have HSZ := Lib.hid (show (ls.take i).flatten.length + l.length ≤ 1000 by omega)
          have HFT := Lib.hid hft
          clear hx hst hft hle hTo hxs hs0 hne hb2 hbk hxc
          obtain ⟨M, hM⟩ : ∃ M, l.length = M := ⟨_, rfl⟩
          have HM := Lib.hid hM
          obtain ⟨S, hS⟩ : ∃ S, (ls.take i).flatten.length = S := ⟨_, rfl⟩
          have HSS := Lib.hid hS
          rw [hM] at hxcell hxn HSZ
          rw [hS] at HSZ
          have ho1 := HO.out.1
          rw [hS] at ho1
          have HO1 := Lib.hid ho1
          rw [hS]
          have hlt : (i : Int) < (j : Int) := by omega
          clear hM hS ho1
          go_wp2_with (at_builtin; refine wpList_append_own_at _ rfl (.tmp 31) (.tmp 32) 22 rfl w.heap.size 9 j0 (.string ByteArray.empty) 1 16 Tryz.underlying22 HJ.out HY0.out HY1.out HY2.out rfl (by decide) _ _ _ rfl HO1.out ⟨b2, off2, none⟩ M xc (strV l) rfl (by rw [strV_len, HM.out]; omega) HNW.out (Lnam.strV_one _) (by have := HSZ.out; unfold maxLen; omega) (by have := HSZ.out; omega) HB.out.size ?_; intro v1 w4 h1own hg1 _ _; have R1 := Lib.hid h1own; have R2 := Lib.hid hg1; clear h1own hg1)
          go_roundw
          case rel => exact ⟨i + 1, by simp, by rw [HN.out]; omega, ⟨by
            rw [HFT.out, List.length_append, HSS.out, HM.out, show strV ((ls.take i).flatten ++ l) = strV (ls.take i).flatten ++ strV l by simp [strV]]
            exact R1.out, fun s hs => by
            rw [HFT.out] at hs
            rcases List.mem_append.1 hs with hs | hs
            · exact HO.out.2 s hs
            · exact HLW.out s hs⟩, HB.out.grown R2.out HB.out.size (fun g hg => (HO1.out.lt g hg).1)⟩
          case measure => simp [RowKit.intOf]; omega
        · obtain rfl : i = j := by omega
          have ho1 := HO.out
          rw [HT2.out] at ho1
          rw [HT2.out]
          obtain ⟨S, hS⟩ : ∃ S, ls.flatten.length = S := ⟨_, rfl⟩
          have ho2 := ho1.1
          rw [hS] at ho2
          rw [hS]
          have HF := Lib.hid ho2
          have HF2 := Lib.hid ho1.2
          have HSE := Lib.hid hS
          clear HO ho1 ho2 hS
          go_wp2_with fail
          go_ret
          exact ⟨_, rfl, ⟨_, _, _, rfl⟩, ⟨row_own (by rw [strV_len, HSE.out]; exact HF.out) (fun g hg hlt => ⟨(HF.out.lt g hg).1, hlt⟩), HF2.out⟩, HB.out⟩

end Go.Proofs.YtfdipcphohhlgaaGreatDoor.Pctn

/- The program's words of an end, and the line of an element. -/
namespace Go.Proofs.YtfdipcphohhlgaaGreatDoor.Pend
open Go.RowKit Go.Lib Go.Proofs.YtfdipcphohhlgaaGreatDoor.Numt Go.Proofs.YtfdipcphohhlgaaGreatDoor.Reads Go.Proofs.YtfdipcphohhlgaaGreatDoor.Rows2 Go.Proofs.YtfdipcphohhlgaaGreatDoor.Lay Go.Proofs.YtfdipcphohhlgaaGreatDoor.Layf Go.Proofs.YtfdipcphohhlgaaGreatDoor.Ldup Go.Proofs.YtfdipcphohhlgaaGreatDoor.Lext Go.Proofs.YtfdipcphohhlgaaGreatDoor.Lnmd Go.Proofs.YtfdipcphohhlgaaGreatDoor.Plnf Go.Proofs.YtfdipcphohhlgaaGreatDoor.Plnb Go.Proofs.YtfdipcphohhlgaaGreatDoor.Ownl Go.Proofs.YtfdipcphohhlgaaGreatDoor.Owns Go.Proofs.YtfdipcphohhlgaaGreatDoor.Linw Go.Proofs.YtfdipcphohhlgaaGreatDoor.Fmtw Go.Proofs.YtfdipcphohhlgaaGreatDoor.Rpla Go.Proofs.YtfdipcphohhlgaaGreatDoor.Rpre Go.Proofs.YtfdipcphohhlgaaGreatDoor.Pkin Go.Proofs.YtfdipcphohhlgaaGreatDoor.Pctn
open Go.Proofs.YtfdipcphohhlgaaGreatDoor.Debw (Deb deb_next)
open Go.Proofs.YtfdipcphohhlgaaGreatDoor.Text hiding lineL joinR
set_option linter.unusedVariables false

theorem bel_drew {W W' : World} (h : Below W.drew.heap.size W.drew W') : Below W.heap.size W W' := ⟨h.os, h.tape, h.output, h.size, h.block⟩
theorem pair_short {a b : List UInt8} (ha : a.length ≤ maxLen) (hb : b.length ≤ maxLen) : ∀ s ∈ [a, b], s.length ≤ maxLen := by
  intro s hs
  simp only [List.mem_cons, List.not_mem_nil, or_false] at hs
  rcases hs with rfl | rfl
  · exact ha
  · exact hb
theorem cons_short {a : List UInt8} {l : List (List UInt8)} (ha : a.length ≤ maxLen) (hl : ∀ s ∈ l, s.length ≤ maxLen) : ∀ s ∈ a :: l, s.length ≤ maxLen := by
  intro s hs
  rcases List.mem_cons.1 hs with rfl | hs
  · exact ha
  · exact hl s hs
theorem itoa_max {n : Int} (h0 : -9223372036854775808 ≤ n) (h1 : n ≤ 9223372036854775807) : (itoa n).length ≤ maxLen := by
  have := itoa_length_le n h0 h1
  unfold maxLen
  omega
/-- A line that a call made last. -/
theorem fresh_from {w w5 : World} (ss : List (List UInt8)) {T : TypeId} {cs : Array Value} {n : Nat} (hb : Below w.heap.size w w5) (hcs : cs = (strV ss).toArray) (hn : n = ss.length) (hm : n ≤ maxLen) (hs : ∀ s ∈ ss, s.length ≤ maxLen) :
    FreshOut ss w (.returned (.slice (some ⟨w5.heap.size, 0, none⟩) n n)) (w5.alloc (.cells cs T)) :=
  ⟨_, rfl, ⟨_, _, _, rfl⟩, (fresh_line ss (T := T) hcs hn hm hs).keep fun b h => ⟨⟨Nat.le_trans hb.size h.1, h.2⟩, rfl⟩, hb.alloc hb.size _⟩

set_option maxRecDepth 100000 in
set_option maxHeartbeats 1600000 in
theorem endw_any (L : Lay) (i : Nat) (x : Elem) (sd : Int) {vs ve vj vg vb : Value} (w : World) (h : LayAt (In w) w L vs ve vj vg vb) (hd : Deb w) (hx : L.els[i]? = some x) (m0 : -9223372036854775808 ≤ sd) (m1 : sd ≤ 9223372036854775807) :
    Calls Tryz.prog 52 #[layV L vs ve vj vg vb, .agg #[.int .i64 (i : Int), .int .i64 sd]] w (FreshOut [x.name, itoa sd] w) := by
  obtain ⟨a, cap, rfl, hm, hel⟩ := h.el
  have qa := (Below.refl w.heap.size w).alloc (Nat.le_refl _) (.cells #[.string (bs L.name), vs, .slice a L.els.length cap, vj, vg, vb] 28)
  have qb := qa.alloc (by simp) (.cells #[.int .i64 (i : Int), .int .i64 sd] 47)
  obtain ⟨b, off, rfl, c0, _⟩ := hel w (Below.refl _ _) i x hx
  have hil := (List.getElem?_eq_some_iff.1 hx).1
  have hbl : b < w.heap.size := block_lt_of_cell c0
  have hlt : (i : Int) < (L.els.length : Int) := by omega
  have hnl := h.elName x (List.mem_of_getElem? hx)
  have hsh := pair_short hnl (itoa_max m0 m1)
  have HM := Lib.hid (fun w' (q : Below w.heap.size w w') => format_any sd w' m0 m1 (deb_next hd q))
  obtain ⟨nm, hnm⟩ : ∃ n, x.name = n := ⟨_, rfl⟩
  obtain ⟨t, ht⟩ : ∃ n, itoa sd = n := ⟨_, rfl⟩
  rw [hnm] at c0 hsh
  rw [ht] at hsh HM
  rw [hnm, ht]
  have HSH := Lib.hid hsh
  have HW3 : Hid (∀ W3, (w.alloc (.cells #[.string (bs L.name), vs, .slice (some ⟨b, off, none⟩) L.els.length cap, vj, vg, vb] 28)).alloc (.cells #[.int .i64 (i : Int), .int .i64 sd] 47) = W3 → Below w.heap.size w W3 ∧ ∀ w', Below W3.heap.size W3 w' → (w'.cell? ⟨w.heap.size, 2, none⟩ = some (.slice (some ⟨b, off, none⟩) L.els.length cap) ∧ w'.cell? ⟨w.heap.size + 1, 0, none⟩ = some (.int .i64 (i : Int)) ∧ w'.cell? ⟨w.heap.size + 1, 1, none⟩ = some (.int .i64 sd) ∧ w'.cell? ⟨b, off + i * 7, none⟩ = some (.string (bs nm)))) := by
    rintro W3 rfl
    refine ⟨qb, fun w' hb => ⟨(hb.cell (by simp; omega)).trans ?_, (hb.cell (by simp)).trans ?_, (hb.cell (by simp)).trans ?_, (hb.cell (by simp; omega)).trans ((qb.cell hbl).trans c0)⟩⟩
    all_goals simp [go_sem]
  unfold layV
  clear h hel hx qa qb c0 hnm ht hsh hnl hd
  go_enter Tryz.func52, Tryz.ntmps52
  go_wp2_with fail
  obtain ⟨W3, hW3⟩ : ∃ W3, (w.alloc (.cells #[.string (bs L.name), vs, .slice (some ⟨b, off, none⟩) L.els.length cap, vj, vg, vb] 28)).alloc (.cells #[.int .i64 (i : Int), .int .i64 sd] 47) = W3 := ⟨_, rfl⟩
  rw [hW3]
  obtain ⟨dw3, hk3⟩ := HW3.out W3 hW3
  have D3 := Lib.hid dw3
  have HK := Lib.hid hk3
  obtain ⟨y0, y1, y2, y3⟩ := hk3 W3 (Below.refl _ _)
  clear dw3 hk3 HW3 hW3
  go_region_held3 (fun w' => w'.cell? ⟨w.heap.size, 2, none⟩ = some (.slice (some ⟨b, off, none⟩) L.els.length cap) ∧ w'.cell? ⟨w.heap.size + 1, 0, none⟩ = some (.int .i64 (i : Int)) ∧ w'.cell? ⟨w.heap.size + 1, 1, none⟩ = some (.int .i64 sd) ∧ w'.cell? ⟨b, off + i * 7, none⟩ = some (.string (bs nm)))
    (first
      | with_reducible exact HK.out _ (bel_next E4.out (Below.alloc (Below.refl _ _) (Nat.le_refl _) _))
      | with_reducible exact HK.out _ E4.out
      | go_keep)
    (first
      | (go_at_call 53; (with_reducible refine (HM.out _ (D3.out.drew)).mono ?_); rintro e w4 ⟨rfl, b4⟩; have E4 := Lib.hid (bel_drew b4); clear b4))
  go_wp2_with fail
  go_ret
  exact fresh_from [nm, t] (bel_next D3.out E4.out) rfl rfl (by unfold maxLen; omega) HSH.out

theorem own_lit6 {w w6 : World} {cs : Array Value} (hb : Below w.heap.size w w6) (hc : cs.size = 6) : (w6.alloc (.cells cs 9)).ownsRow w.heap.size 9 1 (.slice (some ⟨w6.heap.size, 0, none⟩) 6 6) 6 cs.toList :=
  World.ownsRow_lit w6 cs 6 hb.size (by unfold maxLen; omega) (by omega)
/-- The first six words. -/
def six (L : Lay) (x : Elem) : List (List UInt8) := [wordOf x.kind, x.name, secName L x.sec, itoa x.len, itoa x.grade, itoa x.speed]
theorem six_el {L : Lay} {x : Elem} (h : x.kind = 1 ∨ x.kind = 2 ∨ x.kind = 3) : elL L x = if x.kind = 2 then six L x ++ [itoa x.slow] else six L x := by
  unfold elL six wordOf
  rcases h with h | h | h <;> simp [h]

set_option maxRecDepth 100000 in
set_option maxHeartbeats 3200000 in
theorem elline_any (L : Lay) (x : Elem) {vs ve vj vg vb : Value} (w : World) (h : LayAt (In w) w L vs ve vj vg vb) (hd : Deb w) (hg : Fine L) (hx : x ∈ L.els) :
    Calls Tryz.prog 50 #[layV L vs ve vj vg vb, elV x] w (FreshOut (elL L x) w) := by
  obtain ⟨i, s, hi, hs⟩ := hg.sec x hx
  obtain ⟨q1, q2, q3, q4, q5⟩ := hg.nums x hx
  rw [six_el (hg.kind x hx)]
  have hsn : secName L x.sec = s := by
    unfold secName
    rw [hi, Int.toNat_natCast, hs]
    rfl
  obtain ⟨a, cap, rfl, hm, hsc⟩ := h.sn
  obtain ⟨b, off, rfl, c0⟩ := hsc w (Below.refl _ _) i s hs
  have hil := (List.getElem?_eq_some_iff.1 hs).1
  have hbl : b < w.heap.size := block_lt_of_cell c0
  have hlt : (i : Int) < (L.secs.length : Int) := by omega
  have hnl := h.elName x hx
  have hsl := h.secs.2 s (List.mem_of_getElem? hs)
  have qa := (Below.refl w.heap.size w).alloc (Nat.le_refl _) (.cells #[.string (bs L.name), .slice (some ⟨b, off, none⟩) L.secs.length cap, ve, vj, vg, vb] 28)
  have qb := qa.alloc (by simp) (.cells #[.string (bs x.name), .int .i64 x.kind, .int .i64 x.len, .int .i64 x.grade, .int .i64 x.speed, .int .i64 x.slow, .int .i64 x.sec] 45)
  have HKW := Lib.hid (fun w' => kword_any x.kind w')
  have HM1 := Lib.hid (fun w' (q : Below w.heap.size w w') => format_any x.len w' (by omega) (by omega) (deb_next hd q))
  have HM2 := Lib.hid (fun w' (q : Below w.heap.size w w') => format_any x.grade w' (by omega) (by omega) (deb_next hd q))
  have HM3 := Lib.hid (fun w' (q : Below w.heap.size w w') => format_any x.speed w' (by omega) (by omega) (deb_next hd q))
  have HM4 := Lib.hid (fun w' (q : Below w.heap.size w w') => format_any x.slow w' (by omega) (by omega) (deb_next hd q))
  have hwl : (wordOf x.kind).length ≤ maxLen := by
    unfold wordOf
    repeat' split
    all_goals decide
  have hsh : ∀ y ∈ six L x, y.length ≤ maxLen := cons_short hwl (cons_short hnl (cons_short (by rw [hsn]; exact hsl) (cons_short (itoa_max (by omega) (by omega)) (pair_short (itoa_max (by omega) (by omega)) (itoa_max (by omega) (by omega))))))
  have hsh4 : (itoa x.slow).length ≤ maxLen := itoa_max (by omega) (by omega)
  unfold six at hsh ⊢
  rw [hsn] at hsh ⊢
  obtain ⟨nm, kd, ln, gr, sp, sl, sc⟩ := x
  simp only at hi HKW HM1 HM2 HM3 HM4 hsh hsh4 qb ⊢
  subst hi
  obtain ⟨t0, ht0⟩ : ∃ n, wordOf kd = n := ⟨_, rfl⟩
  obtain ⟨t1, ht1⟩ : ∃ n, itoa ln = n := ⟨_, rfl⟩
  obtain ⟨t2, ht2⟩ : ∃ n, itoa gr = n := ⟨_, rfl⟩
  obtain ⟨t3, ht3⟩ : ∃ n, itoa sp = n := ⟨_, rfl⟩
  obtain ⟨t4, ht4⟩ : ∃ n, itoa sl = n := ⟨_, rfl⟩
  rw [ht0] at HKW
  rw [ht1] at HM1
  rw [ht2] at HM2
  rw [ht3] at HM3
  rw [ht4] at HM4 hsh4
  rw [ht0, ht1, ht2, ht3] at hsh
  rw [ht0, ht1, ht2, ht3, ht4]
  have HSH := Lib.hid hsh
  have HSH4 := Lib.hid hsh4
  obtain ⟨R, hR⟩ : ∃ R, (if kd = 2 then [t0, nm, s, t1, t2, t3] ++ [t4] else [t0, nm, s, t1, t2, t3]) = R := ⟨_, rfl⟩
  rw [hR]
  have HR := Lib.hid hR
  clear hR
  have HW3 : Hid (∀ W3, (w.alloc (.cells #[.string (bs L.name), .slice (some ⟨b, off, none⟩) L.secs.length cap, ve, vj, vg, vb] 28)).alloc (.cells #[.string (bs nm), .int .i64 kd, .int .i64 ln, .int .i64 gr, .int .i64 sp, .int .i64 sl, .int .i64 (i : Int)] 45) = W3 → Below w.heap.size w W3 ∧ ∀ w', Below W3.heap.size W3 w' → (w'.cell? ⟨w.heap.size, 1, none⟩ = some (.slice (some ⟨b, off, none⟩) L.secs.length cap) ∧ w'.cell? ⟨w.heap.size + 1, 0, none⟩ = some (.string (bs nm)) ∧ w'.cell? ⟨w.heap.size + 1, 1, none⟩ = some (.int .i64 kd) ∧ w'.cell? ⟨w.heap.size + 1, 2, none⟩ = some (.int .i64 ln) ∧ w'.cell? ⟨w.heap.size + 1, 3, none⟩ = some (.int .i64 gr) ∧ w'.cell? ⟨w.heap.size + 1, 4, none⟩ = some (.int .i64 sp) ∧ w'.cell? ⟨w.heap.size + 1, 5, none⟩ = some (.int .i64 sl) ∧ w'.cell? ⟨w.heap.size + 1, 6, none⟩ = some (.int .i64 (i : Int)) ∧ w'.cell? ⟨b, off + i, none⟩ = some (.string (bs s)))) := by
    rintro W3 rfl
    refine ⟨qb, fun w' hb => ⟨(hb.cell (by simp; omega)).trans ?_, (hb.cell (by simp)).trans ?_, (hb.cell (by simp)).trans ?_, (hb.cell (by simp)).trans ?_, (hb.cell (by simp)).trans ?_, (hb.cell (by simp)).trans ?_, (hb.cell (by simp)).trans ?_, (hb.cell (by simp)).trans ?_, (hb.cell (by simp; omega)).trans ((qb.cell hbl).trans c0)⟩⟩
    all_goals simp [go_sem]
  unfold layV elV
  simp only
  clear h hsc hx hg hs qa qb c0 ht0 ht1 ht2 ht3 ht4 hsh hsh4 hnl hsl hd hsn hwl q1 q2 q3 q4 q5
  go_enter Tryz.func50, Tryz.ntmps50
  go_wp2_with fail
  obtain ⟨W3, hW3⟩ : ∃ W3, (w.alloc (.cells #[.string (bs L.name), .slice (some ⟨b, off, none⟩) L.secs.length cap, ve, vj, vg, vb] 28)).alloc (.cells #[.string (bs nm), .int .i64 kd, .int .i64 ln, .int .i64 gr, .int .i64 sp, .int .i64 sl, .int .i64 (i : Int)] 45) = W3 := ⟨_, rfl⟩
  rw [hW3]
  obtain ⟨dw3, hk3⟩ := HW3.out W3 hW3
  have D3 := Lib.hid dw3
  have HK := Lib.hid hk3
  obtain ⟨y0, y1, y2, y3, y4, y5, y6, y7, y8⟩ := hk3 W3 (Below.refl _ _)
  clear dw3 hk3 HW3 hW3
  go_region_held3 (fun w' => w'.cell? ⟨w.heap.size, 1, none⟩ = some (.slice (some ⟨b, off, none⟩) L.secs.length cap) ∧ w'.cell? ⟨w.heap.size + 1, 0, none⟩ = some (.string (bs nm)) ∧ w'.cell? ⟨w.heap.size + 1, 1, none⟩ = some (.int .i64 kd) ∧ w'.cell? ⟨w.heap.size + 1, 2, none⟩ = some (.int .i64 ln) ∧ w'.cell? ⟨w.heap.size + 1, 3, none⟩ = some (.int .i64 gr) ∧ w'.cell? ⟨w.heap.size + 1, 4, none⟩ = some (.int .i64 sp) ∧ w'.cell? ⟨w.heap.size + 1, 5, none⟩ = some (.int .i64 sl) ∧ w'.cell? ⟨w.heap.size + 1, 6, none⟩ = some (.int .i64 (i : Int)) ∧ w'.cell? ⟨b, off + i, none⟩ = some (.string (bs s)))
    (first
      | with_reducible exact HK.out _ (bel_next E4.out (Below.alloc (Below.refl _ _) (Nat.le_refl _) _))
      | with_reducible exact HK.out _ E4.out
      | with_reducible exact HK.out _ E3.out
      | with_reducible exact HK.out _ E2.out
      | with_reducible exact HK.out _ E1.out
      | go_keep)
    (first
      | (go_at_call 93; (with_reducible refine (HKW.out _).mono ?_); rintro e w4 ⟨rfl, b4⟩; have E1 := Lib.hid (bel_drew b4); clear b4)
      | (go_at_call 53; (with_reducible refine (HM1.out _ (bel_next D3.out E1.out)).mono ?_); rintro e w5 ⟨rfl, b4⟩; have E2 := Lib.hid (bel_next E1.out b4); clear b4)
      | (go_at_call 53; (with_reducible refine (HM2.out _ (bel_next D3.out E2.out)).mono ?_); rintro e w6 ⟨rfl, b4⟩; have E3 := Lib.hid (bel_next E2.out b4); clear b4)
      | (go_at_call 53; (with_reducible refine (HM3.out _ (bel_next D3.out E3.out)).mono ?_); rintro e w7 ⟨rfl, b4⟩; have E4 := Lib.hid (bel_next E3.out b4); clear b4))
  have HNW : Hid (∀ W4, w7.alloc (.cells #[.string (bs t0), .string (bs nm), .string (bs s), .string (bs t1), .string (bs t2), .string (bs t3)] 9) = W4 → Below w.heap.size w W4 ∧ FreshOut [t0, nm, s, t1, t2, t3] w (.returned (.slice (some ⟨w7.heap.size, 0, none⟩) 6 6)) W4 ∧ W4.ownsRow w.heap.size 9 1 (.slice (some ⟨w7.heap.size, 0, none⟩) 6 6) 6 (strV [t0, nm, s, t1, t2, t3])) := by
    rintro W4 rfl
    have k := bel_next D3.out E4.out
    exact ⟨k.alloc k.size _, fresh_from [t0, nm, s, t1, t2, t3] k rfl rfl (by unfold maxLen; omega) HSH.out, own_lit6 k rfl⟩
  obtain ⟨W4, hW4⟩ : ∃ W4, w7.alloc (.cells #[.string (bs t0), .string (bs nm), .string (bs s), .string (bs t1), .string (bs t2), .string (bs t3)] 9) = W4 := ⟨_, rfl⟩
  obtain ⟨n1, n2, n3⟩ := HNW.out W4 hW4
  have N1 := Lib.hid n1
  have N2 := Lib.hid n2
  have N3 := Lib.hid n3
  clear n1 n2 n3 HNW
  obtain ⟨z0, z1, z2, z3, z4, z5, z6, z7, z8⟩ := HK.out W4 (by rw [← hW4]; exact bel_next E4.out (Below.alloc (Below.refl _ _) (Nat.le_refl _) _))
  clear y0 y1 y2 y3 y4 y5 y6 y7 y8
  by_cases hk : kd = 2
  · subst hk
    rw [if_pos rfl] at HR
    obtain ⟨j0, hi, hz0, hz1, hz2⟩ := info_parts infoS
    have HJ := Lib.hid hi
    have HY0 := Lib.hid hz0
    have HY1 := Lib.hid hz1
    have HY2 := Lib.hid hz2
    clear hi hz0 hz1 hz2
    go_wp2_with fail
    clear hW4
    refine (HM4.out _ N1.out).mono ?_
    rintro e w8 ⟨rfl, b8⟩
    have B8 := Lib.hid (bel_next N1.out b8)
    have O8 := Lib.hid (N3.out.kept (grown_of_below b8 none) (.inr (by simp [Value.ownBlock])))
    clear b8
    go_wp2_with (at_builtin; refine wpList_append_own_at _ rfl (.tmp 30) (.tmp 34) 22 rfl w.heap.size 9 j0 (.string ByteArray.empty) 1 16 Tryz.underlying22 HJ.out HY0.out HY1.out HY2.out rfl (by decide) _ _ _ rfl (O8.out.alloc _) ⟨w8.heap.size, 0, none⟩ 1 1 [.string (bs t4)] rfl rfl (by simpa using cell_one_new w8 (.string (bs t4)) 9) (by intro u hu; simp at hu; subst hu; rfl) (by unfold maxLen; omega) (by omega) (by have := B8.out.size; simp; omega) ?_; intro v1 w9 h1own hg1 _ _; have R1 := Lib.hid h1own; have R2 := Lib.hid hg1; clear h1own hg1)
    obtain ⟨A1, C1, rfl⟩ := own_len R1.out
    go_wp2_with fail
    go_ret
    rw [← HR.out]
    refine ⟨_, rfl, ⟨_, _, _, rfl⟩, ⟨row_own (by exact R1.out) (fun g hg hlt => ⟨(R1.out.lt g hg).1, hlt⟩), ?_⟩, grown_end B8.out (fun g hg => (O8.out.lt g hg).1) R2.out⟩
    intro y hy
    rcases List.mem_append.1 hy with hy | hy
    · exact HSH.out y hy
    · rw [List.mem_singleton.1 hy]; exact HSH4.out
  · rw [if_neg hk] at HR
    have hk2 : (kd == 2) = false := by simpa using hk
    clear hk
    go_wp2_with fail
    go_ret
    rw [← HR.out]
    exact N2.out

end Go.Proofs.YtfdipcphohhlgaaGreatDoor.Pend

/- Lines put behind lines by the program: what its linesOf wants. -/
namespace Go.Proofs.YtfdipcphohhlgaaGreatDoor.Plia
open Go.RowKit Go.Lib Go.Proofs.YtfdipcphohhlgaaGreatDoor.Numt Go.Proofs.YtfdipcphohhlgaaGreatDoor.Reads Go.Proofs.YtfdipcphohhlgaaGreatDoor.Rows2 Go.Proofs.YtfdipcphohhlgaaGreatDoor.Lay Go.Proofs.YtfdipcphohhlgaaGreatDoor.Layf Go.Proofs.YtfdipcphohhlgaaGreatDoor.Ldup Go.Proofs.YtfdipcphohhlgaaGreatDoor.Lext Go.Proofs.YtfdipcphohhlgaaGreatDoor.Lnmd Go.Proofs.YtfdipcphohhlgaaGreatDoor.Plnf Go.Proofs.YtfdipcphohhlgaaGreatDoor.Plnb Go.Proofs.YtfdipcphohhlgaaGreatDoor.Plnc Go.Proofs.YtfdipcphohhlgaaGreatDoor.Ownl Go.Proofs.YtfdipcphohhlgaaGreatDoor.Owns Go.Proofs.YtfdipcphohhlgaaGreatDoor.Linw Go.Proofs.YtfdipcphohhlgaaGreatDoor.Fmtw Go.Proofs.YtfdipcphohhlgaaGreatDoor.Rpla Go.Proofs.YtfdipcphohhlgaaGreatDoor.Rpre Go.Proofs.YtfdipcphohhlgaaGreatDoor.Pctn Go.Proofs.YtfdipcphohhlgaaGreatDoor.Pend
open Go.Proofs.YtfdipcphohhlgaaGreatDoor.Debw (Deb deb_next)
open Go.Proofs.YtfdipcphohhlgaaGreatDoor.Text hiding lineL joinR
set_option linter.unusedVariables false

/-- A line behind the others, in a region that draws its order. -/
theorem step_line {P : Program} {ops : Array Oper} {o : Oper} {a : Act} {wr : World} {K : Act → World → Prop} {Q : Exit → Act → World → Prop} {E : Prop}
    (hg : o.guard = none) (s x : Operand) (t : TypeId) (hop : o.op = Op.call { callee := Callee.builtin Builtin.append, args := #[s, x], argTypes := #[t, t] })
    (W : World) (i : TypeInfo) (ht : P.underlying t = some (.slice 22)) (hi : P.info? 22 = some i) (hz : i.zero = some (.slice none 0 0)) (hsize : i.size = 1) (hby : i.bytes = 24)
    {v xv : Value} {ls : List (List (List UInt8))} {l : List (List UInt8)} {T : TypeId} {g : Nat} (hs : a.eval s = v) (hx : a.eval x = .slice (some ⟨g, 0, none⟩) 1 1) (hgs : g = wr.heap.size) (hx1 : xv.oneCell' = true)
    (ho : OwnL W.heap.size wr v ls none) (hl : Strs (fun b => b < wr.heap.size ∧ some b ≠ v.ownBlock) wr xv l) (hb : Below W.heap.size W wr) (hn : ls.length ≤ 200000)
    (h : ∀ v' w', OwnL W.heap.size w' v' (ls ++ [l]) none → Below W.heap.size W w' → Off v wr w' → K (a.put o.dst v') w') :
    if Region.wanted o (yielded ops a.tmps) = true then Oper.wp P o a (wr.alloc (.cells #[xv] T)) K Q else E := by
  subst hgs
  have hw : Region.wanted o (yielded ops a.tmps) = true := by simp [Region.wanted, hg]
  rw [if_pos hw]
  have hlt := own_lt ho
  obtain ⟨xs, h1, h2, h3⟩ := ho
  obtain ⟨v', w', hr, q2, q3, _, q5⟩ := run_append_own_at (P := P) (wr.alloc (.cells #[xv] T)) W.heap.size t o.type 22 i (.slice none 0 0) 1 24 ht hi hz hsize hby rfl (by decide) v ls.length xs (h1.alloc _) ⟨wr.heap.size, 0, none⟩ 1 1 [xv] rfl (cell_one_new _ _ _) (by intro u hu; simp at hu; subst hu; exact hx1) (by unfold maxLen; omega) (by omega) (by have := hb.size; simp; omega)
  have hq := ownL_push hl q2 h3 q3 q5
  have hbe := grown_end hb (fun g hg => (hlt g hg).1) q3
  unfold Oper.wp execOp
  simp only [hop, resolve, invoke, builtin, Sem.run_bind, Sem.run_pure, Result.andThen_ok, List.map_toArray, List.map_cons, List.map_nil, hs, hx, hr]
  refine h v' w' hq hbe fun k hk hne => ?_
  rw [q3.block k (by simp; omega) hne]
  exact ((Below.refl _ wr).alloc (Nat.le_refl _) (.cells #[xv] T)).block k hk

theorem FreshOut.strs {ss : List (List UInt8)} {w w' : World} {v : Value} (h : Strs (fun b => w.heap.size ≤ b ∧ b < w'.heap.size) w' v ss) : Strs (In w') w' v ss := h.keep fun b hb => ⟨hb.2, rfl⟩
theorem strs_next {ss : List (List UInt8)} {w w' : World} {v : Value} (h : Strs (In w) w v ss) (hb : Below w.heap.size w w') : Strs (In w') w' v ss := h.keep (keep_next hb)
theorem from_low {W3 wz w6 : World} {v : Value} {ss : List (List UInt8)} (k : Below W3.heap.size W3 wz) (h : Strs (fun b => wz.heap.size ≤ b ∧ b < w6.heap.size) w6 v ss) : Strs (fun b => W3.heap.size ≤ b ∧ b < w6.heap.size) w6 v ss := h.keep fun b hb => ⟨⟨Nat.le_trans k.size hb.1, hb.2⟩, rfl⟩
theorem strs_drew {ss : List (List UInt8)} {w : World} {v : Value} (h : Strs (In w) w v ss) : Strs (In w.drew) w.drew v ss := h
/-- A line that a region makes. -/
theorem strs_made (w : World) (ss : List (List UInt8)) {cs : Array Value} {T : TypeId} (n : Nat) (hcs : cs = (strV ss).toArray) (hn : n = ss.length) (hm : n ≤ maxLen) (hs : ∀ s ∈ ss, s.length ≤ maxLen) : Strs (In (w.alloc (.cells cs T))) (w.alloc (.cells cs T)) (.slice (some ⟨w.heap.size, 0, none⟩) n n) ss :=
  (fresh_line ss (T := T) hcs hn hm hs).keep fun b h => ⟨h.2, rfl⟩
/-- Three lists joined. -/
theorem three_any (w : World) {va vb vc : Value} {la lb lc : List (List UInt8)} {T : TypeId} (ha : Strs (In w) w va la) (hb : Strs (In w) w vb lb) (hc : Strs (In w) w vc lc) (na : la ≠ []) (nb : lb ≠ []) (nc : lc ≠ []) (hT : la.length + lb.length + lc.length ≤ 100) :
    Calls Tryz.prog 51 #[.slice (some ⟨w.heap.size, 0, none⟩) 3 3] (w.alloc (.cells #[va, vb, vc] T)) (FreshOut (la ++ (lb ++ lc)) (w.alloc (.cells #[va, vb, vc] T))) := by
  have hal := (Below.refl w.heap.size w).alloc (Nat.le_refl _) (.cells #[va, vb, vc] T)
  have hl : Lns (In (w.alloc (.cells #[va, vb, vc] T))) (w.alloc (.cells #[va, vb, vc] T)) (.slice (some ⟨w.heap.size, 0, none⟩) 3 3) [la, lb, lc] := by
    refine ⟨[va, vb, vc], row_fresh [va, vb, vc] rfl rfl (by unfold maxLen; omega), rfl, fun j x l hx hl => ?_⟩
    have hj : j = 0 ∨ j = 1 ∨ j = 2 := by
      have := (List.getElem?_eq_some_iff.1 hx).1
      simp at this
      omega
    rcases hj with rfl | rfl | rfl
    · simp at hx hl; subst hx hl; exact strs_next ha hal
    · simp at hx hl; subst hx hl; exact strs_next hb hal
    · simp at hx hl; subst hx hl; exact strs_next hc hal
  have hf : [la, lb, lc].flatten = la ++ (lb ++ lc) := by simp
  have hpos := List.length_pos_iff.2 na
  have hk := concat_any (w.alloc (.cells #[va, vb, vc] T)) hl (by
    intro l hl
    simp only [List.mem_cons, List.not_mem_nil, or_false] at hl
    rcases hl with rfl | rfl | rfl
    · exact na
    · exact nb
    · exact nc) (by rw [hf]; simp only [List.length_append]; omega) (by rw [hf]; simp only [List.length_append]; omega)
  rwa [hf] at hk

theorem three_at (w : World) (q : Nat) (hq : w.heap.size = q) {va vb vc : Value} {la lb lc : List (List UInt8)} {T : TypeId} (ha : Strs (In w) w va la) (hb : Strs (In w) w vb lb) (hc : Strs (In w) w vc lc) (na : la ≠ []) (nb : lb ≠ []) (nc : lc ≠ []) (hT : la.length + lb.length + lc.length ≤ 100) :
    Calls Tryz.prog 51 #[.slice (some ⟨q, 0, none⟩) 3 3] (w.alloc (.cells #[va, vb, vc] T)) (FreshOut (la ++ (lb ++ lc)) (w.alloc (.cells #[va, vb, vc] T))) := by
  subst hq
  exact three_any w ha hb hc na nb nc hT
theorem strs_at (w : World) (q : Nat) (hq : w.heap.size = q) (ss : List (List UInt8)) {cs : Array Value} {T : TypeId} (n : Nat) (hcs : cs = (strV ss).toArray) (hn : n = ss.length) (hm : n ≤ maxLen) (hs : ∀ s ∈ ss, s.length ≤ maxLen) : Strs (In (w.alloc (.cells cs T))) (w.alloc (.cells cs T)) (.slice (some ⟨q, 0, none⟩) n n) ss := by
  subst hq
  exact strs_made w ss n hcs hn hm hs

end Go.Proofs.YtfdipcphohhlgaaGreatDoor.Plia
