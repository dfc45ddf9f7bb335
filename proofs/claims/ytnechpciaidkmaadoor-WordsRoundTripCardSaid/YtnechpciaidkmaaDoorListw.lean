/- List: words' and the reference's. -/
import Derived.Test.YtnechpciaidkmaaDoorRlinw
import Derived.Test.YtnechpciaidkmaaDoorIntw
namespace Go.Proofs.YtnechpciaidkmaaDoor.Listw
open Go.RowKit Go.Lib Go.Proofs.YtnechpciaidkmaaDoor.Text Go.Proofs.YtnechpciaidkmaaDoor.Numt Go.Proofs.YtnechpciaidkmaaDoor.Kind Go.Proofs.YtnechpciaidkmaaDoor.Word Go.Proofs.YtnechpciaidkmaaDoor.Rword Go.Proofs.YtnechpciaidkmaaDoor.Reads Go.Proofs.YtnechpciaidkmaaDoor.Rows2 Go.Proofs.YtnechpciaidkmaaDoor.Samew Go.Proofs.YtnechpciaidkmaaDoor.Debw Go.Proofs.YtnechpciaidkmaaDoor.Ownl Go.Proofs.YtnechpciaidkmaaDoor.Linw Go.Proofs.YtnechpciaidkmaaDoor.Rlinw Go.Proofs.YtnechpciaidkmaaDoor.Intw

/-- What a call of List gives. -/
def ListOut (r : List Int × Nat) (w : World) (e : Ending) (w' : World) : Prop :=
  ∃ v, e = .returned (.tuple #[v, .int .i64 (r.2 : Int)]) ∧ Reads w'.heap.size w' v r.1 ∧ Below w.heap.size w w'
theorem list_bad {r : List Int × Nat} {e : Nat} {w w' : World} {x : Ending} (h : r = ([], e)) (hx : x = .returned (.tuple #[.slice none 0 0, .int .i64 (e : Int)])) (hb : Below w.heap.size w w') : ListOut r w x w' := by
  subst h hx
  exact ⟨_, rfl, reads_nil _ _, hb⟩
theorem list_ok {r : List Int × Nat} {acc : List Int} {v : Value} {w w' : World} {x : Ending} (h : r = (acc, 0)) (hx : x = .returned (.tuple #[v, .int .i64 0])) (hr : Reads w'.heap.size w' v acc) (hb : Below w.heap.size w w') : ListOut r w x w' := by
  subst h hx
  exact ⟨_, rfl, hr, hb⟩

theorem int_wf (p : (List UInt8)) : (Lit.int .i64 (intR p).1).wf = true := by
  have := intR_range p
  exact WalkArith.wf_i64 (by omega)
/-- A number more. -/
theorem own_int {B : Nat} {w wr w1 : World} {vl v1 : Value} {acc : List Int} {n : Int} {T : TypeId} (ho : wr.ownsRow B 3 1 vl acc.length (acc.map (Value.int .i64))) (hw : ∀ x ∈ acc, (Lit.int .i64 x).wf = true) (hn : (Lit.int .i64 n).wf = true) (hB : B = w.heap.size) (hb : Below B w wr)
    (h1 : w1.ownsRow B 3 1 v1 (acc.length + 1) (acc.map (Value.int .i64) ++ [.int .i64 n])) (hg : (wr.alloc (.cells #[.int .i64 n] T)).grownBy w1 vl.ownBlock) :
    w1.ownsRow B 3 1 v1 (acc ++ [n]).length ((acc ++ [n]).map (Value.int .i64)) ∧ (∀ x ∈ acc ++ [n], (Lit.int .i64 x).wf = true) ∧ Below B w w1 := by
  subst hB
  refine ⟨by simpa using h1, fun x hx => ?_, grown_end hb (fun g hg => (ho.lt g hg).1) hg⟩
  rcases List.mem_append.1 hx with hx | hx
  · exact hw x hx
  · rw [List.mem_singleton.1 hx]; exact hn

set_option maxRecDepth 100000 in
set_option maxHeartbeats 1600000 in
theorem list_any (s : ByteArray) (w : World) (hs : s.size ≤ 100000) (hdeb : Deb w) :
    Calls Tryd.prog 24 #[.string s] w (ListOut (listR s.data.toList) w) := by
  have hsz : s.size = s.data.toList.length := Lib.size_eq s
  by_cases h45 : s.data.toList = [45]
  · have HR := Lib.hid (show listR s.data.toList = ([], 0) by rw [listR, if_pos h45])
    have hq : (s.toList == [45]) = true := by rw [ByteArray.toList_eq]; simpa using h45
    clear h45
    go_enter Tryd.func24, Tryd.ntmps24
    go_wp2_with fail
    go_ret2
    exact list_bad HR.out rfl (Below.refl _ _)
  · have hR : listR s.data.toList = seqI [] (parts 44 [] s.data.toList) := by rw [listR, if_neg h45]
    have hq : (s.toList == [45]) = false := by rw [ByteArray.toList_eq]; simpa using h45
    obtain ⟨R, hRR⟩ : ∃ R, listR s.data.toList = R := ⟨_, rfl⟩
    rw [hRR] at hR ⊢
    have HSp := Lib.hid (split_any 44 s.data.toList w (by omega) hdeb)
    rw [bs_of] at HSp
    have hplen := parts_length 44 s.data.toList []
    have HPM := Lib.hid (parts_mem 44 s.data.toList [])
    unfold SplitOut at HSp
    obtain ⟨ps, hps⟩ : ∃ ps, parts 44 [] s.data.toList = ps := ⟨_, rfl⟩
    rw [hps] at hR HSp HPM hplen
    have HR := Lib.hid hR.symm
    have HD := Lib.hid hdeb
    obtain ⟨i0, hi, hz0, hz1, hz2⟩ := info_parts infoI
    have HI0 := Lib.hid hi
    have HZ0 := Lib.hid hz0
    have HZ1 := Lib.hid hz1
    have HZ2 := Lib.hid hz2
    clear hi hz0 hz1 hz2 hR hRR h45 hdeb hps
    go_enter Tryd.func24, Tryd.ntmps24
    go_wp2_with fail
    refine HSp.out.mono ?_
    rintro e w2 ⟨v, rfl, hv, hb2⟩
    obtain ⟨av, cv, rfl, hm, _, _, hc⟩ := hv.shape
    have HC := Lib.hid hc
    have HB2 := Lib.hid hb2
    have HD2 := Lib.hid (deb_next HD.out hb2)
    clear hv hb2 hc
    go_wp2_with fail
    go_loopw [4, 14] (fun vl vi wr => ∃ (k : Nat) (acc : List Int), vi = .int .i64 k ∧ k ≤ ps.length ∧ acc.length ≤ k ∧ seqI acc (ps.drop k) = R ∧ (∀ x ∈ acc, (Lit.int .i64 x).wf = true) ∧ wr.ownsRow w2.heap.size 3 1 vl acc.length (acc.map (Value.int .i64)) ∧ Below w2.heap.size w2 wr) (fun _ vi _ => ps.length - (RowKit.intOf vi).toNat)
    case atStart => exact ⟨0, [], rfl, Nat.zero_le _, Nat.le_refl _, HR.out, by simp, World.ownsRow_nil _ _ _ _, Below.refl _ _⟩
    case round =>
      obtain ⟨k, acc, rfl, hk, hal, hr, hw, ho, hb⟩ := hrel
      obtain ⟨al, cl, rfl⟩ := own_shape ho
      have HRR := Lib.hid hr
      have HW := Lib.hid hw
      have HO := Lib.hid ho
      have HB := Lib.hid hb
      have hsz2 : w2.heap.size ≤ wr.heap.size := hb.size
      clear hr hw ho hb
      by_cases hlt : k < ps.length
      · obtain ⟨p, hp⟩ := at_lt hlt
        obtain ⟨_, b, off, rfl, hb, hcell⟩ := HC.out k p hp
        have g1 : wr.cell? ⟨b, off + k, none⟩ = some (.string (bs p)) := (HB.out.cell hb.2).trans hcell
        have hpl : p.length ≤ 100000 := by
          have := HPM.out p (List.mem_of_getElem? hp)
          simp at this
          omega
        have HI := Lib.hid (int_any (bs p) wr hpl (deb_next HD2.out HB.out))
        rw [bs_list] at HI
        rw [drop_cons hp] at HRR
        obtain ⟨⟨n, e⟩, hpe⟩ : ∃ r, intR p = r := ⟨_, rfl⟩
        rw [intV_of hpe] at HI
        clear hp hcell hb
        by_cases he : e = 0
        · subst he
          rw [seqI_more hpe] at HRR
          have HN := Lib.hid (show (Lit.int .i64 n).wf = true by have := int_wf p; rwa [hpe] at this)
          clear hpe
          go_wp2_with fail
          refine HI.out.mono ?_
          rintro e w3 ⟨rfl, hb3⟩
          have HB3 := Lib.hid (HB.out.trans (hb3.mono hsz2))
          have HO3 := Lib.hid (HO.out.kept (grown_of_below hb3 none) (by cases hv : (Value.slice al acc.length cl).ownBlock <;> simp))
          clear hb3
          go_wp2_with (at_builtin; refine wpList_append_own_at _ rfl (.tmp 26) (.tmp 28) 39 rfl w2.heap.size 3 i0 (.int .i64 0) 1 8 Tryd.underlying39 HI0.out HZ0.out HZ1.out HZ2.out rfl (by decide) _ _ _ rfl (HO3.out.alloc _) ⟨w3.heap.size, 0, none⟩ 1 1 [.int .i64 n] rfl rfl (cell_one_new _ _ _) (by intro u hu; simp at hu; subst hu; rfl) (by unfold maxLen; omega) (by omega) (by have := HB3.out.size; simp; omega) ?_; intro v1 w4 h1own hg1 _ _; have R1 := Lib.hid h1own; have R2 := Lib.hid hg1; clear h1own hg1)
          go_roundw
          case rel => exact ⟨k + 1, acc ++ [n], by simp, by omega, by simp; omega, HRR.out, (own_int HO3.out HW.out HN.out rfl HB3.out R1.out R2.out).2.1, (own_int HO3.out HW.out HN.out rfl HB3.out R1.out R2.out).1, (own_int HO3.out HW.out HN.out rfl HB3.out R1.out R2.out).2.2⟩
          case measure => simp [RowKit.intOf]; omega
        · rw [seqI_bad hpe he] at HRR
          have hne : ((e : Int) != 0) = true := by simp; omega
          have HE := Lib.hid HRR.out.symm
          clear hpe he
          go_wp2_with fail
          refine HI.out.mono ?_
          rintro e w3 ⟨rfl, hb3⟩
          have HB3 := Lib.hid (bel_next HB2.out (HB.out.trans (hb3.mono hsz2)))
          clear hb3
          go_wp2_with fail
          go_ret2
          exact list_bad HE.out rfl HB3.out
      · have HE := Lib.hid (show R = (acc, 0) by rw [← HRR.out, List.drop_eq_nil_of_le (by omega)]; rfl)
        have hxl : (acc.map (Value.int .i64)).length = acc.length := by simp
        go_wp2_with fail
        go_ret2
        exact list_ok HE.out rfl (reads_own HO.out HW.out (Nat.le_refl _)) (bel_next HB2.out HB.out)

/-- What holds at the head of the reference's loop. -/
def GRel (R : List Int × Nat) (s : ByteArray) (w : World) (vl vf vi : Value) (wr : World) : Prop :=
  ∃ (k f : Nat) (acc : List Int), vi = .int .i64 k ∧ vf = .int .i64 f ∧ f ≤ k ∧ acc.length ≤ k ∧ (k ≤ s.size ∧ seqI acc (parts 44 (cur s f k) (s.data.toList.drop k)) = R ∨ k = s.size + 1 ∧ R = (acc, 0)) ∧
    (∀ x ∈ acc, (Lit.int .i64 x).wf = true) ∧ wr.ownsRow w.heap.size 3 1 vl acc.length (acc.map (Value.int .i64)) ∧ Below w.heap.size w wr

set_option maxRecDepth 100000 in
set_option maxHeartbeats 3200000 in
theorem rlist_any (s : ByteArray) (w : World) (hs : s.size ≤ 100000) :
    Calls Tryd.prog 25 #[.string s] w (ListOut (listR s.data.toList) w) := by
  by_cases h45 : s.data.toList = [45]
  · have HR := Lib.hid (show listR s.data.toList = ([], 0) by rw [listR, if_pos h45])
    have hq : (s.toList == [45]) = true := by rw [ByteArray.toList_eq]; simpa using h45
    clear h45
    go_enter Tryd.func25, Tryd.ntmps25
    go_wp2_with fail
    go_ret2
    exact list_bad HR.out rfl (Below.refl _ _)
  · have hR : listR s.data.toList = seqI [] (parts 44 [] s.data.toList) := by rw [listR, if_neg h45]
    have hq : (s.toList == [45]) = false := by rw [ByteArray.toList_eq]; simpa using h45
    obtain ⟨R, hRR⟩ : ∃ R, listR s.data.toList = R := ⟨_, rfl⟩
    rw [hRR] at hR ⊢
    have HR := Lib.hid hR.symm
    obtain ⟨i0, hi, hz0, hz1, hz2⟩ := info_parts infoI
    have HI0 := Lib.hid hi
    have HZ0 := Lib.hid hz0
    have HZ1 := Lib.hid hz1
    have HZ2 := Lib.hid hz2
    clear hi hz0 hz1 hz2 hR hRR h45
    go_enter Tryd.func25, Tryd.ntmps25
    go_wp2_with fail
    go_loopw [4, 5, 6] (fun vl vf vi wr => GRel R s w vl vf vi wr) (fun _ _ vi _ => s.size + 1 - (RowKit.intOf vi).toNat)
    case atStart => exact ⟨0, 0, [], rfl, rfl, Nat.le_refl _, Nat.le_refl _, .inl ⟨Nat.zero_le _, by rw [cur_self]; exact HR.out⟩, by simp, World.ownsRow_nil _ _ _ _, Below.refl _ _⟩
    case round =>
      obtain ⟨k, f, acc, rfl, rfl, hf, hal, hor, hw, ho, hb⟩ := hrel
      obtain ⟨al, cl, rfl⟩ := own_shape ho
      have HW := Lib.hid hw
      have HO := Lib.hid ho
      have HB := Lib.hid hb
      clear hw ho hb
      rcases hor with ⟨hk, hr⟩ | ⟨rfl, hE⟩
      · have HRR := Lib.hid hr
        clear hr
        have hI := rint_any (bs (cur s f k))
        rw [← cur_bs, cur_ext] at hI
        have HI := Lib.hid (fun w => hI w (by rw [Lib.size_eq, cur_ext, cur_len hk]; omega))
        clear hI
        obtain ⟨⟨n, e⟩, hpe⟩ : ∃ r, intR (cur s f k) = r := ⟨_, rfl⟩
        rw [intV_of hpe] at HI
        have HN := Lib.hid (show (Lit.int .i64 n).wf = true by have := int_wf (cur s f k); rwa [hpe] at this)
        by_cases hlt : k < s.size
        · rw [drop_at s k hlt] at HRR
          obtain ⟨c, hc⟩ : ∃ c, s[k]'hlt = c := ⟨_, rfl⟩
          rw [hc] at HRR
          have HCM := Lib.hid (cur_more hf hlt)
          rw [hc] at HCM
          by_cases hch : c = 44
          · have hcn : (s[k]'hlt).toNat = 44 := by rw [hc, hch]; rfl
            rw [hch, parts, if_pos rfl] at HRR
            by_cases he : e = 0
            · subst he
              rw [seqI_more hpe, ← cur_self s (k + 1)] at HRR
              clear hc hch hpe HCM
              go_wp2_with fail
              refine (HI.out _).mono ?_
              rintro e wr ⟨rfl, rfl⟩
              go_wp2_with (at_builtin; refine wpList_append_own_at _ rfl (.tmp 38) (.tmp 40) 39 rfl w.heap.size 3 i0 (.int .i64 0) 1 8 Tryd.underlying39 HI0.out HZ0.out HZ1.out HZ2.out rfl (by decide) _ _ _ rfl (HO.out.alloc _) ⟨wr.heap.size, 0, none⟩ 1 1 [.int .i64 n] rfl rfl (cell_one_new _ _ _) (by intro u hu; simp at hu; subst hu; rfl) (by unfold maxLen; omega) (by omega) (by have := HB.out.size; simp; omega) ?_; intro v1 w4 h1own hg1 _ _; have R1 := Lib.hid h1own; have R2 := Lib.hid hg1; clear h1own hg1)
              have HX := Lib.hid (own_int HO.out HW.out HN.out rfl HB.out R1.out R2.out)
              go_roundw
              case rel => exact ⟨k + 1, k + 1, acc ++ [n], by simp, by simp, Nat.le_refl _, by simp; omega, .inl ⟨by omega, HRR.out⟩, HX.out.2.1, HX.out.1, HX.out.2.2⟩
              case measure => simp [RowKit.intOf]; omega
            · rw [seqI_bad hpe he] at HRR
              have hne : ((e : Int) != 0) = true := by simp; omega
              have HE := Lib.hid HRR.out.symm
              clear hc hch hpe HCM he
              go_wp2_with fail
              refine (HI.out _).mono ?_
              rintro e wr ⟨rfl, rfl⟩
              go_wp2_with fail
              go_ret2
              exact list_bad HE.out rfl HB.out
          · have hcn : ((c.toNat : Int) != 44) = true := by
              have : c.toNat ≠ 44 := fun h => hch (UInt8.toNat_inj.1 h)
              simp; omega
            rw [parts, if_neg hch, ← HCM.out] at HRR
            clear hch hpe
            go_wp2_with fail
            go_roundw
            case rel => exact ⟨k + 1, f, acc, by simp, rfl, by omega, by omega, .inl ⟨by omega, HRR.out⟩, HW.out, HO.out, HB.out⟩
            case measure => simp [RowKit.intOf]; omega
        · obtain rfl : k = s.size := by omega
          rw [drop_end hlt, parts] at HRR
          by_cases he : e = 0
          · subst he
            rw [seqI_more hpe] at HRR
            have HE := Lib.hid (show R = (acc ++ [n], 0) by rw [← HRR.out]; rfl)
            clear hpe
            go_wp2_with fail
            refine (HI.out _).mono ?_
            rintro e wr ⟨rfl, rfl⟩
            go_wp2_with (at_builtin; refine wpList_append_own_at _ rfl (.tmp 38) (.tmp 40) 39 rfl w.heap.size 3 i0 (.int .i64 0) 1 8 Tryd.underlying39 HI0.out HZ0.out HZ1.out HZ2.out rfl (by decide) _ _ _ rfl (HO.out.alloc _) ⟨wr.heap.size, 0, none⟩ 1 1 [.int .i64 n] rfl rfl (cell_one_new _ _ _) (by intro u hu; simp at hu; subst hu; rfl) (by unfold maxLen; omega) (by omega) (by have := HB.out.size; simp; omega) ?_; intro v1 w4 h1own hg1 _ _; have R1 := Lib.hid h1own; have R2 := Lib.hid hg1; clear h1own hg1)
            have HX := Lib.hid (own_int HO.out HW.out HN.out rfl HB.out R1.out R2.out)
            go_roundw
            case rel => exact ⟨s.size + 1, s.size + 1, acc ++ [n], by simp, by simp, Nat.le_refl _, by simp; omega, .inr ⟨rfl, HE.out⟩, HX.out.2.1, HX.out.1, HX.out.2.2⟩
            case measure => simp [RowKit.intOf]
          · rw [seqI_bad hpe he] at HRR
            have hne : ((e : Int) != 0) = true := by simp; omega
            have HE := Lib.hid HRR.out.symm
            clear hpe he
            go_wp2_with fail
            refine (HI.out _).mono ?_
            rintro e wr ⟨rfl, rfl⟩
            go_wp2_with fail
            go_ret2
            exact list_bad HE.out rfl HB.out
      · have HE := Lib.hid hE
        clear hE
        have hle : ¬ (((s.size + 1 : Nat) : Int) ≤ s.size) := by omega
        go_wp2_with fail
        go_ret2
        exact list_ok HE.out rfl (reads_own HO.out HW.out (Nat.le_refl _)) HB.out

end Go.Proofs.YtnechpciaidkmaaDoor.Listw
