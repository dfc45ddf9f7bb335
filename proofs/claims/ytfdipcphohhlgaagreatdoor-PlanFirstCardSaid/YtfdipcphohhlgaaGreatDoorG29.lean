/- Texts of this proof, merged: Rjw2, Pfst, Pfsw. -/
import Derived.Test.YtfdipcphohhlgaaGreatDoorG13
import Derived.Test.YtfdipcphohhlgaaGreatDoorG10
import Derived.Test.YtfdipcphohhlgaaGreatDoorG12
import Derived.Deep.DeepCutAuto
import Derived.ProofKit
import Derived.ChangeSlices
import Derived.Deep.Slices

/- The reference's Join, of lines whose words may be of any length. -/
namespace Go.Proofs.YtfdipcphohhlgaaGreatDoor.Rjw2
open Go.Proofs.YtfdipcphohhlgaaGreatDoor.Rjoinw Go.RowKit Go.Lib Go.Proofs.YtfdipcphohhlgaaGreatDoor.Text Go.Proofs.YtfdipcphohhlgaaGreatDoor.Kind Go.Proofs.YtfdipcphohhlgaaGreatDoor.Word Go.Proofs.YtfdipcphohhlgaaGreatDoor.Rword Go.Proofs.YtfdipcphohhlgaaGreatDoor.Reads Go.Proofs.YtfdipcphohhlgaaGreatDoor.Rows2 Go.Proofs.YtfdipcphohhlgaaGreatDoor.Samew Go.Proofs.YtfdipcphohhlgaaGreatDoor.Debw Go.Proofs.YtfdipcphohhlgaaGreatDoor.Ownl Go.Proofs.YtfdipcphohhlgaaGreatDoor.Linw Go.Proofs.YtfdipcphohhlgaaGreatDoor.Joinw Go.Proofs.YtfdipcphohhlgaaGreatDoor.Fmtw

/-- What is joined before a word that is none stays short. -/
def Bnd (ls : List (List (List UInt8))) : Prop := ∀ (k : Nat) (l : List (List UInt8)) (q : Nat), ls[k]? = some l → (∀ x ∈ ls.take k, lineL x = true) → (∀ x ∈ l.take q, wordL x = true) → (joinT (ls.take k)).length + (Lib.join (l.take q) [32]).length + 1 ≤ 1000000000000
theorem ok_snoc {α : Type} {f : α → Bool} {l : List α} {q : Nat} {p : α} (hp : l[q]? = some p) (h : ∀ x ∈ l.take q, f x = true) (h1 : f p = true) : ∀ x ∈ l.take (q + 1), f x = true := by
  obtain ⟨hq, rfl⟩ := List.getElem?_eq_some_iff.1 hp
  rw [List.take_succ_eq_append_getElem hq]
  intro x hx
  rcases List.mem_append.1 hx with hx | hx
  · exact h x hx
  · rw [List.mem_singleton.1 hx]; exact h1

set_option maxRecDepth 100000 in
set_option maxHeartbeats 3200000 in
theorem rjoin2_any {v : Value} {ls : List (List (List UInt8))} {w : World} (h : Lns (fun b => b < w.heap.size) w v ls) (hT : Bnd ls) :
    Calls Tryz.prog 16 #[v] w fun e w' => e = .returned (joinV ls) ∧ Below w.heap.size w w' := by
  obtain ⟨a, cap, rfl, hm, _, _, hc⟩ := h.shape
  have HC := Lib.hid hc
  have HT := Lib.hid hT
  obtain ⟨A, hA⟩ : ∃ A, ls.all lineL = A := ⟨_, rfl⟩
  have HA := Lib.hid hA
  clear h hc hA hT
  go_enter Tryz.func16, Tryz.ntmps16
  go_wp2_with fail
  go_loopw [4, 5] (fun vs vi wr => ∃ k : Nat, vs = .string (bs (joinT (ls.take k))) ∧ vi = .int .i64 k ∧ k ≤ ls.length ∧ (ls.drop k).all lineL = A ∧ (∀ x ∈ ls.take k, lineL x = true) ∧ wr = w) (fun _ vi _ => ls.length - (RowKit.intOf vi).toNat)
  case atStart => exact ⟨0, rfl, rfl, Nat.zero_le _, HA.out, by simp, rfl⟩
  case round =>
    obtain ⟨k, rfl, rfl, hk, hr, hv, rfl⟩ := hrel
    have HR := Lib.hid hr
    have HV := Lib.hid hv
    clear hr hv
    by_cases hlt : k < ls.length
    · obtain ⟨l, hl⟩ := at_lt hlt
      obtain ⟨b, off, x, rfl, hb, hcell, hx⟩ := HC.out k l hl
      obtain ⟨al, cl, rfl, hlm, _, _, hlc⟩ := hx.shape
      have HLC := Lib.hid hlc
      have HLB := Lib.hid (fun q (hq : ∀ x ∈ l.take q, wordL x = true) => HT.out k l q hl HV.out hq)
      have HL := Lib.hid hl
      clear hb hx hlc hl
      by_cases hne : l = []
      · subst hne
        have HG := Lib.hid (joinV_of (join_bad (HA.out.trans (bad_rest HL.out HR.out rfl))))
        go_wp2_with fail
        go_ret2
        exact ⟨by rw [HG.out]; rfl, Below.refl _ _⟩
      · have hl0 : ((l.length : Int) == 0) = false := by
          have := List.length_pos_iff.2 hne
          rw [beq_eq_false_iff_ne]; omega
        have HLE := Lib.hid (line_of hne)
        clear hne
        go_wp2_with fail
        clear hl0
        obtain ⟨W0, rfl⟩ : ∃ g, g = wr := ⟨_, rfl⟩
        go_loopw [4, 6] (fun vs vq wr => ∃ q : Nat, vs = .string (bs (joinT (ls.take k) ++ Lib.join (l.take q) [32])) ∧ vq = .int .i64 q ∧ q ≤ l.length ∧ (l.drop q).all wordL = lineL l ∧ (∀ x ∈ l.take q, wordL x = true) ∧ wr = W0) (fun _ vq _ => l.length - (RowKit.intOf vq).toNat)
        case atStart => exact ⟨0, by simp [join_nil], rfl, Nat.zero_le _, HLE.out.symm, by simp, rfl⟩
        case round =>
          obtain ⟨q, rfl, rfl, hq, hrq, hvq, rfl⟩ := hrel
          have HRQ := Lib.hid hrq
          have HVQ := Lib.hid hvq
          clear hrq hvq
          by_cases hltq : q < l.length
          · obtain ⟨p, hp⟩ := at_lt hltq
            obtain ⟨hps, b2, off2, rfl, hb2, hcell2⟩ := HLC.out q p hp
            have HP := Lib.hid hp
            have HW := Lib.hid (fun w => rword_any (bs p) w (by rw [bs_size]; unfold maxLen at hps; omega))
            rw [bs_list] at HW
            clear hp hb2
            rcases Bool.eq_false_or_eq_true (wordL p) with h1 | h1
            · rw [h1] at HW
              have HN := Lib.hid (show (l.drop (q + 1)).all wordL = lineL l by
                have := HRQ.out
                rwa [drop_cons HP.out, List.all_cons, h1, Bool.true_and] at this)
              have HVS := Lib.hid (ok_snoc HP.out HVQ.out h1)
              have HLq := HLB.out (q + 1) HVS.out
              clear h1
              by_cases hq0 : q = 0
              · subst hq0
                have hj : Lib.join (l.take 1) [32] = p := by rw [take_snoc HP.out]; exact join_one _ _
                rw [hj] at HLq
                have hadd : ∀ w, (Op.stringOp .add (bs (joinT (ls.take k) ++ Lib.join (l.take 0) [32])) (bs p)).run Tryz.prog w = .ok (.string (bs (joinT (ls.take k) ++ Lib.join (l.take 1) [32]))) w := by
                  intro w
                  rw [add_bs _ _ (by rw [List.take_zero, join_nil, List.append_nil]; omega), hj, List.take_zero, join_nil, List.append_nil]
                have hc0 : wr.cell? ⟨b2, off2, none⟩ = some (.string (bs p)) := hcell2
                obtain ⟨X, hX⟩ : ∃ X, joinT (ls.take k) ++ Lib.join (l.take 0) [32] = X := ⟨_, rfl⟩
                obtain ⟨Z, hZ⟩ : ∃ Z, joinT (ls.take k) ++ Lib.join (l.take 1) [32] = Z := ⟨_, rfl⟩
                have HZ := Lib.hid hZ
                rw [hX, hZ] at hadd
                rw [hX]
                clear hj HLq hX hZ hcell2
                go_wp2_with fail
                refine (HW.out _).mono ?_
                rintro e wr ⟨rfl, rfl⟩
                go_wp2_with fail
                go_roundw
                case rel => exact ⟨1, by rw [HZ.out], rfl, by omega, HN.out, HVS.out, by simp⟩
                case measure => simp [RowKit.intOf]; omega
              · have hj : Lib.join (l.take (q + 1)) [32] = Lib.join (l.take q) [32] ++ 32 :: p := by
                  rw [take_snoc HP.out]
                  exact join_snoc 32 p (by
                    intro e
                    have := congrArg List.length e
                    rw [List.length_take, List.length_nil] at this
                    omega)
                rw [hj] at HLq
                have hadd1 : ∀ w, (Op.stringOp .add (bs (joinT (ls.take k) ++ Lib.join (l.take q) [32])) ⟨#[32]⟩).run Tryz.prog w = .ok (.string (bs (joinT (ls.take k) ++ Lib.join (l.take q) [32] ++ [32]))) w := fun w =>
                  add_bs (P := Tryz.prog) _ [32] (by simp at HLq ⊢; omega) w
                have hadd2 : ∀ w, (Op.stringOp .add (bs (joinT (ls.take k) ++ Lib.join (l.take q) [32] ++ [32])) (bs p)).run Tryz.prog w = .ok (.string (bs (joinT (ls.take k) ++ Lib.join (l.take (q + 1)) [32]))) w := by
                  intro w
                  rw [add_bs _ _ (by simp at HLq ⊢; omega), hj]
                  simp
                have hpos : (0 : Int) < q := by omega
                obtain ⟨X, hX⟩ : ∃ X, joinT (ls.take k) ++ Lib.join (l.take q) [32] = X := ⟨_, rfl⟩
                obtain ⟨Z, hZ⟩ : ∃ Z, joinT (ls.take k) ++ Lib.join (l.take (q + 1)) [32] = Z := ⟨_, rfl⟩
                have HZ := Lib.hid hZ
                rw [hX] at hadd1 hadd2
                rw [hZ] at hadd2
                obtain ⟨Y, hY⟩ : ∃ Y, X ++ [32] = Y := ⟨_, rfl⟩
                rw [hY] at hadd1 hadd2
                rw [hX]
                clear hj HLq hX hZ hY
                go_wp2_with fail
                refine (HW.out _).mono ?_
                rintro e wr ⟨rfl, rfl⟩
                go_wp2_with fail
                go_roundw
                case rel => exact ⟨q + 1, by rw [HZ.out], by simp, by omega, HN.out, HVS.out, by simp⟩
                case measure => simp [RowKit.intOf]; omega
            · rw [h1] at HW
              have HN := Lib.hid (show lineL l = false by
                have := HRQ.out
                rwa [drop_cons HP.out, List.all_cons, h1, Bool.false_and, eq_comm] at this)
              have HG := Lib.hid (joinV_of (join_bad (HA.out.trans (bad_rest HL.out HR.out HN.out))))
              clear h1
              go_wp2_with fail
              refine (HW.out _).mono ?_
              rintro e wr ⟨rfl, rfl⟩
              go_wp2_with fail
              go_ret2
              exact ⟨by rw [HG.out]; rfl, Below.refl _ _⟩
          · have hfull := take_full (ls := l) hltq
            rw [hfull]
            have hvq := HVQ.out
            rw [hfull] at hvq
            have HLq := HLB.out l.length (by rw [List.take_length]; exact hvq)
            rw [List.take_length] at HLq
            have HN := Lib.hid (show lineL l = true by rw [← HRQ.out, List.drop_eq_nil_of_le (by omega)]; rfl)
            have hadd : ∀ w, (Op.stringOp .add (bs (joinT (ls.take k) ++ Lib.join l [32])) ⟨#[10]⟩).run Tryz.prog w = .ok (.string (bs (joinT (ls.take (k + 1))))) w := by
              intro w
              have := add_bs (P := Tryz.prog) (joinT (ls.take k) ++ Lib.join l [32]) [10] (by simp; omega) w
              rw [take_at HL.out, lineT, ← List.append_assoc]
              exact this
            have HNN := Lib.hid (show (ls.drop (k + 1)).all lineL = A by
              have := HR.out
              rwa [drop_cons HL.out, List.all_cons, HN.out, Bool.true_and] at this)
            obtain ⟨X, hX⟩ : ∃ X, joinT (ls.take k) ++ Lib.join l [32] = X := ⟨_, rfl⟩
            obtain ⟨Z, hZ⟩ : ∃ Z, joinT (ls.take (k + 1)) = Z := ⟨_, rfl⟩
            have HZ := Lib.hid hZ
            rw [hX, hZ] at hadd
            rw [hX]
            have HVN := Lib.hid (ok_snoc HL.out HV.out HN.out)
            clear HLq hfull hX hZ hvq
            go_wp2_with fail
            go_roundw
            case rel => exact ⟨k + 1, by rw [HZ.out], by simp, by omega, HNN.out, HVN.out, by simp⟩
            case measure => simp [RowKit.intOf]; omega
    · have HTF := take_full (ls := ls) hlt
      rw [HTF]
      have HAL := Lib.hid (show ls.all lineL = true by rw [HA.out, ← HR.out, List.drop_eq_nil_of_le (by omega)]; rfl)
      have hbs : (bs (joinT ls)).size = (joinT ls).length := bs_size _
      by_cases hov : 32768 < (joinT ls).length
      · have HG := Lib.hid (joinV_of (join_long HAL.out hov))
        clear HTF
        go_wp2_with fail
        go_ret2
        exact ⟨by rw [HG.out]; rfl, Below.refl _ _⟩
      · have HG := Lib.hid (joinV_of (join_good HAL.out hov))
        clear HTF
        go_wp2_with fail
        go_ret2
        exact ⟨by rw [HG.out]; rfl, Below.refl _ _⟩


/-- Few words: what is joined stays short. -/
theorem bnd_few {ls : List (List (List UInt8))} (h1 : ls.length ≤ 100000) (h2 : ∀ l ∈ ls, l.length ≤ 100000) : Bnd ls := by
  have hw : ∀ l : List (List UInt8), (∀ x ∈ l, wordL x = true) → (Lib.join l [32]).length ≤ 65 * l.length := by
    intro l
    induction l with
    | nil => intro _; simp [join_nil]
    | cons p ps ih =>
      intro h
      cases ps with
      | nil =>
        rw [join_one]
        have := word_len (h p List.mem_cons_self)
        simp
        omega
      | cons p2 ps =>
        have hp := word_len (h p List.mem_cons_self)
        have hr := ih fun x hx => h x (List.mem_cons_of_mem _ hx)
        rw [join_tail] at hr ⊢
        simp [tailL] at hr ⊢
        omega
  have ht : ∀ ls : List (List (List UInt8)), (∀ l ∈ ls, lineL l = true) → (∀ l ∈ ls, l.length ≤ 100000) → (joinT ls).length ≤ 6500001 * ls.length := by
    intro ls
    induction ls with
    | nil => intro _ _; simp [joinT]
    | cons l ls ih =>
      intro h hb
      rw [joinT_cons, List.length_append, lineT, List.length_append, List.length_singleton, List.length_cons]
      have h3 := ih (fun x hx => h x (List.mem_cons_of_mem _ hx)) (fun x hx => hb x (List.mem_cons_of_mem _ hx))
      have hl := h l List.mem_cons_self
      have hbl := hb l List.mem_cons_self
      unfold lineL at hl
      simp only [Bool.and_eq_true] at hl
      have h4 := hw l fun x hx => List.all_eq_true.1 hl.2 x hx
      omega
  intro k l q hk hv hq
  have a1 := ht (ls.take k) hv (fun x hx => h2 x (List.mem_of_mem_take hx))
  have a2 := hw (l.take q) hq
  rw [List.length_take] at a1 a2
  have a3 := h2 l (List.mem_of_getElem? hk)
  omega

end Go.Proofs.YtfdipcphohhlgaaGreatDoor.Rjw2

/- The call of the statement PlanFirst, from what the program's Print and Parse give. -/
namespace Go.Proofs.YtfdipcphohhlgaaGreatDoor.Pfst
open Go.RowKit Go.Lib Go.Proofs.YtfdipcphohhlgaaGreatDoor.Reads Go.Proofs.YtfdipcphohhlgaaGreatDoor.Rows2 Go.Proofs.YtfdipcphohhlgaaGreatDoor.Lay Go.Proofs.YtfdipcphohhlgaaGreatDoor.Layf Go.Proofs.YtfdipcphohhlgaaGreatDoor.Ldup Go.Proofs.YtfdipcphohhlgaaGreatDoor.Lext Go.Proofs.YtfdipcphohhlgaaGreatDoor.Lnmd Go.Proofs.YtfdipcphohhlgaaGreatDoor.Lnam Go.Proofs.YtfdipcphohhlgaaGreatDoor.Plnf Go.Proofs.YtfdipcphohhlgaaGreatDoor.Plna Go.Proofs.YtfdipcphohhlgaaGreatDoor.Plnc Go.Proofs.YtfdipcphohhlgaaGreatDoor.Ptwo Go.Proofs.YtfdipcphohhlgaaGreatDoor.Pali Go.Proofs.YtfdipcphohhlgaaGreatDoor.Linw Go.Proofs.YtfdipcphohhlgaaGreatDoor.Joinw Go.Proofs.YtfdipcphohhlgaaGreatDoor.Rjw2 Go.Proofs.YtfdipcphohhlgaaGreatDoor.Rpla Go.Proofs.YtfdipcphohhlgaaGreatDoor.Ownl
open Go.Proofs.YtfdipcphohhlgaaGreatDoor.Debw (Deb deb_next)
open Go.Proofs.YtfdipcphohhlgaaGreatDoor.Text hiding lineL joinR
set_option linter.unusedVariables false

/-- A slice argument is nil or has an address. -/
theorem sn_any {H : Type} {enc : TypeId × Value → H} {P : Program} {w : World} {base : Nat} {held : Bool} {t e : TypeId} {n : Nat} {v : Value} {d : DataW H} {p : List MemPlace} (ht : P.underlying t = some (.slice e)) (hc : P.cellsOf e = 1)
    (h : DataW.trod enc P w base (fun _ => true) held n t [v] = some (d, p)) : v = .slice none 0 0 ∨ ∃ ad n c, v = .slice (some ad) n c := by
  rcases Go.Deep.open_slice1 ht hc h with ⟨h1, _⟩ | ⟨a, len, cap, m, n', V, D, Pl, h1, _⟩
  · simp only [List.cons.injEq, and_true] at h1
    exact .inl h1
  · simp only [List.cons.injEq, and_true] at h1
    exact .inr ⟨_, _, _, h1⟩
/-- append of a slice, nil or not, to a row of the call's own, at the operation. -/
theorem wp_append_src {P : Program} {ops : Array Oper} {rest : List Oper} {o : Oper} {a : Act} {w : World} {Q : Exit → Act → World → Prop}
    (hg : o.guard = none) (s x : Operand) (t : TypeId) (hop : o.op = Op.call { callee := Callee.builtin Builtin.append, args := #[s, x], argTypes := #[t, t] })
    (base : Nat) (e : TypeId) (i : TypeInfo) (z : Value) (bytes : Nat) (ht : P.underlying t = some (.slice e)) (hi : P.info? e = some i) (hz : i.zero = some z)
    (hsize : i.size = 1) (hby : i.bytes = bytes) (hzs : z.cells.size = 1)
    (v : Value) (n : Nat) (xs : List Value) (hs : a.eval s = v) (hown : w.ownsRow base e 1 v n xs)
    (xv : Value) (news : List Value) (hx : a.eval x = xv) (hsrc : Src w xv news) (h1 : ∀ u ∈ news, u.oneCell' = true)
    (h63 : n + news.length ≤ maxLen) (hbytes : (n + news.length) * bytes ≤ 140737488355328) (hbase : base ≤ w.heap.size)
    (h : ∀ v' w', w'.ownsRow base e 1 v' (n + news.length) (xs ++ news) → w.grownBy w' v.ownBlock → wpList P ops Q rest (a.put o.dst v') w') : wpList P ops Q (o :: rest) a w := by
  refine wpList_plain hg fun K' hK' => ?_
  rcases hsrc with ⟨rfl, rfl⟩ | ⟨ad, c, rfl, hnews⟩
  · have hr := run_append_owned_none (P := P) (w := w) base t o.type e i 1 ht hi v n xs hown
    unfold Oper.wp execOp
    simp only [hop, resolve, invoke, builtin, Sem.run_bind, Sem.run_pure, Result.andThen_ok, List.map_toArray, List.map_cons, List.map_nil, hs, hx, hr]
    exact hK' _ _ (h v w (by simpa using hown) ⟨rfl, rfl, rfl, Nat.le_refl _, fun _ _ _ => rfl⟩)
  · obtain ⟨v', w', hr, h2, h3, _, _⟩ := run_append_own_at (P := P) w base t o.type e i z 1 bytes ht hi hz hsize hby hzs (by decide) v n xs hown ad news.length c news (by simp) hnews h1 h63 hbytes hbase
    unfold Oper.wp execOp
    simp only [hop, resolve, invoke, builtin, Sem.run_bind, Sem.run_pure, Result.andThen_ok, List.map_toArray, List.map_cons, List.map_nil, hs, hx, hr]
    exact hK' _ _ (h v' w' h2 h3)

/-! Beginnings of a list of lines. -/
theorem lns_take {w : World} {b off c : Nat} {m : List (List (List UInt8))} {vs : List Value} (h : Row (In w) w (.slice (some ⟨b, off, none⟩) m.length c) vs) (hl : vs.length = m.length) (hs : ∀ (j : Nat) (x : Value) (l : List (List UInt8)), vs[j]? = some x → m[j]? = some l → Strs (In w) w x l) {k : Nat} (hk : k ≤ m.length) :
    Row (In w) w (.slice (some ⟨b, off, none⟩) k c) (vs.take k) ∧ (vs.take k).length = (m.take k).length ∧ (∀ (j : Nat) (x : Value) (l : List (List UInt8)), (vs.take k)[j]? = some x → (m.take k)[j]? = some l → Strs (In w) w x l) := by
  obtain ⟨a, cap, he, h2, h3, h4⟩ := h
  simp only [Value.slice.injEq] at he
  obtain ⟨rfl, _, rfl⟩ := he
  have ht : (vs.take k).length = k := by rw [List.length_take]; omega
  refine ⟨⟨_, _, by rw [ht], by omega, h3, ?_⟩, by rw [ht, List.length_take]; omega, fun j x l hx hl2 => ?_⟩
  · rcases h4 with h4 | ⟨b', off', e, hb, hc⟩
    · left
      rw [h4]
      simp
    · right
      refine ⟨b', off', e, hb, fun j x hx => hc j x ?_⟩
      rw [List.getElem?_take] at hx
      split at hx
      · exact hx
      · cases hx
  · rw [List.getElem?_take] at hx hl2
    split at hx
    · rename_i hj
      rw [if_pos hj] at hl2
      exact hs j x l hx hl2
    · cases hx
theorem cut_lines (b off n c k : Nat) (h1 : k ≤ n) (h2 : n ≤ c) (w : World) :
    (Instr.slice 39 (.slice (some ⟨b, off, none⟩) n c) none (some (.int .i64 (k : Int))) none).run Tryz.prog w = .ok (.slice (some ⟨b, off, none⟩) k c) w := by
  obtain ⟨inf, hinf⟩ : ∃ inf, Tryz.prog.info? 22 = some inf := Option.isSome_iff_exists.1 (by kernel_rfl)
  rw [run_slice_h w 39 _ n c (by rw [show Tryz.prog.elem 39 = 22 by kernel_rfl]; exact Tryz.underlying39) .i64 (k : Int) (by omega) (by omega), show Tryz.prog.elem 39 = 22 by kernel_rfl, Go.run_sizeOf w hinf]
  simp [Result.andThen, sliced, Lnam.add_mk]
theorem strs_one {ok : Nat → Prop} {w : World} {vs : List Value} {m : List (List (List UInt8))} (hl : vs.length = m.length) (hs : ∀ (j : Nat) (x : Value) (l : List (List UInt8)), vs[j]? = some x → m[j]? = some l → Strs ok w x l) : ∀ u ∈ vs, u.oneCell' = true := by
  intro u hu
  obtain ⟨j, hj, rfl⟩ := List.getElem_of_mem hu
  obtain ⟨l, hl2⟩ := at_lt (l := m) (k := j) (by omega)
  obtain ⟨a, c, he, _⟩ := (hs j _ l (List.getElem?_eq_getElem hj) hl2).shape
  rw [he]
  rfl
/-- Two lists of lines in a row of the call's own. -/
theorem lns_two {w w' : World} {B N : Nat} {v : Value} {xs ys : List Value} {m more : List (List (List UInt8))} (ho : w'.ownsRow B 22 1 v N (xs ++ ys)) (hb : Below w.heap.size w w') (hx : xs.length = m.length) (hy : ys.length = more.length)
    (sx : ∀ (j : Nat) (x : Value) (l : List (List UInt8)), xs[j]? = some x → m[j]? = some l → Strs (In w) w x l) (sy : ∀ (j : Nat) (x : Value) (l : List (List UInt8)), ys[j]? = some x → more[j]? = some l → Strs (In w) w x l) : Lns (fun b => b < w'.heap.size) w' v (m ++ more) := by
  have hN : N = (xs ++ ys).length := by
    have := ho.1
    omega
  rw [hN] at ho
  refine ⟨xs ++ ys, row_own ho (fun g hg hlt => hlt), by rw [List.length_append, List.length_append, hx, hy], fun j x l h1 h2 => ?_⟩
  by_cases hj : j < xs.length
  · rw [List.getElem?_append_left hj] at h1
    rw [List.getElem?_append_left (by omega)] at h2
    exact (sx j x l h1 h2).keep (keep_next hb)
  · rw [List.getElem?_append_right (by omega)] at h1
    rw [List.getElem?_append_right (by omega), ← hx] at h2
    exact (sy _ x l h1 h2).keep (keep_next hb)
theorem words_le : ∀ l : List (List UInt8), l.length ≤ (lineT l).length
  | [] => Nat.zero_le _
  | p :: ps => by
    have h : ∀ qs : List (List UInt8), qs.length ≤ (tailL 32 qs).length := by
      intro qs
      induction qs with
      | nil => exact Nat.zero_le _
      | cons q qs ih => simp only [tailL, List.map_cons, List.flatten_cons, List.length_append, List.length_cons] at ih ⊢; omega
    have := h ps
    rw [lineT, join_tail, List.length_append, List.length_append, List.length_cons, List.length_singleton]
    omega
theorem line_le : ∀ (m : List (List (List UInt8))) (l : List (List UInt8)), l ∈ m → l.length ≤ (joinT m).length
  | [], l, h => by cases h
  | x :: m, l, h => by
    rw [joinT_cons, List.length_append]
    rcases List.mem_cons.1 h with rfl | h
    · have := words_le l
      omega
    · have := line_le m l h
      omega
theorem text_back {s : List UInt8} {m : List (List (List UInt8))} {q : Nat} (h : linesR s = (m, q, 0)) : joinT m = s := by
  have hj := join_of_lines h
  unfold Text.joinR at hj
  split at hj
  · simp at hj
  · split at hj
    · simp at hj
    · simp only [Prod.mk.injEq, and_true] at hj
      exact hj

end Go.Proofs.YtfdipcphohhlgaaGreatDoor.Pfst

/- The walk of the statement PlanFirst. -/
namespace Go.Proofs.YtfdipcphohhlgaaGreatDoor.Pfsw
open Go.RowKit Go.Lib Go.Proofs.YtfdipcphohhlgaaGreatDoor.Reads Go.Proofs.YtfdipcphohhlgaaGreatDoor.Rows2 Go.Proofs.YtfdipcphohhlgaaGreatDoor.Lay Go.Proofs.YtfdipcphohhlgaaGreatDoor.Layf Go.Proofs.YtfdipcphohhlgaaGreatDoor.Ldup Go.Proofs.YtfdipcphohhlgaaGreatDoor.Lext Go.Proofs.YtfdipcphohhlgaaGreatDoor.Lnmd Go.Proofs.YtfdipcphohhlgaaGreatDoor.Lnam Go.Proofs.YtfdipcphohhlgaaGreatDoor.Plnf Go.Proofs.YtfdipcphohhlgaaGreatDoor.Plna Go.Proofs.YtfdipcphohhlgaaGreatDoor.Plnc Go.Proofs.YtfdipcphohhlgaaGreatDoor.Ptwo Go.Proofs.YtfdipcphohhlgaaGreatDoor.Pali Go.Proofs.YtfdipcphohhlgaaGreatDoor.Linw Go.Proofs.YtfdipcphohhlgaaGreatDoor.Joinw Go.Proofs.YtfdipcphohhlgaaGreatDoor.Rjw2 Go.Proofs.YtfdipcphohhlgaaGreatDoor.Rpla Go.Proofs.YtfdipcphohhlgaaGreatDoor.Ownl Go.Proofs.YtfdipcphohhlgaaGreatDoor.Pfst
open Go.Proofs.YtfdipcphohhlgaaGreatDoor.Debw (Deb deb_next)
open Go.Proofs.YtfdipcphohhlgaaGreatDoor.Text hiding lineL joinR
set_option linter.unusedVariables false

theorem take_one' {α : Type} {l : List α} {k : Nat} {x : α} (h : l[k]? = some x) : l.take (k + 1) = l.take k ++ [x] := by
  obtain ⟨hk, rfl⟩ := List.getElem?_eq_some_iff.1 h
  exact List.take_succ_eq_append_getElem hk
theorem empty_at (w : World) (q : Nat) (hq : w.heap.size = q) {e : TypeId} : (w.alloc (.cells #[] e)).ownsRow q e 1 (.slice (some ⟨q, 0, none⟩) 0 0) 0 [] := by
  subst hq
  exact empty_own w e
theorem bel_next' {w w1 w2 : World} (h : Below w.heap.size w w1) (k : Below w1.heap.size w1 w2) : Below w.heap.size w w2 := h.trans (k.mono h.size)
/-- What a call of Parse gives, its numbers spelt. -/
def POut (L : Lay) (z e : Int) (w : World) (x : Ending) (w' : World) : Prop :=
  ∃ us ue uj ug ub, x = .returned (.tuple #[.agg #[.string (bs L.name), us, ue, uj, ug, ub], .int .i64 z, .int .i64 e]) ∧ LayAt (In w') w' L us ue uj ug ub ∧ Below w.heap.size w w'

set_option maxRecDepth 100000 in
set_option maxHeartbeats 6400000 in
theorem first8_any (T : Two Deb) (s : List UInt8) (more : List (List (List UInt8))) {vm : Value} (w : World) (h : Lns (fun b => b < w.heap.size) w vm more) (hsn : vm = .slice none 0 0 ∨ ∃ ad n c, vm = .slice (some ad) n c) (hd : Deb w) :
    Calls Tryz.prog 6 #[.string (bs s), vm] w (BoolOut true w) := by
  have HA := Lib.hid (fun w' (b : Below w.heap.size w w') => alive_any T w' (deb_next hd b))
  have HP : Hid (∀ (t : List UInt8) (L : Lay) (n : Nat) (z e : Int) (w' : World), t.length ≤ 100000 → Below w.heap.size w w' → parseF t = (L, (n, e)) → (n : Int) = z → Calls Tryz.prog 12 #[.string (bs t)] w' (POut L z e w')) := by
    intro t L n z e w' ht hb hp hz
    refine (T.prs t w' ht (deb_next hd hb)).mono ?_
    rintro x w'' ⟨us, ue, uj, ug, ub, rfl, h1, h2⟩
    rw [hp] at h1 ⊢
    subst hz
    exact ⟨us, ue, uj, ug, ub, rfl, h1, h2⟩
  have HLI := Lib.hid (fun w' (b : Below w.heap.size w w') (hs : s.length ≤ 10000) => lines_any (bs s) w' (by rw [bs_size]; omega) (deb_next hd b))
  have hrow := h
  obtain ⟨vs2, hr2, hl2, hs2⟩ := hrow
  have HSRC := Lib.hid (fun w' (b : Below w.heap.size w w') => src_of (hr2.keep (keep_next b)) hsn)
  have HL2 := Lib.hid hl2
  have HS2 := Lib.hid hs2
  obtain ⟨ma, mc, rfl, hml, _, _, hmc⟩ := h.shape
  have HMC := Lib.hid hmc
  have HR0 := Lib.hid (Below.refl w.heap.size w)
  clear h hsn hd hr2 hl2 hs2 hmc
  by_cases hs : s.length ≤ 10000
  · have hg1 : ¬ (10000 : Int) < ((bs s).size : Int) := by rw [bs_size]; omega
    by_cases hk : more.length ≤ 20
    · have hg2 : ¬ (20 : Int) < (more.length : Int) := by omega
      go_enter Tryz.func6, Tryz.ntmps6
      go_wp2_with fail
      go_loopw [5] (fun vi wr => ∃ k : Nat, vi = .int .i64 (k : Int) ∧ k ≤ more.length ∧ (∀ l ∈ more.take k, l.length ≤ 100) ∧ wr = w) (fun vi _ => more.length - (RowKit.intOf vi).toNat)
      case atStart => exact ⟨0, rfl, Nat.zero_le _, by simp, rfl⟩
      case round =>
        obtain ⟨k, rfl, hkl, hall, rfl⟩ := hrel
        have HALL := Lib.hid hall
        clear hall
        by_cases hl : k < more.length
        · obtain ⟨l, hx⟩ := at_lt hl
          obtain ⟨b, off, x, rfl, hb, hxc, hst⟩ := HMC.out k l hx
          obtain ⟨xa, xc, rfl, hxl, _⟩ := hst.shape
          have hlt : (k : Int) < (more.length : Int) := by omega
          have HTK := Lib.hid (take_one' hx)
          clear hst hb
          by_cases hll : l.length ≤ 100
          · have hg3 : ¬ (100 : Int) < (l.length : Int) := by omega
            have HLL := Lib.hid hll
            clear hx hll
            go_wp2_with fail
            go_roundw
            case rel => exact ⟨k + 1, by simp, hl, by
              rw [HTK.out]
              intro y hy
              rcases List.mem_append.1 hy with hy | hy
              · exact HALL.out y hy
              · rw [List.mem_singleton.1 hy]; exact HLL.out, by first | rfl | trivial⟩
            case measure => simp [RowKit.intOf]; omega
          · have hg3 : (100 : Int) < (l.length : Int) := by omega
            clear hx hll
            go_wp2_with fail
            refine (HA.out _ HR0.out).mono ?_
            rintro e w1 ⟨rfl, b1⟩
            have B1 := Lib.hid b1
            clear b1
            go_wp2_with fail
            go_ret
            exact ⟨rfl, B1.out⟩
        · obtain rfl : k = more.length := by omega
          have hall := HALL.out
          rw [List.take_length] at hall
          have HALM := Lib.hid hall
          clear HALL hall
          have hli := fun w' b => HLI.out w' b hs
          rw [show (bs s).data.toList = s from rfl] at hli
          obtain ⟨⟨L, n, e0⟩, hps⟩ : ∃ r, parseF s = r := ⟨_, rfl⟩
          obtain ⟨⟨m, q, er⟩, hli0⟩ : ∃ r, linesR s = r := ⟨_, rfl⟩
          simp only [hli0] at hli
          have HPS := Lib.hid hps
          have HLS := Lib.hid hli0
          have HLJ := Lib.hid hli
          have HSL := Lib.hid hs
          unfold LinesOut at HLJ
          clear hps hli0 hli HLI hl hkl
          by_cases her : er = 0
          · subst her
            by_cases hin : 1 ≤ n ∧ n ≤ m.length
            · obtain ⟨hn1, hn2⟩ := hin
              obtain ⟨p, rfl⟩ : ∃ p, n = p + 1 := ⟨n - 1, by omega⟩
              obtain ⟨j1, j2, j3, j4⟩ := first_line (show linesR s = (m, q, 0) from HLS.out) HPS.out hn1 hn2
              rw [Nat.add_sub_cancel] at j1 j2 j3
              obtain ⟨z, hz⟩ : ∃ z : Int, (p : Int) + 1 = z := ⟨_, rfl⟩
              have HPc := Lib.hid (fun w' b => HP.out s L (p + 1) z e0 w' (by omega) b HPS.out (by omega))
              have htb := text_back (show linesR s = (m, q, 0) from HLS.out)
              have hjl := joinT_le (m.take p) (m.drop p)
              rw [List.take_append_drop, htb] at hjl
              have HJL := Lib.hid hjl
              have HWL := Lib.hid (fun l (hl : l ∈ m) => show l.length ≤ 10000 by
                have := line_le m l hl
                rw [htb] at this
                omega)
              have HML := Lib.hid (show m.length ≤ 10000 by
                have := joinT_ge m
                rw [htb] at this
                omega)
              obtain ⟨⟨L2, k2, e2⟩, hp2⟩ : ∃ r, parseF (joinT (m.take p)) = r := ⟨_, rfl⟩
              rw [hp2] at j2 j3
              have HP2 := Lib.hid (fun w' b => HP.out (joinT (m.take p)) L2 k2 (k2 : Int) e2 w' (by have := HJL.out; have := HSL.out; omega) b hp2 rfl)
              have HJ1 := Lib.hid j1
              have HJ4 := Lib.hid j4
              simp only [Prod.mk.injEq] at j2 j3
              have hmn : ¬ ((m.length : Int) < z) := by omega
              have hpn : ¬ (z < 1) := by omega
              clear j1 j4 htb hjl hp2
              obtain ⟨tb, htbx⟩ : ∃ t, joinT (m.take p) = t := ⟨_, rfl⟩
              rw [htbx] at HP2
              have HTB := Lib.hid htbx
              clear htbx
              go_wp2_with fail
              refine (HPc.out _ HR0.out).mono ?_
              rintro x w1 ⟨us, ue, uj, ug, ub, rfl, l1, b1⟩
              obtain ⟨a1, c1, a2, c2, a3, c3, a4, c4, a5, c5, rfl, rfl, rfl, rfl, rfl⟩ := Lown.shapes l1
              have B1 := Lib.hid b1
              clear l1 b1
              go_wp2_with fail
              refine (HLJ.out _ (B1.out.alloc B1.out.size _)).mono ?_
              rintro x w2 ⟨lv, rfl, hln, b2⟩
              have hln : Lns (In w2) w2 lv m := hln
              have B2 := Lib.hid (bel_next' (B1.out.alloc B1.out.size _) b2)
              clear b2
              have hln0 := hln
              obtain ⟨vs, hvr, hvl, hvs⟩ := hln0
              obtain ⟨la, lc, rfl, hlm, hlc1, hlc2, hlx⟩ := hln.shape
              obtain ⟨l0, hl0⟩ := at_lt (l := m) (k := 0) (by omega)
              obtain ⟨lb, lo, _, rfl, _, _, _⟩ := hlx 0 l0 hl0
              obtain ⟨t1, t2, t3⟩ := lns_take hvr hvl hvs (k := p) (by omega)
              obtain ⟨t4, t5, t6⟩ := lns_take hvr hvl hvs (k := p + 1) (by omega)
              have HJO := Lib.hid (join_any (w := w2) (ls := m.take p) (v := .slice (some ⟨lb, lo, none⟩) p lc) ⟨_, t1, t2, t3⟩ (by have := HJL.out; have := HSL.out; omega))
              rw [joinV_of HJ1.out] at HJO
              rw [HTB.out] at HJO
              have hct1 := fun w => cut_lines lb lo m.length lc p (by omega) hlc2 w
              have hct2 : ∀ w, (Instr.slice 39 (.slice (some ⟨lb, lo, none⟩) m.length lc) none (some (.int .i64 z)) none).run Tryz.prog w = .ok (.slice (some ⟨lb, lo, none⟩) (p + 1) lc) w := fun w => by
                have := cut_lines lb lo m.length lc (p + 1) hn2 hlc2 w
                rwa [show ((p + 1 : Nat) : Int) = z by omega] at this
              have hwr : IntKind.i64.wrap (z - 1) = (p : Int) := by rw [IntKind.wrap_i64]; omega
              have HZ := Lib.hid hz
              have HT4 := Lib.hid t4
              have HT5 := Lib.hid t5
              have HT6 := Lib.hid t6
              have HCT2 := Lib.hid hct2
              have HCASE : Hid ((¬ (1 : Int) < z ∧ (z == 1) = true ∧ k2 = 1 ∧ e2 = 4) ∨ ((1 : Int) < z ∧ (z == 1) = false ∧ k2 = 0)) := by
                by_cases hp0 : p = 0
                · exact .inl ⟨by omega, by rw [beq_iff_eq]; omega, j3 (by omega)⟩
                · exact .inr ⟨by omega, by rw [beq_eq_false_iff_ne]; omega, j2 (by omega)⟩
              have HTL := Lib.hid (show (vs.take (p + 1)).length = p + 1 by rw [List.length_take, hvl]; omega)
              have HPN := Lib.hid (show p + 1 ≤ 10000 by have := HML.out; omega)
              clear hz j2 j3 hln hvr hvl hvs hlx hl0 t1 t2 t3 t4 t5 t6 hct2 hlc1 hlc2 hn1 hn2
              go_wp2_with fail
              refine HJO.out.mono ?_
              rintro x w3 ⟨rfl, b3⟩
              have B3 := Lib.hid (bel_next' B2.out b3)
              have B23 := Lib.hid b3
              clear b3 hct1 hwr
              go_wp2_with fail
              refine (HP2.out _ B3.out).mono ?_
              rintro x w4 ⟨us, ue, uj, ug, ub, rfl, l4, b4⟩
              obtain ⟨d1, f1, d2, f2, d3, f3, d4, f4, d5, f5, rfl, rfl, rfl, rfl, rfl⟩ := Lown.shapes l4
              have B4 := Lib.hid (bel_next' B3.out b4)
              have B24 := Lib.hid (bel_next' B23.out b4)
              clear l4 b4
              have hct2 := HCT2.out
              have hcase := HCASE.out
              obtain ⟨i0, hi, hz0, hz1, hz2⟩ := info_parts infoL
              have HI0 := Lib.hid hi
              have HZ0 := Lib.hid hz0
              have HZ1 := Lib.hid hz1
              have HZ2 := Lib.hid hz2
              clear hi hz0 hz1 hz2
              have HSR1 := Lib.hid (fun w' (b : Below w4.heap.size w4 w') => src_of (HT4.out.keep (keep_next (bel_next' B24.out b))) (.inr ⟨_, _, _, rfl⟩))
              rcases hcase with ⟨q1, q2, rfl, rfl⟩ | ⟨q1, q2, rfl⟩
              all_goals
                go_wp2_with (at_builtin; first
                  | (refine wp_append_src rfl (.tmp 111) (.tmp 114) 39 rfl (w4.heap.size + 1) 22 i0 (.slice none 0 0) 24 Tryz.underlying39 HI0.out HZ0.out HZ1.out HZ2.out rfl _ _ _ rfl (empty_at _ (w4.heap.size + 1) (by simp)) _ (vs.take (p + 1)) rfl (HSR1.out _ (((Below.refl _ _).alloc (Nat.le_refl _) _).alloc (by simp) _)) (strs_one HT5.out HT6.out) (by rw [HTL.out]; have := HPN.out; unfold maxLen; omega) (by rw [HTL.out]; have := HPN.out; omega) (by simp) ?_; intro v5 w5 o5 g5; rw [Nat.zero_add, HTL.out, List.nil_append] at o5; have O5 := Lib.hid o5; have E5 := Lib.hid (((Below.refl w4.heap.size w4).alloc (Nat.le_refl _) _ |>.alloc (by simp) _).grown g5 (by simp; omega) (fun g hg => by have h1 : w4.heap.size + 1 = g := Option.some.inj hg; omega)); have Z5 := Lib.hid (show w4.heap.size + 1 ≤ w5.heap.size by have h3 := g5.size; simp at h3; omega); obtain ⟨A5, C5, rfl⟩ := own_len o5; clear o5 g5)
                  | (refine wp_append_src rfl (.tmp 115) (.tmp 116) 39 rfl (w4.heap.size + 1) 22 i0 (.slice none 0 0) 24 Tryz.underlying39 HI0.out HZ0.out HZ1.out HZ2.out rfl _ _ _ rfl O5.out _ vs2 rfl (HSRC.out _ (bel_next' B4.out E5.out)) (strs_one HL2.out HS2.out) (by rw [HL2.out]; have := HPN.out; unfold maxLen; omega) (by rw [HL2.out]; have := HPN.out; omega) Z5.out ?_; intro v6 w6 o6 g6; rw [HL2.out] at o6; obtain ⟨N6, hN6⟩ : ∃ N, p + 1 + more.length = N := ⟨_, rfl⟩; rw [hN6] at o6; clear hN6; have O6 := Lib.hid o6; have E6 := Lib.hid (E5.out.grown g6 E5.out.size (fun g hg => by have h1 := (O5.out.lt g hg).1; omega)); obtain ⟨A6, C6, rfl⟩ := own_len o6; clear o6 g6))
                have o6 := O6.out
                have hl6 := lns_two (w := w6) (m := m.take (p + 1)) (more := more) o6 (Below.refl _ _) HT5.out HL2.out (fun j x l hx hl => (HT6.out j x l hx hl).keep (keep_next (bel_next' B24.out E6.out))) (fun j x l hx hl => (HS2.out j x l hx hl).keep (keep_next (bel_next' B4.out E6.out)))
                obtain ⟨⟨tt, je⟩, hte⟩ : ∃ r, Text.joinR (m.take (p + 1) ++ more) = r := ⟨_, rfl⟩
                have hj := rjoin2_any hl6 (bnd_few (by rw [List.length_append, List.length_take]; have := HML.out; omega) (fun l hl => by
                  rcases List.mem_append.1 hl with hl | hl
                  · have := HWL.out l (List.mem_of_mem_take hl); omega
                  · have := HALM.out l hl; omega))
                rw [joinV_of hte] at hj
                have HJ := Lib.hid hj
                have HTE := Lib.hid hte
                have B6 := Lib.hid (bel_next' B4.out E6.out)
                clear o6 hl6 hj hte hct2
                go_wp2_with fail
                refine HJ.out.mono ?_
                rintro x w7 ⟨rfl, b7⟩
                have B7 := Lib.hid (bel_next' B6.out b7)
                clear b7
                by_cases hje : je = 0
                · subst hje
                  by_cases htl : tt.length ≤ 10000
                  · have hg8 : ¬ (10000 : Int) < ((bs tt).size : Int) := by rw [bs_size]; omega
                    have hpt := HJ4.out more tt HTE.out
                    obtain ⟨⟨L3, n3, e3⟩, hp3⟩ : ∃ r, parseF tt = r := ⟨_, rfl⟩
                    rw [hp3] at hpt
                    simp only [Prod.mk.injEq] at hpt
                    obtain ⟨rfl, rfl⟩ := hpt
                    have HPT := Lib.hid (HP.out tt L3 (p + 1) z e3 w7 (by omega) B7.out hp3 (by have := HZ.out; omega))
                    clear hp3 htl
                    go_wp2_with fail
                    refine HPT.out.mono ?_
                    rintro x w8 ⟨us, ue, uj, ug, ub, rfl, l8, b8⟩
                    obtain ⟨d1, f1, d2, f2, d3, f3, d4, f4, d5, f5, rfl, rfl, rfl, rfl, rfl⟩ := Lown.shapes l8
                    have B8 := Lib.hid (bel_next' B7.out b8)
                    clear l8 b8
                    go_wp2_with fail
                    refine (HA.out _ (B8.out.alloc B8.out.size _)).mono ?_
                    rintro x w9 ⟨rfl, b9⟩
                    have B9 := Lib.hid (bel_next' (B8.out.alloc B8.out.size _) b9)
                    clear b9
                    go_wp2_with fail
                    go_ret
                    exact ⟨rfl, B9.out⟩
                  · have hg8 : (10000 : Int) < ((bs tt).size : Int) := by rw [bs_size]; omega
                    clear htl
                    go_wp2_with fail
                    refine (HA.out _ B7.out).mono ?_
                    rintro x w9 ⟨rfl, b9⟩
                    have B9 := Lib.hid (bel_next' B7.out b9)
                    clear b9
                    go_wp2_with fail
                    go_ret
                    exact ⟨rfl, B9.out⟩
                · have hj1 : ((je : Int) != 0) = true := by simpa using hje
                  clear hje
                  go_wp2_with fail
                  refine (HA.out _ B7.out).mono ?_
                  rintro x w9 ⟨rfl, b9⟩
                  have B9 := Lib.hid (bel_next' B7.out b9)
                  clear b9
                  go_wp2_with fail
                  go_ret
                  exact ⟨rfl, B9.out⟩
            · have hor : (n : Int) < 1 ∨ (m.length : Int) < (n : Int) := by omega
              have HPc := Lib.hid (fun w' b => HP.out s L n (n : Int) e0 w' (by have := HSL.out; omega) b HPS.out rfl)
              clear hin
              by_cases hn1 : (n : Int) < 1
              · go_wp2_with fail
                refine (HPc.out _ HR0.out).mono ?_
                rintro x w1 ⟨us, ue, uj, ug, ub, rfl, l1, b1⟩
                obtain ⟨a1, c1, a2, c2, a3, c3, a4, c4, a5, c5, rfl, rfl, rfl, rfl, rfl⟩ := Lown.shapes l1
                have B1 := Lib.hid b1
                clear l1 b1
                go_wp2_with fail
                refine (HLJ.out _ (B1.out.alloc B1.out.size _)).mono ?_
                rintro x w2 ⟨lv, rfl, hln, b2⟩
                have hln : Lns (In w2) w2 lv m := hln
                have B2 := Lib.hid (bel_next' (B1.out.alloc B1.out.size _) b2)
                obtain ⟨la, lc, rfl, hlm, _⟩ := hln.shape
                clear b2 hln
                go_wp2_with fail
                refine (HA.out _ B2.out).mono ?_
                rintro x w3 ⟨rfl, b3⟩
                have B3 := Lib.hid (bel_next' B2.out b3)
                clear b3
                go_wp2_with fail
                go_ret
                exact ⟨rfl, B3.out⟩
              · have hn2 : (m.length : Int) < (n : Int) := by omega
                clear hor
                go_wp2_with fail
                refine (HPc.out _ HR0.out).mono ?_
                rintro x w1 ⟨us, ue, uj, ug, ub, rfl, l1, b1⟩
                obtain ⟨a1, c1, a2, c2, a3, c3, a4, c4, a5, c5, rfl, rfl, rfl, rfl, rfl⟩ := Lown.shapes l1
                have B1 := Lib.hid b1
                clear l1 b1
                go_wp2_with fail
                refine (HLJ.out _ (B1.out.alloc B1.out.size _)).mono ?_
                rintro x w2 ⟨lv, rfl, hln, b2⟩
                have hln : Lns (In w2) w2 lv m := hln
                have B2 := Lib.hid (bel_next' (B1.out.alloc B1.out.size _) b2)
                obtain ⟨la, lc, rfl, hlm, _⟩ := hln.shape
                clear b2 hln
                go_wp2_with fail
                refine (HA.out _ B2.out).mono ?_
                rintro x w3 ⟨rfl, b3⟩
                have B3 := Lib.hid (bel_next' B2.out b3)
                clear b3
                go_wp2_with fail
                go_ret
                exact ⟨rfl, B3.out⟩
          · have hle := lines_err (s := s) (by rw [HLS.out]; exact her)
            rw [HLS.out, HPS.out] at hle
            simp only at hle
            subst hle
            have HPc := Lib.hid (fun w' b => HP.out s L n (n : Int) (er : Int) w' (by have := HSL.out; omega) b HPS.out rfl)
            have h6 : ((er : Int) != 0) = true := by simpa using her
            have h7 : ((er : Int) == 0) = false := by simpa using her
            clear her
            go_wp2_with fail
            refine (HPc.out _ HR0.out).mono ?_
            rintro x w1 ⟨us, ue, uj, ug, ub, rfl, l1, b1⟩
            obtain ⟨a1, c1, a2, c2, a3, c3, a4, c4, a5, c5, rfl, rfl, rfl, rfl, rfl⟩ := Lown.shapes l1
            have B1 := Lib.hid b1
            clear l1 b1
            go_wp2_with fail
            refine (HLJ.out _ (B1.out.alloc B1.out.size _)).mono ?_
            rintro x w2 ⟨lv, rfl, hln, b2⟩
            have hln : Lns (In w2) w2 lv m := hln
            have B2 := Lib.hid (bel_next' (B1.out.alloc B1.out.size _) b2)
            obtain ⟨la, lc, rfl, hlm, _⟩ := hln.shape
            clear b2 hln
            go_wp2_with fail
            refine (HA.out _ B2.out).mono ?_
            rintro x w3 ⟨rfl, b3⟩
            have B3 := Lib.hid (bel_next' B2.out b3)
            clear b3
            go_wp2_with fail
            go_ret
            exact ⟨rfl, B3.out⟩
    · have hg2 : (20 : Int) < (more.length : Int) := by omega
      go_enter Tryz.func6, Tryz.ntmps6
      go_wp2_with fail
      refine (HA.out _ HR0.out).mono ?_
      rintro e w1 ⟨rfl, b1⟩
      have B1 := Lib.hid b1
      clear b1
      go_wp2_with fail
      go_ret
      exact ⟨rfl, B1.out⟩
  · have hg1 : (10000 : Int) < ((bs s).size : Int) := by rw [bs_size]; omega
    go_enter Tryz.func6, Tryz.ntmps6
    go_wp2_with fail
    refine (HA.out _ HR0.out).mono ?_
    rintro e w1 ⟨rfl, b1⟩
    have B1 := Lib.hid b1
    clear b1
    go_wp2_with fail
    go_ret
    exact ⟨rfl, B1.out⟩

end Go.Proofs.YtfdipcphohhlgaaGreatDoor.Pfsw
