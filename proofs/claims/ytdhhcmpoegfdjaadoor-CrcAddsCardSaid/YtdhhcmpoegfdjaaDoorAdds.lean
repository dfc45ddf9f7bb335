/- The exclusive or of three texts, byte by byte, and its checksum. -/
import Derived.Test.YtdhhcmpoegfdjaaDoorDet
import Derived.Deep.RegionLaw
import Derived.Lib.QuietBelow
import Derived.Lib.BufferRead
import Derived.BigGuardPart
namespace Go.Proofs.YtdhhcmpoegfdjaaDoor.Adds
open Go.Sort Go.RowKit Go.WideShapes Go.Proofs.YtdhhcmpoegfdjaaDoor.Crc Go.Proofs.YtdhhcmpoegfdjaaDoor.Sum Go.Proofs.YtdhhcmpoegfdjaaDoor.Seal Go.Proofs.YtdhhcmpoegfdjaaDoor.Opn Go.Proofs.YtdhhcmpoegfdjaaDoor.Calive Go.Proofs.YtdhhcmpoegfdjaaDoor.Hex Go.Proofs.YtdhhcmpoegfdjaaDoor.Ownb Go.Proofs.YtdhhcmpoegfdjaaDoor.Det

theorem run_min_int4 {P : Program} (w : World) (ts : Array TypeId) (t : TypeId) (x y z u n : Int) (h : n = min (min (min x y) z) u) : (Builtin.min_ ts t #[.int .i64 x, .int .i64 y, .int .i64 z, .int .i64 u]).run P w = .ok (.int .i64 n) w := by
  subst h
  simp [Builtin.min_, Builtin.min2]
  omega

def cut3 (a b c : ByteArray) : Nat := min (min (min a.size b.size) c.size) 3000
theorem xor3_snoc : ∀ (l m r : List UInt8) (x y z : UInt8), l.length = m.length → l.length = r.length → xor3 (l ++ [x]) (m ++ [y]) (r ++ [z]) = xor3 l m r ++ [x ^^^ y ^^^ z]
  | [], [], [], _, _, _, _, _ => rfl
  | a :: l, b :: m, c :: r, x, y, z, h1, h2 => by
    simp only [List.cons_append, xor3]
    rw [xor3_snoc l m r x y z (by simpa using h1) (by simpa using h2)]
  | [], _ :: _, _, _, _, _, h, _ => by simp at h
  | [], [], _ :: _, _, _, _, _, h => by simp at h
  | _ :: _, [], _, _, _, _, h, _ => by simp at h
  | _ :: _, _ :: _, [], _, _, _, _, h => by simp at h
theorem take_snoc (s : ByteArray) (k : Nat) (h : k < s.size) : s.data.toList.take (k + 1) = s.data.toList.take k ++ [s[k]] := by
  rw [List.take_succ_eq_append_getElem (by simpa using h)]
  rfl
def xs (a b c : ByteArray) (k : Nat) : List UInt8 := xor3 (a.data.toList.take k) (b.data.toList.take k) (c.data.toList.take k)
theorem xor3_length : ∀ (l m r : List UInt8), l.length = m.length → l.length = r.length → (xor3 l m r).length = l.length
  | [], [], [], _, _ => rfl
  | a :: l, b :: m, c :: r, h1, h2 => by
    simp only [xor3, List.length_cons]
    rw [xor3_length l m r (by simpa using h1) (by simpa using h2)]
  | [], _ :: _, _, h, _ => by simp at h
  | [], [], _ :: _, _, h => by simp at h
  | _ :: _, [], _, h, _ => by simp at h
  | _ :: _, _ :: _, [], _, h => by simp at h
theorem take_len (s : ByteArray) (k : Nat) (h : k ≤ s.size) : (s.data.toList.take k).length = k := by
  rw [List.length_take, size_list]
  omega
theorem xs_length (a b c : ByteArray) (k : Nat) (ha : k ≤ a.size) (hb : k ≤ b.size) (hc : k ≤ c.size) : (xs a b c k).length = k := by
  unfold xs
  rw [xor3_length _ _ _ (by rw [take_len a k ha, take_len b k hb]) (by rw [take_len a k ha, take_len c k hc]), take_len a k ha]
theorem xs_succ (a b c : ByteArray) (k : Nat) (ha : k < a.size) (hb : k < b.size) (hc : k < c.size) : xs a b c (k + 1) = xs a b c k ++ [a[k] ^^^ b[k] ^^^ c[k]] := by
  unfold xs
  rw [take_snoc a k ha, take_snoc b k hb, take_snoc c k hc, xor3_snoc _ _ _ _ _ _ (by rw [take_len a k (by omega), take_len b k (by omega)]) (by rw [take_len a k (by omega), take_len c k (by omega)])]
theorem xs_crc (a b c : ByteArray) (k : Nat) (ha : k ≤ a.size) (hb : k ≤ b.size) (hc : k ≤ c.size) : crc (xs a b c k) = crcS (a.extract 0 k) ^^^ crcS (b.extract 0 k) ^^^ crcS (c.extract 0 k) := by
  rw [crc_extract, crc_extract, crc_extract]
  exact crc_xor3 (by rw [take_len a k ha, take_len b k hb]) (by rw [take_len a k ha, take_len c k hc])

/-- append to a row of the call's own, as one step of a region that draws. -/
theorem step_append_own {P : Program} {ops : Array Oper} {o : Oper} {a : Act} {w : World} {K : Act → World → Prop} {Q : Exit → Act → World → Prop} {E : Prop}
    (hg : o.guard = none) (s x : Operand) (t : TypeId) (hop : o.op = Op.call { callee := Callee.builtin Builtin.append, args := #[s, x], argTypes := #[t, t] })
    (base : Nat) (e : TypeId) (i : TypeInfo) (z : Value) (size bytes : Nat) (ht : P.underlying t = some (.slice e)) (hi : P.info? e = some i) (hz : i.zero = some z)
    (hsize : i.size = size) (hby : i.bytes = bytes) (hzs : z.cells.size = size) (hsz : 0 < size)
    (v : Value) (n : Nat) (xs : List Value) (hs : a.eval s = v) (hown : w.ownsRow base e size v n xs)
    (ad : Addr) (m c : Nat) (news : List Value) (hx : a.eval x = .slice (some ad) m c) (hl : news.length = m * size) (hnews : ∀ j u, news[j]? = some u → w.cell? (ad.add j) = some u) (h1 : ∀ u ∈ news, u.oneCell' = true)
    (h63 : n + m ≤ maxLen) (hbytes : (n + m) * bytes ≤ 140737488355328) (hbase : base ≤ w.heap.size)
    (h : ∀ v' w', w'.ownsRow base e size v' (n + m) (xs ++ news) → w.grownBy w' v.ownBlock → K (a.put o.dst v') w') :
    if Region.wanted o (yielded ops a.tmps) = true then Oper.wp P o a w K Q else E := by
  have hw : Region.wanted o (yielded ops a.tmps) = true := by simp [Region.wanted, hg]
  rw [if_pos hw]
  obtain ⟨v', w', hr, h2, h3, _, _⟩ := run_append_own_at (P := P) w base t o.type e i z size bytes ht hi hz hsize hby hzs hsz v n xs hown ad m c news hl hnews h1 h63 hbytes hbase
  unfold Oper.wp execOp
  simp only [hop, resolve, invoke, builtin, Sem.run_bind, Sem.run_pure, Result.andThen_ok, List.map_toArray, List.map_cons, List.map_nil, hs, hx, hr]
  exact h v' w' h2 h3

def ARel (a b c : ByteArray) (w : World) (v i : Value) (wr : World) : Prop :=
  ∃ k : Nat, i = .int .i64 k ∧ k ≤ cut3 a b c ∧ OwnB w.heap.size wr v (xs a b c k) ∧ Below w.heap.size w wr

theorem arel_more {a b c : ByteArray} {w wr w1 : World} {vs v1 : Value} {k : Nat} {X : UInt8} (hx : xs a b c (k + 1) = xs a b c k ++ [X]) (hk : k < cut3 a b c) (ho : OwnB w.heap.size wr vs (xs a b c k)) (hbel : Below w.heap.size w wr)
    (h1 : w1.ownsRow w.heap.size 5 1 v1 ((xs a b c k).length + 1) (Lib.byteCells (xs a b c k) ++ [.int .u8 (X.toNat : Int)])) (hg : ((wr.alloc (.cells #[.int .u8 (X.toNat : Int)] 5)).drew).grownBy w1 vs.ownBlock) :
    ARel a b c w v1 (.int .i64 ((k : Int) + 1)) w1 := by
  refine ⟨k + 1, rfl, by omega, ?_, ?_⟩
  · rw [hx, ← u8_back X]
    exact own_snoc h1 rfl (byte_lt X)
  · exact ((hbel.alloc hbel.size _).drew).grown hg (by have := hbel.size; simp; omega) (own_ltB ho)
theorem own_conv {B : Nat} {w : World} {v : Value} {l : List UInt8} (h : OwnB B w v l) (d : Nat) (os : Array Obj) : (convert 30 9 v).run Tryd.prog (grow (redrawn w d) os) = .ok (.string ⟨l.toArray⟩) (grow (redrawn w d) os) := by
  by_cases hl : l = []
  · subst hl
    rcases own_empty h with rfl | ⟨g, cap, rfl⟩
    · exact Lib.run_convert_nil_bytes _ _ _ 5 0 Tryd.underlying30 Tryd.underlying5 Tryd.underlying9
    · exact run_convert_bytes_back (P := Tryd.prog) _ 30 9 5 ⟨g, 0, none⟩ cap [] Tryd.underlying30 Tryd.underlying5 Tryd.underlying9 (fun j hj => absurd hj (by simp))
  · obtain ⟨g, cap, rfl, hc⟩ := own_back h hl
    exact run_convert_bytes_back (P := Tryd.prog) _ 30 9 5 ⟨g, 0, none⟩ cap l Tryd.underlying30 Tryd.underlying5 Tryd.underlying9 (fun j hj => cell_regrown (hc j hj) d os)

set_option maxHeartbeats 1600000 in
set_option maxRecDepth 100000 in
theorem adds_any (a b c : ByteArray) (w : World) (ha : a.size ≤ maxLen) (hb : b.size ≤ maxLen) (hc : c.size ≤ maxLen) (hdeb : Deb w) :
    Calls Tryd.prog 6 #[.string a, .string b, .string c] w (Says w) := by
  unfold maxLen at ha hb hc
  obtain ⟨i0, hi, hz0, hz1, hz2⟩ := info_parts infoB
  have HI := Lib.hid hi
  have HZ0 := Lib.hid hz0
  have HZ1 := Lib.hid hz1
  have HZ2 := Lib.hid hz2
  have HD := Lib.hid hdeb
  obtain ⟨n, hn⟩ : ∃ n, cut3 a b c = n := ⟨_, rfl⟩
  have HN := Lib.hid hn
  have hna : n ≤ a.size := by rw [← hn]; unfold cut3; omega
  have hnb : n ≤ b.size := by rw [← hn]; unfold cut3; omega
  have hnc : n ≤ c.size := by rw [← hn]; unfold cut3; omega
  have hn3 : n ≤ 3000 := by rw [← hn]; unfold cut3; omega
  have hmin := fun w ts t => run_min_int4 (P := Tryd.prog) w ts t a.size b.size c.size 3000 n (by rw [← hn]; unfold cut3; omega)
  clear hi hz0 hz1 hz2 hdeb hn
  go_enter Tryd.func6, Tryd.ntmps6
  go_wp2_with fail
  go_loopw [8, 9] (fun v i wr => ARel a b c w v i wr) (fun _ i _ => n - (intOf i).toNat)
  case atStart => exact ⟨0, rfl, Nat.zero_le _, own_nil _ _, Below.refl _ _⟩
  case round =>
    obtain ⟨k, rfl, hk, ho, hbel⟩ := hrel
    rw [HN.out] at hk
    have HO := Lib.hid ho
    have HB := Lib.hid hbel
    clear ho hbel
    by_cases hlt : k < n
    · have hka : k < a.size := by omega
      have hkb : k < b.size := by omega
      have hkc : k < c.size := by omega
      have x1 : bits .xor .u8 (a[k].toNat : Int) (b[k].toNat : Int) = ((a[k] ^^^ b[k]).toNat : Int) := by
        rw [u8_xor_nat _ _ (byte_lt _) (byte_lt _), UInt8.toNat_xor]
      have x2 : bits .xor .u8 ((a[k].toNat ^^^ b[k].toNat : Nat) : Int) (c[k].toNat : Int) = ((a[k] ^^^ b[k] ^^^ c[k]).toNat : Int) := by
        rw [← UInt8.toNat_xor, u8_xor_nat _ _ (byte_lt _) (byte_lt _), UInt8.toNat_xor (a[k] ^^^ b[k])]
      have HX := Lib.hid (xs_succ a b c k hka hkb hkc)
      have HLN := Lib.hid (xs_length a b c k (by omega) (by omega) (by omega))
      obtain ⟨X, hX⟩ : ∃ X, a[k] ^^^ b[k] ^^^ c[k] = X := ⟨_, rfl⟩
      rw [hX] at x2 HX
      clear hX
      go_wp2_with fail
      go_region_law (refine step_append_own rfl (.tmp 22) (.tmp 34) 30 rfl w.heap.size 5 i0 (.int .u8 0) 1 1 Tryd.underlying30 HI.out HZ0.out HZ1.out HZ2.out rfl (by decide) _ _ _ rfl ((HO.out.alloc _).drew) ⟨wr.heap.size, 0, none⟩ 1 1 [_] rfl rfl (fun j u hj => cell_one_new wr _ _ j u hj) (by intro u hu; simp at hu; subst hu; rfl) (by have := HLN.out; unfold maxLen; omega) (by have := HLN.out; omega) (by have := HB.out.size; simp; omega) ?_; intro v1 w1 h1own hg1; have R1 := Lib.hid h1own; have R2 := Lib.hid hg1; clear h1own hg1)
      all_goals
        go_wp2_with fail
        go_roundw
        case rel => exact arel_more HX.out (by rw [HN.out]; exact hlt) HO.out HB.out R1.out R2.out
        case measure => simp [intOf]; omega
    · obtain rfl : k = n := by omega
      have HLN := Lib.hid (xs_length a b c k hna hnb hnc)
      have e1 := xs_crc a b c k hna hnb hnc
      have sz : ∀ s : ByteArray, (s.extract 0 k).size ≤ 140737488355328 := fun s => by rw [ByteArray.size_extract]; omega
      have CA := Lib.hid (fun d os => Calls.regrown_of (w := wr) (d := d) (os := os) (sum_any (a.extract 0 k) _ (sz a)))
      have CB := Lib.hid (fun d os => Calls.regrown_of (w := wr) (d := d) (os := os) (sum_any (b.extract 0 k) _ (sz b)))
      have CC := Lib.hid (fun d os => Calls.regrown_of (w := wr) (d := d) (os := os) (sum_any (c.extract 0 k) _ (sz c)))
      have CX := Lib.hid (fun d os => Calls.regrown_of (w := wr) (d := d) (os := os) (sum_any ⟨(xs a b c k).toArray⟩ _ (by show (xs a b c k).toArray.size ≤ _; have := HLN.out; simp; omega)))
      have CE := Lib.hid (fun d os => Calls.regrown_of (w := wr) (d := d) (os := os) (alive_any _ (deb_next HD.out (bel_next HB.out (below_regrown wr d os)))))
      have hcv := own_conv HO.out
      have ex : crcS ⟨(xs a b c k).toArray⟩ = crc (xs a b c k) := rfl
      rw [ex, e1] at CX
      have la := crc_lt (a.extract 0 k).data.toList
      have lb := crc_lt (b.extract 0 k).data.toList
      have lc := crc_lt (c.extract 0 k).data.toList
      obtain ⟨sa, hsa⟩ : ∃ x, crcS (a.extract 0 k) = x := ⟨_, rfl⟩
      obtain ⟨sb, hsb⟩ : ∃ x, crcS (b.extract 0 k) = x := ⟨_, rfl⟩
      obtain ⟨sc, hsc⟩ : ∃ x, crcS (c.extract 0 k) = x := ⟨_, rfl⟩
      rw [show crc (a.extract 0 k).data.toList = sa from hsa] at la
      rw [show crc (b.extract 0 k).data.toList = sb from hsb] at lb
      rw [show crc (c.extract 0 k).data.toList = sc from hsc] at lc
      rw [hsa] at CA CX
      rw [hsb] at CB CX
      rw [hsc] at CC CX
      have y1 := xor_u32 la lb
      have y2 := xor_u32 (xor_lt la lb) lc
      obtain ⟨p, hp⟩ : ∃ p, sa ^^^ sb = p := ⟨_, rfl⟩
      rw [hp] at y1 y2 CX
      obtain ⟨q, hq⟩ : ∃ q, p ^^^ sc = q := ⟨_, rfl⟩
      rw [hq] at y2 CX
      have hqq : ((q : Int) == (q : Int)) = true := by simp
      obtain ⟨T, hT⟩ : ∃ T : ByteArray, ⟨(xs a b c k).toArray⟩ = T := ⟨_, rfl⟩
      rw [hT] at CX hcv
      clear ex e1 la lb lc hsa hsb hsc hp hq hT sz hmin
      go_wp2_with fail
      refine wp_region_quiet_below (by kernel_rfl) (by kernel_rfl) ?_
      repeat (quiet_step (first | (with_reducible exact CX.out _ _) | (with_reducible exact CA.out _ _) | (with_reducible exact CB.out _ _) | (with_reducible exact CC.out _ _) | (with_reducible exact CE.out _ _)))
      refine wpQuiet_nil ?_
      intro _ hw'
      obtain ⟨⟨dq, osq⟩, hw''⟩ := hw'
      subst hw''
      have HB2 := Lib.hid (bel_next HB.out (below_regrown wr dq osq))
      go_wp2_with fail
      go_ret
      exact ⟨rfl, HB2.out⟩

end Go.Proofs.YtdhhcmpoegfdjaaDoor.Adds
