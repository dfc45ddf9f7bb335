/- The calls of wire's cut and outside. -/
import Derived.Test.YtpbmkapeieoiaaaUints
import Derived.WalkSpells
import Derived.WalkLawsBesides
import Derived.BigGuardPart
import Derived.Lib.Strings
namespace Go.Proofs.Ytpbmkapeieoiaaa.Takes
open Go.RowKit Go.Lib Go.Proofs.Ytpbmkapeieoiaaa.Var Go.Proofs.Ytpbmkapeieoiaaa.Uints

def outB (s : ByteArray) (t : Int) : Bool := decide (t < 0 ∨ (s.size : Int) < t)
theorem outside_any (s : ByteArray) (t : Int) (w : World) :
    Calls Try.prog 39 #[.string s, .int .i64 t] w fun e w' => e = .returned (.bool (outB s t)) ∧ w = w' := by
  by_cases h0 : t < 0
  · have HO := Lib.hid (show outB s t = true by simp [outB, h0])
    go_enter Try.func39, Try.ntmps39
    go_wp2_with fail
    go_ret
    exact ⟨by rw [HO.out]; rfl, rfl⟩
  · by_cases h1 : (s.size : Int) < t
    · have HO := Lib.hid (show outB s t = true by simp [outB, h1])
      go_enter Try.func39, Try.ntmps39
      go_wp2_with fail
      go_ret
      exact ⟨by rw [HO.out]; rfl, rfl⟩
    · have HO := Lib.hid (show outB s t = false by simp [outB]; omega)
      have h2 : decide ((s.size : Int) < t) = false := by simp; omega
      go_enter Try.func39, Try.ntmps39
      go_wp2_with fail
      go_ret
      exact ⟨by rw [HO.out]; rfl, rfl⟩

/-- A new slice that holds these bytes. -/
def CutOut (l : List UInt8) (w : World) (e : Ending) (w' : World) : Prop :=
  ∃ g, e = .returned (.slice (some ⟨g, 0, none⟩) l.length l.length) ∧ Below w.heap.size w w' ∧ ∀ j (hj : j < l.length), w'.cell? ⟨g, j, none⟩ = some (.int .u8 (l[j].toNat : Int))

def part (s : ByteArray) (a b : Nat) : List UInt8 := (s.data.toList.drop a).take (b - a)
theorem size_list (s : ByteArray) : s.data.toList.length = s.size := by simp
theorem part_length {s : ByteArray} {a b : Nat} (h1 : a ≤ b) (h2 : b ≤ s.size) : (part s a b).length = b - a := by
  have := size_list s
  simp only [part, List.length_take, List.length_drop, this]
  omega
theorem extract_part (s : ByteArray) (a b : Nat) : (s.extract a b).data.toList = part s a b := by rw [Lib.extract_data]; rfl
theorem extract_size' {s : ByteArray} {a b : Nat} (h1 : a ≤ b) (h2 : b ≤ s.size) : (s.extract a b).size = b - a := by
  rw [← part_length h1 h2, ← extract_part, size_list]

/-- The cells behind the conversion. -/
theorem row_cells (w : World) (s : ByteArray) (cap lo hi : Nat) (l : List UInt8) (h : s.data.toList = l) (j : Nat) (hj : j < l.length) :
    (w.drew.alloc (.cells (bytesRow s cap) 5 (lo, hi))).cell? ⟨w.heap.size, j, none⟩ = some (.int .u8 (l[j].toNat : Int)) := by
  subst h
  rw [show w.heap.size = w.drew.heap.size from rfl, World.cell?_alloc_mark, bytesRow_at s cap j (by simpa using hj)]
  simp

theorem cut_any (s : ByteArray) (a b : Nat) (w : World) (h1 : a ≤ b) (h2 : b ≤ s.size) :
    Calls Try.prog 40 #[.string s, .int .i64 (a : Int), .int .i64 (b : Int)] w (CutOut (part s a b) w) := by
  have HE := Lib.hid (extract_size' h1 h2)
  have HC := run_bytes_of_string (P := Try.prog) w 9 52 5 (s.extract a b) Try.underlying9 Try.underlying52 Try.underlying5
  have HL := Lib.hid (part_length h1 h2)
  have hg := grownCap_ge w (b - a) 0 5
  rw [HE.out] at HC
  obtain ⟨cap, hcap⟩ : ∃ cap, grownCap w (b - a) 0 5 = cap := ⟨_, rfl⟩
  rw [hcap] at HC hg
  obtain ⟨n, hn⟩ : ∃ n, (bytesRow (s.extract a b) cap).size = n := ⟨_, rfl⟩
  rw [hn] at HC
  have H1 := Lib.hid h1
  clear hcap hn
  have hg' : b ≤ cap + a := by omega
  go_enter Try.func40, Try.ntmps40
  go_wp2_with fail
  go_ret
  exact ⟨w.heap.size, by rw [HL.out]; rfl, ((Below.refl _ w).drew).alloc (Nat.le_refl _) _, row_cells w _ cap _ _ _ (extract_part s a b)⟩

end Go.Proofs.Ytpbmkapeieoiaaa.Takes
