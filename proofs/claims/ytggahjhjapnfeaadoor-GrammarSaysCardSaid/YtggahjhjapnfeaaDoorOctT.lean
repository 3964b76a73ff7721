/- Contracts of octet's Take and Cut, and of the document's, one over every input. Conditions: as each theorem states. -/
import Derived.Test.YtggahjhjapnfeaaDoorOctC
namespace Go.Proofs.YtggahjhjapnfeaaDoor.Oct
open Go.RowKit Go.Lib Go.Proofs.YtggahjhjapnfeaaDoor.Byt

/-- What Take hands back. -/
def tkB (s : ByteArray) (i k : Int) : Bool := has s i k && decide (1 ≤ k ∧ k ≤ 8)
def tkN (s : ByteArray) (i k : Int) : Nat := if tkB s i k then takeL 0 (cutB s i.toNat k.toNat).data.toList else 0
/-- What Cut hands back. -/
def cutS (s : ByteArray) (i n : Int) : ByteArray := if has s i n then cutB s i.toNat n.toNat else ⟨#[]⟩

theorem has_nat {s : ByteArray} {i n : Int} (h : has s i n = true) : ∃ a b : Nat, i = (a : Int) ∧ n = (b : Int) ∧ a + b ≤ s.size := by
  unfold has at h
  simp at h
  exact ⟨i.toNat, n.toNat, by omega, by omega, by omega⟩

theorem cut_any (s : ByteArray) (i n : Int) (w : World) (hs : s.size ≤ 140737488355328) (hi : -9223372036854775808 ≤ i) (hi' : i ≤ 9223372036854775807) :
    Calls Tryd.prog 61 #[.string s, .int .i64 i, .int .i64 n] w fun e w' => e = .returned (.tuple #[.string (cutS s i n), .bool (has s i n)]) ∧ Below w.heap.size w w' := by
  cases h : has s i n
  · refine (cut_no s i n w h hs hi hi').mono fun e w' ⟨h1, h2⟩ => ⟨?_, h2 ▸ Below.refl _ _⟩
    rw [h1]; unfold cutS; rw [h]; rfl
  · obtain ⟨a, b, rfl, rfl, hab⟩ := has_nat h
    refine (cut_yes s a b w hab hs).mono fun e w' ⟨h1, h2⟩ => ⟨?_, h2⟩
    rw [h1]; unfold cutS; rw [h]; rfl
theorem rcut_any (s : ByteArray) (i n : Int) (w : World) (hs : s.size ≤ 140737488355328) (hi : -9223372036854775808 ≤ i) (hi' : i ≤ 9223372036854775807) :
    Calls Tryd.prog 54 #[.string s, .int .i64 i, .int .i64 n] w fun e w' => e = .returned (.tuple #[.string (cutS s i n), .bool (has s i n)]) ∧ w = w' := by
  cases h : has s i n
  · refine (rcut_no s i n w h hs hi hi').mono fun e w' ⟨h1, h2⟩ => ⟨?_, h2⟩
    rw [h1]; unfold cutS; rw [h]; rfl
  · obtain ⟨a, b, rfl, rfl, hab⟩ := has_nat h
    refine (rcut_yes s a b w hab hs).mono fun e w' ⟨h1, h2⟩ => ⟨?_, h2⟩
    rw [h1]; unfold cutS; rw [h]; rfl
theorem tkB_no {s : ByteArray} {i k : Int} (h : tkB s i k = false) : has s i k = false ∨ k < 1 ∨ 8 < k := by
  unfold tkB at h
  simp only [Bool.and_eq_false_iff, decide_eq_false_iff_not] at h
  rcases h with h | h
  · exact .inl h
  · exact .inr (by omega)
theorem tkB_yes {s : ByteArray} {i k : Int} (h : tkB s i k = true) : ∃ a b : Nat, i = (a : Int) ∧ k = (b : Int) ∧ a + b ≤ s.size ∧ 1 ≤ b ∧ b ≤ 8 := by
  unfold tkB at h
  simp only [Bool.and_eq_true, decide_eq_true_eq] at h
  obtain ⟨a, b, rfl, rfl, hab⟩ := has_nat h.1
  exact ⟨a, b, rfl, rfl, hab, by omega, by omega⟩
end Go.Proofs.YtggahjhjapnfeaaDoor.Oct
