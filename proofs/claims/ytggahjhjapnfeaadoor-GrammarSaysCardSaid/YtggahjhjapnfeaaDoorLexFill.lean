/- Plain facts of all tokens: where they stand. Conditions: as each theorem states. -/
import Derived.Test.YtggahjhjapnfeaaDoorLexKeep
namespace Go.Proofs.YtggahjhjapnfeaaDoor.Lx
open Go.Lib Go.Proofs.YtggahjhjapnfeaaDoor.Utf Go.Proofs.YtggahjhjapnfeaaDoor.Oct Go.Proofs.YtggahjhjapnfeaaDoor.Quo

theorem skp_bl : ∀ (l : List UInt8) (j : Nat), j < skp l → bl (l.getD j 0).toNat = true
  | [], j, h => by simp [skp] at h
  | c :: l, j, h => by
    rw [skp] at h
    by_cases hb : bl c.toNat = true
    · rw [if_pos hb] at h
      cases j with
      | zero => simpa using hb
      | succ j => rw [List.getD_cons_succ]; exact skp_bl l j (by omega)
    · rw [if_neg hb] at h; omega
theorem getD_dropN (S : List UInt8) (b j : Nat) : (S.drop b).getD j 0 = S.getD (b + j) 0 := by
  rw [List.getD_eq_getElem?_getD, List.getElem?_drop, ← List.getD_eq_getElem?_getD]
/-- The tokens from place e on fill S to its end. -/
def Fl (S : List UInt8) : Nat → List Tk → Prop
  | e, [] => e = S.length
  | e, x :: r => e ≤ x.o ∧ x.o + x.z ≤ S.length ∧ (x.k = 0 ↔ r = []) ∧ (x.z = 0 ↔ x.k = 0) ∧ (∀ j, e ≤ j → j < x.o → bl (S.getD j 0).toNat = true) ∧ x.v.length ≤ x.z ∧ x.k ≤ 11 ∧ Fl S (x.o + x.z) r
theorem fills (S : List UInt8) (b : Nat) (l : List UInt8) : l = S.drop b → b ≤ S.length → (tkA b l).1 = 0 → Fl S b (tkA b l).2.2 ∧ (tkA b l).2.2 ≠ [] ∧ (tkA b l).2.2.length + b ≤ S.length + 1 ∧ (tkA b l).2.1 = 0 := by
  refine tok_ind (p := fun b l => l = S.drop b → b ≤ S.length → (tkA b l).1 = 0 → Fl S b (tkA b l).2.2 ∧ (tkA b l).2.2 ≠ [] ∧ (tkA b l).2.2.length + b ≤ S.length + 1 ∧ (tkA b l).2.1 = 0) ?_ ?_ ?_ b l
  · intro b l h _ _ h0
    rw [tkA_bad b l h] at h0
    exact absurd h0 h
  · intro b l h hk hl hb _
    obtain ⟨g1, g2, g3, g4, g5, g6⟩ := nx_good l h
    have hz := g4.2 hk
    have hs := g3.1 hk
    have hll : l.length = S.length - b := by rw [hl, List.length_drop]
    rw [tkA_end b l h hk]
    refine ⟨?_, by simp, by simp; omega, rfl⟩
    show _ ≤ b + (nx l).2.o ∧ b + (nx l).2.o + (nx l).2.z ≤ _ ∧ ((nx l).2.k = 0 ↔ _) ∧ ((nx l).2.z = 0 ↔ (nx l).2.k = 0) ∧ (∀ j, b ≤ j → j < b + (nx l).2.o → _) ∧ (nx l).2.v.length ≤ (nx l).2.z ∧ (nx l).2.k ≤ 11 ∧ b + (nx l).2.o + (nx l).2.z = _
    refine ⟨by omega, by omega, ⟨fun _ => rfl, fun _ => hk⟩, g4, ?_, g5, g6, by omega⟩
    intro j j1 j2
    have := skp_bl l (j - b) (by omega)
    rw [hl, getD_dropN, show b + (j - b) = j by omega] at this
    exact this
  · intro b l h hk ih hl hb h0
    obtain ⟨g1, g2, g3, g4, g5, g6⟩ := nx_good l h
    have hst := nx_step l h hk
    have hll : l.length = S.length - b := by rw [hl, List.length_drop]
    have h1 := tkA_step b l h hk
    have hq : (tkA (b + (nx l).2.o + (nx l).2.z) (l.drop ((nx l).2.o + (nx l).2.z))).1 = 0 := by
      by_cases hq : (tkA (b + (nx l).2.o + (nx l).2.z) (l.drop ((nx l).2.o + (nx l).2.z))).1 = 0
      · exact hq
      · rw [h1, if_neg hq] at h0; exact h0
    rw [if_pos hq] at h1
    obtain ⟨i1, i2, i3, i4⟩ := ih (by rw [hl, List.drop_drop]; congr 1; omega) (by omega) hq
    rw [h1]
    generalize (tkA (b + (nx l).2.o + (nx l).2.z) (l.drop ((nx l).2.o + (nx l).2.z))).2.2 = L at *
    refine ⟨?_, by simp, by simp only [List.length_cons]; omega, rfl⟩
    show _ ≤ b + (nx l).2.o ∧ b + (nx l).2.o + (nx l).2.z ≤ _ ∧ ((nx l).2.k = 0 ↔ _) ∧ ((nx l).2.z = 0 ↔ (nx l).2.k = 0) ∧ (∀ j, b ≤ j → j < b + (nx l).2.o → _) ∧ (nx l).2.v.length ≤ (nx l).2.z ∧ (nx l).2.k ≤ 11 ∧ Fl S (b + (nx l).2.o + (nx l).2.z) L
    refine ⟨by omega, by omega, ⟨fun e => absurd e hk, fun e => absurd e i2⟩, g4, ?_, g5, g6, i1⟩
    intro j j1 j2
    have := skp_bl l (j - b) (by omega)
    rw [hl, getD_dropN, show b + (j - b) = j by omega] at this
    exact this
/-- Where there is a fault: it stands in S, and there are no tokens. -/
theorem faults (b : Nat) (l : List UInt8) : (tkA b l).1 ≠ 0 → (tkA b l).2.2 = [] ∧ (tkA b l).2.1 ≤ b + l.length := by
  refine tok_ind (p := fun b l => (tkA b l).1 ≠ 0 → (tkA b l).2.2 = [] ∧ (tkA b l).2.1 ≤ b + l.length) ?_ ?_ ?_ b l
  · intro b l h _
    obtain ⟨o, h1, h2⟩ := nx_bad l h
    rw [tkA_bad b l h, h1]
    exact ⟨rfl, by show b + o ≤ _; omega⟩
  · intro b l h hk h0
    rw [tkA_end b l h hk] at h0
    exact absurd rfl h0
  · intro b l h hk ih h0
    have hst := nx_step l h hk
    have h1 := tkA_step b l h hk
    by_cases hq : (tkA (b + (nx l).2.o + (nx l).2.z) (l.drop ((nx l).2.o + (nx l).2.z))).1 = 0
    · rw [if_pos hq] at h1
      rw [h1] at h0
      exact absurd rfl h0
    · rw [if_neg hq] at h1
      have := ih hq
      rw [List.length_drop] at this
      rw [h1]
      exact ⟨this.1, by omega⟩
end Go.Proofs.YtggahjhjapnfeaaDoor.Lx
