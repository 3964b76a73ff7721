/- Contracts of the document's size, Ticks, Norm, Name, Parse. Conditions: as each theorem states. -/
import Derived.Test.YthkopnobekohcaaDoorUniB
import Derived.Test.YthkopnobekohcaaDoorSatC
namespace Go.Proofs.YthkopnobekohcaaDoor.Uni
open Go.RowKit Go.Lib

theorem pa_none {s : ByteArray} (h : ∀ k : Nat, 1 ≤ k → k < 4 → nmB k ≠ s) : pa s = 0 := by
  have a1 := h 1 (by omega) (by omega); have a2 := h 2 (by omega) (by omega); have a3 := h 3 (by omega) (by omega)
  unfold pa
  rw [if_neg (fun e : s = nm1 => a1 e.symm), if_neg (fun e : s = nm2 => a2 e.symm), if_neg (fun e : s = nm3 => a3 e.symm)]
/-- What the ticks are within the range, and out of it. -/
theorem tick_doc {n u : Int} (hz : sz u ≠ 0) : (1 ≤ n → n ≤ 86400000 / sz u → tV n u = n * sz u ∧ tE n u 15 2 = 0 ∧ n * sz u ≤ 86400000) ∧ (n < 1 → tV n u = 0 ∧ tE n u 15 2 = 2) ∧ (86400000 / sz u < n → tV n u = 0 ∧ tE n u 15 2 = 2) := by
  have ho : okT n u = true ↔ (1 ≤ n ∧ n ≤ 86400000 / sz u) := by
    unfold okT
    rw [Bool.and_eq_true, Bool.and_eq_true, decide_eq_true_eq, decide_eq_true_eq, decide_eq_true_eq]
    exact ⟨fun h => h.2, fun h => ⟨hz, h⟩⟩
  have no : ¬ (1 ≤ n ∧ n ≤ 86400000 / sz u) → tV n u = 0 ∧ tE n u 15 2 = 2 := fun h => by
    have h2 : okT n u = false := by rw [Bool.eq_false_iff]; exact fun e => h (ho.1 e)
    exact ⟨tV_no h2, by unfold tE; rw [if_neg hz, h2]; rfl⟩
  refine ⟨fun a b => ?_, fun a => no (by omega), fun a => no (by omega)⟩
  have h := ho.2 ⟨a, b⟩
  have hv : tV n u = n * sz u := by unfold tV; rw [if_pos h]
  exact ⟨hv, tE_ok h, by have := tV_range h; omega⟩

end Go.Proofs.YthkopnobekohcaaDoor.Uni
