/- The statements' example of routes; the law RouteBack. Conditions: as each theorem states. -/
import Derived.Test.YthkopnobekohcaaGreatDoorRouG3
import Derived.Deep.RegionHeld3
namespace Go.Proofs.YthkopnobekohcaaGreatDoor.Rou
open Go.RowKit Go.Lib Go.Proofs.YthkopnobekohcaaGreatDoor.Byt

theorem pat_at (s : ByteArray) (b : Bool) (h : patB s = b) (hs : s.size ≤ 140737488355328) (w : World) : Calls Tryz.prog 51 #[.string s] w fun e w' => e = .returned (.bool b) ∧ Below w.heap.size w w' := by
  rw [← h]; exact pat_any s w hs
/-! ### the example -/
def awL : List ByteArray := [⟨#[97]⟩, ⟨#[98]⟩]
/-! ### RouteBack -/
theorem joB_sp {s : ByteArray} (h : rowB s = true) : joB (spB s) = s := by
  unfold joB spB
  rw [if_pos h]
  have : dts (prB s) = prt s.data.toList := by
    unfold dts prB
    rw [List.map_map]
    exact (List.map_congr_left fun x _ => dt_mk x).trans (List.map_id _)
  rw [this, back h, mk_data]
theorem no_rowB {s : ByteArray} (h : rowB s = false) : spB s = [] ∧ isB s = false ∧ patB s = false ∧ preB s s = false := by
  have := no_row h
  refine ⟨?_, this⟩
  unfold spB; rw [h]; rfl
theorem yes_rowB {s : ByteArray} (h : rowB s = true) : preB s s = true ∧ preB ⟨#[47]⟩ s = true ∧ (isB s = true → patB s = true) := ⟨pre_own h, pre_root h, is_pat⟩
end Go.Proofs.YthkopnobekohcaaGreatDoor.Rou
