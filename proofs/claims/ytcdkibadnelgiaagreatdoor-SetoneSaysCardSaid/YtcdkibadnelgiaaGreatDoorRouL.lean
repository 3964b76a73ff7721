/- The statements' example of routes; the law RouteBack. Conditions: as each theorem states. -/
import Derived.Test.YtcdkibadnelgiaaGreatDoorRouG3
import Derived.Deep.RegionHeld3
namespace Go.Proofs.YtcdkibadnelgiaaGreatDoor.Rou
open Go.RowKit Go.Lib Go.Proofs.YtcdkibadnelgiaaGreatDoor.Byt

theorem split_at (s : ByteArray) (L : List ByteArray) (r : Bool) (hL : spB s = L) (hr : rowB s = r) (hs : s.size ≤ 140737488355328) (w : World) :
    Calls Tryz.prog 47 #[.string s] w fun e w' => ∃ a c, e = .returned (.tuple #[.slice a L.length c, .bool r]) ∧ Strs.Row w' (.slice a L.length c) L ∧ L.length ≤ c ∧ Below w.heap.size w w' := by
  subst hL hr
  refine (split_any s w hs).mono ?_
  rintro e w' ⟨v, rfl, h1, h2, h3⟩
  obtain ⟨a, c, rfl, _⟩ := h1.open_
  refine ⟨a, c, rfl, h1, ?_, h3⟩
  obtain ⟨a', n, c', e, h⟩ := h2
  injection e with e1 e2 e3
  omega
theorem is_at (s : ByteArray) (b : Bool) (h : isB s = b) (hs : s.size ≤ 140737488355328) (w : World) : Calls Tryz.prog 46 #[.string s] w fun e w' => e = .returned (.bool b) ∧ Below w.heap.size w w' := by
  rw [← h]; exact is_any s w hs
/-! ### the example -/
def awL : List ByteArray := [⟨#[97]⟩, ⟨#[98]⟩]
theorem aw1 (W : World) : Calls Tryz.prog 47 #[.string ⟨#[47, 97, 47, 98]⟩] W fun e w' => ∃ a c, e = .returned (.tuple #[.slice a 2 c, .bool true]) ∧ Strs.Row w' (.slice a 2 c) awL ∧ 2 ≤ c ∧ Below W.heap.size W w' :=
  split_at ⟨#[47, 97, 47, 98]⟩ awL true (by decide) (by decide) (by decide) W
theorem aw2 (W : World) : Calls Tryz.prog 47 #[.string ⟨#[47]⟩] W fun e w' => ∃ a c, e = .returned (.tuple #[.slice a 0 c, .bool true]) ∧ Strs.Row w' (.slice a 0 c) [] ∧ 0 ≤ c ∧ Below W.heap.size W w' :=
  split_at ⟨#[47]⟩ [] true (by decide) (by decide) (by decide) W
/-! ### RouteBack -/
theorem joB_sp {s : ByteArray} (h : rowB s = true) : joB (spB s) = s := by
  unfold joB spB
  rw [if_pos h]
  have : dts (prB s) = prt s.data.toList := by
    unfold dts prB
    rw [List.map_map]
    exact (List.map_congr_left fun x _ => dt_mk x).trans (List.map_id _)
  rw [this, back h, mk_data]
theorem no_rowB {s : ByteArray} (h : rowB s = false) : spB s = [] ∧ isB s = false ∧ patB s = false ∧ preB s s = false := by
  have := no_row h
  refine ⟨?_, this⟩
  unfold spB; rw [h]; rfl
theorem yes_rowB {s : ByteArray} (h : rowB s = true) : preB s s = true ∧ preB ⟨#[47]⟩ s = true ∧ (isB s = true → patB s = true) := ⟨pre_own h, pre_root h, is_pat⟩
end Go.Proofs.YtcdkibadnelgiaaGreatDoor.Rou
