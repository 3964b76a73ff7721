/- Names compared, rules sorted, what a loop puts; the code's Is out of its Canon and Same. Conditions: as each theorem states. -/
import Derived.Test.YthkopnobekohcaaGreatDoorTwoSort
import Derived.Test.YthkopnobekohcaaGreatDoorTwoG
namespace Go.Proofs.YthkopnobekohcaaGreatDoor.Two
open Go.RowKit Go.Lib Go.Shelf Go.Sort
open Go.Proofs.YthkopnobekohcaaGreatDoor.Ren (Pw)

theorem byid_any (x y : Rw) (W : World) : Calls Tryz.prog 27 #[.agg (ruC x), .agg (ruC y)] W fun e w' => e = .returned (.int .i64 (cfR x y)) ∧ ∃ q os, w' = grow (W.drewN q) os := by
  have HC := Lib.hid fun w => Tryz.strings_Compare x.id y.id w
  have hcf : Lib.compareBytes x.id.data.toList y.id.data.toList = cfR x y := rfl
  rw [hcf] at HC
  generalize cfR x y = n at *
  clear hcf
  obtain ⟨id, no, ma, rk, ki, li, wi, un, bu⟩ := x
  obtain ⟨id', no', ma', rk', ki', li', wi', un', bu'⟩ := y
  dsimp only [ruC] at *
  go_enter Tryz.func27, Tryz.ntmps27
  go_wp2_with (first
    | (go_at_call 43; (with_reducible refine (HC.out _).mono ?_); rintro e w1 ⟨rfl, rfl⟩))
  go_ret
  exact ⟨rfl, 0, _, by rw [alloc_eq_grow, alloc_eq_grow, grow_grow]; rfl⟩

/-- Rules with ids that differ, sorted. -/
theorem sort_rules (w : World) (B g cap : Nat) (L : List Rw) (hO : Own w B (.slice (some ⟨g, 0, none⟩) L.length cap) L) (hn : (L.map (·.id)).Nodup) (hl : L.length ≤ 5000) :
    Calls Tryz.prog 26 #[.slice (some ⟨g, 0, none⟩) L.length cap, .func (.func 27) #[] #[]] w fun e w' => e = .returned (.tuple #[]) ∧ Own w' B (.slice (some ⟨g, 0, none⟩) L.length cap) (srt L) ∧ w.grownBy w' (some g) := by
  haveI : Inhabited Rw := ⟨zero⟩
  obtain ⟨hH, hgl, hBg⟩ := own_holds hO
  have e : L.toArray.size = L.length := List.size_toArray
  have eg : ∀ args w, (callFunc 27 args).run Tryz.prog w = .ok (.enter 27 args) w := enters_of Tryz.func27 (by kernel_rfl) rfl
  have hcmp : CmpLays Tryz.prog 27 #[] ruL 9 cfR g 0 L.toArray.size w := fun m os dk _ x y => byid_any x y _
  have key := AnyQ.slices_SortFunc Tryz.laysSF26 9 Tryz.isAgg35 Tryz.sizeOf35 ruL (fun _ => rfl) ruL_one cfR swoR 27 #[] g 0 cap L.toArray w eg hcmp hH hgl (by rw [e]; omega)
  rw [e] at key
  refine key.mono ?_
  rintro x w' ⟨rfl, d', n, os, hp, hs, rfl⟩
  obtain rfl := sorted_srt hn d' (by rw [e]; exact hp) (by rw [e]; exact hs)
  have h2 := own_sorted hO (M := srt L) (srt_perm L).length_eq n os
  exact ⟨rfl, h2.1, h2.2⟩

/-! ### what the loop has put -/
def fl (L : List Rw) (i : Nat) : List Rw := (List.range L.length).map fun j => if j < i then can (ga L j) else zero
theorem fl_len (L : List Rw) (i : Nat) : (fl L i).length = L.length := by unfold fl; rw [List.length_map, List.length_range]
theorem fl_at (L : List Rw) (i j : Nat) (_h : j < (fl L i).length) : (fl L i)[j] = if j < i then can (ga L j) else zero := by simp [fl]
theorem fl_zero (L : List Rw) : fl L 0 = List.replicate L.length zero := by
  refine List.ext_getElem (by rw [fl_len, List.length_replicate]) fun i h1 h2 => ?_
  rw [fl_at, List.getElem_replicate, if_neg (by omega)]
theorem fl_all (L : List Rw) : fl L L.length = L.map can := by
  refine List.ext_getElem (by rw [fl_len, List.length_map]) fun i h1 h2 => ?_
  rw [List.length_map] at h2
  rw [fl_at, List.getElem_map, if_pos h2, ga_at h2]
theorem fl_set (L : List Rw) {i : Nat} (_h : i < L.length) : (fl L i).set i (can (ga L i)) = fl L (i + 1) := by
  refine List.ext_getElem (by rw [List.length_set, fl_len, fl_len]) fun j h1 h2 => ?_
  rw [List.getElem_set, fl_at, fl_at]
  by_cases e : i = j
  · subst e
    rw [if_pos rfl, if_pos (by omega)]
  · rw [if_neg e]
    by_cases q : j < i
    · rw [if_pos q, if_pos (by omega)]
    · rw [if_neg q, if_neg (by omega)]
end Go.Proofs.YthkopnobekohcaaGreatDoor.Two
