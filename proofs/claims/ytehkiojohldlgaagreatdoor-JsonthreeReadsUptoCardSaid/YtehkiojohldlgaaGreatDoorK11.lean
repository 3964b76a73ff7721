/- Texts of my own, packed: TreL. Conditions: as each theorem states. -/
import Derived.Laws.Cover1
import Derived.Sort.Walk0
import Derived.Test.YtehkiojohldlgaaGreatDoorK10
namespace Go.Proofs.YtehkiojohldlgaaGreatDoor.Tre
open Go.RowKit Go.Lib Go.Proofs.YtehkiojohldlgaaGreatDoor.Byt
open Go.Sort

theorem nan_str (s : ByteArray) (w : World) : Calls Tryz.prog 119 #[.string s] w fun e w' => e = .returned (.bool false) ∧ w = w' := by
  go_enter Tryz.func119, Tryz.ntmps119
  go_wp2_with fail
  go_ret
  exact ⟨by simp, rfl⟩
/-- How two names stand. -/
def cmpB (a b : ByteArray) : Int := if ltB a b = true then -1 else if ltB b a = true then 1 else 0
theorem less_is (a b : ByteArray) : Op.bytesLess a.toList b.toList = ltB a b := by -- wants 87
  rw [bytesLess_eq, Byt.toList_data, Byt.toList_data]
  rfl
theorem compare_str (a b : ByteArray) (w : World) : Calls Tryz.prog 90 #[.string a, .string b] w fun e w' => e = .returned (.int .i64 (cmpB a b)) ∧ w = w' := by
  have hn := nan_str
  have f1 := less_is a b
  unfold cmpB
  cases h1 : ltB a b with
  | true =>
    rw [h1] at f1
    rw [if_pos rfl]
    clear h1
    go_enter Tryz.func90, Tryz.ntmps90
    go_wp2_with (go_at_call 119; refine (hn _ _).mono ?_; rintro e w1 ⟨rfl, rfl⟩)
    go_ret
    exact ⟨rfl, rfl⟩
  | false =>
    rw [if_neg (by simp)]
    cases h2 : ltB b a with
    | true =>
      have he : (a.toList == b.toList) = false := Byt.str_neq (fun q => by rw [q, lt_irrefl] at h2; cases h2)
      rw [h1] at f1
      rw [if_pos rfl]
      clear h1 h2
      go_enter Tryz.func90, Tryz.ntmps90
      go_wp2_with (go_at_call 119; refine (hn _ _).mono ?_; rintro e w1 ⟨rfl, rfl⟩)
      go_ret
      exact ⟨rfl, rfl⟩
    | false =>
      obtain rfl := lt_total h1 h2
      rw [h1] at f1
      rw [if_neg (by simp)]
      clear h1 h2
      go_enter Tryz.func90, Tryz.ntmps90
      go_wp2_with (go_at_call 119; refine (hn _ _).mono ?_; rintro e w1 ⟨rfl, rfl⟩)
      go_ret
      exact ⟨rfl, rfl⟩
def orI (x y : Int) : Int := if x = 0 then y else x
theorem or_any (b : Nat) (x y : Int) (w : World) (h0 : w.cell? ⟨b, 0, none⟩ = some (.int .i64 x)) (h1 : w.cell? ⟨b, 1, none⟩ = some (.int .i64 y)) :
    Calls Tryz.prog 89 #[.slice (some ⟨b, 0, none⟩) 2 2] w fun e w' => e = .returned (.int .i64 (orI x y)) ∧ w = w' := by
  unfold orI
  by_cases hx : x = 0
  · rw [if_pos hx]
    subst hx
    by_cases hy : y = 0
    · subst hy
      go_enter Tryz.func89, Tryz.ntmps89
      go_wp2_with fail
      refine wp_loop_rounds 3 ?_
      rw [rounds_succ]
      go_wp2_with fail
      rw [rounds_succ]
      go_wp2_with fail
      rw [rounds_succ]
      go_wp2_with fail
      go_ret
      exact ⟨rfl, rfl⟩
    · have hb : ((y : Int) != 0) = true := by rw [bne_iff_ne]; exact hy
      go_enter Tryz.func89, Tryz.ntmps89
      go_wp2_with fail
      refine wp_loop_rounds 3 ?_
      rw [rounds_succ]
      go_wp2_with fail
      rw [rounds_succ]
      go_wp2_with fail
      go_ret
      exact ⟨rfl, rfl⟩
  · rw [if_neg hx]
    have hb : ((x : Int) != 0) = true := by rw [bne_iff_ne]; exact hx
    go_enter Tryz.func89, Tryz.ntmps89
    go_wp2_with fail
    refine wp_loop_rounds 3 ?_
    rw [rounds_succ]
    go_wp2_with fail
    go_ret
    exact ⟨rfl, rfl⟩
theorem compare_int (x y : Int) (w : World) : Calls Tryz.prog 91 #[.int .i64 x, .int .i64 y] w fun e w' => e = .returned (.int .i64 (Lib.compareInt x y)) ∧ w' = w := Tryz.cmp_Compare_int x y w
theorem grown_one (w : World) (o : Obj) : (w.alloc o).drew = grow (w.drewN 1) #[o] := -- wants 87
  congrArg (fun h => ({ w with heap := h, drawn := w.drawn + 1 } : World)) Array.push_eq_append
theorem pair_at (w : World) (A B : Int) : (w.alloc (.cells #[.int .i64 A, .int .i64 B] 3)).cell? ⟨w.heap.size, 0, none⟩ = some (.int .i64 A) ∧ (w.alloc (.cells #[.int .i64 A, .int .i64 B] 3)).cell? ⟨w.heap.size, 1, none⟩ = some (.int .i64 B) := by
  have h := heap_alloc_new w (.cells #[.int .i64 A, .int .i64 B] 3)
  constructor
  · unfold World.cell?; dsimp only; rw [h]; rfl
  · unfold World.cell?; dsimp only; rw [h]; rfl
set_option maxHeartbeats 4000000 in
theorem closure_any (x y : Nat) (nx ny : ByteArray) (g b off n cap : Nat) (w : World) (hx : x < n) (hy : y < n) (hg : w.cell? ⟨g, 0, none⟩ = some (.slice (some ⟨b, off, none⟩) n cap))
    (h1 : w.cell? ⟨b, off + x, none⟩ = some (.string nx)) (h2 : w.cell? ⟨b, off + y, none⟩ = some (.string ny)) :
    Calls Tryz.prog 88 #[.int .i64 (x : Int), .int .i64 (y : Int), .pointer (some ⟨g, 0, none⟩)] w fun e w' => e = .returned (.int .i64 (orI (cmpB nx ny) (Lib.compareInt (x : Int) (y : Int)))) ∧ ∃ q os, w' = grow (w.drewN q) os := by
  have hc1 := compare_str nx ny
  have hc2 := compare_int (x : Int) (y : Int)
  generalize cmpB nx ny = A at *
  generalize Lib.compareInt (x : Int) (y : Int) = B at *
  have hor := fun (u W : World) (hW : W.heap = (u.alloc (.cells #[.int .i64 A, .int .i64 B] 3)).heap) => or_any u.heap.size A B W (by
    have := (pair_at u A B).1
    unfold World.cell? at this ⊢
    rw [hW]; exact this) (by
    have := (pair_at u A B).2
    unfold World.cell? at this ⊢
    rw [hW]; exact this)
  generalize orI A B = C at *
  go_enter Tryz.func88, Tryz.ntmps88
  go_wp2_with fail
  go_region_with (first
    | (go_at_call 90; refine (hc1 _).mono ?_; rintro e w1 ⟨rfl, rfl⟩)
    | (go_at_call 91; refine (hc2 _).mono ?_; rintro e w1 ⟨rfl, rfl⟩)
    | (go_at_call 89; refine (hor w _ (by rfl)).mono ?_; rintro e w1 ⟨rfl, rfl⟩))
  all_goals
    go_wp2_with fail
    go_ret
    exact ⟨rfl, 1, _, grown_one w _⟩
end Go.Proofs.YtehkiojohldlgaaGreatDoor.Tre
