/- The laws' own examples. Conditions: the two tables of unicode/utf8 and the table of powers are as the library's text lays them; as each theorem states. -/
import Derived.Test.YtbpofhlnnldceaaDoorRenF
namespace Go.Proofs.YtbpofhlnnldceaaDoor.Ren
open Go.RowKit Go.Lib Go.Proofs.YtbpofhlnnldceaaDoor.Byt Go.Proofs.YtbpofhlnnldceaaDoor.Utf Go.Proofs.YtbpofhlnnldceaaDoor.Quo
open Go.Proofs.YtbpofhlnnldceaaDoor.Lx (nL2 sL dcL dcF bl)
open Go.Proofs.YtbpofhlnnldceaaDoor.Tre (Vt V0 wi dep cnt OkT okV InV InV_iff InV_next Box Box.lt Box.cell Box.next box_new wpList_fetch wpList_keep)

def u1 : Vt := .mk 2 (-1) ⟨#[]⟩ [] []
def u2 : Vt := .mk 4 0 ⟨#[]⟩ [u1] []
def uA : Vt := .mk 5 0 ⟨#[]⟩ [u2] [⟨#[97]⟩]
def u9 : Vt := .mk 9 0 ⟨#[]⟩ [] []
theorem u_right : wi uA 64 = true := by decide
theorem u_wrong : wi u9 64 = false := by decide
theorem u_put : putL uA = [123, 34, 97, 34, 58, 91, 45, 49, 93, 125] := by decide +kernel
theorem u_pre : preL uA = [123, 10, 32, 32, 34, 97, 34, 58, 32, 91, 10, 32, 32, 32, 32, 45, 49, 10, 32, 32, 93, 10, 125, 10] := by decide +kernel
theorem u_small : Small uA := by
  have h1 : OkT u1 := .mk _ (by unfold okV u1; decide) fun x hx => by cases hx
  have h2 : OkT u2 := .mk _ (by unfold okV u2; decide) fun x hx => by
    rcases List.mem_cons.1 hx with rfl | hx
    · exact h1
    · cases hx
  have h3 : OkT uA := .mk _ (by unfold okV uA; decide) fun x hx => by
    rcases List.mem_cons.1 hx with rfl | hx
    · exact h2
    · cases hx
  exact ⟨h3, by decide, by decide⟩
theorem u9_small : Small u9 := ⟨.mk _ (by unfold okV u9; decide) (fun x hx => by cases hx), by decide, by decide⟩
theorem u9_val (W : World) : InV W u9 [.int .i64 9, .int .i64 0, .string ⟨#[]⟩, .slice none 0 0, .slice none 0 0] := (InV_iff _ _ _).2 ⟨none, 0, .slice none 0 0, rfl, fun _ hj => absurd hj (Nat.not_lt_zero _), Strs.Row.nil W⟩
abbrev aC (g : Nat) : List Value := [.int .i64 5, .int .i64 0, .string ⟨#[]⟩, .slice (some ⟨g + 1, 0, none⟩) 1 1, .slice (some ⟨g + 1 + 1, 0, none⟩) 1 1]
theorem u_val (W : World) (g : Nat) (h0 : W.heap[g]? = some (.cells #[.int .i64 2, .int .i64 (-1), .string ⟨#[]⟩, .slice none 0 0, .slice none 0 0] 25 (0, 0)))
    (h1 : W.heap[g + 1]? = some (.cells #[.int .i64 4, .int .i64 0, .string ⟨#[]⟩, .slice (some ⟨g, 0, none⟩) 1 1, .slice none 0 0] 25 (0, 0)))
    (h2 : W.heap[g + 1 + 1]? = some (.cells #[.string ⟨#[97]⟩] 9 (0, 0))) : InV W uA (aC g) := by
  have c0 : ∀ j, W.cell? ⟨g, j, none⟩ = (#[.int .i64 2, .int .i64 (-1), .string ⟨#[]⟩, .slice none 0 0, .slice none 0 0] : Array Value)[j]? := fun j => by simp only [World.cell?, h0]; rfl
  have c1 : ∀ j, W.cell? ⟨g + 1, j, none⟩ = (#[.int .i64 4, .int .i64 0, .string ⟨#[]⟩, .slice (some ⟨g, 0, none⟩) 1 1, .slice none 0 0] : Array Value)[j]? := fun j => by simp only [World.cell?, h1]; rfl
  have c2 : ∀ j, W.cell? ⟨g + 1 + 1, j, none⟩ = (#[.string ⟨#[97]⟩] : Array Value)[j]? := fun j => by simp only [World.cell?, h2]; rfl
  have i1 : InV W u1 [.int .i64 2, .int .i64 (-1), .string ⟨#[]⟩, .slice none 0 0, .slice none 0 0] := (InV_iff _ _ _).2 ⟨none, 0, .slice none 0 0, rfl, fun _ hj => absurd hj (Nat.not_lt_zero _), Strs.Row.nil W⟩
  have i2 : InV W u2 [.int .i64 4, .int .i64 0, .string ⟨#[]⟩, .slice (some ⟨g, 0, none⟩) 1 1, .slice none 0 0] := by
    refine (InV_iff _ _ _).2 ⟨some ⟨g, 0, none⟩, 1, .slice none 0 0, rfl, fun j hj => ⟨g, 0, rfl, [.int .i64 2, .int .i64 (-1), .string ⟨#[]⟩, .slice none 0 0, .slice none 0 0], fun f u hu => ?_, ?_⟩, Strs.Row.nil W⟩
    rotate_left
    · obtain rfl : j = 0 := by have : j < 1 := hj; omega
      exact i1
    · obtain rfl : j = 0 := by have : j < 1 := hj; omega
      rw [show 0 + 5 * 0 + f = f by omega, c0 f]
      simpa using hu
  refine (InV_iff _ _ _).2 ⟨some ⟨g + 1, 0, none⟩, 1, .slice (some ⟨g + 1 + 1, 0, none⟩) 1 1, rfl, fun j hj => ⟨g + 1, 0, rfl, [.int .i64 4, .int .i64 0, .string ⟨#[]⟩, .slice (some ⟨g, 0, none⟩) 1 1, .slice none 0 0], fun f u hu => ?_, ?_⟩, ?_⟩
  rotate_left
  · obtain rfl : j = 0 := by have : j < 1 := hj; omega
    exact i2
  rotate_left
  · obtain rfl : j = 0 := by have : j < 1 := hj; omega
    rw [show 0 + 5 * 0 + f = f by omega, c1 f]
    simpa using hu
  · refine .inr ⟨g + 1 + 1, 0, 1, rfl, fun j hj => ?_⟩
    obtain rfl : j = 0 := by have : j < 1 := hj; omega
    rw [Nat.zero_add, c2 0]
    rfl
abbrev aW (w : World) : World := (((w.alloc (.cells #[.int .i64 2, .int .i64 (-1), .string ⟨#[]⟩, .slice none 0 0, .slice none 0 0] 25)).alloc (.cells #[.int .i64 4, .int .i64 0, .string ⟨#[]⟩, .slice (some ⟨w.heap.size, 0, none⟩) 1 1, .slice none 0 0] 25)).alloc (.cells #[.string ⟨#[97]⟩] 9)).alloc (.cells (aC w.heap.size).toArray 25)
theorem afour (w : World) (a b c d : Obj) : ((((w.alloc a).alloc b).alloc c).alloc d).heap[w.heap.size]? = some a ∧ ((((w.alloc a).alloc b).alloc c).alloc d).heap[w.heap.size + 1]? = some b ∧ ((((w.alloc a).alloc b).alloc c).alloc d).heap[w.heap.size + 1 + 1]? = some c ∧ ((((w.alloc a).alloc b).alloc c).alloc d).heap[w.heap.size + 1 + 1 + 1]? = some d ∧ Below w.heap.size w ((((w.alloc a).alloc b).alloc c).alloc d) := by
  have h1 : (w.alloc a).heap.size = w.heap.size + 1 := by simp
  have h2 : ((w.alloc a).alloc b).heap.size = w.heap.size + 1 + 1 := by simp
  have h3 : (((w.alloc a).alloc b).alloc c).heap.size = w.heap.size + 1 + 1 + 1 := by simp
  have e1 := heap_alloc_new w a
  have e2 := heap_alloc_new (w.alloc a) b
  have e3 := heap_alloc_new ((w.alloc a).alloc b) c
  have e4 := heap_alloc_new (((w.alloc a).alloc b).alloc c) d
  rw [h1] at e2
  rw [h2] at e3
  rw [h3] at e4
  refine ⟨?_, ?_, ?_, e4, ?_⟩
  · exact (Below.heap_alloc _ _ _ (by omega)).trans ((Below.heap_alloc _ _ _ (by omega)).trans ((Below.heap_alloc _ _ _ (by omega)).trans e1))
  · exact (Below.heap_alloc _ _ _ (by omega)).trans ((Below.heap_alloc _ _ _ (by omega)).trans e2)
  · exact (Below.heap_alloc _ _ _ (by omega)).trans e3
  · exact ((((Below.refl w.heap.size w).alloc (Nat.le_refl _) a).alloc (by omega) b).alloc (by omega) c).alloc (by omega) d
theorem aw_val (w : World) : InV (aW w) uA (aC w.heap.size) := u_val _ _ (afour w _ _ _ _).1 (afour w _ _ _ _).2.1 (afour w _ _ _ _).2.2.1
theorem aw_box (w : World) : Box (aW w) (w.heap.size + 1 + 1 + 1) (aC w.heap.size).toArray := (afour w _ _ _ _).2.2.2.1
theorem aw_bel (w : World) : Below w.heap.size w (aW w) := (afour w _ _ _ _).2.2.2.2
set_option maxHeartbeats 4000000 in
set_option maxRecDepth 100000 in
theorem awake_any (w : World) (hE : En w) : Calls Tryd.prog 6 #[] w fun e w' => e = .returned (.bool true) ∧ Below w.heap.size w w' := by
  have HPU := Lib.hid fun (cs : List Value) (W : World) (hE : En W) (h : InV W uA cs) => put_yes uA u_small cs W hE h u_right
  have HPR := Lib.hid fun (cs : List Value) (W : World) (hE : En W) (h : InV W uA cs) => pre_yes uA u_small cs W hE h u_right
  have HNO := Lib.hid fun (W : World) (hE : En W) => put_no u9 u9_small _ W hE (u9_val W) u_wrong
  rw [u_put] at HPU
  rw [u_pre] at HPR
  have HE := Lib.hid fun (W : World) (hb : Below w.heap.size w W) => (⟨hE.tabs.next hb, hE.pow.next hb⟩ : En W)
  clear hE
  go_enter Tryd.func6, Tryd.ntmps6
  have hI9 := aw_val w
  have bx9 := aw_box w
  have hw9 := aw_bel w
  go_wp2_with (first
    | (refine wpList_fetch _ rfl _ rfl (w.heap.size + 1 + 1 + 1) (aC w.heap.size).toArray rfl bx9 rfl ?_)
    | (go_at_call 7; (with_reducible refine (HPU.out _ _ (HE.out _ hw9) hI9).mono ?_); rintro e w10 ⟨rfl, hb10⟩; have bx10 := bx9.next hb10 bx9.lt; have hI10 := InV_next hb10 _ _ hI9; have hw10 := hw9.trans (hb10.mono hw9.size); clear bx9)
    | (refine wpList_fetch _ rfl _ rfl (w.heap.size + 1 + 1 + 1) (aC w.heap.size).toArray rfl bx10 rfl ?_)
    | (go_at_call 9; (with_reducible refine (HPR.out _ _ (HE.out _ hw10) hI10).mono ?_); rintro e w11 ⟨rfl, hb11⟩; have hw11 := hw10.trans (hb11.mono hw10.size); clear bx10)
    | (go_at_call 7; (with_reducible refine (HNO.out _ (HE.out _ hw11)).mono ?_); rintro e w12 ⟨rfl, hb12⟩; have hw12 := hw11.trans (hb12.mono hw11.size)))
  go_ret
  exact ⟨rfl, hw12⟩
end Go.Proofs.YtbpofhlnnldceaaDoor.Ren
