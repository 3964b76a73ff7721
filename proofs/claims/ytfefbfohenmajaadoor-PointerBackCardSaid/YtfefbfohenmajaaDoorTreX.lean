/- awake answers true. Conditions: as each theorem states. -/
import Derived.Test.YtfefbfohenmajaaDoorTreW
namespace Go.Proofs.YtfefbfohenmajaaDoor.Tre
open Go.RowKit Go.Lib Go.Proofs.YtfefbfohenmajaaDoor.Byt Go.Proofs.YtfefbfohenmajaaDoor.Utf

abbrev sB : ByteArray := ⟨#[98]⟩
abbrev sA : ByteArray := ⟨#[97]⟩
abbrev sC : ByteArray := ⟨#[99]⟩
def v1 : Vt := .mk 2 1 ⟨#[]⟩ [] []
def v2 : Vt := .mk 4 0 ⟨#[]⟩ [V0] []
def vA : Vt := .mk 5 0 ⟨#[]⟩ [v1, v2] [sB, sA]
def vS : Vt := .mk 5 0 ⟨#[]⟩ [v2, v1] [sA, sB]
theorem a_find : find vA sB = some v1 := by rfl
theorem a_none : find vA sC = none := by rfl
theorem a_dep : dpw vA = 2 := by decide
theorem a_cnt : wr64 (cnt vA : Int) = 4 := by rw [show cnt vA = 4 by rfl]; unfold wr64; decide
theorem a_srt : srt vA = vS := by rfl
theorem a_right : wi vA 64 = true := by decide
theorem a_right2 : wi vS 64 = true := by decide
theorem a_al : alB vS vA = true := by
  unfold alB
  rw [a_right, a_right2, a_srt, show srt vS = vS from by rfl, sm_self]
  rfl
theorem a_ne : smB vS vA = false := by decide
theorem a_ok : OkT vA := by
  have z : OkT V0 := (OkT_iff _).2 ⟨by unfold okV V0; decide, fun x hx => by cases hx⟩
  have h1 : OkT v1 := (OkT_iff _).2 ⟨by unfold okV v1; decide, fun x hx => by cases hx⟩
  have h2 : OkT v2 := (OkT_iff _).2 ⟨by unfold okV v2; decide, fun x hx => by
    rcases List.mem_cons.1 hx with rfl | hx
    · exact z
    · cases hx⟩
  refine (OkT_iff _).2 ⟨by unfold okV vA; decide, fun x hx => ?_⟩
  rcases List.mem_cons.1 hx with rfl | hx
  · exact h1
  · rcases List.mem_cons.1 hx with rfl | hx
    · exact h2
    · cases hx

/-! ### the walk -/
theorem box4 (w : World) (a b c : Obj) (cs : Array Value) : Box ((((w.alloc a).alloc b).alloc c).alloc (.cells cs 25)) (w.heap.size + 3) cs := by
  have := box_new (((w.alloc a).alloc b).alloc c) cs
  rwa [show (((w.alloc a).alloc b).alloc c).heap.size = w.heap.size + 3 by simp] at this
theorem below4 (w : World) (a b c d : Obj) : Below (w.heap.size + 3) (((w.alloc a).alloc b).alloc c) ((((w.alloc a).alloc b).alloc c).alloc d) := (Below.refl _ _).alloc (by simp) _
theorem four_start {w w9 : World} {a b c : Obj} (hb : Below (w.heap.size + 3) (((w.alloc a).alloc b).alloc c) w9) : w9.heap[w.heap.size]? = some a ∧ w9.heap[w.heap.size + 1]? = some b ∧ w9.heap[w.heap.size + 2]? = some c ∧ Below w.heap.size w w9 := by
  have h1 : (w.alloc a).heap.size = w.heap.size + 1 := by simp
  have h2 : ((w.alloc a).alloc b).heap.size = w.heap.size + 2 := by simp
  have e1 := heap_alloc_new w a
  have e2 := heap_alloc_new (w.alloc a) b
  have e3 := heap_alloc_new ((w.alloc a).alloc b) c
  rw [h1] at e2
  rw [h2] at e3
  refine ⟨(hb.block _ (by omega)).trans ((Below.heap_alloc _ _ _ (by omega)).trans ((Below.heap_alloc _ _ _ (by omega)).trans e1)), (hb.block _ (by omega)).trans ((Below.heap_alloc _ _ _ (by omega)).trans e2), (hb.block _ (by omega)).trans e3, ?_⟩
  exact ((((Below.refl w.heap.size w).alloc (Nat.le_refl _) a).alloc (by omega) b).alloc (by omega) c).trans (hb.mono (by omega))
def cA (g : Nat) : List Value := [.int .i64 5, .int .i64 0, .string ⟨#[]⟩, .slice (some ⟨g + 1, 0, none⟩) 2 2, .slice (some ⟨g + 2, 0, none⟩) 2 2]
theorem awake_val (W : World) (g : Nat) (h0 : W.heap[g]? = some (.cells zeroC.toArray 25 (0, 0)))
    (h1 : W.heap[g + 1]? = some (.cells #[.int .i64 2, .int .i64 1, .string ⟨#[]⟩, .slice none 0 0, .slice none 0 0, .int .i64 4, .int .i64 0, .string ⟨#[]⟩, .slice (some ⟨g, 0, none⟩) 1 1, .slice none 0 0] 25 (0, 0)))
    (h2 : W.heap[g + 2]? = some (.cells #[.string ⟨#[98]⟩, .string ⟨#[97]⟩] 9 (0, 0))) : InV W vA (cA g) := by
  have c0 : ∀ j, W.cell? ⟨g, j, none⟩ = zeroC.toArray[j]? := fun j => by simp [World.cell?, h0]
  have c1 : ∀ j, W.cell? ⟨g + 1, j, none⟩ = (#[.int .i64 2, .int .i64 1, .string ⟨#[]⟩, .slice none 0 0, .slice none 0 0, .int .i64 4, .int .i64 0, .string ⟨#[]⟩, .slice (some ⟨g, 0, none⟩) 1 1, .slice none 0 0] : Array Value)[j]? := fun j => by simp only [World.cell?, h1]; rfl
  have c2 : ∀ j, W.cell? ⟨g + 2, j, none⟩ = (#[.string ⟨#[98]⟩, .string ⟨#[97]⟩] : Array Value)[j]? := fun j => by simp only [World.cell?, h2]; rfl
  have i1 : InV W v1 [.int .i64 2, .int .i64 1, .string ⟨#[]⟩, .slice none 0 0, .slice none 0 0] := (InV_iff _ _ _).2 ⟨none, 0, .slice none 0 0, rfl, fun _ hj => absurd hj (Nat.not_lt_zero _), Strs.Row.nil W⟩
  have i2 : InV W v2 [.int .i64 4, .int .i64 0, .string ⟨#[]⟩, .slice (some ⟨g, 0, none⟩) 1 1, .slice none 0 0] := by
    refine (InV_iff _ _ _).2 ⟨some ⟨g, 0, none⟩, 1, .slice none 0 0, rfl, fun j hj => ⟨g, 0, rfl, zeroC, fun f u hu => ?_, ?_⟩, Strs.Row.nil W⟩
    · obtain rfl : j = 0 := by have : j < 1 := hj; omega
      rw [show 0 + 5 * 0 + f = f by omega, c0 f]
      simpa using hu
    · obtain rfl : j = 0 := by have : j < 1 := hj; omega
      exact InV_zero W
  refine (InV_iff _ _ _).2 ⟨some ⟨g + 1, 0, none⟩, 2, .slice (some ⟨g + 2, 0, none⟩) 2 2, rfl, fun j hj => ?_, ?_⟩
  · have hj2 : j < 2 := hj
    rcases Nat.lt_or_ge j 1 with h | h
    · obtain rfl : j = 0 := by omega
      refine ⟨g + 1, 0, rfl, _, fun f u hu => ?_, i1⟩
      have hf : f < 5 := (List.getElem?_eq_some_iff.1 hu).1
      rw [show 0 + 5 * 0 + f = f by omega, c1 f]
      match f, hf with
      | 0, _ => exact hu
      | 1, _ => exact hu
      | 2, _ => exact hu
      | 3, _ => exact hu
      | 4, _ => exact hu
    · obtain rfl : j = 1 := by omega
      refine ⟨g + 1, 0, rfl, _, fun f u hu => ?_, i2⟩
      have hf : f < 5 := (List.getElem?_eq_some_iff.1 hu).1
      rw [show 0 + 5 * 1 + f = 5 + f by omega, c1 (5 + f)]
      match f, hf with
      | 0, _ => exact hu
      | 1, _ => exact hu
      | 2, _ => exact hu
      | 3, _ => exact hu
      | 4, _ => exact hu
  · refine .inr ⟨g + 2, 0, 2, rfl, fun j hj => ?_⟩
    have hj2 : j < 2 := hj
    rw [Nat.zero_add, c2 j]
    match j, hj2 with
    | 0, _ => rfl
    | 1, _ => rfl
def AW (w : World) (g1 g2 g6 : Nat) (c1 c2 c6 : List Value) (W : World) : Prop := Box W g1 c1.toArray ∧ Box W g2 c2.toArray ∧ Box W g6 c6.toArray ∧ InV W vA c1 ∧ InV W v1 c2 ∧ InV W vS c6 ∧ Below w.heap.size w W ∧ Tabs W
theorem AW.next {w : World} {g1 g2 g6 : Nat} {c1 c2 c6 : List Value} {W W' : World} (h : AW w g1 g2 g6 c1 c2 c6 W) (hb : Below W.heap.size W W') : AW w g1 g2 g6 c1 c2 c6 W' := by
  obtain ⟨h1, h2, h3, h4, h5, h6, h7, h8⟩ := h
  exact ⟨h1.next hb h1.lt, h2.next hb h2.lt, h3.next hb h3.lt, InV_next hb _ _ h4, InV_next hb _ _ h5, InV_next hb _ _ h6, Tre.next h7 hb, h8.next hb⟩
theorem AW.facts {w : World} {g1 g2 g6 : Nat} {c1 c2 c6 : List Value} {W : World} (h : AW w g1 g2 g6 c1 c2 c6 W) : ∃ b o cap, W.cell? ⟨g2, 1, none⟩ = some (.int .i64 1) ∧ W.cell? ⟨g6, 4, none⟩ = some (.slice (some ⟨b, o, none⟩) 2 cap) ∧ W.cell? ⟨b, o, none⟩ = some (.string ⟨#[97]⟩) := by
  obtain ⟨_, h2, h3, _, h5, h6, _, _⟩ := h
  obtain ⟨p, q, r, rfl, _⟩ := (InV_iff _ _ _).1 h5
  obtain ⟨p', q', r', rfl, _, hrow⟩ := (InV_iff _ _ _).1 h6
  obtain ⟨a, cap, b, o, rfl, hr⟩ := row_at hrow
  obtain ⟨rfl, _, hc⟩ := hr (by decide)
  refine ⟨b, o, cap, h2.cell 1, h3.cell 4, ?_⟩
  have := hc 0 (by decide)
  rwa [Nat.add_zero] at this
section
variable {w : World} {g1 g2 g6 : Nat} {c1 c2 c6 : List Value} {W : World}
theorem AW.b1 (h : AW w g1 g2 g6 c1 c2 c6 W) : Box W g1 c1.toArray := h.1
theorem AW.b6 (h : AW w g1 g2 g6 c1 c2 c6 W) : Box W g6 c6.toArray := h.2.2.1
theorem AW.va (h : AW w g1 g2 g6 c1 c2 c6 W) : InV W vA c1 := h.2.2.2.1
theorem AW.vs (h : AW w g1 g2 g6 c1 c2 c6 W) : InV W vS c6 := h.2.2.2.2.2.1
theorem AW.bel (h : AW w g1 g2 g6 c1 c2 c6 W) : Below w.heap.size w W := h.2.2.2.2.2.2.1
theorem AW.tab (h : AW w g1 g2 g6 c1 c2 c6 W) : Tabs W := h.2.2.2.2.2.2.2
end
end Go.Proofs.YtfefbfohenmajaaDoor.Tre
