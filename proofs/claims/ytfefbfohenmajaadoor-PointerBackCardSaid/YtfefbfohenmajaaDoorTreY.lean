/- The law TreeSorts. Conditions: as each theorem states. -/
import Derived.Test.YtfefbfohenmajaaDoorTreX
namespace Go.Proofs.YtfefbfohenmajaaDoor.Tre
open Go.RowKit Go.Lib Go.Proofs.YtfefbfohenmajaaDoor.Byt Go.Proofs.YtfefbfohenmajaaDoor.Utf

theorem al_srt (v : Vt) : alB v (srt v) = wi v 64 := by
  unfold alB
  rw [wi_srt, srt_srt, sm_self, Bool.and_true, Bool.and_self]
def SB (w : World) (v u : Vt) (G : Nat) (cs es : List Value) (W : World) : Prop := Box W w.heap.size cs.toArray ∧ Box W G es.toArray ∧ InV W v cs ∧ InV W u es ∧ Below w.heap.size w W ∧ Tabs W
section
variable {w W W' : World} {v u : Vt} {G : Nat} {cs es : List Value}
theorem SB.next (h : SB w v u G cs es W) (hb : Below W.heap.size W W') : SB w v u G cs es W' := by
  obtain ⟨h1, h2, h3, h4, h5, h6⟩ := h
  exact ⟨h1.next hb h1.lt, h2.next hb h2.lt, InV_next hb _ _ h3, InV_next hb _ _ h4, Tre.next h5 hb, h6.next hb⟩
theorem SB.drew (h : SB w v u G cs es W) : SB w v u G cs es W.drew := h.next (Below.refl _ _).drew
end
attribute [irreducible] SB
theorem sb_in {w W : World} {v u : Vt} {G : Nat} {cs es : List Value} (h : SB w v u G cs es W) : InV W v cs := by unfold SB at h; exact h.2.2.1
theorem sb_iu {w W : World} {v u : Vt} {G : Nat} {cs es : List Value} (h : SB w v u G cs es W) : InV W u es := by unfold SB at h; exact h.2.2.2.1
theorem sb_b1 {w W : World} {v u : Vt} {G : Nat} {cs es : List Value} (h : SB w v u G cs es W) : Box W w.heap.size cs.toArray := by unfold SB at h; exact h.1
theorem sb_b2 {w W : World} {v u : Vt} {G : Nat} {cs es : List Value} (h : SB w v u G cs es W) : Box W G es.toArray := by unfold SB at h; exact h.2.1
theorem sb_bel {w W : World} {v u : Vt} {G : Nat} {cs es : List Value} (h : SB w v u G cs es W) : Below w.heap.size w W := by unfold SB at h; exact h.2.2.2.2.1
theorem sb_tab {w W : World} {v u : Vt} {G : Nat} {cs es : List Value} (h : SB w v u G cs es W) : Tabs W := by unfold SB at h; exact h.2.2.2.2.2
theorem sb_mk {w W : World} {v u : Vt} {G : Nat} {cs es : List Value} (h1 : Box W w.heap.size cs.toArray) (h2 : Box W G es.toArray) (h3 : InV W v cs) (h4 : InV W u es) (h5 : Below w.heap.size w W) (h6 : Tabs W) : SB w v u G cs es W := by
  unfold SB; exact ⟨h1, h2, h3, h4, h5, h6⟩
/-- What the walk asks of the two values in their variables. -/
theorem sb_cells {w : World} {v u : Vt} {G : Nat} {c0 c1 c2 c3 c4 e0 e1 e2 e3 e4 : Value} :
    (∀ W, SB w v u G [c0, c1, c2, c3, c4] [e0, e1, e2, e3, e4] W → W.cell? ⟨w.heap.size, 0, none⟩ = some c0) ∧ (∀ W, SB w v u G [c0, c1, c2, c3, c4] [e0, e1, e2, e3, e4] W → W.cell? ⟨w.heap.size, 1, none⟩ = some c1) ∧
    (∀ W, SB w v u G [c0, c1, c2, c3, c4] [e0, e1, e2, e3, e4] W → W.cell? ⟨w.heap.size, 2, none⟩ = some c2) ∧ (∀ W, SB w v u G [c0, c1, c2, c3, c4] [e0, e1, e2, e3, e4] W → W.cell? ⟨w.heap.size, 3, none⟩ = some c3) ∧
    (∀ W, SB w v u G [c0, c1, c2, c3, c4] [e0, e1, e2, e3, e4] W → W.cell? ⟨w.heap.size, 4, none⟩ = some c4) ∧ (∀ W, SB w v u G [c0, c1, c2, c3, c4] [e0, e1, e2, e3, e4] W → W.cell? ⟨G, 0, none⟩ = some e0) ∧
    (∀ W, SB w v u G [c0, c1, c2, c3, c4] [e0, e1, e2, e3, e4] W → W.cell? ⟨G, 1, none⟩ = some e1) ∧ (∀ W, SB w v u G [c0, c1, c2, c3, c4] [e0, e1, e2, e3, e4] W → W.cell? ⟨G, 2, none⟩ = some e2) ∧
    (∀ W, SB w v u G [c0, c1, c2, c3, c4] [e0, e1, e2, e3, e4] W → W.cell? ⟨G, 3, none⟩ = some e3) ∧ (∀ W, SB w v u G [c0, c1, c2, c3, c4] [e0, e1, e2, e3, e4] W → W.cell? ⟨G, 4, none⟩ = some e4) :=
  ⟨fun _ h => (sb_b1 h).cell 0, fun _ h => (sb_b1 h).cell 1, fun _ h => (sb_b1 h).cell 2, fun _ h => (sb_b1 h).cell 3, fun _ h => (sb_b1 h).cell 4, fun _ h => (sb_b2 h).cell 0, fun _ h => (sb_b2 h).cell 1, fun _ h => (sb_b2 h).cell 2, fun _ h => (sb_b2 h).cell 3, fun _ h => (sb_b2 h).cell 4⟩

end Go.Proofs.YtfefbfohenmajaaDoor.Tre
