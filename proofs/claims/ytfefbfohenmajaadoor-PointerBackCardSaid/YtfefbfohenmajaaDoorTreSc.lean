/- TreeSays, TreeTurns: plain facts; the laws' state. Conditions: as each theorem states. -/
import Derived.Test.YtfefbfohenmajaaDoorTreY
namespace Go.Proofs.YtfefbfohenmajaaDoor.Tre
open Go.RowKit Go.Lib Go.Proofs.YtfefbfohenmajaaDoor.Byt Go.Proofs.YtfefbfohenmajaaDoor.Utf

theorem OkT_zero : OkT V0 := (OkT_iff _).2 ⟨by unfold okV V0; decide, fun x hx => by cases hx⟩
theorem fnd_mem : ∀ (ns : List ByteArray) (l : List Vt) (s : ByteArray) (x : Vt), fnd ns l s = some x → x ∈ l
  | [], l, s, x, h => by unfold fnd at h; cases h
  | m :: ns, [], s, x, h => by unfold fnd at h; cases h
  | m :: ns, y :: l, s, x, h => by
    rw [fnd] at h
    by_cases e : m = s
    · rw [if_pos e] at h; injection h with h; rw [h]; exact List.mem_cons_self
    · rw [if_neg e] at h; exact List.mem_cons_of_mem _ (fnd_mem ns l s x h)
theorem OkT_find {v : Vt} (hv : OkT v) (s : ByteArray) : OkT ((find v s).getD V0) := by
  cases h : find v s with
  | none => exact OkT_zero
  | some x =>
    unfold find at h
    split at h
    · exact ((OkT_iff v).1 hv).2 x (fnd_mem _ _ _ _ h)
    · cases h
/-- The state of the law: the two values that came in, the two that were found. -/
def SC (w : World) (a b x : Vt) (G G1 G2 : Nat) (ca cb cx cy : List Value) (W : World) : Prop := SB w a b (G) ca cb W ∧ Box W G1 cx.toArray ∧ Box W G2 cy.toArray ∧ InV W x cx ∧ InV W x cy
section
variable {w W W' : World} {a b x : Vt} {G G1 G2 : Nat} {ca cb cx cy : List Value}
theorem SC.next (h : SC w a b x G G1 G2 ca cb cx cy W) (hb : Below W.heap.size W W') : SC w a b x G G1 G2 ca cb cx cy W' := by
  obtain ⟨h1, h2, h3, h4, h5⟩ := h
  exact ⟨h1.next hb, h2.next hb h2.lt, h3.next hb h3.lt, InV_next hb _ _ h4, InV_next hb _ _ h5⟩
theorem SC.drew (h : SC w a b x G G1 G2 ca cb cx cy W) : SC w a b x G G1 G2 ca cb cx cy W.drew := h.next (Below.refl _ _).drew
theorem SC.sb (h : SC w a b x G G1 G2 ca cb cx cy W) : SB w a b (G) ca cb W := h.1
theorem SC.b1 (h : SC w a b x G G1 G2 ca cb cx cy W) : Box W G1 cx.toArray := h.2.1
theorem SC.b2 (h : SC w a b x G G1 G2 ca cb cx cy W) : Box W G2 cy.toArray := h.2.2.1
theorem SC.x1 (h : SC w a b x G G1 G2 ca cb cx cy W) : InV W x cx := h.2.2.2.1
theorem SC.x2 (h : SC w a b x G G1 G2 ca cb cx cy W) : InV W x cy := h.2.2.2.2
theorem sc_mk (h1 : SB w a b (G) ca cb W) (h2 : Box W G1 cx.toArray) (h3 : Box W G2 cy.toArray) (h4 : InV W x cx) (h5 : InV W x cy) : SC w a b x G G1 G2 ca cb cx cy W := ⟨h1, h2, h3, h4, h5⟩
end
attribute [irreducible] SC
theorem sc_ab {w : World} {a b x : Vt} {G G1 G2 : Nat} {c0 c1 c2 c3 c4 e0 e1 e2 e3 e4 : Value} {cx cy : List Value} :
    (∀ W, SC w a b x G G1 G2 [c0, c1, c2, c3, c4] [e0, e1, e2, e3, e4] cx cy W → W.cell? ⟨w.heap.size, 0, none⟩ = some c0) ∧ (∀ W, SC w a b x G G1 G2 [c0, c1, c2, c3, c4] [e0, e1, e2, e3, e4] cx cy W → W.cell? ⟨w.heap.size, 1, none⟩ = some c1) ∧
    (∀ W, SC w a b x G G1 G2 [c0, c1, c2, c3, c4] [e0, e1, e2, e3, e4] cx cy W → W.cell? ⟨w.heap.size, 2, none⟩ = some c2) ∧ (∀ W, SC w a b x G G1 G2 [c0, c1, c2, c3, c4] [e0, e1, e2, e3, e4] cx cy W → W.cell? ⟨w.heap.size, 3, none⟩ = some c3) ∧
    (∀ W, SC w a b x G G1 G2 [c0, c1, c2, c3, c4] [e0, e1, e2, e3, e4] cx cy W → W.cell? ⟨w.heap.size, 4, none⟩ = some c4) ∧ (∀ W, SC w a b x G G1 G2 [c0, c1, c2, c3, c4] [e0, e1, e2, e3, e4] cx cy W → W.cell? ⟨G, 0, none⟩ = some e0) ∧
    (∀ W, SC w a b x G G1 G2 [c0, c1, c2, c3, c4] [e0, e1, e2, e3, e4] cx cy W → W.cell? ⟨G, 1, none⟩ = some e1) ∧ (∀ W, SC w a b x G G1 G2 [c0, c1, c2, c3, c4] [e0, e1, e2, e3, e4] cx cy W → W.cell? ⟨G, 2, none⟩ = some e2) ∧
    (∀ W, SC w a b x G G1 G2 [c0, c1, c2, c3, c4] [e0, e1, e2, e3, e4] cx cy W → W.cell? ⟨G, 3, none⟩ = some e3) ∧ (∀ W, SC w a b x G G1 G2 [c0, c1, c2, c3, c4] [e0, e1, e2, e3, e4] cx cy W → W.cell? ⟨G, 4, none⟩ = some e4) :=
  ⟨fun _ h => (sb_b1 h.sb).cell 0, fun _ h => (sb_b1 h.sb).cell 1, fun _ h => (sb_b1 h.sb).cell 2, fun _ h => (sb_b1 h.sb).cell 3, fun _ h => (sb_b1 h.sb).cell 4, fun _ h => (sb_b2 h.sb).cell 0, fun _ h => (sb_b2 h.sb).cell 1, fun _ h => (sb_b2 h.sb).cell 2, fun _ h => (sb_b2 h.sb).cell 3, fun _ h => (sb_b2 h.sb).cell 4⟩
theorem sc_xy {w : World} {a b x : Vt} {G G1 G2 : Nat} {c0 c1 c2 c3 c4 e0 e1 e2 e3 e4 : Value} {ca cb : List Value} :
    (∀ W, SC w a b x G G1 G2 ca cb [c0, c1, c2, c3, c4] [e0, e1, e2, e3, e4] W → W.cell? ⟨G1, 0, none⟩ = some c0) ∧ (∀ W, SC w a b x G G1 G2 ca cb [c0, c1, c2, c3, c4] [e0, e1, e2, e3, e4] W → W.cell? ⟨G1, 1, none⟩ = some c1) ∧
    (∀ W, SC w a b x G G1 G2 ca cb [c0, c1, c2, c3, c4] [e0, e1, e2, e3, e4] W → W.cell? ⟨G1, 2, none⟩ = some c2) ∧ (∀ W, SC w a b x G G1 G2 ca cb [c0, c1, c2, c3, c4] [e0, e1, e2, e3, e4] W → W.cell? ⟨G1, 3, none⟩ = some c3) ∧
    (∀ W, SC w a b x G G1 G2 ca cb [c0, c1, c2, c3, c4] [e0, e1, e2, e3, e4] W → W.cell? ⟨G1, 4, none⟩ = some c4) ∧ (∀ W, SC w a b x G G1 G2 ca cb [c0, c1, c2, c3, c4] [e0, e1, e2, e3, e4] W → W.cell? ⟨G2, 0, none⟩ = some e0) ∧
    (∀ W, SC w a b x G G1 G2 ca cb [c0, c1, c2, c3, c4] [e0, e1, e2, e3, e4] W → W.cell? ⟨G2, 1, none⟩ = some e1) ∧ (∀ W, SC w a b x G G1 G2 ca cb [c0, c1, c2, c3, c4] [e0, e1, e2, e3, e4] W → W.cell? ⟨G2, 2, none⟩ = some e2) ∧
    (∀ W, SC w a b x G G1 G2 ca cb [c0, c1, c2, c3, c4] [e0, e1, e2, e3, e4] W → W.cell? ⟨G2, 3, none⟩ = some e3) ∧ (∀ W, SC w a b x G G1 G2 ca cb [c0, c1, c2, c3, c4] [e0, e1, e2, e3, e4] W → W.cell? ⟨G2, 4, none⟩ = some e4) :=
  ⟨fun _ h => h.b1.cell 0, fun _ h => h.b1.cell 1, fun _ h => h.b1.cell 2, fun _ h => h.b1.cell 3, fun _ h => h.b1.cell 4, fun _ h => h.b2.cell 0, fun _ h => h.b2.cell 1, fun _ h => h.b2.cell 2, fun _ h => h.b2.cell 3, fun _ h => h.b2.cell 4⟩
end Go.Proofs.YtfefbfohenmajaaDoor.Tre
