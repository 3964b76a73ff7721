/- The document's Sort: its state, its items sorted. Conditions: as each theorem states. -/
import Derived.Test.YtafelidejkppkaaDoorTreRc
import Derived.Test.YtafelidejkppkaaDoorTreRl
namespace Go.Proofs.YtafelidejkppkaaDoor.Tre
open Go.RowKit Go.Lib Go.Proofs.YtafelidejkppkaaDoor.Byt

/-- The blocks of what lies in a value that a call has made, its own rows and variables aside. -/
def Sx (B G : Nat) (c3 c4 : Value) (b : Nat) : Prop := B ≤ b ∧ b ≠ G ∧ c3.ownBlock ≠ some b ∧ c4.ownBlock ≠ some b
/-- A value made by the call lies in variable G; it holds the items L, the names NS. -/
def St (w : World) (G : Nat) (k n : Int) (s : ByteArray) (P : Array Value) (c3 c4 : Value) (W : World) (L : List Vt) (D : List (List Value)) (NS : List ByteArray) : Prop :=
  OwnR W (w.heap.size + 2) c3 D ∧ D.length = L.length ∧ (∀ j, j < L.length → InS (Sx (w.heap.size + 2) G c3 c4) W (L.getD j V0) (D.getD j [])) ∧ Strs.Own W (w.heap.size + 2) c4 NS ∧
  Box W w.heap.size P ∧ Box W (w.heap.size + 1) zeroC.toArray ∧ Box W G #[.int .i64 k, .int .i64 n, .string s, c3, c4] ∧ Below w.heap.size w W ∧ w.heap.size + 2 ≤ G ∧ (∀ g, c3.ownBlock = some g → g ≠ G) ∧ (∀ g, c4.ownBlock = some g → g ≠ G)
/-- The five cells of an item in a row, and what the walk asks of a store there. -/
theorem own_cells5 {W : World} {B g n cap : Nat} {D : List (List Value)} (h : OwnR W B (.slice (some ⟨g, 0, none⟩) n cap) D) {i : Nat} (hi : i < D.length) : ∃ z0 z1 z2 z3 z4, D.getD i [] = [z0, z1, z2, z3, z4] ∧ W.cell? ⟨g, i * 5, none⟩ = some z0 ∧ W.cell? ⟨g, i * 5 + 1, none⟩ = some z1 ∧ W.cell? ⟨g, i * 5 + 2, none⟩ = some z2 ∧ W.cell? ⟨g, i * 5 + 3, none⟩ = some z3 ∧ W.cell? ⟨g, i * 5 + 4, none⟩ = some z4 ∧
    (∀ u0, (W.setCell ⟨g, i * 5, none⟩ u0).cell? ⟨g, i * 5 + 1, none⟩ = some z1) ∧ (∀ u0 u1, ((W.setCell ⟨g, i * 5, none⟩ u0).setCell ⟨g, i * 5 + 1, none⟩ u1).cell? ⟨g, i * 5 + 2, none⟩ = some z2) ∧
    (∀ u0 u1 u2, (((W.setCell ⟨g, i * 5, none⟩ u0).setCell ⟨g, i * 5 + 1, none⟩ u1).setCell ⟨g, i * 5 + 2, none⟩ u2).cell? ⟨g, i * 5 + 3, none⟩ = some z3) ∧
    (∀ u0 u1 u2 u3, ((((W.setCell ⟨g, i * 5, none⟩ u0).setCell ⟨g, i * 5 + 1, none⟩ u1).setCell ⟨g, i * 5 + 2, none⟩ u2).setCell ⟨g, i * 5 + 3, none⟩ u3).cell? ⟨g, i * 5 + 4, none⟩ = some z4) ∧ ∀ j, W.frozen? ⟨g, j, none⟩ = false := by
  obtain ⟨a, cp, e, ho⟩ := h.open_
  injection e with e _ _
  obtain ⟨g', e2, _, _, hr, _⟩ := ho i hi
  rw [← e] at e2
  injection e2 with e2
  injection e2 with e2
  subst e2
  have h5 : (D.getD i []).length = 5 := h.1 _ (get_mem hi)
  obtain ⟨z0, z1, z2, z3, z4, hz⟩ : ∃ z0 z1 z2 z3 z4, D.getD i [] = [z0, z1, z2, z3, z4] := by
    match D.getD i [], h5 with
    | [a, b, x, d, e], _ => exact ⟨a, b, x, d, e, rfl⟩
  rw [hz] at hr
  have ne : ∀ {x y : Nat}, x ≠ y → (⟨g, x, none⟩ : Addr) ≠ ⟨g, y, none⟩ := fun h q => h (by injection q)
  have k1 : W.cell? ⟨g, i * 5 + 1, none⟩ = some z1 := hr 1 z1 rfl
  have k2 : W.cell? ⟨g, i * 5 + 2, none⟩ = some z2 := hr 2 z2 rfl
  have k3 : W.cell? ⟨g, i * 5 + 3, none⟩ = some z3 := hr 3 z3 rfl
  have k4 : W.cell? ⟨g, i * 5 + 4, none⟩ = some z4 := hr 4 z4 rfl
  refine ⟨z0, z1, z2, z3, z4, hz, hr 0 z0 rfl, k1, k2, k3, k4, fun u0 => ?_, fun u0 u1 => ?_, fun u0 u1 u2 => ?_, fun u0 u1 u2 u3 => ?_, fun j => World.ownsRow.frozenAt (by
    have hn : D.length = n := by
      rcases h.shape with ⟨q, _⟩ | ⟨g', cap', q, _⟩
      · cases q
      · injection q with _ q2 _; exact q2.symm
    have := h.2
    rw [hn] at this
    exact this) j⟩
  · rw [World.cell?_setCell_other _ _ _ _ (ne (by omega))]; exact k1
  · rw [World.cell?_setCell_other _ _ _ _ (ne (by omega)), World.cell?_setCell_other _ _ _ _ (ne (by omega))]; exact k2
  · rw [World.cell?_setCell_other _ _ _ _ (ne (by omega)), World.cell?_setCell_other _ _ _ _ (ne (by omega)), World.cell?_setCell_other _ _ _ _ (ne (by omega))]; exact k3
  · rw [World.cell?_setCell_other _ _ _ _ (ne (by omega)), World.cell?_setCell_other _ _ _ _ (ne (by omega)), World.cell?_setCell_other _ _ _ _ (ne (by omega)), World.cell?_setCell_other _ _ _ _ (ne (by omega))]; exact k4
/-- An item is put in another's place. -/
theorem St.item {w : World} {G : Nat} {k n : Int} {s : ByteArray} {P : Array Value} {g m cap : Nat} {c4 : Value} {W w2 : World} {L : List Vt} {D : List (List Value)} {NS : List ByteArray} (h : St w G k n s P (.slice (some ⟨g, 0, none⟩) m cap) c4 W L D NS) {i : Nat} (hi : i < L.length) (hb : Below W.heap.size W w2) {x : Vt} {es : List Value}
    (hx : InS (fun b => W.heap.size ≤ b) w2 x es) : St w G k n s P (.slice (some ⟨g, 0, none⟩) m cap) c4 (w2.setCells g (i * 5) es) (L.set i x) (D.set i es) NS := by
  obtain ⟨h1, h2, h3, h4, h5, h6, h7, h8, h9, h10, h11⟩ := h
  have e5 := InS_five hx
  have hg := own_in h1 (b := g) rfl
  have hgG : g ≠ G := h10 g rfl
  have hap := own_apart h1 h4 (g := g) rfl
  have keep : ∀ b, b ≠ g → (w2.setCells g (i * 5) es).heap[b]? = w2.heap[b]? := fun b hb => sets_other g hb _ _ _
  have l5 := h5.lt
  have l6 := h6.lt
  have l7 := h7.lt
  refine ⟨(h1.next hb).set_ (by omega) e5, by rw [List.length_set, List.length_set, h2], fun j hj => ?_, own_keep h4 fun b hb' => (keep b (fun q => hap (q ▸ hb'))).trans (hb.block b (by
    obtain ⟨_, c, hc⟩ := h4.cells b hb'
    exact (Array.getElem?_eq_some_iff.1 hc).1)), (keep _ (by omega)).trans (h5.next hb l5), (keep _ (by omega)).trans (h6.next hb l6), (keep _ (fun q => hgG q.symm)).trans (h7.next hb l7), below_sets (by omega) es (i * 5) w2 (Tre.next h8 hb), h9, h10, h11⟩
  rw [List.length_set] at hj
  rw [getD_set _ _ _ _ _ hi, getD_set _ _ _ _ _ (by omega)]
  by_cases e : j = i
  · rw [if_pos e, if_pos e]
    refine InS_upd (fun b hb' hl => ?_) _ _ hx
    have hne : b ≠ g := by omega
    refine ⟨keep b hne, by omega, by omega, fun q => hne (Option.some.inj q).symm, fun q => ?_⟩
    obtain ⟨_, c, hc⟩ := h4.cells b q
    have := (Array.getElem?_eq_some_iff.1 hc).1
    omega
  · rw [if_neg e, if_neg e]
    refine InS_upd (fun b hb' hl => ?_) _ _ (h3 j hj)
    have hne : b ≠ g := fun q => hb'.2.2.1 (by rw [q]; rfl)
    exact ⟨(keep b hne).trans (hb.block b hl), hb'⟩
end Go.Proofs.YtafelidejkppkaaDoor.Tre
