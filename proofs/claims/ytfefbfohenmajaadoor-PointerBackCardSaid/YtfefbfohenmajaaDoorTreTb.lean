/- TreeTurns: plain facts; the value that is turned about, while it is made. Conditions: as each theorem states. -/
import Derived.Test.YtfefbfohenmajaaDoorTreRc
import Derived.Test.YtfefbfohenmajaaDoorTreV
import Derived.Test.YtfefbfohenmajaaDoorTreU
namespace Go.Proofs.YtfefbfohenmajaaDoor.Tre
open Go.RowKit Go.Lib Go.Proofs.YtfefbfohenmajaaDoor.Byt

theorem rot_get {α : Type} (d : α) (l : List α) {i q : Nat} (hi : i < l.length) (hq : q < l.length) : (rot l i).getD q d = l.getD ((q + i) % l.length) d := by
  unfold rot
  rw [List.getD_eq_getElem?_getD, List.getD_eq_getElem?_getD]
  congr 1
  by_cases h : q < l.length - i
  · rw [List.getElem?_append_left (by rw [List.length_drop]; exact h), List.getElem?_drop, Nat.mod_eq_of_lt (by omega), Nat.add_comm]
  · rw [List.getElem?_append_right (by rw [List.length_drop]; omega), List.length_drop, List.getElem?_take, if_pos (by omega), show (q + i) % l.length = q - (l.length - i) by
      rw [show q + i = q - (l.length - i) + l.length by omega, Nat.add_mod_right, Nat.mod_eq_of_lt (by omega)]]
/-- The value turned about. -/
def turn (l : List Vt) (ns : List ByteArray) (i : Nat) : Vt := .mk 5 0 ⟨#[]⟩ (rot l i) (rot ns i)
theorem turn_al {v : Vt} {i : Nat} (hk : v.k = 5) (hr : wi v 64 = true) : alB v (turn v.l v.ns i) = true := by
  obtain ⟨h1, h2, h3, h4, _⟩ := (right_parts hr).1 hk
  have e : v = .mk 5 0 ⟨#[]⟩ v.l v.ns := by
    have := Vt.eta v
    rw [hk, h3, h4] at this
    exact this
  unfold alB turn
  rw [srt_turn v.l v.ns i h1 h2, wi_turn v.l v.ns i 64 h1, ← e, hr, sm_self]
  rfl
theorem turn_srt {v : Vt} {i : Nat} (hk : v.k = 5) (hr : wi v 64 = true) : srt (turn v.l v.ns i) = srt v := by
  obtain ⟨h1, h2, h3, h4, _⟩ := (right_parts hr).1 hk
  have e : v = .mk 5 0 ⟨#[]⟩ v.l v.ns := by
    have := Vt.eta v
    rw [hk, h3, h4] at this
    exact this
  unfold turn
  rw [srt_turn v.l v.ns i h1 h2, ← e]
theorem turn_same {v : Vt} {i : Nat} (hk : v.k = 5) (hr : wi v 64 = true) (hi : i < v.l.length) : smB v (turn v.l v.ns i) = (((i : Int) == 0) || ((v.l.length : Int) == 1)) := by
  obtain ⟨h1, h2, h3, h4, _⟩ := (right_parts hr).1 hk
  have e : v = .mk 5 0 ⟨#[]⟩ v.l v.ns := by
    have := Vt.eta v
    rw [hk, h3, h4] at this
    exact this
  by_cases h0 : i = 0
  · subst h0
    unfold turn
    rw [rot_zero, rot_zero, ← e, sm_self]
    rfl
  · have n1 : ((i : Int) == 0) = false := by rw [beq_eq_false_iff_ne]; omega
    have n2 : ((v.l.length : Int) == 1) = false := by rw [beq_eq_false_iff_ne]; omega
    rw [n1, n2]
    cases hs : smB v (turn v.l v.ns i) with
    | false => rfl
    | true =>
      have := congrArg Vt.ns ((sm_iff _ _).1 hs)
      exact absurd (rot_same h2 (by omega) this.symm) h0
theorem turn_find {v : Vt} {i j : Nat} (hk : v.k = 5) (hr : wi v 64 = true) (hj : j < v.l.length) : find v (v.ns.getD j ⟨#[]⟩) = some (v.l.getD j V0) ∧ find (turn v.l v.ns i) (v.ns.getD j ⟨#[]⟩) = some (v.l.getD j V0) := by
  obtain ⟨h1, h2, _⟩ := (right_parts hr).1 hk
  have hj2 : j < v.ns.length := by omega
  have e1 : v.ns.getD j ⟨#[]⟩ = v.ns[j] := by rw [List.getD_eq_getElem?_getD, List.getElem?_eq_getElem hj2]; rfl
  have e2 : v.l[j]? = some (v.l.getD j V0) := by rw [List.getD_eq_getElem?_getD, List.getElem?_eq_getElem hj]; rfl
  unfold find turn
  rw [e1, if_pos hk, if_pos (show (Vt.mk 5 0 ⟨#[]⟩ (rot v.l i) (rot v.ns i)).k = 5 from rfl)]
  refine ⟨(fnd_at v.ns v.l j h1 h2 hj2).trans e2, (fnd_perm (ns' := rot v.ns i) (l' := rot v.l i) h1 (by rw [rot_len, rot_len, h1]) h2 ?_ j hj2).trans e2⟩
  rw [rot_zip _ _ _ h1]
  exact rot_perm _ _
theorem OkT_turn {v : Vt} (hv : OkT v) (i : Nat) : OkT (turn v.l v.ns i) := by
  obtain ⟨h1, h2⟩ := (OkT_iff v).1 hv
  refine (OkT_iff _).2 ⟨⟨(by decide : (-9223372036854775808 : Int) ≤ 5 ∧ (5 : Int) ≤ 9223372036854775807), (by decide : (-9223372036854775808 : Int) ≤ 0 ∧ (0 : Int) ≤ 9223372036854775807), (by decide : (⟨#[]⟩ : ByteArray).size ≤ 140737488351232), ?_, ?_, fun m hm => h1.2.2.2.2.2 m ((rot_perm v.ns i).mem_iff.1 hm)⟩, fun x hx => h2 x ((rot_perm v.l i).mem_iff.1 hx)⟩
  · show (rot v.l i).length * 80 ≤ _
    rw [rot_len]; exact h1.2.2.2.1
  · show (rot v.ns i).length * 16 ≤ _
    rw [rot_len]; exact h1.2.2.2.2.1
/-- The five cells of a variable, and what the walk asks of a store there. -/
theorem box_cells5 {W : World} {g : Nat} {z0 z1 z2 z3 z4 : Value} (h : Box W g #[z0, z1, z2, z3, z4]) : W.cell? ⟨g, 0, none⟩ = some z0 ∧ (∀ u0, (W.setCell ⟨g, 0, none⟩ u0).cell? ⟨g, 1, none⟩ = some z1) ∧ (∀ u0 u1, ((W.setCell ⟨g, 0, none⟩ u0).setCell ⟨g, 1, none⟩ u1).cell? ⟨g, 2, none⟩ = some z2) ∧
    (∀ u0 u1 u2, (((W.setCell ⟨g, 0, none⟩ u0).setCell ⟨g, 1, none⟩ u1).setCell ⟨g, 2, none⟩ u2).cell? ⟨g, 3, none⟩ = some z3) ∧ (∀ u0 u1 u2 u3, ((((W.setCell ⟨g, 0, none⟩ u0).setCell ⟨g, 1, none⟩ u1).setCell ⟨g, 2, none⟩ u2).setCell ⟨g, 3, none⟩ u3).cell? ⟨g, 4, none⟩ = some z4) ∧ ∀ j, W.frozen? ⟨g, j, none⟩ = false := by
  have ne : ∀ {x y : Nat}, x ≠ y → (⟨g, x, none⟩ : Addr) ≠ ⟨g, y, none⟩ := fun h q => h (by injection q)
  refine ⟨h.cell 0, fun u0 => ?_, fun u0 u1 => ?_, fun u0 u1 u2 => ?_, fun u0 u1 u2 u3 => ?_, fun j => h.free j⟩
  · rw [World.cell?_setCell_other _ _ _ _ (ne (by omega))]; exact h.cell 1
  · rw [World.cell?_setCell_other _ _ _ _ (ne (by omega)), World.cell?_setCell_other _ _ _ _ (ne (by omega))]; exact h.cell 2
  · rw [World.cell?_setCell_other _ _ _ _ (ne (by omega)), World.cell?_setCell_other _ _ _ _ (ne (by omega)), World.cell?_setCell_other _ _ _ _ (ne (by omega))]; exact h.cell 3
  · rw [World.cell?_setCell_other _ _ _ _ (ne (by omega)), World.cell?_setCell_other _ _ _ _ (ne (by omega)), World.cell?_setCell_other _ _ _ _ (ne (by omega)), World.cell?_setCell_other _ _ _ _ (ne (by omega))]; exact h.cell 4
/-- What a call of Find has left in a variable. -/
def Fo (W W2 : World) (x : Vt) (g : Nat) (cs : List Value) : Prop := Box W2 g cs.toArray ∧ InV W2 x cs ∧ Below W.heap.size W W2
theorem Fo.alloc {W w3 : World} {x : Vt} {cs : List Value} (hb : Below W.heap.size W w3) (hi : InV w3 x cs) : Fo W (w3.alloc (.cells cs.toArray 25 (0, 0))) x w3.heap.size cs :=
  ⟨box_new w3 _, InV_next ((Below.refl _ w3).alloc (Nat.le_refl _) _) _ _ hi, hb.alloc hb.size _⟩
theorem Fo.store {W w3 : World} {x : Vt} {u0 u1 u2 u3 u4 : Value} {z : Array Value} (hb : Below W.heap.size W w3) (hi : InS (fun b => W.heap.size + 1 ≤ b) w3 x [u0, u1, u2, u3, u4]) (hz : Box w3 W.heap.size z) (h5 : z.size = 5) :
    Fo W (((((w3.setCell ⟨W.heap.size, 0, none⟩ u0).setCell ⟨W.heap.size, 1, none⟩ u1).setCell ⟨W.heap.size, 2, none⟩ u2).setCell ⟨W.heap.size, 3, none⟩ u3).setCell ⟨W.heap.size, 4, none⟩ u4) x W.heap.size [u0, u1, u2, u3, u4] :=
  ⟨box_nest5 hz h5 u0 u1 u2 u3 u4, InS_in _ _ (InS_upd (S' := fun _ => True) (fun b hb' _ => ⟨nest5_other w3 W.heap.size u0 u1 u2 u3 u4 (by omega), trivial⟩) _ _ hi),
    below_set (below_set (below_set (below_set (below_set hb (Nat.le_refl _) 0 u0) (Nat.le_refl _) 1 u1) (Nat.le_refl _) 2 u2) (Nat.le_refl _) 3 u3) (Nat.le_refl _) 4 u4⟩
theorem Fo.drew {W w3 : World} {x : Vt} {g : Nat} {cs : List Value} (h : Fo W w3 x g cs) : Fo W w3.drew x g cs := ⟨h.1, InV_next (Below.refl _ _).drew _ _ h.2.1, h.2.2.drew⟩
theorem box_newd (w : World) (cs : Array Value) : Box ((w.alloc (.cells cs 25)).drew) w.heap.size cs := box_new w cs
theorem heap_newd (W : World) (o : Obj) : (W.alloc o).drew.heap[W.heap.size]? = some o := heap_alloc_new W o
/-! ### while it is made -/
/-- Variable G holds the value with the first i items and the first j names. -/
def Tn (w : World) (G : Nat) (P : Array Value) (L : List Vt) (NS : List ByteArray) (W : World) (i j : Nat) (c3 c4 : Value) (D : List (List Value)) : Prop :=
  OwnR W (G + 1) c3 D ∧ D.length = i ∧ (∀ q, q < i → InV w (L.getD q V0) (D.getD q [])) ∧ Strs.Own W (G + 1) c4 (NS.take j) ∧ Box W w.heap.size P ∧ Box W G #[.int .i64 5, .int .i64 0, .string ⟨#[]⟩, c3, c4] ∧ Below w.heap.size w W ∧ w.heap.size < G
section
variable {w W W2 w4 : World} {G i j : Nat} {P : Array Value} {L : List Vt} {NS : List ByteArray} {c3 c4 v' : Value} {D : List (List Value)} {o : Obj}
theorem Tn.item (h : Tn w G P L NS W i j c3 c4 D) (hb : Below W.heap.size W W2) {es : List Value} (hi : InV w (L.getD i V0) es) (hv : OwnR w4 (G + 1) v' (D ++ [es])) (hg : (W2.alloc o).grownBy w4 c3.ownBlock) : Tn w G P L NS (w4.setCell ⟨G, 3, none⟩ v') (i + 1) j v' c4 (D ++ [es]) := by
  obtain ⟨h1, h2, h3, h4, h5, h6, h7, h8⟩ := h
  have l6 := h6.lt
  have hs2 := hb.size
  have hs3 : (W2.alloc o).heap.size = W2.heap.size + 1 := by simp
  have keep : ∀ b, b < W.heap.size → c3.ownBlock ≠ some b → w4.heap[b]? = W.heap[b]? := fun b hb' hne => (hg.block b (by omega) (fun q => hne q.symm)).trans ((Below.heap_alloc _ _ _ (by omega)).trans (hb.block b hb'))
  have low : ∀ b, b ≤ G → w4.heap[b]? = W.heap[b]? := fun b hb => keep b (by omega) (fun q => by have := (own_in h1 q).1; omega)
  have fin : ∀ b, b ≠ G → (w4.setCell ⟨G, 3, none⟩ v').heap[b]? = w4.heap[b]? := fun b hb => set_other v' hb
  refine ⟨hv.beside fun b hb => fin b (by have := (own_in hv hb).1; omega), by rw [List.length_append, h2]; rfl, fun q hq => ?_, own_keep h4 fun b hb' => ?_, (fin _ (by omega)).trans ((low _ (by omega)).trans h5), box_set ((low _ (Nat.le_refl _)).trans h6) v', ?_, h8⟩
  · rw [getD_app]
    by_cases hqi : q < D.length
    · rw [if_pos hqi]; exact h3 q (by omega)
    · have e : q = D.length := by omega
      rw [if_neg hqi, if_pos e, e, h2]; exact hi
  · obtain ⟨hc, _, hc2⟩ := h4.cells b hb'
    exact (fin b (by omega)).trans (keep b (Array.getElem?_eq_some_iff.1 hc2).1 (fun q => own_apart h1 h4 q hb'))
  · have hB : Below w.heap.size w (W2.alloc o) := (Tre.next h7 hb).alloc (by have := h7.size; omega) o
    have e1 : Below w.heap.size w w4 := ⟨hg.os.trans hB.os, hg.tape.trans hB.tape, hg.output.trans hB.output, by have := hg.size; have := h7.size; omega, fun b hb => (low b (by omega)).trans (h7.block b hb)⟩
    exact below_set e1 (by omega) 3 v'
theorem Tn.name (h : Tn w G P L NS W i j c3 c4 D) (hb : Below W.heap.size W W2) {t : ByteArray} (ht : NS.take (j + 1) = NS.take j ++ [t]) (hv : Strs.Own w4 (G + 1) v' (NS.take j ++ [t])) (hg : (W2.alloc o).grownBy w4 c4.ownBlock) : Tn w G P L NS (w4.setCell ⟨G, 4, none⟩ v') i (j + 1) c3 v' D := by
  obtain ⟨h1, h2, h3, h4, h5, h6, h7, h8⟩ := h
  have l6 := h6.lt
  have hs2 := hb.size
  have hs3 : (W2.alloc o).heap.size = W2.heap.size + 1 := by simp
  have keep : ∀ b, b < W.heap.size → c4.ownBlock ≠ some b → w4.heap[b]? = W.heap[b]? := fun b hb' hne => (hg.block b (by omega) (fun q => hne q.symm)).trans ((Below.heap_alloc _ _ _ (by omega)).trans (hb.block b hb'))
  have low : ∀ b, b ≤ G → w4.heap[b]? = W.heap[b]? := fun b hb => keep b (by omega) (fun q => by have := (h4.cells b q).1; omega)
  have fin : ∀ b, b ≠ G → (w4.setCell ⟨G, 4, none⟩ v').heap[b]? = w4.heap[b]? := fun b hb => set_other v' hb
  refine ⟨h1.beside fun b hb' => ?_, h2, h3, ?_, (fin _ (by omega)).trans ((low _ (by omega)).trans h5), box_set4 ((low _ (Nat.le_refl _)).trans h6) v', ?_, h8⟩
  · have := own_in h1 hb'
    exact (fin b (by omega)).trans (keep b this.2 (own_apart h1 h4 hb'))
  · rw [ht]
    exact own_keep hv fun b hb' => fin b (by have := (hv.cells b hb').1; omega)
  · have hB : Below w.heap.size w (W2.alloc o) := (Tre.next h7 hb).alloc (by have := h7.size; omega) o
    have e1 : Below w.heap.size w w4 := ⟨hg.os.trans hB.os, hg.tape.trans hB.tape, hg.output.trans hB.output, by have := hg.size; have := h7.size; omega, fun b hb => (low b (by omega)).trans (h7.block b hb)⟩
    exact below_set e1 (by omega) 4 v'
theorem Tn.inv (h : Tn w G P L NS W L.length NS.length c3 c4 D) : InV W (.mk 5 0 ⟨#[]⟩ L NS) [.int .i64 5, .int .i64 0, .string ⟨#[]⟩, c3, c4] := by
  obtain ⟨h1, h2, h3, h4, _, _, h7, _⟩ := h
  rw [List.take_length] at h4
  obtain ⟨a, cap, rfl, ho⟩ := h1.open_
  rw [h2]
  refine (InV_iff _ _ _).2 ⟨a, cap, c4, rfl, fun q hq => ?_, h4.row⟩
  obtain ⟨g, rfl, _, _, hrg, _⟩ := ho q (by rw [h2]; exact hq)
  exact ⟨g, 0, rfl, _, by rw [Nat.zero_add, Nat.mul_comm]; exact hrg, InV_next h7 _ _ (h3 q hq)⟩
theorem Tn.next (h : Tn w G P L NS W i j c3 c4 D) (hb : Below W.heap.size W W2) : Tn w G P L NS W2 i j c3 c4 D := by
  obtain ⟨h1, h2, h3, h4, h5, h6, h7, h8⟩ := h
  exact ⟨h1.next hb, h2, h3, h4.next hb, h5.next hb h5.lt, h6.next hb h6.lt, Tre.next h7 hb, h8⟩
/-- The variable, while a row of it grows. -/
theorem Tn.box3 (h : Tn w G P L NS W i j c3 c4 D) (hb : Below W.heap.size W W2) (hg : (W2.alloc o).grownBy w4 c3.ownBlock) : Box w4 G #[.int .i64 5, .int .i64 0, .string ⟨#[]⟩, c3, c4] := by
  obtain ⟨h1, _, _, _, _, h6, _, _⟩ := h
  have l6 := h6.lt
  have hs2 := hb.size
  have hs3 : (W2.alloc o).heap.size = W2.heap.size + 1 := by simp
  exact (hg.block _ (by omega) (fun q => by have := (own_in h1 q.symm).1; omega)).trans ((Below.heap_alloc _ _ _ (by omega)).trans (h6.next hb l6))
theorem Tn.box4 (h : Tn w G P L NS W i j c3 c4 D) (hb : Below W.heap.size W W2) (hg : (W2.alloc o).grownBy w4 c4.ownBlock) : Box w4 G #[.int .i64 5, .int .i64 0, .string ⟨#[]⟩, c3, c4] := by
  obtain ⟨_, _, _, h4, _, h6, _, _⟩ := h
  have l6 := h6.lt
  have hs2 := hb.size
  have hs3 : (W2.alloc o).heap.size = W2.heap.size + 1 := by simp
  exact (hg.block _ (by omega) (fun q => by have := (h4.cells _ q.symm).1; omega)).trans ((Below.heap_alloc _ _ _ (by omega)).trans (h6.next hb l6))
end
end Go.Proofs.YtfefbfohenmajaaDoor.Tre
