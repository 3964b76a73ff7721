/- The document's Sort: the places put in order. Conditions: as each theorem states. -/
import Derived.Test.YtafelidejkppkaaDoorTreRt
import Derived.Test.YtafelidejkppkaaDoorTreV
namespace Go.Proofs.YtafelidejkppkaaDoor.Tre
open Go.RowKit Go.Lib Go.Proofs.YtafelidejkppkaaDoor.Byt

theorem St.next {w : World} {G : Nat} {k n : Int} {s : ByteArray} {P : Array Value} {c3 c4 : Value} {W w2 : World} {L : List Vt} {D : List (List Value)} {NS : List ByteArray} (h : St w G k n s P c3 c4 W L D NS) (hb : Below W.heap.size W w2) : St w G k n s P c3 c4 w2 L D NS := by
  obtain ⟨h1, h2, h3, h4, h5, h6, h7, h8, h9, h10, h11⟩ := h
  exact ⟨h1.next hb, h2, fun j hj => InS_upd (fun b hb' hl => ⟨hb.block b hl, hb'⟩) _ _ (h3 j hj), h4.next hb, h5.next hb h5.lt, h6.next hb h6.lt, h7.next hb h7.lt, Tre.next h8 hb, h9, h10, h11⟩
theorem St.finish {w : World} {G : Nat} {k n : Int} {s : ByteArray} {P : Array Value} {c3 c4 : Value} {W w4 : World} {L : List Vt} {D : List (List Value)} {NS : List ByteArray} (h : St w G k n s P c3 c4 W L D NS)
    (hk : ∀ b, b ≠ w.heap.size + 1 → w4.heap[b]? = W.heap[b]?) : InS (fun b => w.heap.size ≤ b) w4 (.mk k n s L NS) [.int .i64 k, .int .i64 n, .string s, c3, c4] := by
  obtain ⟨h1, h2, h3, h4, _⟩ := h
  exact Tre.finish k n s h1 ⟨h2, fun j hj => InS_upd (fun b hb' _ => ⟨rfl, hb'.1⟩) _ _ (h3 j hj)⟩ h4 hk
theorem strs_shape {W : World} {B : Nat} {c : Value} {NS : List ByteArray} (h : Strs.Own W B c NS) (hne : 0 < NS.length) : ∃ g cap, c = .slice (some ⟨g, 0, none⟩) NS.length cap := by
  rcases h.2 with ⟨rfl, h0⟩ | ⟨g, cap, cur, rfl, _⟩
  · omega
  · exact ⟨g, cap, rfl⟩
/-- A name and an item are put in others' places. -/
theorem St.shift {w : World} {G : Nat} {k n : Int} {s : ByteArray} {P : Array Value} {g m cap g4 m4 cap4 : Nat} {W : World} {L : List Vt} {D : List (List Value)} {NS : List ByteArray} (h : St w G k n s P (.slice (some ⟨g, 0, none⟩) m cap) (.slice (some ⟨g4, 0, none⟩) m4 cap4) W L D NS) {i : Nat} (hi : i < L.length) {x : Vt} {es : List Value}
    (hx : InS (Sx (w.heap.size + 2) G (.slice (some ⟨g, 0, none⟩) m cap) (.slice (some ⟨g4, 0, none⟩) m4 cap4)) W x es) (nw : ByteArray) :
    St w G k n s P (.slice (some ⟨g, 0, none⟩) m cap) (.slice (some ⟨g4, 0, none⟩) m4 cap4) ((W.setCell ⟨g4, i, none⟩ (.string nw)).setCells g (i * 5) es) (L.set i x) (D.set i es) (NS.set i nw) := by
  obtain ⟨h1, h2, h3, h4, h5, h6, h7, h8, h9, h10, h11⟩ := h
  have e5 := InS_five hx
  have hg := own_in h1 (b := g) rfl
  have hg4 := (h4.cells g4 rfl).1
  have hgG : g ≠ G := h10 g rfl
  have hgG4 : g4 ≠ G := h11 g4 rfl
  have hap : g4 ≠ g := fun q => own_apart h1 h4 (g := g) rfl (by rw [q]; rfl)
  have k4 : ∀ b, b ≠ g4 → (W.setCell ⟨g4, i, none⟩ (.string nw)).heap[b]? = W.heap[b]? := fun b hb => heap_setCell_other W ⟨g4, i, none⟩ b _ (fun q => hb q)
  have keep : ∀ b, b ≠ g → b ≠ g4 → ((W.setCell ⟨g4, i, none⟩ (.string nw)).setCells g (i * 5) es).heap[b]? = W.heap[b]? := fun b hb hb4 => (sets_other g hb _ _ _).trans (k4 b hb4)
  have l5 := h5.lt
  have l6 := h6.lt
  refine ⟨(h1.beside fun b hb => k4 b (fun q => hap (by injection hb with hb; rw [← q, ← hb]))).set_ (by omega) e5, by rw [List.length_set, List.length_set, h2], fun j hj => ?_, own_keep (strs_set h4 i nw) fun b hb' => sets_other g (by injection hb' with hb'; rw [← hb']; exact hap) _ _ _, (keep _ (by omega) (by omega)).trans h5, (keep _ (by omega) (by omega)).trans h6, (keep _ (fun q => hgG q.symm) (fun q => hgG4 q.symm)).trans h7, below_sets (by omega) es (i * 5) _ (below_set h8 (by omega) i _), h9, h10, h11⟩
  have up : ∀ b, Sx (w.heap.size + 2) G (.slice (some ⟨g, 0, none⟩) m cap) (.slice (some ⟨g4, 0, none⟩) m4 cap4) b → b < W.heap.size → ((W.setCell ⟨g4, i, none⟩ (.string nw)).setCells g (i * 5) es).heap[b]? = W.heap[b]? ∧ Sx (w.heap.size + 2) G (.slice (some ⟨g, 0, none⟩) m cap) (.slice (some ⟨g4, 0, none⟩) m4 cap4) b := fun b hb _ =>
    ⟨keep b (fun q => hb.2.2.1 (by rw [q]; rfl)) (fun q => hb.2.2.2 (by rw [q]; rfl)), hb⟩
  rw [List.length_set] at hj
  rw [getD_set _ _ _ _ _ hi, getD_set _ _ _ _ _ (by omega)]
  by_cases e : j = i
  · rw [if_pos e, if_pos e]; exact InS_upd up _ _ hx
  · rw [if_neg e, if_neg e]; exact InS_upd up _ _ (h3 j hj)
theorem shift_in {B G g m cap g4 m4 cap4 : Nat} {W : World} {y : Vt} {cs : List Value} (h : InS (Sx B G (.slice (some ⟨g, 0, none⟩) m cap) (.slice (some ⟨g4, 0, none⟩) m4 cap4)) W y cs) (i : Nat) (es : List Value) (nw : ByteArray) :
    InS (Sx B G (.slice (some ⟨g, 0, none⟩) m cap) (.slice (some ⟨g4, 0, none⟩) m4 cap4)) ((W.setCell ⟨g4, i, none⟩ (.string nw)).setCells g (i * 5) es) y cs :=
  InS_upd (fun b hb _ => ⟨(sets_other g (fun q => hb.2.2.1 (by rw [q]; rfl)) _ _ _).trans (heap_setCell_other W ⟨g4, i, none⟩ b _ (fun q => hb.2.2.2 (by rw [show b = g4 from q]; rfl))), hb⟩) _ _ h
theorem shift_box {g g4 G8 : Nat} {W : World} {cs : Array Value} (h : Box W G8 cs) (h1 : G8 ≠ g) (h2 : G8 ≠ g4) (i : Nat) (es : List Value) (nw : ByteArray) : Box ((W.setCell ⟨g4, i, none⟩ (.string nw)).setCells g (i * 5) es) G8 cs :=
  ((sets_other g h1 _ _ _).trans (heap_setCell_other W ⟨g4, i, none⟩ G8 _ (fun q => h2 q))).trans h
/-- The cells of an item's place, when its name has been stored. -/
theorem St.cells {w : World} {G : Nat} {k n : Int} {s : ByteArray} {P : Array Value} {g m cap g4 m4 cap4 : Nat} {W : World} {L : List Vt} {D : List (List Value)} {NS : List ByteArray} (h : St w G k n s P (.slice (some ⟨g, 0, none⟩) m cap) (.slice (some ⟨g4, 0, none⟩) m4 cap4) W L D NS) (i : Nat) (nw : ByteArray) :
    OwnR (W.setCell ⟨g4, i, none⟩ (.string nw)) (w.heap.size + 2) (.slice (some ⟨g, 0, none⟩) m cap) D := by
  obtain ⟨h1, _, _, h4, _⟩ := h
  have hap : g4 ≠ g := fun q => own_apart h1 h4 (g := g) rfl (by rw [q]; rfl)
  exact h1.beside fun b hb => heap_setCell_other W ⟨g4, i, none⟩ b _ (fun q => hap (by injection hb with hb; rw [← show b = g4 from q, ← hb]))
/-! ### facts for the walks, put together -/
/-- What five cells of a value hold. -/
structure E5 where
  k : Int
  n : Int
  s : ByteArray
  a : Option Addr
  l : Nat
  p : Nat
  a2 : Option Addr
  l2 : Nat
  p2 : Nat
abbrev E5.cs (e : E5) : List Value := [.int .i64 e.k, .int .i64 e.n, .string e.s, .slice e.a e.l e.p, .slice e.a2 e.l2 e.p2]
theorem shp_e5 {cs : List Value} (h : Shp cs) : ∃ e : E5, cs = e.cs := by
  obtain ⟨k, n, s, a, l, p, a2, l2, p2, rfl⟩ := h
  exact ⟨⟨k, n, s, a, l, p, a2, l2, p2⟩, rfl⟩
/-- The two rows of the value in variable G, item q and name q. -/
abbrev ItC (W : World) (G g g4 q m cap m4 cap4 : Nat) (e : E5) (t : ByteArray) : Prop :=
  W.cell? ⟨G, 3, none⟩ = some (.slice (some ⟨g, 0, none⟩) m cap) ∧ W.cell? ⟨G, 4, none⟩ = some (.slice (some ⟨g4, 0, none⟩) m4 cap4) ∧
  W.cell? ⟨g, q * 5, none⟩ = some (.int .i64 e.k) ∧ W.cell? ⟨g, q * 5 + 1, none⟩ = some (.int .i64 e.n) ∧ W.cell? ⟨g, q * 5 + 2, none⟩ = some (.string e.s) ∧ W.cell? ⟨g, q * 5 + 3, none⟩ = some (.slice e.a e.l e.p) ∧ W.cell? ⟨g, q * 5 + 4, none⟩ = some (.slice e.a2 e.l2 e.p2) ∧
  W.cell? ⟨g4, q, none⟩ = some (.string t)
theorem ItC.alloc {W : World} {G g g4 q m cap m4 cap4 : Nat} {e : E5} {t : ByteArray} (h : ItC W G g g4 q m cap m4 cap4 e t) (o : Obj) : ItC (W.alloc o) G g g4 q m cap m4 cap4 e t := by
  obtain ⟨h1, h2, h3, h4, h5, h6, h7, h8⟩ := h
  exact ⟨Lib.cell?_alloc_some _ h1, Lib.cell?_alloc_some _ h2, Lib.cell?_alloc_some _ h3, Lib.cell?_alloc_some _ h4, Lib.cell?_alloc_some _ h5, Lib.cell?_alloc_some _ h6, Lib.cell?_alloc_some _ h7, Lib.cell?_alloc_some _ h8⟩
/-- What a store of five cells at place q of row g asks. -/
abbrev StC (W : World) (g q : Nat) (z : Nat → Value) : Prop :=
  W.cell? ⟨g, q * 5, none⟩ = some (z 0) ∧ (∀ u0, (W.setCell ⟨g, q * 5, none⟩ u0).cell? ⟨g, q * 5 + 1, none⟩ = some (z 1)) ∧ (∀ u0 u1, ((W.setCell ⟨g, q * 5, none⟩ u0).setCell ⟨g, q * 5 + 1, none⟩ u1).cell? ⟨g, q * 5 + 2, none⟩ = some (z 2)) ∧
  (∀ u0 u1 u2, (((W.setCell ⟨g, q * 5, none⟩ u0).setCell ⟨g, q * 5 + 1, none⟩ u1).setCell ⟨g, q * 5 + 2, none⟩ u2).cell? ⟨g, q * 5 + 3, none⟩ = some (z 3)) ∧
  (∀ u0 u1 u2 u3, ((((W.setCell ⟨g, q * 5, none⟩ u0).setCell ⟨g, q * 5 + 1, none⟩ u1).setCell ⟨g, q * 5 + 2, none⟩ u2).setCell ⟨g, q * 5 + 3, none⟩ u3).cell? ⟨g, q * 5 + 4, none⟩ = some (z 4)) ∧ ∀ j, W.frozen? ⟨g, j, none⟩ = false
theorem stc_of {W : World} {B g n cap : Nat} {D : List (List Value)} (h : OwnR W B (.slice (some ⟨g, 0, none⟩) n cap) D) {q : Nat} (hq : q < D.length) : ∃ z, StC W g q z := by
  obtain ⟨z0, z1, z2, z3, z4, _, c0, _, _, _, _, c1, c2, c3, c4, fr⟩ := own_cells5 h hq
  exact ⟨fun j => match j with | 0 => z0 | 1 => z1 | 2 => z2 | 3 => z3 | _ => z4, c0, c1, c2, c3, c4, fr⟩
section
variable {w : World} {G : Nat} {k n : Int} {s : ByteArray} {P : Array Value} {g m cap g4 m4 cap4 : Nat} {W : World} {L : List Vt} {D : List (List Value)} {NS : List ByteArray}
theorem St.item_at (h : St w G k n s P (.slice (some ⟨g, 0, none⟩) m cap) (.slice (some ⟨g4, 0, none⟩) m4 cap4) W L D NS) {q : Nat} (hq : q < L.length) (hn : q < NS.length) :
    ∃ e : E5, Hid (InS (Sx (w.heap.size + 2) G (.slice (some ⟨g, 0, none⟩) m cap) (.slice (some ⟨g4, 0, none⟩) m4 cap4)) W (L.getD q V0) e.cs) ∧ ItC W G g g4 q m cap m4 cap4 e (NS.getD q ⟨#[]⟩) := by
  obtain ⟨h1, h2, h3, h4, _, _, h7, _⟩ := h
  have hin := h3 q hq
  obtain ⟨e, he⟩ := shp_e5 (InV_shp (InS_in _ _ hin))
  obtain ⟨z0, z1, z2, z3, z4, hz, c0, c1, c2, c3, c4, _⟩ := own_cells5 h1 (i := q) (by omega)
  rw [he] at hin hz
  injection hz with q0 hz; injection hz with q1 hz; injection hz with q2 hz; injection hz with q3 hz; injection hz with q4 hz
  subst q0 q1 q2 q3 q4
  exact ⟨e, Lib.hid hin, h7.cell 3, h7.cell 4, c0, c1, c2, c3, c4, strs_cell h4 q (by have := strs_len h4; omega)⟩
/-- What a shift by one place asks: item and name q are read, both at q + 1 are written, the name first. -/
abbrev Pre16 (W : World) (G g g4 q m cap m4 cap4 : Nat) (e : E5) (t : ByteArray) (z : Nat → Value) : Prop :=
  ItC W G g g4 q m cap m4 cap4 e t ∧ W.cell? ⟨g4, q + 1, none⟩ = some (z 5) ∧ (∀ j, W.frozen? ⟨g4, j, none⟩ = false) ∧ (∀ j, W.frozen? ⟨g, j, none⟩ = false) ∧
  ((W.setCell ⟨g4, q + 1, none⟩ (.string t)).cell? ⟨G, 3, none⟩ = some (.slice (some ⟨g, 0, none⟩) m cap) ∧ (W.setCell ⟨g4, q + 1, none⟩ (.string t)).cell? ⟨G, 4, none⟩ = some (.slice (some ⟨g4, 0, none⟩) m4 cap4) ∧
   (W.setCell ⟨g4, q + 1, none⟩ (.string t)).cell? ⟨g, q * 5, none⟩ = some (.int .i64 e.k) ∧ (W.setCell ⟨g4, q + 1, none⟩ (.string t)).cell? ⟨g, q * 5 + 1, none⟩ = some (.int .i64 e.n) ∧ (W.setCell ⟨g4, q + 1, none⟩ (.string t)).cell? ⟨g, q * 5 + 2, none⟩ = some (.string e.s) ∧
   (W.setCell ⟨g4, q + 1, none⟩ (.string t)).cell? ⟨g, q * 5 + 3, none⟩ = some (.slice e.a e.l e.p) ∧ (W.setCell ⟨g4, q + 1, none⟩ (.string t)).cell? ⟨g, q * 5 + 4, none⟩ = some (.slice e.a2 e.l2 e.p2)) ∧
  StC (W.setCell ⟨g4, q + 1, none⟩ (.string t)) g (q + 1) z
theorem far {W : World} {g4 i b q : Nat} {x u : Value} (hb : b ≠ g4) (h : W.cell? ⟨b, q, none⟩ = some u) : (W.setCell ⟨g4, i, none⟩ x).cell? ⟨b, q, none⟩ = some u :=
  (World.cell?_setCell_other _ _ _ _ (fun e => hb (by injection e with e _ _; exact e.symm))).trans h
theorem St.apart (h : St w G k n s P (.slice (some ⟨g, 0, none⟩) m cap) (.slice (some ⟨g4, 0, none⟩) m4 cap4) W L D NS) : G ≠ g4 ∧ g ≠ g4 :=
  ⟨fun q => h.2.2.2.2.2.2.2.2.2.2 g4 rfl q.symm, fun q => own_apart h.1 h.2.2.2.1 (g := g) rfl (by rw [q]; rfl)⟩
theorem St.pre16 (h : St w G k n s P (.slice (some ⟨g, 0, none⟩) m cap) (.slice (some ⟨g4, 0, none⟩) m4 cap4) W L D NS) {q : Nat} (hq : q + 1 < L.length) (hn : q + 1 < NS.length) :
    ∃ (e : E5) (z : Nat → Value), Hid (InS (Sx (w.heap.size + 2) G (.slice (some ⟨g, 0, none⟩) m cap) (.slice (some ⟨g4, 0, none⟩) m4 cap4)) W (L.getD q V0) e.cs) ∧ Pre16 W G g g4 q m cap m4 cap4 e (NS.getD q ⟨#[]⟩) z := by
  obtain ⟨e, hi, hc⟩ := h.item_at (q := q) (by omega) (by omega)
  obtain ⟨z, hz⟩ := stc_of (h.cells (q + 1) (NS.getD q ⟨#[]⟩)) (q := q + 1) (by have := h.2.1; omega)
  have hs := strs_cell h.2.2.2.1 (q + 1) (by have := strs_len h.2.2.2.1; omega)
  have hf := fun j => strs_free h.2.2.2.1 j
  obtain ⟨_, _, _, _, _, _, _, _, _, _, _, _, _, _, _, hg⟩ := own_cells5 h.1 (i := q) (by have := h.2.1; omega)
  obtain ⟨a1, a2⟩ := h.apart
  obtain ⟨y1, y2, y3, y4, y5, y6, y7, y8⟩ := id hc
  refine ⟨e, fun j => if j = 5 then .string (NS.getD (q + 1) ⟨#[]⟩) else z j, hi, hc, hs, hf, hg, ⟨far a1 y1, far a1 y2, far a2 y3, far a2 y4, far a2 y5, far a2 y6, far a2 y7⟩, hz⟩
/-- What is left at last: the item in variable G8 is written at q, the name t first. -/
abbrev Pre17 (W : World) (G G8 g g4 q m cap m4 cap4 : Nat) (e : E5) (t : ByteArray) (z : Nat → Value) : Prop :=
  (W.cell? ⟨G, 3, none⟩ = some (.slice (some ⟨g, 0, none⟩) m cap) ∧ W.cell? ⟨G, 4, none⟩ = some (.slice (some ⟨g4, 0, none⟩) m4 cap4) ∧
   W.cell? ⟨G8, 0, none⟩ = some (.int .i64 e.k) ∧ W.cell? ⟨G8, 1, none⟩ = some (.int .i64 e.n) ∧ W.cell? ⟨G8, 2, none⟩ = some (.string e.s) ∧ W.cell? ⟨G8, 3, none⟩ = some (.slice e.a e.l e.p) ∧ W.cell? ⟨G8, 4, none⟩ = some (.slice e.a2 e.l2 e.p2)) ∧
  W.cell? ⟨g4, q, none⟩ = some (z 5) ∧ (∀ j, W.frozen? ⟨g4, j, none⟩ = false) ∧ (∀ j, W.frozen? ⟨g, j, none⟩ = false) ∧
  ((W.setCell ⟨g4, q, none⟩ (.string t)).cell? ⟨G, 3, none⟩ = some (.slice (some ⟨g, 0, none⟩) m cap) ∧ (W.setCell ⟨g4, q, none⟩ (.string t)).cell? ⟨G, 4, none⟩ = some (.slice (some ⟨g4, 0, none⟩) m4 cap4) ∧
   (W.setCell ⟨g4, q, none⟩ (.string t)).cell? ⟨G8, 0, none⟩ = some (.int .i64 e.k) ∧ (W.setCell ⟨g4, q, none⟩ (.string t)).cell? ⟨G8, 1, none⟩ = some (.int .i64 e.n) ∧ (W.setCell ⟨g4, q, none⟩ (.string t)).cell? ⟨G8, 2, none⟩ = some (.string e.s) ∧
   (W.setCell ⟨g4, q, none⟩ (.string t)).cell? ⟨G8, 3, none⟩ = some (.slice e.a e.l e.p) ∧ (W.setCell ⟨g4, q, none⟩ (.string t)).cell? ⟨G8, 4, none⟩ = some (.slice e.a2 e.l2 e.p2)) ∧
  StC (W.setCell ⟨g4, q, none⟩ (.string t)) g q z
theorem St.pre17 (h : St w G k n s P (.slice (some ⟨g, 0, none⟩) m cap) (.slice (some ⟨g4, 0, none⟩) m4 cap4) W L D NS) {q : Nat} (hq : q < L.length) (hn : q < NS.length) {G8 : Nat} {e : E5} (hb : Box W G8 e.cs.toArray) (h8 : G8 ≠ g4) (t : ByteArray) :
    ∃ z : Nat → Value, Pre17 W G G8 g g4 q m cap m4 cap4 e t z := by
  obtain ⟨z, hz⟩ := stc_of (h.cells q t) (q := q) (by have := h.2.1; omega)
  have hs := strs_cell h.2.2.2.1 q (by have := strs_len h.2.2.2.1; omega)
  have hf := fun j => strs_free h.2.2.2.1 j
  obtain ⟨_, _, _, _, _, _, _, _, _, _, _, _, _, _, _, hg⟩ := own_cells5 h.1 (i := q) (by have := h.2.1; omega)
  obtain ⟨a1, a2⟩ := h.apart
  have y1 : W.cell? ⟨G, 3, none⟩ = some (.slice (some ⟨g, 0, none⟩) m cap) := h.2.2.2.2.2.2.1.cell 3
  have y2 : W.cell? ⟨G, 4, none⟩ = some (.slice (some ⟨g4, 0, none⟩) m4 cap4) := h.2.2.2.2.2.2.1.cell 4
  have d0 : W.cell? ⟨G8, 0, none⟩ = some (.int .i64 e.k) := hb.cell 0
  have d1 : W.cell? ⟨G8, 1, none⟩ = some (.int .i64 e.n) := hb.cell 1
  have d2 : W.cell? ⟨G8, 2, none⟩ = some (.string e.s) := hb.cell 2
  have d3 : W.cell? ⟨G8, 3, none⟩ = some (.slice e.a e.l e.p) := hb.cell 3
  have d4 : W.cell? ⟨G8, 4, none⟩ = some (.slice e.a2 e.l2 e.p2) := hb.cell 4
  exact ⟨fun j => if j = 5 then .string (NS.getD q ⟨#[]⟩) else z j, ⟨y1, y2, d0, d1, d2, d3, d4⟩, hs, hf, hg, ⟨far a1 y1, far a1 y2, far h8 d0, far h8 d1, far h8 d2, far h8 d3, far h8 d4⟩, hz⟩
/-- The rows' addresses, where there is an item. -/
theorem st_rows {a3 a4 : Option Addr} {p3 p4 ll nl : Nat} (h : St w G k n s P (.slice a3 ll p3) (.slice a4 nl p4) W L D NS) (hl : 0 < L.length) (hn : 0 < NS.length) : ∃ g g4 : Nat, a3 = some ⟨g, 0, none⟩ ∧ a4 = some ⟨g4, 0, none⟩ := by
  obtain ⟨h1, h2, _, h4, _⟩ := h
  obtain ⟨g4, p4', e4⟩ := strs_shape h4 hn
  injection e4 with e41 _ _
  obtain ⟨ax, px, ex, ho⟩ := h1.open_
  injection ex with ex1 _ _
  obtain ⟨g, eg, _⟩ := ho 0 (by omega)
  exact ⟨g, g4, ex1.trans eg, e41⟩
end
/-- B is A, but with the elements from j up to m, m left out, one place on. -/
def Shf {α : Type} (d : α) (A B : List α) (j m : Nat) : Prop := B.length = A.length ∧ ∀ x, x < A.length → B.getD x d = if j < x ∧ x ≤ m then A.getD (x - 1) d else A.getD x d
theorem Shf.start {α : Type} (d : α) (A : List α) (m : Nat) : Shf d A A m m := ⟨rfl, fun x _ => by rw [if_neg (by omega)]⟩
theorem Shf.step {α : Type} {d : α} {A B : List α} {j m : Nat} (h : Shf d A B j m) (h0 : 0 < j) (hj : j ≤ m) (hm : m < A.length) : Shf d A (B.set j (B.getD (j - 1) d)) (j - 1) m := by
  obtain ⟨h1, h2⟩ := h
  refine ⟨by rw [List.length_set, h1], fun x hx => ?_⟩
  rw [getD_set _ _ _ _ _ (by omega)]
  by_cases e : x = j
  · rw [if_pos e, if_pos (by omega), h2 _ (by omega), if_neg (by omega), e]
  · rw [if_neg e, h2 x hx]
    by_cases e2 : j < x ∧ x ≤ m
    · rw [if_pos e2, if_pos (by omega)]
    · rw [if_neg e2, if_neg (by omega)]
theorem Shf.end_ {α : Type} {d : α} {Q : List Nat} {f : Nat → α} {B : List α} {i m : Nat} (h : Shf d (Q.map f) B i m) (hi : i ≤ m) (hm : m < Q.length) :
    B.set i ((Q.map f).getD m d) = (Q.take i ++ (Q.drop i)[m - i]'(by rw [List.length_drop]; omega) :: (Q.drop i).eraseIdx (m - i)).map f := by
  obtain ⟨h1, h2⟩ := h
  rw [List.length_map] at h1 h2
  have hg : ∀ y, (hy : y < Q.length) → (Q.map f).getD y d = f Q[y] := fun y hy => by
    rw [List.getD_eq_getElem?_getD, List.getElem?_map, List.getElem?_eq_getElem hy]; rfl
  have hd : m - i < (Q.drop i).length := by rw [List.length_drop]; omega
  refine List.ext_getElem ?_ fun x hx hx2 => ?_
  · simp only [List.length_set, List.length_map, List.length_append, List.length_cons, List.length_take, List.length_eraseIdx_of_lt hd, List.length_drop]
    omega
  · rw [List.length_set, h1] at hx
    have hb := h2 x hx
    rw [List.getD_eq_getElem?_getD, List.getElem?_eq_getElem (by omega)] at hb
    simp only [Option.getD_some] at hb
    rw [List.getElem_set, hb, hg m hm, List.getElem_map, List.getElem_append]
    by_cases e : i = x
    · subst e
      rw [if_pos rfl, dif_neg (by rw [List.length_take]; omega)]
      simp only [List.length_take, List.getElem_drop, Nat.min_eq_left (show i ≤ Q.length by omega), Nat.sub_self, List.getElem_cons_zero]
      congr 1
      congr 1
      omega
    · rw [if_neg e]
      by_cases e2 : x < i
      · rw [if_neg (by omega), dif_pos (by rw [List.length_take]; omega), hg x hx, List.getElem_take]
      · rw [dif_neg (by rw [List.length_take]; omega)]
        simp only [List.length_take, Nat.min_eq_left (show i ≤ Q.length by omega)]
        rw [List.getElem_cons, dif_neg (by omega), List.getElem_eraseIdx]
        by_cases e3 : i < x ∧ x ≤ m
        · rw [if_pos e3, dif_pos (by omega), hg (x - 1) (by omega), List.getElem_drop]
          congr 1
          congr 1
          omega
        · rw [if_neg e3, dif_neg (by omega), hg x hx, List.getElem_drop]
          congr 1
          congr 1
          omega
theorem key_at (Q : List Nat) (ns : List ByteArray) (j : Nat) (h : j < Q.length) : nm (Q.map (nm ns)) j = nm ns Q[j] := by
  unfold nm
  rw [List.getD_eq_getElem?_getD, List.getElem?_map, List.getElem?_eq_getElem h]; rfl
theorem sel_next {ns : List ByteArray} {Q : List Nat} {i m : Nat} (hs : Sel (nm ns) ns.length Q i) (h1 : i ≤ m) (hmQ : m < Q.length) (hQ : Q.length = ns.length)
    (hm3 : (∀ j, i ≤ j → j < ns.length → ltB (nm (Q.map (nm ns)) j) (nm (Q.map (nm ns)) m) = false) ∧ ∀ j, i ≤ j → j < m → ltB (nm (Q.map (nm ns)) m) (nm (Q.map (nm ns)) j) = true) :
    Sel (nm ns) ns.length (Q.take i ++ (Q.drop i)[m - i]'(by rw [List.length_drop]; omega) :: (Q.drop i).eraseIdx (m - i)) (i + 1) := by
  have hmd : m - i < (Q.drop i).length := by rw [List.length_drop]; omega
  refine hs.step hmd (fun q hq => ?_) fun q hq => ?_
  · rw [List.length_drop] at hq
    have := hm3.1 (i + q) (by omega) (by omega)
    rw [key_at Q ns (i + q) (by omega), key_at Q ns m hmQ] at this
    rw [List.getElem_drop, List.getElem_drop]
    simp only [show i + (m - i) = m by omega]
    exact this
  · have := hm3.2 (i + q) (by omega) (by omega)
    rw [key_at Q ns (i + q) (by omega), key_at Q ns m hmQ] at this
    rw [List.getElem_drop, List.getElem_drop]
    simp only [show i + (m - i) = m by omega]
    exact this
/-! ### the second loop's round -/
theorem round_pre {w : World} {G : Nat} {k n : Int} {s : ByteArray} {P : Array Value} {a3 a4 : Option Addr} {p3 p4 ll i : Nat} {W : World} {f : Nat → Vt} {Q : List Nat} {D : List (List Value)} {ns : List ByteArray}
    (hst : St w G k n s P (.slice a3 ll p3) (.slice a4 ns.length p4) W (Q.map f) D (Q.map (nm ns))) (hsel : Sel (nm ns) ns.length Q i) (hlt : i < ns.length) (hN : ns.length * 16 ≤ 140737488351232) :
    ∃ g g4 m : Nat, a3 = some ⟨g, 0, none⟩ ∧ a4 = some ⟨g4, 0, none⟩ ∧ i ≤ m ∧ m < ns.length ∧ W.cell? ⟨G, 4, none⟩ = some (.slice (some ⟨g4, 0, none⟩) ns.length p4) ∧
      Hid (Calls Tryd.prog 32 #[.slice (some ⟨g4, 0, none⟩) ns.length p4, .int .i64 (i : Int)] W fun e w' => e = .returned (.int .i64 (m : Int)) ∧ Below W.heap.size W w') ∧
      Hid (Q.length = ns.length ∧ (∀ j, i ≤ j → j < ns.length → ltB (nm (Q.map (nm ns)) j) (nm (Q.map (nm ns)) m) = false) ∧ ∀ j, i ≤ j → j < m → ltB (nm (Q.map (nm ns)) m) (nm (Q.map (nm ns)) j) = true) := by
  have hQ : Q.length = ns.length := by rw [hsel.1.length_eq, List.length_range]
  obtain ⟨g, g4, rfl, rfl⟩ := st_rows hst (by rw [List.length_map]; omega) (by rw [List.length_map]; omega)
  have hml := lst_least (nm (Q.map (nm ns))) (a := i) (n := ns.length) hlt
  have hc := rleast (Q.map (nm ns)) (.slice (some ⟨g4, 0, none⟩) ns.length p4) i W hst.2.2.2.1.row (by rw [List.length_map]; omega) (by rw [List.length_map]; omega)
  rw [List.length_map, hQ] at hc
  exact ⟨g, g4, _, rfl, rfl, hml.1, hml.2.1, hst.2.2.2.2.2.2.1.cell 4, Lib.hid hc, Lib.hid ⟨hQ, hml.2.2⟩⟩
/-- The state of the shift: item X lies in variable G8; A, B: items and names as they stood. -/
def S3 (w : World) (G : Nat) (k n : Int) (s : ByteArray) (P : Array Value) (g g4 ll p3 nl p4 G8 : Nat) (e : E5) (X : Vt) (A : List Vt) (B : List ByteArray) (m : Nat) (W : World) (j : Nat) (L : List Vt) (NS : List ByteArray) (D : List (List Value)) : Prop :=
  St w G k n s P (.slice (some ⟨g, 0, none⟩) ll p3) (.slice (some ⟨g4, 0, none⟩) nl p4) W L D NS ∧ Box W G8 e.cs.toArray ∧ InS (Sx (w.heap.size + 2) G (.slice (some ⟨g, 0, none⟩) ll p3) (.slice (some ⟨g4, 0, none⟩) nl p4)) W X e.cs ∧ Shf V0 A L j m ∧ Shf ⟨#[]⟩ B NS j m ∧ g < G8 ∧ g4 < G8 ∧ A.length = ll ∧ B.length = nl
section
variable {w : World} {G : Nat} {k n : Int} {s : ByteArray} {P : Array Value} {g g4 ll p3 nl p4 G8 : Nat} {e : E5} {X : Vt} {A : List Vt} {B : List ByteArray} {m : Nat} {W : World} {j : Nat} {L : List Vt} {NS : List ByteArray} {D : List (List Value)}
theorem S3.start (h : St w G k n s P (.slice (some ⟨g, 0, none⟩) ll p3) (.slice (some ⟨g4, 0, none⟩) nl p4) W L D NS) (hi : InS (Sx (w.heap.size + 2) G (.slice (some ⟨g, 0, none⟩) ll p3) (.slice (some ⟨g4, 0, none⟩) nl p4)) W X e.cs) (hl : L.length = ll) (hn : NS.length = nl) (m : Nat) :
    S3 w G k n s P g g4 ll p3 nl p4 W.heap.size e X L NS m (W.alloc (.cells e.cs.toArray 25 (0, 0))).drew m L NS D := by
  have hb : Below W.heap.size W (W.alloc (.cells e.cs.toArray 25 (0, 0))).drew := ((Below.refl _ W).alloc (Nat.le_refl _) _).drew
  exact ⟨h.next hb, box_new W _, InS_upd (fun b hb' hl => ⟨hb.block b hl, hb'⟩) _ _ hi, Shf.start _ _ _, Shf.start _ _ _, own_lt h.1.2, own_lt h.2.2.2.1, hl, hn⟩
theorem S3.next {W2 : World} (h : S3 w G k n s P g g4 ll p3 nl p4 G8 e X A B m W j L NS D) (hb : Below W.heap.size W W2) : S3 w G k n s P g g4 ll p3 nl p4 G8 e X A B m W2 j L NS D := by
  obtain ⟨h1, h2, h3, h4⟩ := h
  exact ⟨h1.next hb, h2.next hb h2.lt, InS_upd (fun b hb' hl => ⟨hb.block b hl, hb'⟩) _ _ h3, h4⟩
theorem S3.pre16 (h : S3 w G k n s P g g4 ll p3 nl p4 G8 e X A B m W (j + 1) L NS D) (h1 : j + 1 < ll) (h2 : j + 1 < nl) :
    ∃ (e2 : E5) (z : Nat → Value), Hid (InS (Sx (w.heap.size + 2) G (.slice (some ⟨g, 0, none⟩) ll p3) (.slice (some ⟨g4, 0, none⟩) nl p4)) W (L.getD j V0) e2.cs) ∧ Pre16 W G g g4 j ll p3 nl p4 e2 (NS.getD j ⟨#[]⟩) z :=
  h.1.pre16 (by rw [h.2.2.2.1.1, h.2.2.2.2.2.2.2.1]; exact h1) (by rw [h.2.2.2.2.1.1, h.2.2.2.2.2.2.2.2]; exact h2)
theorem S3.step (h : S3 w G k n s P g g4 ll p3 nl p4 G8 e X A B m W (j + 1) L NS D) (h1 : j + 1 < ll) (hj : j + 1 ≤ m) (hm : m < ll) (hm2 : m < nl) {e2 : E5} (hi : InS (Sx (w.heap.size + 2) G (.slice (some ⟨g, 0, none⟩) ll p3) (.slice (some ⟨g4, 0, none⟩) nl p4)) W (L.getD j V0) e2.cs) :
    S3 w G k n s P g g4 ll p3 nl p4 G8 e X A B m ((W.setCell ⟨g4, j + 1, none⟩ (.string (NS.getD j ⟨#[]⟩))).setCells g ((j + 1) * 5) e2.cs) j (L.set (j + 1) (L.getD j V0)) (NS.set (j + 1) (NS.getD j ⟨#[]⟩)) (D.set (j + 1) e2.cs) := by
  obtain ⟨k1, k2, k3, k4, k5, k6, k7, k8, k9⟩ := h
  exact ⟨k1.shift (by rw [k4.1, k8]; exact h1) hi _, shift_box k2 (by omega) (by omega) _ _ _, shift_in k3 _ _ _, k4.step (Nat.succ_pos j) hj (by rw [k8]; exact hm), k5.step (Nat.succ_pos j) hj (by rw [k9]; exact hm2), k6, k7, k8, k9⟩
theorem S3.pre17 (h : S3 w G k n s P g g4 ll p3 nl p4 G8 e X A B m W j L NS D) (h1 : j < ll) (h2 : j < nl) (t : ByteArray) : ∃ z : Nat → Value, Pre17 W G G8 g g4 j ll p3 nl p4 e t z :=
  h.1.pre17 (by rw [h.2.2.2.1.1, h.2.2.2.2.2.2.2.1]; exact h1) (by rw [h.2.2.2.2.1.1, h.2.2.2.2.2.2.2.2]; exact h2) h.2.1 (by have := h.2.2.2.2.2.2.1; omega) t
end
theorem S3.done {w : World} {G : Nat} {k n : Int} {s : ByteArray} {P : Array Value} {g g4 ll p3 p4 G8 : Nat} {e : E5} {m : Nat} {W : World} {j : Nat} {L : List Vt} {NS : List ByteArray} {D : List (List Value)} {f : Nat → Vt} {Q : List Nat} {ns : List ByteArray}
    (h : S3 w G k n s P g g4 ll p3 ns.length p4 G8 e ((Q.map f).getD m V0) (Q.map f) (Q.map (nm ns)) m W j L NS D) (hs : Sel (nm ns) ns.length Q j) (h1 : j ≤ m) (hm : m < ns.length)
    (hq : Q.length = ns.length ∧ (∀ i, j ≤ i → i < ns.length → ltB (nm (Q.map (nm ns)) i) (nm (Q.map (nm ns)) m) = false) ∧ ∀ i, j ≤ i → i < m → ltB (nm (Q.map (nm ns)) m) (nm (Q.map (nm ns)) i) = true) :
    ∃ (Q' : List Nat) (D' : List (List Value)), St w G k n s P (.slice (some ⟨g, 0, none⟩) ll p3) (.slice (some ⟨g4, 0, none⟩) ns.length p4) ((W.setCell ⟨g4, j, none⟩ (.string ((Q.map (nm ns)).getD m ⟨#[]⟩))).setCells g (j * 5) e.cs) (Q'.map f) D' (Q'.map (nm ns)) ∧ Hid (Sel (nm ns) ns.length Q' (j + 1)) := by
  obtain ⟨k1, k2, k3, k4, k5, k6, k7, k8, k9⟩ := h
  have hmQ : m < Q.length := by rw [hq.1]; exact hm
  have hS := k1.shift (i := j) (by rw [k4.1, List.length_map]; omega) k3 ((Q.map (nm ns)).getD m ⟨#[]⟩)
  rw [Shf.end_ k4 h1 hmQ, Shf.end_ k5 h1 hmQ] at hS
  exact ⟨_, _, hS, Lib.hid (sel_next hs h1 hmQ hq.1 hq.2)⟩
end Go.Proofs.YtafelidejkppkaaDoor.Tre
