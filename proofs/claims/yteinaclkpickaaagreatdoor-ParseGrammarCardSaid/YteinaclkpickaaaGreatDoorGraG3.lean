/- The contract of the document's Level. Conditions: as each theorem states. · The laws' own examples; the laws of brackets. Conditions: the two tables of unicode/utf8 are as its text lays them, strconv.ErrSyntax holds an error; as each theorem states. -/
import Derived.Test.YteinaclkpickaaaGreatDoorGraG2
import Derived.Deep.RegionHeld3
import Derived.Laws.CopyOwn
import Derived.Test.YteinaclkpickaaaGreatDoorGraG1
import Derived.Test.YteinaclkpickaaaGreatDoorGraG0
namespace Go.Proofs.YteinaclkpickaaaGreatDoor.Gr
open Go.RowKit Go.Lib Go.Proofs.YteinaclkpickaaaGreatDoor.Byt Go.Proofs.YteinaclkpickaaaGreatDoor.Lx

/-- Right so far: all pieces shorter than z, and of those of z bytes the first i. -/
def Dn (z i p q : Nat) : Prop := p ≤ q ∧ (q < p + z ∨ q = p + z ∧ p < i)
/-- The tables as they lie from block H on. -/
def plc (H n : Nat) : Pl := ⟨n, H, H + (n + 2), H + 2 * (n + 2), fun p => H + 1 + p, fun p => H + (n + 2) + 1 + p, fun p => H + 2 * (n + 2) + 1 + p⟩

section
variable {W W' : World} {n g : Nat} {r : Nat → Nat} {k : Kd} {l : List UInt8} {D D' : Nat → Nat → Prop}
theorem Gd.weak (h : Gd W n g r k l D) (hd : ∀ p q, p ≤ n → q ≤ n → D' p q → D p q) : Gd W n g r k l D' :=
  ⟨h.row, fun p q hp hq => by
    obtain ⟨z, h1, h2⟩ := h.int p q hp hq
    exact ⟨z, h1, fun h3 => h2 (hd p q hp hq h3)⟩⟩
theorem cell_far {W : World} {c j : Nat} {u : Value} {a : Nat} (b : Nat) (h : c ≠ a) : (W.setCell ⟨c, j, none⟩ u).cell? ⟨a, b, none⟩ = W.cell? ⟨a, b, none⟩ :=
  World.cell?_setCell_far W ⟨c, j, none⟩ ⟨a, b, none⟩ u h
theorem Gd.aside (h : Gd W n g r k l D) {c : Nat} (hg : c ≠ g) (hr : ∀ p, p ≤ n → c ≠ r p) (j : Nat) (u : Value) : Gd (W.setCell ⟨c, j, none⟩ u) n g r k l D :=
  ⟨fun p hp => by rw [cell_far p hg]; exact h.row p hp, fun p q hp hq => by rw [cell_far q (hr p hp)]; exact h.int p q hp hq⟩
theorem Gd.put (h : Gd W n g r k l D) (hinj : ∀ p q, p ≤ n → q ≤ n → r p = r q → p = q) (hg : ∀ p, p ≤ n → r p ≠ g) (i j : Nat) (hi : i ≤ n) (hj : j ≤ n) :
    Gd (W.setCell ⟨r i, j, none⟩ (.int .i64 (gd k (pc l i j)))) n g r k l (fun p q => D p q ∨ p = i ∧ q = j) := by
  refine ⟨fun p hp => by rw [cell_far p (hg i hi)]; exact h.row p hp, fun p q hp hq => ?_⟩
  by_cases hpi : p = i
  · subst hpi
    by_cases hqj : q = j
    · subst hqj
      obtain ⟨z, h1, _⟩ := h.int p q hp hq
      exact ⟨_, World.cell?_setCell_same W _ _ h1, fun _ => rfl⟩
    · have hne : (⟨r p, j, none⟩ : Addr) ≠ ⟨r p, q, none⟩ := fun e => hqj (by injection e with _ e2; exact e2.symm)
      rw [World.cell?_setCell_other W _ _ _ hne]
      obtain ⟨z, h1, h2⟩ := h.int p q hp hq
      exact ⟨z, h1, fun h3 => h2 (by rcases h3 with h3 | h3; exact h3; exact absurd h3.2 hqj)⟩
  · rw [cell_far q (fun e => hpi (hinj p i hp hi e.symm))]
    obtain ⟨z, h1, h2⟩ := h.int p q hp hq
    exact ⟨z, h1, fun h3 => h2 (by rcases h3 with h3 | h3; exact h3; exact absurd h3.1 hpi)⟩
end
/-- All that holds while the tables are filled. -/
structure Lv (w : World) (H b n : Nat) (s : ByteArray) (Dv Di Dm : Nat → Nat → Prop) (W : World) : Prop where
  tx : Tx w b s (plc H n) Dv Di Dm W
  fr : ∀ c, H ≤ c → c < b → ∀ q, W.frozen? ⟨c, q, none⟩ = false
  hb : b = H + 3 * (n + 2)
  hH : w.heap.size ≤ H
section
variable {w W W' : World} {H b n : Nat} {s : ByteArray} {Dv Di Dm Dv' Di' Dm' : Nat → Nat → Prop}
theorem Lv.next (h : Lv w H b n s Dv Di Dm W) (hb : Below W.heap.size W W') : Lv w H b n s Dv Di Dm W' :=
  ⟨h.tx.next hb, fun c h1 h2 q => by
    have hlt := h.tx.bx.lt
    rw [World.frozen?_of_block (a := ⟨c, q, none⟩) (hb.block c (by omega))]
    exact h.fr c h1 h2 q, h.hb, h.hH⟩
theorem Lv.drew (h : Lv w H b n s Dv Di Dm W) : Lv w H b n s Dv Di Dm W.drew := h.next (Below.refl _ _).drew
theorem Lv.weak (h : Lv w H b n s Dv Di Dm W) (h1 : ∀ p q, p ≤ n → q ≤ n → Dv' p q → Dv p q) (h2 : ∀ p q, p ≤ n → q ≤ n → Di' p q → Di p q) (h3 : ∀ p q, p ≤ n → q ≤ n → Dm' p q → Dm p q) : Lv w H b n s Dv' Di' Dm' W :=
  ⟨⟨⟨h.tx.tb.v.weak h1, h.tx.tb.i.weak h2, h.tx.tb.m.weak h3, h.tx.tb.z, h.tx.tb.z2⟩, h.tx.bx, h.tx.bel⟩, h.fr, h.hb, h.hH⟩
theorem Bx.aside {P : Pl} (h : Bx W b s P) {c : Nat} (hc : c ≠ b) (j : Nat) (u : Value) : Bx (W.setCell ⟨c, j, none⟩ u) b s P := by
  unfold Bx at h ⊢
  rw [Go.heap_setCell_other W ⟨c, j, none⟩ b u (fun e => hc e.symm)]
  exact h
theorem Lv.putV (h : Lv w H b n s Dv Di Dm W) (i j : Nat) (hi : i ≤ n) (hj : j ≤ n) : Lv w H b n s (fun p q => Dv p q ∨ p = i ∧ q = j) Di Dm (W.setCell ⟨H + 1 + i, j, none⟩ (.int .i64 (gd .val (ps s i j)))) := by
  have hb := h.hb
  refine ⟨⟨⟨h.tx.tb.v.put (r := fun p => H + 1 + p) (fun p q _ _ e => by have e : H + 1 + p = H + 1 + q := e; omega) (fun p _ => by show H + 1 + p ≠ H; omega) i j hi hj, h.tx.tb.i.aside (by show H + 1 + i ≠ H + (n + 2); omega) (fun p _ => by show H + 1 + i ≠ H + (n + 2) + 1 + p; omega) _ _, h.tx.tb.m.aside (by show H + 1 + i ≠ H + 2 * (n + 2); omega) (fun p _ => by show H + 1 + i ≠ H + 2 * (n + 2) + 1 + p; omega) _ _, h.tx.tb.z, h.tx.tb.z2⟩, h.tx.bx.aside (by omega) _ _, ?_⟩, fun c h1 h2 q => by rw [World.frozen?_setCell]; exact h.fr c h1 h2 q, hb, h.hH⟩
  exact h.tx.bel.setCell (p := ⟨H + 1 + i, j, none⟩) (by have := h.hH; show _ ≤ H + 1 + i; omega) _
theorem Lv.putI (h : Lv w H b n s Dv Di Dm W) (i j : Nat) (hi : i ≤ n) (hj : j ≤ n) : Lv w H b n s Dv (fun p q => Di p q ∨ p = i ∧ q = j) Dm (W.setCell ⟨H + (n + 2) + 1 + i, j, none⟩ (.int .i64 (gd (.elms false) (ps s i j)))) := by
  have hb := h.hb
  refine ⟨⟨⟨h.tx.tb.v.aside (by show H + (n + 2) + 1 + i ≠ H; omega) (fun p hp => by replace hp : p ≤ n := hp; show H + (n + 2) + 1 + i ≠ H + 1 + p; omega) _ _, h.tx.tb.i.put (r := fun p => H + (n + 2) + 1 + p) (fun p q _ _ e => by have e : H + (n + 2) + 1 + p = H + (n + 2) + 1 + q := e; omega) (fun p _ => by show H + (n + 2) + 1 + p ≠ H + (n + 2); omega) i j hi hj, h.tx.tb.m.aside (by show H + (n + 2) + 1 + i ≠ H + 2 * (n + 2); omega) (fun p _ => by show H + (n + 2) + 1 + i ≠ H + 2 * (n + 2) + 1 + p; omega) _ _, h.tx.tb.z, h.tx.tb.z2⟩, h.tx.bx.aside (by omega) _ _, ?_⟩, fun c h1 h2 q => by rw [World.frozen?_setCell]; exact h.fr c h1 h2 q, hb, h.hH⟩
  exact h.tx.bel.setCell (p := ⟨H + (n + 2) + 1 + i, j, none⟩) (by have := h.hH; show _ ≤ H + (n + 2) + 1 + i; omega) _
theorem Lv.putM (h : Lv w H b n s Dv Di Dm W) (i j : Nat) (hi : i ≤ n) (hj : j ≤ n) : Lv w H b n s Dv Di (fun p q => Dm p q ∨ p = i ∧ q = j) (W.setCell ⟨H + 2 * (n + 2) + 1 + i, j, none⟩ (.int .i64 (gd (.elms true) (ps s i j)))) := by
  have hb := h.hb
  refine ⟨⟨⟨h.tx.tb.v.aside (by show H + 2 * (n + 2) + 1 + i ≠ H; omega) (fun p hp => by replace hp : p ≤ n := hp; show H + 2 * (n + 2) + 1 + i ≠ H + 1 + p; omega) _ _, h.tx.tb.i.aside (by show H + 2 * (n + 2) + 1 + i ≠ H + (n + 2); omega) (fun p hp => by replace hp : p ≤ n := hp; show H + 2 * (n + 2) + 1 + i ≠ H + (n + 2) + 1 + p; omega) _ _, h.tx.tb.m.put (r := fun p => H + 2 * (n + 2) + 1 + p) (fun p q _ _ e => by have e : H + 2 * (n + 2) + 1 + p = H + 2 * (n + 2) + 1 + q := e; omega) (fun p _ => by show H + 2 * (n + 2) + 1 + p ≠ H + 2 * (n + 2); omega) i j hi hj, h.tx.tb.z, h.tx.tb.z2⟩, h.tx.bx.aside (by omega) _ _, ?_⟩, fun c h1 h2 q => by rw [World.frozen?_setCell]; exact h.fr c h1 h2 q, hb, h.hH⟩
  exact h.tx.bel.setCell (p := ⟨H + 2 * (n + 2) + 1 + i, j, none⟩) (by have := h.hH; show _ ≤ H + 2 * (n + 2) + 1 + i; omega) _
end
/-- A table that was just made. -/
theorem Gd.fresh {w W : World} {n g : Nat} {r : Nat → Nat} {k : Kd} {l : List UInt8} (hg : g = w.heap.size) (hr : ∀ p, p ≤ n → r p = w.heap.size + 1 + p) (h : Nn w W n (n + 1)) : Gd W n g r k l (Dn 1 0) := by
  subst hg
  refine ⟨fun p hp => ?_, fun p q hp hq => ⟨-1, ?_, fun hd => ?_⟩⟩
  · have := h.row.cell hp
    rw [if_pos (by omega)] at this
    rw [hr p hp]; exact this
  · rw [hr p hp]
    exact (h.int p (by omega)).cell hq
  · obtain ⟨h1, h2⟩ := hd
    rw [pc_nil (by omega), gd_nil]
theorem Nn.frees {w W W' : World} {n : Nat} (h : Nn w W n (n + 1)) (hb : Below W.heap.size W W') (c : Nat) (h1 : w.heap.size ≤ c) (h2 : c < w.heap.size + (n + 2)) (q : Nat) : W'.frozen? ⟨c, q, none⟩ = false := by
  have hz := h.z
  rw [World.frozen?_of_block (a := ⟨c, q, none⟩) (hb.block c (by omega))]
  by_cases e : c = w.heap.size
  · subst e; exact h.row.free q
  · have := (h.int (c - (w.heap.size + 1)) (by omega)).free q
    rw [show w.heap.size + 1 + (c - (w.heap.size + 1)) = c by omega] at this
    exact this
/-- The three tables and the struct, made. -/
theorem Lv.made {w w1 w2 w3 w4 : World} {s : ByteArray} (n : Nat) (hn : s.size = n) (hn2 : n ≤ 1000) (h1 : Nn w w1 n (n + 1)) (h2 : Nn w1 w2 n (n + 1)) (h3 : Nn w2 w3 n (n + 1)) (hb : Below w3.heap.size w3 w4) (hx : Bx w4 w3.heap.size s (plc w.heap.size n)) :
    Lv w w.heap.size w3.heap.size n s (Dn 1 0) (Dn 1 0) (Dn 1 0) w4 := by
  have z1 := h1.z
  have z2 := h2.z
  have z3 := h3.z
  have b2 : Below w1.heap.size w1 w2 := h2.bel
  have b3 : Below w2.heap.size w2 w3 := h3.bel
  have b24 : Below w2.heap.size w2 w4 := b3.trans (hb.mono b3.size)
  have b14 : Below w1.heap.size w1 w4 := b2.trans (b24.mono b2.size)
  refine ⟨⟨⟨(Gd.fresh rfl (fun p _ => rfl) h1).next b14, (Gd.fresh (g := w.heap.size + (n + 2)) (r := fun p => w.heap.size + (n + 2) + 1 + p) (by omega) (fun p _ => (by omega : w.heap.size + (n + 2) + 1 + p = w1.heap.size + 1 + p)) h2).next b24, (Gd.fresh (g := w.heap.size + 2 * (n + 2)) (r := fun p => w.heap.size + 2 * (n + 2) + 1 + p) (by omega) (fun p _ => (by omega : w.heap.size + 2 * (n + 2) + 1 + p = w2.heap.size + 1 + p)) h3).next hb, hn, hn2⟩, hx, h1.bel.trans (b14.mono h1.bel.size)⟩, fun c k1 k2 q => ?_, by omega, Nat.le_refl _⟩
  by_cases e1 : c < w.heap.size + (n + 2)
  · exact h1.frees b14 c k1 e1 q
  · by_cases e2 : c < w1.heap.size + (n + 2)
    · exact h2.frees b24 c (by omega) e2 q
    · exact h3.frees hb c (by omega) (by omega) q
/-- What the walk asks of the tables. -/
theorem Lv.c0 {w W : World} {H b n : Nat} {s : ByteArray} {Dv Di Dm : Nat → Nat → Prop} (h : Lv w H b n s Dv Di Dm W) : W.cell? ⟨b, 0, none⟩ = some (.string s) := h.tx.f0
theorem Lv.c1 {w W : World} {H b n : Nat} {s : ByteArray} {Dv Di Dm : Nat → Nat → Prop} (h : Lv w H b n s Dv Di Dm W) : W.cell? ⟨b, 1, none⟩ = some (.slice (some ⟨H, 0, none⟩) (n + 1) (n + 1)) := h.tx.f1
theorem Lv.c2 {w W : World} {H b n : Nat} {s : ByteArray} {Dv Di Dm : Nat → Nat → Prop} (h : Lv w H b n s Dv Di Dm W) : W.cell? ⟨b, 2, none⟩ = some (.slice (some ⟨H + (n + 2), 0, none⟩) (n + 1) (n + 1)) := h.tx.f2
theorem Lv.c3 {w W : World} {H b n : Nat} {s : ByteArray} {Dv Di Dm : Nat → Nat → Prop} (h : Lv w H b n s Dv Di Dm W) : W.cell? ⟨b, 3, none⟩ = some (.slice (some ⟨H + 2 * (n + 2), 0, none⟩) (n + 1) (n + 1)) := h.tx.f3
theorem Lv.rV {w W : World} {H b n : Nat} {s : ByteArray} {Dv Di Dm : Nat → Nat → Prop} (h : Lv w H b n s Dv Di Dm W) {i : Nat} (hi : i ≤ n) : W.cell? ⟨H, i, none⟩ = some (.slice (some ⟨H + 1 + i, 0, none⟩) (n + 1) (n + 1)) := h.tx.tb.v.row i hi
theorem Lv.rI {w W : World} {H b n : Nat} {s : ByteArray} {Dv Di Dm : Nat → Nat → Prop} (h : Lv w H b n s Dv Di Dm W) {i : Nat} (hi : i ≤ n) : W.cell? ⟨H + (n + 2), i, none⟩ = some (.slice (some ⟨H + (n + 2) + 1 + i, 0, none⟩) (n + 1) (n + 1)) := h.tx.tb.i.row i hi
theorem Lv.rM {w W : World} {H b n : Nat} {s : ByteArray} {Dv Di Dm : Nat → Nat → Prop} (h : Lv w H b n s Dv Di Dm W) {i : Nat} (hi : i ≤ n) : W.cell? ⟨H + 2 * (n + 2), i, none⟩ = some (.slice (some ⟨H + 2 * (n + 2) + 1 + i, 0, none⟩) (n + 1) (n + 1)) := h.tx.tb.m.row i hi
theorem Lv.tV {w W : World} {H b n : Nat} {s : ByteArray} {Dv Di Dm : Nat → Nat → Prop} (h : Lv w H b n s Dv Di Dm W) {i j : Nat} (hi : i ≤ n) (hj : j ≤ n) : (∃ u, W.cell? ⟨H + 1 + i, j, none⟩ = some u) ∧ W.frozen? ⟨H + 1 + i, j, none⟩ = false := by
  obtain ⟨z, h1, _⟩ := h.tx.tb.v.int i j hi hj
  exact ⟨⟨_, h1⟩, h.fr _ (by omega) (by have := h.hb; omega) j⟩
theorem Lv.tI {w W : World} {H b n : Nat} {s : ByteArray} {Dv Di Dm : Nat → Nat → Prop} (h : Lv w H b n s Dv Di Dm W) {i j : Nat} (hi : i ≤ n) (hj : j ≤ n) : (∃ u, W.cell? ⟨H + (n + 2) + 1 + i, j, none⟩ = some u) ∧ W.frozen? ⟨H + (n + 2) + 1 + i, j, none⟩ = false := by
  obtain ⟨z, h1, _⟩ := h.tx.tb.i.int i j hi hj
  exact ⟨⟨_, h1⟩, h.fr _ (by omega) (by have := h.hb; omega) j⟩
theorem Lv.tM {w W : World} {H b n : Nat} {s : ByteArray} {Dv Di Dm : Nat → Nat → Prop} (h : Lv w H b n s Dv Di Dm W) {i j : Nat} (hi : i ≤ n) (hj : j ≤ n) : (∃ u, W.cell? ⟨H + 2 * (n + 2) + 1 + i, j, none⟩ = some u) ∧ W.frozen? ⟨H + 2 * (n + 2) + 1 + i, j, none⟩ = false := by
  obtain ⟨z, h1, _⟩ := h.tx.tb.m.int i j hi hj
  exact ⟨⟨_, h1⟩, h.fr _ (by omega) (by have := h.hb; omega) j⟩
section
variable {ops : Array Oper} {rest : List Oper} {o : Oper} {a : Act} {Q : Exit → Act → World → Prop}
theorem wpList_keepT (W : World) (hgd : o.guard = none) (x y : Operand) (ho : o.op = .store 50 x y) (B : Nat) (w0 : World) (hb : Below B w0 W) (g : Nat) (hB : B ≤ g) (s : ByteArray) (P : Pl) (old : Array Value)
    (hx : a.eval x = .pointer (some ⟨g, 0, none⟩)) (hy : a.eval y = .agg #[.string s, .slice (some ⟨P.gv, 0, none⟩) (P.n + 1) (P.n + 1), .slice (some ⟨P.gi, 0, none⟩) (P.n + 1) (P.n + 1), .slice (some ⟨P.gm, 0, none⟩) (P.n + 1) (P.n + 1)]) (hk : W.heap[g]? = some (.cells old 50 (0, 0))) (ho4 : old.size = 4)
    (h : ∀ w', Bx w' g s P → Below B w0 w' → wpList Tryz.prog ops Q rest (a.put o.dst undef) w') : wpList Tryz.prog ops Q (o :: rest) a W := by
  refine wpList_store_row hgd _ x y ho g _ hx hy _ old hk infoT ho4 (by simp [Value.oneCell']) ?_
  exact h _ (setRow_heap W g old _ _ _ hk) (below_setRow hb hB _)
end
theorem rnone_at (n : Nat) (W : World) (hn : n ≤ 1000) (H : Nat) (h : W.heap.size = H) :
    Calls Tryz.prog 18 #[.int .i64 (n : Int)] W fun e w' => e = .returned (.slice (some ⟨H, 0, none⟩) (n + 1) (n + 1)) ∧ Nn W w' n (n + 1) := by
  subst h
  exact rnone_any n W hn
set_option maxHeartbeats 4000000 in
set_option maxRecDepth 100000 in
theorem rlevel_any (s : ByteArray) (n : Nat) (w : World) (hn : s.size = n) (hn2 : n ≤ 1000) :
    Calls Tryz.prog 9 #[.string s] w fun e w' => e = .returned (.int .i64 (lvl s.data.toList)) ∧ Below w.heap.size w w' := by
  obtain ⟨H, hH⟩ : ∃ H, w.heap.size = H := ⟨_, rfl⟩
  have HH := Lib.hid hH
  have hlv : lvl s.data.toList = gd (.elm false) (ps s 0 n) := by rw [lvl_gd]; unfold ps; rw [← hn, ← ps_size s, pc_whole]
  generalize lvl s.data.toList = Z at *
  have HL := Lib.hid hlv
  clear hlv
  have HM := Lib.hid (fun w1 w2 w3 w4 h1 h2 h3 hb hx => Lv.made (w := w) (w1 := w1) (w2 := w2) (w3 := w3) (w4 := w4) n hn hn2 h1 h2 h3 hb hx)
  have hsn : (s.size : Int) = (n : Int) := by omega
  clear hH
  go_enter Tryz.func9, Tryz.ntmps9
  go_wp2_with fail
  refine (rnone_at n _ hn2 H HH.out).mono ?_; rintro e w1 ⟨rfl, h1⟩
  have z1 : w1.heap.size = H + (n + 2) := by have := h1.z; have := HH.out; omega
  have Z1 := Lib.hid z1
  clear z1
  go_wp2_with fail
  refine (rnone_at n _ hn2 (H + (n + 2)) Z1.out).mono ?_; rintro e w2 ⟨rfl, h2⟩
  have z2 : w2.heap.size = H + 2 * (n + 2) := by have := h2.z; have := Z1.out; omega
  have Z2 := Lib.hid z2
  clear z2
  go_wp2_with fail
  refine (rnone_at n _ hn2 (H + 2 * (n + 2)) Z2.out).mono ?_; rintro e w3 ⟨rfl, h3⟩
  have z3 : w3.heap.size = H + 3 * (n + 2) := by have := h3.z; have := Z2.out; omega
  have Z3 := Lib.hid z3
  clear z3
  go_wp2_with (refine wpList_keepT _ rfl _ _ rfl w3.heap.size w3 ((Below.refl _ _).alloc (Nat.le_refl _) _) w3.heap.size (Nat.le_refl _) s (plc H n) _ rfl rfl (heap_alloc_new _ _) rfl ?_; intro w4 hx4 hb4)
  have hL := HM.out w1 w2 w3 w4 h1 h2 h3 hb4 (by rw [HH.out]; exact hx4)
  rw [HH.out] at hL
  clear h1 h2 h3 hb4 hx4
  generalize w3.heap.size = b at *
  have hcl := HH.out
  clear HM Z1 Z2 hcl
  go_loopw [5, 6] (fun x _ wr => ∃ z : Nat, x = .int .i64 (z : Int) ∧ 1 ≤ z ∧ z ≤ n + 1 ∧ Lv w H b n s (Dn z 0) (Dn z 0) (Dn z 0) wr) (fun x _ _ => n + 1 - (RowKit.intOf x).toNat)
  case atStart => exact ⟨1, rfl, Nat.le_refl _, by omega, hL⟩
  case round =>
    clear hL
    obtain ⟨z, rfl, hz1, hzn, hL⟩ := hrel
    by_cases hz : z ≤ n
    · have hwz : IntKind.i64.wrap ((n : Int) - (z : Int)) = (n : Int) - (z : Int) := by rw [IntKind.wrap_i64]; omega
      have hzz : (z : Int) ≤ (n : Int) := by omega
      go_wp2_with fail
      go_loopw [6] (fun y ws => ∃ i : Nat, y = .int .i64 (i : Int) ∧ i + z ≤ n + 1 ∧ Lv w H b n s (Dn z i) (Dn z i) (Dn z i) ws) (fun y _ => n + 1 - (RowKit.intOf y).toNat)
      case atStart => exact ⟨0, rfl, by omega, hL⟩
      case round =>
        clear hL
        obtain ⟨i, rfl, hiz, hL⟩ := hrel
        by_cases hi : i + z ≤ n
        ·
          obtain ⟨j, hj⟩ : ∃ j, j = i + z := ⟨_, rfl⟩
          have hin : i ≤ n := by omega
          have hjn : j ≤ n := by omega
          have hwj : IntKind.i64.wrap ((i : Int) + (z : Int)) = (j : Int) := by rw [IntKind.wrap_i64]; omega
          have hle : (i : Int) ≤ (n : Int) - (z : Int) := by omega
          have k1 : (0 : Int) ≤ (i : Int) := by omega
          have k2 : (i : Int) < (n : Int) + 1 := by omega
          have k3 : (0 : Int) ≤ (j : Int) := by omega
          have k4 : (j : Int) < (n : Int) + 1 := by omega
          have HJ := Lib.hid hj
          have HV9 : Hid (∀ W, Lv w H b n s (Dn z i) (Dn z i) (Dn z i) W → Calls Tryz.prog 19 #[(.agg #[.string s, .slice (some ⟨H, 0, none⟩) (n + 1) (n + 1), .slice (some ⟨H + (n + 2), 0, none⟩) (n + 1) (n + 1), .slice (some ⟨H + 2 * (n + 2), 0, none⟩) (n + 1) (n + 1)]), .int .i64 (i : Int), .int .i64 (j : Int)] W fun e w' => e = .returned (.int .i64 (gd .val (ps s i j))) ∧ Lv w H b n s (Dn z i) (Dn z i) (Dn z i) w') :=
            Lib.hid fun W h => (rvalue_any s (plc H n) _ _ _ i j (i : Int) (j : Int) rfl rfl W h.tx.tb (by omega) hjn (fun _ => by unfold Dn; omega) (fun _ => by unfold Dn; omega)).mono fun _ _ k => ⟨k.1, h.next k.2⟩
          have HP9 : Hid (∀ W, Lv w H b n s (Dn z i) (Dn z i) (Dn z i) W → Lv w H b n s (Dn z (i + 1)) (Dn z i) (Dn z i) (W.setCell ⟨H + 1 + i, j, none⟩ (.int .i64 (gd .val (ps s i j))))) := Lib.hid fun W h => (h.putV i j hin hjn).weak (fun p q _ _ h => by unfold Dn at h ⊢; omega) (fun _ _ _ _ h => h) (fun _ _ _ _ h => h)
          have HK9 : Hid (∀ W, Lv w H b n s (Dn z i) (Dn z i) (Dn z i) W → Lv w H b n s (Dn z i) (Dn z i) (Dn z i) (W.setCell ⟨H + 1 + i, j, none⟩ (.int .i64 (gd .val (ps s i j))))) := Lib.hid fun W h => (h.putV i j hin hjn).weak (fun _ _ _ _ h => .inl h) (fun _ _ _ _ h => h) (fun _ _ _ _ h => h)
          have HT9 : Hid (∀ W, Lv w H b n s (Dn z i) (Dn z i) (Dn z i) W → (∃ u, W.cell? ⟨H + 1 + i, j, none⟩ = some u) ∧ W.frozen? ⟨H + 1 + i, j, none⟩ = false) := Lib.hid fun W h => h.tV hin hjn
          have HV10 : Hid (∀ W, Lv w H b n s (Dn z (i + 1)) (Dn z i) (Dn z i) W → Calls Tryz.prog 20 #[(.agg #[.string s, .slice (some ⟨H, 0, none⟩) (n + 1) (n + 1), .slice (some ⟨H + (n + 2), 0, none⟩) (n + 1) (n + 1), .slice (some ⟨H + 2 * (n + 2), 0, none⟩) (n + 1) (n + 1)]), .int .i64 (i : Int), .int .i64 (j : Int)] W fun e w' => e = .returned (.int .i64 (gd (.elms false) (ps s i j))) ∧ Lv w H b n s (Dn z (i + 1)) (Dn z i) (Dn z i) w') :=
            Lib.hid fun W h => (ritems_any s (plc H n) _ _ _ i j (i : Int) (j : Int) rfl rfl W h.tx.tb (by omega) hjn (fun p q h1 h2 h3 => by unfold Dn; omega) (fun k h1 h2 => by unfold Dn; omega)).mono fun _ _ k => ⟨k.1, h.next k.2⟩
          have HP10 : Hid (∀ W, Lv w H b n s (Dn z (i + 1)) (Dn z i) (Dn z i) W → Lv w H b n s (Dn z (i + 1)) (Dn z (i + 1)) (Dn z i) (W.setCell ⟨H + (n + 2) + 1 + i, j, none⟩ (.int .i64 (gd (.elms false) (ps s i j))))) := Lib.hid fun W h => (h.putI i j hin hjn).weak (fun _ _ _ _ h => h) (fun p q _ _ h => by unfold Dn at h ⊢; omega) (fun _ _ _ _ h => h)
          have HK10 : Hid (∀ W, Lv w H b n s (Dn z (i + 1)) (Dn z i) (Dn z i) W → Lv w H b n s (Dn z (i + 1)) (Dn z i) (Dn z i) (W.setCell ⟨H + (n + 2) + 1 + i, j, none⟩ (.int .i64 (gd (.elms false) (ps s i j))))) := Lib.hid fun W h => (h.putI i j hin hjn).weak (fun _ _ _ _ h => h) (fun _ _ _ _ h => .inl h) (fun _ _ _ _ h => h)
          have HT10 : Hid (∀ W, Lv w H b n s (Dn z (i + 1)) (Dn z i) (Dn z i) W → (∃ u, W.cell? ⟨H + (n + 2) + 1 + i, j, none⟩ = some u) ∧ W.frozen? ⟨H + (n + 2) + 1 + i, j, none⟩ = false) := Lib.hid fun W h => h.tI hin hjn
          have HV11 : Hid (∀ W, Lv w H b n s (Dn z (i + 1)) (Dn z (i + 1)) (Dn z i) W → Calls Tryz.prog 21 #[(.agg #[.string s, .slice (some ⟨H, 0, none⟩) (n + 1) (n + 1), .slice (some ⟨H + (n + 2), 0, none⟩) (n + 1) (n + 1), .slice (some ⟨H + 2 * (n + 2), 0, none⟩) (n + 1) (n + 1)]), .int .i64 (i : Int), .int .i64 (j : Int)] W fun e w' => e = .returned (.int .i64 (gd (.elms true) (ps s i j))) ∧ Lv w H b n s (Dn z (i + 1)) (Dn z (i + 1)) (Dn z i) w') :=
            Lib.hid fun W h => (rmembers_any s (plc H n) _ _ _ i j (i : Int) (j : Int) rfl rfl W h.tx.tb (by omega) hjn (fun p q h1 h2 h3 => by unfold Dn; omega) (fun k h1 h2 => by unfold Dn; omega)).mono fun _ _ k => ⟨k.1, h.next k.2⟩
          have HP11 : Hid (∀ W, Lv w H b n s (Dn z (i + 1)) (Dn z (i + 1)) (Dn z i) W → Lv w H b n s (Dn z (i + 1)) (Dn z (i + 1)) (Dn z (i + 1)) (W.setCell ⟨H + 2 * (n + 2) + 1 + i, j, none⟩ (.int .i64 (gd (.elms true) (ps s i j))))) := Lib.hid fun W h => (h.putM i j hin hjn).weak (fun _ _ _ _ h => h) (fun _ _ _ _ h => h) (fun p q _ _ h => by unfold Dn at h ⊢; omega)
          have HK11 : Hid (∀ W, Lv w H b n s (Dn z (i + 1)) (Dn z (i + 1)) (Dn z i) W → Lv w H b n s (Dn z (i + 1)) (Dn z (i + 1)) (Dn z i) (W.setCell ⟨H + 2 * (n + 2) + 1 + i, j, none⟩ (.int .i64 (gd (.elms true) (ps s i j))))) := Lib.hid fun W h => (h.putM i j hin hjn).weak (fun _ _ _ _ h => h) (fun _ _ _ _ h => h) (fun _ _ _ _ h => .inl h)
          have HT11 : Hid (∀ W, Lv w H b n s (Dn z (i + 1)) (Dn z (i + 1)) (Dn z i) W → (∃ u, W.cell? ⟨H + 2 * (n + 2) + 1 + i, j, none⟩ = some u) ∧ W.frozen? ⟨H + 2 * (n + 2) + 1 + i, j, none⟩ = false) := Lib.hid fun W h => h.tM hin hjn
          generalize gd .val (ps s i j) = Z9 at *
          generalize gd (.elms false) (ps s i j) = Z10 at *
          generalize gd (.elms true) (ps s i j) = Z11 at *
          clear hj
          go_wp2_with fail
          have q0 : ∀ W, Lv w H b n s (Dn z i) (Dn z i) (Dn z i) W → W.cell? ⟨b, 0, none⟩ = some (.string s) := fun W h => h.c0
          have q1 : ∀ W, Lv w H b n s (Dn z i) (Dn z i) (Dn z i) W → W.cell? ⟨b, 1, none⟩ = some (.slice (some ⟨H, 0, none⟩) (n + 1) (n + 1)) := fun W h => h.c1
          have q2 : ∀ W, Lv w H b n s (Dn z i) (Dn z i) (Dn z i) W → W.cell? ⟨b, 2, none⟩ = some (.slice (some ⟨H + (n + 2), 0, none⟩) (n + 1) (n + 1)) := fun W h => h.c2
          have q3 : ∀ W, Lv w H b n s (Dn z i) (Dn z i) (Dn z i) W → W.cell? ⟨b, 3, none⟩ = some (.slice (some ⟨H + 2 * (n + 2), 0, none⟩) (n + 1) (n + 1)) := fun W h => h.c3
          have q4 : ∀ W, Lv w H b n s (Dn z i) (Dn z i) (Dn z i) W → W.cell? ⟨H, i, none⟩ = some (.slice (some ⟨H + 1 + i, 0, none⟩) (n + 1) (n + 1)) := fun W h => h.rV hin
          have hd9 := hL.drew
          go_region_held3 (Lv w H b n s (Dn z i) (Dn z i) (Dn z i)) (first | exact hd9 | assumption | exact HK9.out _ (by assumption))
            ((go_at_call 19; (with_reducible refine (HV9.out _ (by assumption)).mono ?_); rintro e wx9 ⟨rfl, hx9⟩; obtain ⟨⟨u9, hu9⟩, hf9⟩ := HT9.out _ hx9))
          all_goals
            have hn9 := HP9.out _ hx9
            clear q0 q1 q2 q3 q4 hd9 HV9 HP9 HK9 HT9 hx9 hu9 hf9
            generalize wx9.setCell ⟨H + 1 + i, j, none⟩ (.int .i64 Z9) = v9 at *
            go_wp2_with fail
            have q0 : ∀ W, Lv w H b n s (Dn z (i + 1)) (Dn z i) (Dn z i) W → W.cell? ⟨b, 0, none⟩ = some (.string s) := fun W h => h.c0
            have q1 : ∀ W, Lv w H b n s (Dn z (i + 1)) (Dn z i) (Dn z i) W → W.cell? ⟨b, 1, none⟩ = some (.slice (some ⟨H, 0, none⟩) (n + 1) (n + 1)) := fun W h => h.c1
            have q2 : ∀ W, Lv w H b n s (Dn z (i + 1)) (Dn z i) (Dn z i) W → W.cell? ⟨b, 2, none⟩ = some (.slice (some ⟨H + (n + 2), 0, none⟩) (n + 1) (n + 1)) := fun W h => h.c2
            have q3 : ∀ W, Lv w H b n s (Dn z (i + 1)) (Dn z i) (Dn z i) W → W.cell? ⟨b, 3, none⟩ = some (.slice (some ⟨H + 2 * (n + 2), 0, none⟩) (n + 1) (n + 1)) := fun W h => h.c3
            have q4 : ∀ W, Lv w H b n s (Dn z (i + 1)) (Dn z i) (Dn z i) W → W.cell? ⟨H + (n + 2), i, none⟩ = some (.slice (some ⟨H + (n + 2) + 1 + i, 0, none⟩) (n + 1) (n + 1)) := fun W h => h.rI hin
            have hd10 := hn9.drew
            go_region_held3 (Lv w H b n s (Dn z (i + 1)) (Dn z i) (Dn z i)) (first | exact hd10 | assumption | exact HK10.out _ (by assumption))
              ((go_at_call 20; (with_reducible refine (HV10.out _ (by assumption)).mono ?_); rintro e wx10 ⟨rfl, hx10⟩; obtain ⟨⟨u10, hu10⟩, hf10⟩ := HT10.out _ hx10))
            all_goals
              have hn10 := HP10.out _ hx10
              clear q0 q1 q2 q3 q4 hd10 HV10 HP10 HK10 HT10 hx10 hu10 hf10
              generalize wx10.setCell ⟨H + (n + 2) + 1 + i, j, none⟩ (.int .i64 Z10) = v10 at *
              go_wp2_with fail
              have q0 : ∀ W, Lv w H b n s (Dn z (i + 1)) (Dn z (i + 1)) (Dn z i) W → W.cell? ⟨b, 0, none⟩ = some (.string s) := fun W h => h.c0
              have q1 : ∀ W, Lv w H b n s (Dn z (i + 1)) (Dn z (i + 1)) (Dn z i) W → W.cell? ⟨b, 1, none⟩ = some (.slice (some ⟨H, 0, none⟩) (n + 1) (n + 1)) := fun W h => h.c1
              have q2 : ∀ W, Lv w H b n s (Dn z (i + 1)) (Dn z (i + 1)) (Dn z i) W → W.cell? ⟨b, 2, none⟩ = some (.slice (some ⟨H + (n + 2), 0, none⟩) (n + 1) (n + 1)) := fun W h => h.c2
              have q3 : ∀ W, Lv w H b n s (Dn z (i + 1)) (Dn z (i + 1)) (Dn z i) W → W.cell? ⟨b, 3, none⟩ = some (.slice (some ⟨H + 2 * (n + 2), 0, none⟩) (n + 1) (n + 1)) := fun W h => h.c3
              have q4 : ∀ W, Lv w H b n s (Dn z (i + 1)) (Dn z (i + 1)) (Dn z i) W → W.cell? ⟨H + 2 * (n + 2), i, none⟩ = some (.slice (some ⟨H + 2 * (n + 2) + 1 + i, 0, none⟩) (n + 1) (n + 1)) := fun W h => h.rM hin
              have hd11 := hn10.drew
              go_region_held3 (Lv w H b n s (Dn z (i + 1)) (Dn z (i + 1)) (Dn z i)) (first | exact hd11 | assumption | exact HK11.out _ (by assumption))
                ((go_at_call 21; (with_reducible refine (HV11.out _ (by assumption)).mono ?_); rintro e wx11 ⟨rfl, hx11⟩; obtain ⟨⟨u11, hu11⟩, hf11⟩ := HT11.out _ hx11))
              all_goals
                have hn11 := HP11.out _ hx11
                clear q0 q1 q2 q3 q4 hd11 HV11 HP11 HK11 HT11 hx11 hu11 hf11
                generalize wx11.setCell ⟨H + 2 * (n + 2) + 1 + i, j, none⟩ (.int .i64 Z11) = v11 at *
                go_wp2_with fail
                go_roundw
                case rel => exact ⟨i + 1, by go_num, by omega, hn11⟩
                case measure => simp [RowKit.intOf]; omega

        · have hlt : ¬ ((i : Int) ≤ (n : Int) - (z : Int)) := by omega
          have dlt : decide ((i : Int) ≤ (n : Int) - (z : Int)) = false := decide_eq_false hlt
          clear hlt
          have hwz1 : IntKind.i64.wrap ((z : Int) + 1) = (z : Int) + 1 := by rw [IntKind.wrap_i64]; omega
          have hL2 : Lv w H b n s (Dn (z + 1) 0) (Dn (z + 1) 0) (Dn (z + 1) 0) wr := by
            have hd : ∀ p q, p ≤ n → q ≤ n → Dn (z + 1) 0 p q → Dn z i p q := fun p q hp hq h => by
              unfold Dn at h ⊢
              omega
            exact hL.weak hd hd hd
          go_wp2_with fail
          go_roundw
          case rel => exact ⟨z + 1, by go_num, by omega, by omega, hL2⟩
          case measure => simp [RowKit.intOf]; omega
    · obtain rfl : z = n + 1 := by omega
      have HI : Hid (Calls Tryz.prog 22 #[(.agg #[.string s, .slice (some ⟨H, 0, none⟩) (n + 1) (n + 1), .slice (some ⟨H + (n + 2), 0, none⟩) (n + 1) (n + 1), .slice (some ⟨H + 2 * (n + 2), 0, none⟩) (n + 1) (n + 1)]), .int .i64 0, .int .i64 (n : Int)] wr fun e w' => e = .returned (.int .i64 (gd (.elm false) (ps s 0 n))) ∧ Below w.heap.size w w') :=
        Lib.hid ((ritem_any s (plc H n) _ _ _ 0 n 0 (n : Int) rfl rfl wr hL.tx.tb (Nat.zero_le _) (Nat.le_refl _) (fun p q h1 h2 h3 => by unfold Dn; omega)).mono fun _ _ k => ⟨k.1, hL.tx.bel.trans (k.2.mono hL.tx.bel.size)⟩)
      have c0 := hL.c0
      have c1 := hL.c1
      have c2 := hL.c2
      have c3 := hL.c3
      have dlt : decide (((n + 1 : Nat) : Int) ≤ (n : Int)) = false := decide_eq_false (by omega)
      rw [← HL.out] at HI
      clear hL
      go_wp2_with (go_at_call 22; (with_reducible refine HI.out.mono ?_); rintro e wx ⟨rfl, hx⟩)
      go_ret
      exact ⟨rfl, hx⟩
end Go.Proofs.YteinaclkpickaaaGreatDoor.Gr

namespace Go.Proofs.YteinaclkpickaaaGreatDoor.Gr
open Go.RowKit Go.Lib Go.Proofs.YteinaclkpickaaaGreatDoor.Byt Go.Proofs.YteinaclkpickaaaGreatDoor.Lx

/-- The level of a string. -/
def lev (s : ByteArray) : Int := lvl s.data.toList
theorem next {a b c : World} (h : Below a.heap.size a b) (k : Below b.heap.size b c) : Below a.heap.size a c := h.trans (k.mono h.size)
/-! ### the examples -/
/-! ### told over one world -/
structure In (w0 W : World) : Prop where
  env : Env W
  bel : Below w0.heap.size w0 W
theorem In.next {w0 W W' : World} (h : In w0 W) (hb : Below W.heap.size W W') : In w0 W' := ⟨h.env.next hb, Gr.next h.bel hb⟩
theorem app_list (a b : ByteArray) : (a ++ b).data.toList = a.data.toList ++ b.data.toList := by
  rw [ByteArray.data_append, Array.toList_append]

/-! ### GrammarWraps -/
theorem bl_six (m : Nat) : Bl (cutB ⟨#[32, 32, 9, 10, 13, 32]⟩ 0 m).data.toList := by
  intro c hc
  have h1 : c ∈ [32, 32, 9, 10, 13, 32].take m := hc
  have h2 := List.mem_of_mem_take h1
  simp only [List.mem_cons, List.not_mem_nil, or_false] at h2
  rcases h2 with rfl | rfl | rfl | rfl | rfl | rfl <;> rfl
theorem lev_cases (s : ByteArray) : lev s = -1 ∨ ∃ d : Nat, lev s = (d : Int) ∧ G (.elm false) s.data.toList d := by
  rcases lvl_cases s.data.toList with ⟨h, _⟩ | h
  · exact .inl h
  · exact .inr h
theorem lev_wrap {B : ByteArray} (hB : Bl B.data.toList) (s : ByteArray) : lev (B ++ s ++ B) = lev s := by
  unfold lev
  rw [app_list, app_list, List.append_assoc]
  exact lvl_around hB hB _
theorem isB_none : isB (-1) = false := rfl
theorem isB_some (d : Nat) : isB (d : Int) = decide ((d : Int) ≤ 64) := by unfold isB; rw [decide_eq_true (by omega : (0 : Int) ≤ (d : Int)), Bool.true_and]
/-! ### GrammarDeep -/
def nst (s : ByteArray) : Nat → ByteArray
  | 0 => s
  | i + 1 => ⟨#[91]⟩ ++ nst s i ++ ⟨#[93]⟩
theorem nst_size (s : ByteArray) : ∀ i, (nst s i).size = s.size + 2 * i
  | 0 => rfl
  | i + 1 => by
    have y1 : (⟨#[91]⟩ : ByteArray).size = 1 := rfl
    have y2 : (⟨#[93]⟩ : ByteArray).size = 1 := rfl
    rw [nst, ByteArray.size_append, ByteArray.size_append, nst_size s i]
    omega
theorem nst_G {s : ByteArray} {d : Nat} (h : G (.elm false) s.data.toList d) : ∀ i, G (.elm false) (nst s i).data.toList (i + d)
  | 0 => by rw [Nat.zero_add]; exact h
  | i + 1 => by
    have := item_in (nst_G h i)
    rw [nst, app_list, app_list, show i + 1 + d = i + d + 1 by omega]
    exact this
end Go.Proofs.YteinaclkpickaaaGreatDoor.Gr
