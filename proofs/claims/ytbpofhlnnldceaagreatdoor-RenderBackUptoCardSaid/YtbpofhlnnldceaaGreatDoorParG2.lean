/- Rows of values and of names while they are put together. Conditions: as each theorem states. · The contract of takeList. Conditions: as each theorem states. · The contract of takeName. Conditions: as each theorem states. · The contract of takeObject: what it needs beside takeList's. Conditions: as each theorem states. -/
import Derived.Test.YtbpofhlnnldceaaGreatDoorTreG2
import Derived.Test.YtbpofhlnnldceaaGreatDoorTreG1
import Derived.Test.YtbpofhlnnldceaaGreatDoorLexG1
import Derived.Test.YtbpofhlnnldceaaGreatDoorParG1
import Derived.Deep.RegionLaw
import Derived.RegionDies
namespace Go.Proofs.YtbpofhlnnldceaaGreatDoor.Par
open Go.RowKit Go.Lib Go.Proofs.YtbpofhlnnldceaaGreatDoor.Byt
open Go.Proofs.YtbpofhlnnldceaaGreatDoor.Tre (Vt V0 InS InS_upd RowS_own OwnR made Lie)

section
variable {W W' W2 W4 : World} {N : Nat} {c3 c4 v' : Value} {D : List (List Value)} {acc : List Vt} {ns : List ByteArray}
theorem row_in (h : OwnR W N c3 D) {b : Nat} (hb : c3.ownBlock = some b) : N ≤ b ∧ b < W.heap.size := by
  rcases h.shape with ⟨rfl, _⟩ | ⟨g, cap, rfl, h1, h2⟩
  · cases hb
  · have : g = b := Option.some.inj hb
    subst this
    exact ⟨h1, h2⟩
theorem str_in (h : Strs.Own W N c4 ns) {b : Nat} (hb : c4.ownBlock = some b) : N ≤ b ∧ b < W.heap.size := by
  obtain ⟨h1, c, hc⟩ := h.cells b hb
  refine ⟨h1, ?_⟩
  rcases Nat.lt_or_ge b W.heap.size with h' | h'
  · exact h'
  · simp [Array.getElem?_eq_none h'] at hc
theorem row_type (h : OwnR W N c3 D) {g : Nat} (hg : c3.ownBlock = some g) {T : TypeId} {cs : Array Value} (hc : W.heap[g]? = some (.cells cs T (0, 0))) : T = 25 := by
  rcases h.2.2 with ⟨e, _⟩ | ⟨g', cap, cur, e, _, hh, _⟩
  · rw [e] at hg; cases hg
  · rw [e] at hg
    have : g' = g := Option.some.inj hg
    subst this
    rw [hh] at hc
    injection hc with hc
    injection hc with _ hc _
    exact hc.symm
theorem str_type (h : Strs.Own W N c4 ns) {g : Nat} (hg : c4.ownBlock = some g) {T : TypeId} {cs : Array Value} (hc : W.heap[g]? = some (.cells cs T (0, 0))) : T = 9 := by
  obtain ⟨_, c, hk⟩ := h.cells g hg
  rw [hk] at hc
  injection hc with hc
  injection hc with _ hc _
  exact hc.symm
theorem str_keep (h : Strs.Own W N c4 ns) (k : ∀ b, c4.ownBlock = some b → W'.heap[b]? = W.heap[b]?) : Strs.Own W' N c4 ns := by
  refine ⟨h.1, ?_⟩
  rcases h.2 with hn | ⟨g, cap, cur, hv, hbg, hg, rest⟩
  · exact .inl hn
  · exact .inr ⟨g, cap, cur, hv, hbg, (k g (by rw [hv]; rfl)).trans hg, rest⟩
theorem getD_snoc {α : Type} (C : List α) (x d : α) (j : Nat) : (C ++ [x]).getD j d = if j < C.length then C.getD j d else if j = C.length then x else d := by
  rw [List.getD_eq_getElem?_getD, List.getD_eq_getElem?_getD]
  by_cases h : j < C.length
  · rw [if_pos h, List.getElem?_append_left h]
  · rw [if_neg h, List.getElem?_append_right (by omega)]
    by_cases h2 : j = C.length
    · subst h2; simp
    · rw [if_neg h2, List.getElem?_eq_none (by simp; omega)]; rfl
end
/-- Two rows of the call's own (from block N on): values, and names beside them. -/
structure Oj (N : Nat) (W : World) (c3 : Value) (D : List (List Value)) (acc : List Vt) (c4 : Value) (ns : List ByteArray) : Prop where
  r3 : OwnR W N c3 D
  len : D.length = acc.length
  it : ∀ j, j < acc.length → InS (fun k => N ≤ k ∧ c3.ownBlock ≠ some k ∧ c4.ownBlock ≠ some k) W (acc.getD j V0) (D.getD j [])
  r4 : Strs.Own W N c4 ns
section
variable {W W' W2 W4 : World} {N : Nat} {c3 c4 v' : Value} {D : List (List Value)} {acc : List Vt} {ns : List ByteArray}
theorem Oj.nil (N : Nat) (W : World) : Oj N W (.slice none 0 0) [] [] (.slice none 0 0) [] := ⟨OwnR.nil _ _, rfl, fun _ hj => absurd hj (Nat.not_lt_zero _), Strs.Own.nil _ _⟩
theorem Oj.apart (h : Oj N W c3 D acc c4 ns) {g : Nat} (hg : c3.ownBlock = some g) : c4.ownBlock ≠ some g := by
  intro q
  obtain ⟨_, c, hc⟩ := h.r4.cells g q
  exact absurd (row_type h.r3 hg hc) (by decide)
theorem Oj.keep (h : Oj N W c3 D acc c4 ns) (k : ∀ b, N ≤ b → b < W.heap.size → W'.heap[b]? = W.heap[b]?) : Oj N W' c3 D acc c4 ns :=
  ⟨h.r3.beside fun b hb => k b (row_in h.r3 hb).1 (row_in h.r3 hb).2, h.len, fun j hj => InS_upd (fun b hb hl => ⟨k b hb.1 hl, hb⟩) _ _ (h.it j hj), str_keep h.r4 fun b hb => k b (str_in h.r4 hb).1 (str_in h.r4 hb).2⟩
theorem Oj.pushV (h : Oj N W2 c3 D acc c4 ns) {M : Nat} {v : Vt} {es : List Value} {o : Obj} (hS : InS (fun k => M ≤ k) W2 v es) (hM : ∀ b, c3.ownBlock = some b ∨ c4.ownBlock = some b → b < M) (hNM : N ≤ M)
    (hv : OwnR W4 N v' (D ++ [es])) (hg : (W2.alloc o).grownBy W4 c3.ownBlock) (hk : ∀ b, v'.ownBlock = some b → c3.ownBlock = some b ∨ b = (W2.alloc o).heap.size) : Oj N W4 v' (D ++ [es]) (acc ++ [v]) c4 ns := by
  have hs3 : (W2.alloc o).heap.size = W2.heap.size + 1 := by simp
  have keep : ∀ b, b < W2.heap.size → c3.ownBlock ≠ some b → W4.heap[b]? = W2.heap[b]? := fun b hb hne => (hg.block b (by omega) (fun q => hne q.symm)).trans (Below.heap_alloc _ _ _ hb)
  have hnew : ∀ b, b < W2.heap.size → c3.ownBlock ≠ some b → v'.ownBlock ≠ some b := fun b hb hne q => by
    rcases hk b q with q | q
    · exact hne q
    · omega
  refine ⟨hv, by rw [List.length_append, List.length_append, h.len]; rfl, fun j hj => ?_, str_keep h.r4 fun b hb => keep b (str_in h.r4 hb).2 (fun q => h.apart q hb)⟩
  rw [getD_snoc, getD_snoc]
  by_cases hji : j < acc.length
  · rw [if_pos hji, if_pos (by rw [h.len]; exact hji)]
    exact InS_upd (fun b hb hl => ⟨keep b hl hb.2.1, hb.1, hnew b hl hb.2.1, hb.2.2⟩) _ _ (h.it j hji)
  · have hj2 : j = acc.length := by simp at hj; omega
    have hj3 : j = D.length := by rw [h.len]; exact hj2
    rw [if_neg hji, if_pos hj2, if_neg (by omega), if_pos hj3]
    have ne3 : ∀ b, M ≤ b → c3.ownBlock ≠ some b := fun b hb q => by have := hM b (.inl q); omega
    have ne4 : ∀ b, M ≤ b → c4.ownBlock ≠ some b := fun b hb q => by have := hM b (.inr q); omega
    exact InS_upd (fun b hb hl => ⟨keep b hl (ne3 b hb), by omega, hnew b hl (ne3 b hb), ne4 b hb⟩) _ _ hS
theorem Oj.pushN (h : Oj N W2 c3 D acc c4 ns) {x : ByteArray} {o : Obj} (hv : Strs.Own W4 N v' (ns ++ [x])) (hg : (W2.alloc o).grownBy W4 c4.ownBlock) (hk : ∀ b, v'.ownBlock = some b → c4.ownBlock = some b ∨ b = (W2.alloc o).heap.size) :
    Oj N W4 c3 D acc v' (ns ++ [x]) := by
  have hs3 : (W2.alloc o).heap.size = W2.heap.size + 1 := by simp
  have keep : ∀ b, b < W2.heap.size → c4.ownBlock ≠ some b → W4.heap[b]? = W2.heap[b]? := fun b hb hne => (hg.block b (by omega) (fun q => hne q.symm)).trans (Below.heap_alloc _ _ _ hb)
  have hnew : ∀ b, b < W2.heap.size → c4.ownBlock ≠ some b → v'.ownBlock ≠ some b := fun b hb hne q => by
    rcases hk b q with q | q
    · exact hne q
    · omega
  refine ⟨h.r3.beside fun b hb => keep b (row_in h.r3 hb).2 (h.apart hb), h.len, fun j hj => ?_, hv⟩
  exact InS_upd (fun b hb hl => ⟨keep b hl hb.2.2, hb.1, hb.2.1, hnew b hl hb.2.2⟩) _ _ (h.it j hj)
theorem Oj.made (h : Oj N W c3 D acc c4 ns) (k n : Int) (s : ByteArray) : InS (fun b => N ≤ b) W (.mk k n s acc ns) [.int .i64 k, .int .i64 n, .string s, c3, c4] :=
  Tre.made k n s h.r3 ⟨h.len, fun j hj => InS_upd (fun _ hb _ => ⟨rfl, hb.1⟩) _ _ (h.it j hj)⟩ (RowS_own h.r4 fun _ hb => hb) (fun _ hb => hb)
/-- The values' row's block holds no other type's cells. -/
theorem Oj.ne3 (h : Oj N W c3 D acc c4 ns) {g : Nat} {T : TypeId} {cs : Array Value} (hc : W.heap[g]? = some (.cells cs T (0, 0))) (hT : T ≠ 25) : c3.ownBlock ≠ some g := fun q => hT (row_type h.r3 q hc)
theorem Oj.ne4 (h : Oj N W c3 D acc c4 ns) {g : Nat} {T : TypeId} {cs : Array Value} (hc : W.heap[g]? = some (.cells cs T (0, 0))) (hT : T ≠ 9) : c4.ownBlock ≠ some g := fun q => hT (str_type h.r4 q hc)
theorem Oj.c3_lt (h : Oj N W c3 D acc c4 ns) {b : Nat} (hb : c3.ownBlock = some b) : N ≤ b ∧ b < W.heap.size := row_in h.r3 hb
theorem Oj.c4_lt (h : Oj N W c3 D acc c4 ns) {b : Nat} (hb : c4.ownBlock = some b) : N ≤ b ∧ b < W.heap.size := str_in h.r4 hb
end
end Go.Proofs.YtbpofhlnnldceaaGreatDoor.Par

namespace Go.Proofs.YtbpofhlnnldceaaGreatDoor.Par
open Go.RowKit Go.Lib Go.Proofs.YtbpofhlnnldceaaGreatDoor.Byt Go.Proofs.YtbpofhlnnldceaaGreatDoor.Lx
open Go.Proofs.YtbpofhlnnldceaaGreatDoor.Tre (Vt V0 InS InS_upd)

/-- What is handed back holds value v, in blocks of its own. -/
def VV (W : World) (W' : World) (v : Vt) (x : Value) : Prop := ∃ cs : List Value, x = .agg cs.toArray ∧ InS (fun k => W.heap.size ≤ k) W' v cs
theorem lst_fol (T : Nat → Rs Tk) (vf : Tk → Nat → Rs Vt) (g : Nat) (acc : List Vt) (t : Tk) (p : Nat) :
    lst T vf (g + 1) acc t p = bnd (vf t p) fun v p1 => bnd (fol T 4 p1) fun x p2 => if x.2 = true then lst T vf g (acc ++ [v]) x.1 p2 else .ok (acc ++ [v]) p2 := by
  rw [lst]
  congr 1
  funext v p1
  unfold fol
  cases T p1 with
  | no o e => rfl
  | ok t2 p2 =>
    show (if t2.k = 4 then _ else _) = bnd (if t2.k = 4 then _ else _) _
    by_cases h4 : t2.k = 4
    · rw [if_pos h4, if_pos h4]; rfl
    · rw [if_neg h4, if_neg h4]
      by_cases h6 : t2.k = 6
      · rw [if_pos h6, if_pos h6]
        cases T p2 with
        | no o e => rfl
        | ok t3 p3 => rfl
      · rw [if_neg h6, if_neg h6]; rfl
/-- What is left of a list, from the token at hand on. -/
def Lk (T : Nat → Rs Tk) (vf : Tk → Nat → Rs Vt) (g : Nat) (acc : List Vt) (t : Tk) (d : Bool) (p : Nat) : Rs Vt :=
  if d = true then bnd (lst T vf g acc t p) fun l q => .ok (.mk 4 0 ⟨#[]⟩ l []) q else .ok (.mk 4 0 ⟨#[]⟩ acc []) p
theorem lst0_fst (T : Nat → Rs Tk) (vf : Tk → Nat → Rs Vt) (f p : Nat) : lst0 T vf f p = bnd (fst T 4 p) fun x p1 => Lk T vf f [] x.1 x.2 p1 := by
  unfold lst0 fst
  cases T p with
  | no o e => rfl
  | ok t1 p1 =>
    show (if t1.k = 4 then _ else _) = Lk T vf f [] t1 (decide (t1.k ≠ 4)) p1
    unfold Lk
    by_cases h4 : t1.k = 4
    · rw [if_pos h4, if_neg (by simp [h4])]
    · rw [if_neg h4, if_pos (by simp [h4])]
theorem Lk_step (T : Nat → Rs Tk) (vf : Tk → Nat → Rs Vt) (g : Nat) (acc : List Vt) (t : Tk) (p : Nat) : Lk T vf (g + 1) acc t true p = bnd (vf t p) fun v p1 => bnd (fol T 4 p1) fun x p2 => Lk T vf g (acc ++ [v]) x.1 x.2 p2 := by
  unfold Lk
  rw [if_pos rfl, lst_fol]
  cases vf t p with
  | no o e => rfl
  | ok v p1 =>
    show bnd (bnd (fol T 4 p1) _) _ = bnd (fol T 4 p1) _
    cases fol T 4 p1 with
    | no o e => rfl
    | ok x p2 =>
      obtain ⟨t2, d2⟩ := x
      cases d2 <;> rfl
theorem fst_good {l : List UInt8} {p : Nat} (hp : p ≤ l.length) (en : Nat) : Gd l.length (fun x q => At l x.1 q ∧ p ≤ x.1.o) p (fst (nt l) en p) :=
  (nt_good l p hp).bnd fun _ _ _ h2 h3 => ⟨Nat.le_refl _, h2, h3⟩
theorem fol_good {l : List UInt8} {p : Nat} (hp : p ≤ l.length) (en : Nat) (hen : en ≠ 0) : Gd l.length (fun x q => At l x.1 q ∧ p < q ∧ (x.2 = true → p < x.1.o)) p (fol (nt l) en p) := by
  refine (nt_good l p hp).bnd fun t q h1 h2 h3 => ?_
  by_cases hk : t.k = en
  · rw [if_pos hk]
    have := h3.1.pos (by omega)
    exact ⟨Nat.le_refl _, h2, h3.1, by omega, fun q => by cases q⟩
  · rw [if_neg hk]
    by_cases h6 : t.k = 6
    · rw [if_pos h6]
      have := h3.1.pos (by omega)
      refine (nt_good l q h2).bnd fun t2 q2 r1 r2 r3 => ?_
      exact ⟨Nat.le_refl _, r2, r3.1, by omega, fun _ => by show p < t2.o; omega⟩
    · rw [if_neg h6]; exact refu_good h3.1 _

theorem val_cells {w : World} {v : Vt} {cs : List Value} (h : Tre.InV w v cs) : ∃ a cap c4, cs = [.int .i64 v.k, .int .i64 v.n, .string v.s, .slice a v.l.length cap, c4] := by
  obtain ⟨a, cap, c4, e, _⟩ := (Tre.InV_iff w v cs).1 h
  exact ⟨a, cap, c4, e⟩
theorem Only.undrew {b : Nat} {W W' : World} (h : Only b W.drew W') : Only b W W' := ⟨h.os, h.tape, h.output, h.size, h.block⟩
theorem Only.boxV {b g : Nat} {W W' : World} {cs : Array Value} (h : Only b W W') (bx : Tre.Box W g cs) (hne : g ≠ b) : Tre.Box W' g cs := (h.at_ bx.lt hne).trans bx
theorem Oj.keepO {N b : Nat} {W W' : World} {c3 c4 : Value} {D : List (List Value)} {acc : List Vt} {ns : List ByteArray} (h : Oj N W c3 D acc c4 ns) (k : Only b W W') (hb : b < N) : Oj N W' c3 D acc c4 ns :=
  h.keep fun j hj hl => k.at_ hl (by omega)
/-- A list's variables: its result's block H, its own block H + 1, the rows from H + 2 on. -/
structure Ls (w0 : World) (b : Nat) (s : ByteArray) (k : Int) (W : World) (H N : Nat) (c3 : Value) (D : List (List Value)) (acc : List Vt) (c4 : Value) (ns : List ByteArray) (p : Nat) (wr : World) : Prop where
  oj : Oj N wr c3 D acc c4 ns
  bz : Tre.Box wr H #[.int .i64 0, .int .i64 0, .string ⟨#[]⟩, .slice none 0 0, .slice none 0 0]
  bl : Tre.Box wr (H + 1) #[.int .i64 k, .int .i64 0, .string ⟨#[]⟩, c3, c4]
  pr : Pr w0 b s p wr
  on : Only b W wr
  hH : H = W.heap.size
  hb : b < H
  hN : H + 2 ≤ N
  hz : N ≤ wr.heap.size

theorem Ls.next {w0 W wr w2 : World} {b p H N : Nat} {s : ByteArray} {k : Int} {c3 c4 : Value} {D : List (List Value)} {acc : List Vt} {ns : List ByteArray} (h : Ls w0 b s k W H N c3 D acc c4 ns p wr) (hb : Below wr.heap.size wr w2) : Ls w0 b s k W H N c3 D acc c4 ns p w2 :=
  ⟨h.oj.keep fun b _ hl => hb.block b hl, h.bz.next hb h.bz.lt, h.bl.next hb h.bl.lt, h.pr.next hb, h.on.next hb, h.hH, h.hb, h.hN, Nat.le_trans h.hz hb.size⟩
theorem Ls.nextO {w0 W wr w2 : World} {b p q H N : Nat} {s : ByteArray} {k : Int} {c3 c4 : Value} {D : List (List Value)} {acc : List Vt} {ns : List ByteArray} (h : Ls w0 b s k W H N c3 D acc c4 ns p wr) (ho : Only b wr w2) (hp : Pr w0 b s q w2) : Ls w0 b s k W H N c3 D acc c4 ns q w2 := by
  have hb := h.hb
  have hN := h.hN
  exact ⟨h.oj.keepO ho (by omega), ho.boxV h.bz (by omega), ho.boxV h.bl (by omega), hp, h.on.trans ho, h.hH, h.hb, hN, Nat.le_trans h.hz ho.size⟩
theorem Ls.start {w0 W w2 w1 : World} {b p q N : Nat} {s : ByteArray} {k : Int} (h : Pr w0 b s p W) (hN : W.heap.size + 2 ≤ N) (h1 : Tre.Box w2 W.heap.size #[.int .i64 0, .int .i64 0, .string ⟨#[]⟩, .slice none 0 0, .slice none 0 0])
    (h2 : Tre.Box w2 (W.heap.size + 1) #[.int .i64 k, .int .i64 0, .string ⟨#[]⟩, .slice none 0 0, .slice none 0 0]) (h3 : Below W.heap.size W w2) (h4 : N ≤ w2.heap.size) (hO : Only b w2 w1) (hP : Pr w0 b s q w1) : Ls w0 b s k W W.heap.size N (.slice none 0 0) [] [] (.slice none 0 0) [] q w1 := by
  have hbl := h.lt
  exact ⟨Oj.nil _ _, hO.boxV h1 (by omega), hO.boxV h2 (by omega), hP, (Only.of h3).trans hO, rfl, hbl, hN, Nat.le_trans h4 hO.size⟩
theorem two_new (W : World) (a c : Array Value) (T T' : TypeId) : ((W.alloc (.cells a T)).alloc (.cells c T')).heap[W.heap.size]? = some (.cells a T (0, 0)) ∧ ((W.alloc (.cells a T)).alloc (.cells c T')).heap[W.heap.size + 1]? = some (.cells c T' (0, 0)) ∧ ((W.alloc (.cells a T)).alloc (.cells c T')).heap.size = W.heap.size + 2 := by
  have hz : (W.alloc (.cells a T)).heap.size = W.heap.size + 1 := by simp
  refine ⟨(Below.heap_alloc _ _ _ (by omega)).trans (heap_alloc_new W _), ?_, by simp⟩
  have := heap_alloc_new (W.alloc (.cells a T)) (.cells c T')
  rw [hz] at this
  exact this

/-- Behind an append of a value that was read: what is known ahead of the store, and behind it. -/
theorem Ls.pushV {w0 W wr w3 w4 : World} {b p q H N M : Nat} {s : ByteArray} {k : Int} {c3 c4 v' : Value} {D : List (List Value)} {acc : List Vt} {ns : List ByteArray} {v : Vt} {es : List Value} {o : Obj} (h : Ls w0 b s k W H N c3 D acc c4 ns p wr) (hO2 : Only b wr w3)
    (hP : Pr w0 b s q w3) (hM : wr.heap.size ≤ M) (hI : InS (fun k => M ≤ k) w3 v es) (hv : Tre.OwnR w4 N v' (D ++ [es])) (hg : (w3.alloc o).grownBy w4 c3.ownBlock) (hk : ∀ b, v'.ownBlock = some b → c3.ownBlock = some b ∨ b = (w3.alloc o).heap.size) :
    Tre.Box w4 (H + 1) #[.int .i64 k, .int .i64 0, .string ⟨#[]⟩, c3, c4] ∧ Ls w0 b s k W H N v' (D ++ [es]) (acc ++ [v]) c4 ns q (w4.setCell ⟨H + 1, 3, none⟩ v') ∧
      (∀ g, g < w3.heap.size → g ≠ H + 1 → c3.ownBlock ≠ some g → (w4.setCell ⟨H + 1, 3, none⟩ v').heap[g]? = w3.heap[g]?) := by
  obtain ⟨oj, bz, bl, pr, on, hH, hb, hN, hz⟩ := h
  have hz3 := hO2.size
  have oj3 := oj.keepO hO2 (by omega)
  have hs3 : (w3.alloc o).heap.size = w3.heap.size + 1 := by simp
  have oj4 : Oj N w4 v' (D ++ [es]) (acc ++ [v]) c4 ns := oj3.pushV (M := M) hI (fun b hb => by
    rcases hb with hb | hb
    · have := (oj.c3_lt hb).2; omega
    · have := (oj.c4_lt hb).2; omega) (by omega) hv hg hk
  have low : ∀ j, j < w3.heap.size → c3.ownBlock ≠ some j → w4.heap[j]? = w3.heap[j]? := fun j hj hne => (hg.block j (by omega) (fun q => hne q.symm)).trans (Below.heap_alloc _ _ _ hj)
  have lowN : ∀ j, j < N → w4.heap[j]? = w3.heap[j]? := fun j hj => low j (by omega) (fun q => by have := (oj3.c3_lt q).1; omega)
  have bl4 : Tre.Box w4 (H + 1) #[.int .i64 k, .int .i64 0, .string ⟨#[]⟩, c3, c4] := (lowN _ (by omega)).trans (hO2.boxV bl (by omega))
  have fin : ∀ j, j ≠ H + 1 → (w4.setCell ⟨H + 1, 3, none⟩ v').heap[j]? = w4.heap[j]? := fun j hj => heap_setCell_other w4 ⟨H + 1, 3, none⟩ j v' hj
  have hb4 : Below (H + 2) w3 w4 := ⟨hg.os, hg.tape, hg.output, by have := hg.size; omega, fun j hj => lowN j (by omega)⟩
  refine ⟨bl4, ⟨oj4.keep fun j hj _ => fin j (by omega), (fin _ (by omega)).trans ((lowN _ (by omega)).trans (hO2.boxV bz (by omega))), heap_setCell_same w4 (H + 1) 3 _ _ v' bl4, ?_, ?_, hH, hb, hN, by have := hg.size; simp; omega⟩, fun g hg1 hgH hne => (fin g hgH).trans (low g hg1 hne)⟩
  · exact hP.low (B := H) ((hb4.mono (by omega)).setCell (p := ⟨H + 1, 3, none⟩) (by show H ≤ H + 1; omega) v') hb (by have := pr.lo; omega)
  · have h1 : Only b W w3 := on.trans hO2
    exact h1.low2 ((hb4.mono (by omega)).setCell (p := ⟨H + 1, 3, none⟩) (by show W.heap.size ≤ H + 1; omega) v')

set_option maxRecDepth 100000 in
set_option maxHeartbeats 4000000 in
theorem list_at (f lv : Nat) (w0 : World) (b : Nat) (s : ByteArray) (hs : s.size ≤ 8000000)
    (ih : ∀ (t : Tk) (p : Nat) (W : World), Pr w0 b s p W → At s.data.toList t p → Fu s.data.toList f t p →
      Calls Tryz.prog 17 #[.pointer (some ⟨b, 0, none⟩), tkV t, .int .i64 (lv : Int)] W (Out w0 b s W (VV W) (val (nt s.data.toList) f t lv p)))
    (hlv : lv ≤ 64) (p : Nat) (W : World) (h : Pr w0 b s p W) (hp : p ≤ s.size) (hf : s.size + 1 ≤ f + p) :
    Calls Tryz.prog 29 #[.pointer (some ⟨b, 0, none⟩), .int .i64 (lv : Int)] W (Out w0 b s W (VV W) (lst0 (nt s.data.toList) (fun t p => val (nt s.data.toList) f t lv p) f p)) := by
  have HF0 := fun W (hw : Pr w0 b s p W) => first_at w0 b s p W hw hs hp 4
  have hgd := fst_good (l := s.data.toList) (p := p) (by simpa using hp) 4
  have hbl := h.lt
  have hwz := h.bel.size
  rw [lst0_fst]
  have e0 : Below W.heap.size W ((W.alloc (.cells #[.int .i64 0, .int .i64 0, .string ⟨#[]⟩, .slice none 0 0, .slice none 0 0] 25)).alloc (.cells #[.int .i64 4, .int .i64 0, .string ⟨#[]⟩, .slice none 0 0, .slice none 0 0] 25)) :=
    ((Below.refl _ _).alloc (Nat.le_refl _) _).alloc (by simp) _
  cases hr : fst (nt s.data.toList) 4 p with
  | no o er =>
    rw [hr] at HF0
    have H := Lib.hid HF0
    clear HF0 hr hgd ih
    go_enter Tryz.func29, Tryz.ntmps29
    go_wp2_with fail
    refine (H.out _ (h.next e0)).mono ?_
    rintro e w1 ⟨hO1, hB1, rfl⟩
    go_wp2_with fail
    exact ⟨rfl, (Only.of e0).trans hO1, hB1, rfl⟩
  | ok x q =>
    rw [hr] at HF0 hgd
    obtain ⟨t, d⟩ := x
    have H := Lib.hid HF0
    obtain ⟨_, hq, hat, hpo⟩ := hgd
    have hq : q ≤ s.size := by simpa using hq
    clear HF0 hr
    show Calls _ _ _ _ (Out w0 b s W (VV W) (Lk (nt s.data.toList) (fun t p => val (nt s.data.toList) f t lv p) f [] t d q))
    obtain ⟨R, hR⟩ : ∃ R, R = Lk (nt s.data.toList) (fun t p => val (nt s.data.toList) f t lv p) f [] t d q := ⟨_, rfl⟩
    rw [← hR]
    have HR2 := Lib.hid hR
    clear hR
    go_enter Tryz.func29, Tryz.ntmps29
    go_wp2_with fail
    refine (H.out _ (h.next e0)).mono ?_
    rintro e w1 ⟨hO1, hP1, _, rfl, rfl⟩
    unfold tb tkV
    go_wp2_with fail
    have hsz1 := hO1.size
    have hnw := two_new W #[.int .i64 0, .int .i64 0, .string ⟨#[]⟩, .slice none 0 0, .slice none 0 0] #[.int .i64 4, .int .i64 0, .string ⟨#[]⟩, .slice none 0 0, .slice none 0 0] 25 25
    have lsq := Ls.start h (Nat.le_refl (W.heap.size + 2)) hnw.1 hnw.2.1 e0 (by omega) hO1 hP1
    have hls : Ls w0 b s 4 W W.heap.size (W.heap.size + 2) (.slice none 0 0) [] [] (.slice none 0 0) [] q (w1.alloc (.cells #[.int .i64 (t.k : Int), .int .i64 (t.o : Int), .int .i64 (t.z : Int), .string ⟨t.v.toArray⟩, .int .i64 t.n] 46)) := lsq.next ((Below.refl _ _).alloc (Nat.le_refl _) _)
    have bt : Box (w1.alloc (.cells #[.int .i64 (t.k : Int), .int .i64 (t.o : Int), .int .i64 (t.z : Int), .string ⟨t.v.toArray⟩, .int .i64 t.n] 46)) w1.heap.size #[.int .i64 (t.k : Int), .int .i64 (t.o : Int), .int .i64 (t.z : Int), .string ⟨t.v.toArray⟩, .int .i64 t.n] := box_new _ _
    have hgt : W.heap.size + 2 ≤ w1.heap.size := by simpa using hsz1
    have HIH := Lib.hid ih
    have HFP := Lib.hid hf
    have hpq : d = true → p ≤ t.o := fun _ => hpo
    have hfq : s.size + 1 ≤ f + q := by omega
    clear lsq hnw hO1 hP1 ih e0 h hpo hf H
    generalize hW1 : w1.alloc (.cells #[.int .i64 (t.k : Int), .int .i64 (t.o : Int), .int .i64 (t.z : Int), .string ⟨t.v.toArray⟩, .int .i64 t.n] 46) = w2 at *
    generalize w1.heap.size = gt at *
    clear hW1 hsz1 hq
    go_loopw [6, 7] (fun x y wr => ∃ (gt : Nat) (t : Tk) (d : Bool) (pp g : Nat) (acc : List Vt) (c3 : Value) (D : List (List Value)), x = .pointer (some ⟨gt, 0, none⟩) ∧ y = .bool d ∧
        Box wr gt #[.int .i64 (t.k : Int), .int .i64 (t.o : Int), .int .i64 (t.z : Int), .string ⟨t.v.toArray⟩, .int .i64 t.n] ∧
        Ls w0 b s 4 W W.heap.size (W.heap.size + 2) c3 D acc (.slice none 0 0) [] pp wr ∧ At s.data.toList t pp ∧ (d = true → p ≤ t.o) ∧ W.heap.size + 2 ≤ gt ∧ acc.length ≤ pp ∧ s.size + 1 ≤ g + pp ∧
        Hid (R = Lk (nt s.data.toList) (fun t p => val (nt s.data.toList) f t lv p) g acc t d pp))
      (fun _ _ wr => s.size - (RowKit.intOf ((wr.cell? ⟨b, 1, none⟩).getD undef)).toNat)
    case atStart => exact ⟨gt, t, d, q, f, [], _, [], rfl, rfl, bt, hls, hat, hpq, hgt, by simp, hfq, HR2⟩
    case round =>
      clear hls bt hat HR2 hpq hgt
      obtain ⟨gt, t, d, pp, g, acc, c3, D, rfl, rfl, bt, hls, hat, hpq, hgt, hal, hgg, HR⟩ := hrel
      have hon := hls.on
      have hpr := hls.pr
      have hbz := hls.bz
      have hbx := hls.bl
      cases d with
      | false =>
        have hR : R = .ok (.mk 4 0 ⟨#[]⟩ acc []) pp := HR.out
        have hone := Tre.InS_one (Tre.InS_in _ _ (hls.oj.made 4 0 ⟨#[]⟩))
        have HMD := Lib.hid (hls.oj.made 4 0 ⟨#[]⟩)
        have lw := Below.refl W.heap.size wr
        clear HR bt hls HIH HFP hat
        go_wp2_with (first
          | (refine Tre.wpList_fetch _ rfl _ rfl (W.heap.size + 1) _ rfl hbx rfl ?_)
          | (refine Tre.wpList_keep _ rfl _ _ rfl W.heap.size _ lw W.heap.size (Nat.le_refl _) _ _ rfl rfl hbz rfl rfl hone ?_; intro w9 bx9 hb9 hk9 hs9; clear hs9))
        (try simp only [Exit.inBlock, Exit.then])
        refine bodyPost_ret (Tre.results_val rfl _ _ _ _ rfl bx9 rfl) rfl ?_
        rw [hR]
        exact ⟨hon.low2 hb9, hpr.low hb9 hbl hwz, _, rfl, _, rfl, InS_upd (fun b' hb' _ => ⟨hk9 b' (by omega), by omega⟩) _ _ HMD.out⟩
      | true =>
        obtain ⟨g, rfl⟩ : ∃ g', g = g' + 1 := by
          have := hat.le
          have : s.data.toList.length = s.size := by simp
          cases g with
          | zero => omega
          | succ g => exact ⟨g, rfl⟩
        have HR1 := Lib.hid (HR.out.trans (Lk_step _ _ g acc t pp))
        have hd0 : Below wr.heap.size wr wr.drew := (Below.refl _ _).drew
        have hFu := Fu_next (f := f) (by have : s.data.toList.length = s.size := by simp
                                         have := HFP.out; omega) hat (hpq rfl)
        have HX0 := HIH.out t pp wr.drew (hls.pr.next hd0) hat hFu
        have hgv := val_good (l := s.data.toList) (by simpa using hs) f t lv pp hat hFu hlv
        clear HR hFu
        have y0 : wr.cell? ⟨W.heap.size + 1, 3, none⟩ = some c3 := hbx.cell 3
        have r0 : wr.cell? ⟨gt, 0, none⟩ = some (.int .i64 (t.k : Int)) := bt.cell 0
        have r1 : wr.cell? ⟨gt, 1, none⟩ = some (.int .i64 (t.o : Int)) := bt.cell 1
        have r2 : wr.cell? ⟨gt, 2, none⟩ = some (.int .i64 (t.z : Int)) := bt.cell 2
        have r3 : wr.cell? ⟨gt, 3, none⟩ = some (.string ⟨t.v.toArray⟩) := bt.cell 3
        have r4 : wr.cell? ⟨gt, 4, none⟩ = some (.int .i64 t.n) := bt.cell 4
        unfold tkV at HX0
        cases hv : val (nt s.data.toList) f t lv pp with
        | no o er =>
          rw [hv] at HX0
          have HX := Lib.hid HX0
          have hR : R = .no o er := by rw [HR1.out, hv]; rfl
          clear HR1 HX0 hv HIH HFP hgv
          go_wp2_with fail
          go_region_dies
          all_goals
            go_at_call 17
            (with_reducible refine HX.out.mono ?_)
            rintro e w3 ⟨hO3, hB3, rfl⟩
            go_wp2_with fail
            refine ⟨rfl, ?_⟩
            rw [hR]
            exact ⟨(hon.next hd0).trans hO3, hB3, rfl⟩
        | ok v p1 =>
          rw [hv] at HX0
          have HX := Lib.hid HX0
          have hR1 : R = bnd (fol (nt s.data.toList) 4 p1) fun x p2 => Lk (nt s.data.toList) (fun t p => val (nt s.data.toList) f t lv p) g (acc ++ [v]) x.1 x.2 p2 := by rw [HR1.out, hv]; rfl
          have HR2 := Lib.hid hR1
          have OJ := Lib.hid hls.oj
          have LS := Lib.hid hls
          have hlim : (D.length + 1) * 80 ≤ 140737488355328 := by
            have := hls.oj.len
            have := hat.le
            have : s.data.toList.length = s.size := by simp
            omega
          have hwrz := hls.bl.lt
          have hm0 := hls.pr.c1
          have hp1 : pp ≤ p1 ∧ p1 ≤ s.size := by
            rw [hv] at hgv
            exact ⟨hgv.1, by simpa using hgv.2.1⟩
          have hfg := fol_good (l := s.data.toList) (p := p1) (by simpa using hp1.2) 4 (by omega)
          have HFO := Lib.hid (fun W (hw : Pr w0 b s p1 W) => following_at w0 b s p1 W hw hs hp1.2 4)
          have hgb : gt ≠ b := by omega
          clear HR1 hR1 HX0 hv hls hgv
          go_wp2_with fail
          go_region_law (first
            | (refine Tre.step_vpush _ (by rfl) (.tmp 21) (.tmp 26) (by rfl) (W.heap.size + 2) c3 D (by rfl) (own2.alloc _) (by simp; omega) _ _ (by rfl) _ (by exact Tre.box_new _ _) e5 e1 hlim ?_; intro v' w4 hv4 hg4 hk4; obtain ⟨a9, n9, p9, e9⟩ : ∃ a n p, v' = .slice a n p := (by obtain ⟨x, y, q, _⟩ := hv4.open_; exact ⟨_, _, _, q⟩); subst e9; have ls4 := LS.out.pushV hOu hP3 (Nat.le_refl _) hI3 hv4 hg4 hk4; have f3 : w4.cell? ⟨W.heap.size + 1, 3, none⟩ = some c3 := ls4.1.cell 3; have ff : ∀ j, w4.frozen? ⟨W.heap.size + 1, j, none⟩ = false := fun j => ls4.1.free j)
            | (go_simp; go_at_call 17; (with_reducible refine HX.out.mono ?_); rintro e w3 ⟨hO3, hP3, _, rfl, es, rfl, hI3⟩; have hOu := hO3.undrew; have bx2 := hOu.boxV hbx (by omega); have q3 : w3.cell? ⟨W.heap.size + 1, 3, none⟩ = some c3 := bx2.cell 3; have qa : ∀ o, (w3.alloc o).cell? ⟨W.heap.size + 1, 3, none⟩ = some c3 := fun o => (World.cell?_of_block (a := ⟨W.heap.size + 1, 3, none⟩) (Below.heap_alloc w3 o _ bx2.lt)).trans q3; have own2 := (OJ.out.keepO hOu (by omega)).r3; have i2 := Tre.InS_in _ _ hI3; have e5 := Tre.InV_five i2; have e1 := Tre.InS_one i2; obtain ⟨ea, ep, ec, ees⟩ := val_cells i2; subst ees; have hsz5 : wr.heap.size ≤ w3.heap.size := hOu.size))
          all_goals
            have ls5 := ls4.2.1
            have bt5 : Box (w4.setCell ⟨W.heap.size + 1, 3, none⟩ (.slice a9 n9 p9)) gt _ := (ls4.2.2 gt (by have := bt.lt; omega) (by omega) (OJ.out.ne3 bt (by decide))).trans (hOu.box bt hgb)
            clear ls4 f3 ff hk4 hg4 hv4 e5 e1 own2 q3 qa bx2 hI3 hP3 hO3 hOu bt hbx hbz hpr y0 r0 r1 r2 r3 r4 LS OJ HX
            generalize w4.setCell ⟨W.heap.size + 1, 3, none⟩ (.slice a9 n9 p9) = w5 at *
            have lt5 := bt5.lt
            have b5 := ls5.pr.lt
            have pr5 := ls5.pr.alloc (.cells #[.int .i64 (t.k : Int), .int .i64 (t.o : Int), .int .i64 (t.z : Int), .string ⟨t.v.toArray⟩, .int .i64 t.n] 46)
            have z5 : (w5.alloc (.cells #[.int .i64 (t.k : Int), .int .i64 (t.o : Int), .int .i64 (t.z : Int), .string ⟨t.v.toArray⟩, .int .i64 t.n] 46)).heap.size = w5.heap.size + 1 := by simp
            have n5 : Box (w5.alloc (.cells #[.int .i64 (t.k : Int), .int .i64 (t.o : Int), .int .i64 (t.z : Int), .string ⟨t.v.toArray⟩, .int .i64 t.n] 46)) w5.heap.size #[.int .i64 (t.k : Int), .int .i64 (t.o : Int), .int .i64 (t.z : Int), .string ⟨t.v.toArray⟩, .int .i64 t.n] := box_new _ _
            have o5 : Only b w5 (w5.alloc (.cells #[.int .i64 (t.k : Int), .int .i64 (t.o : Int), .int .i64 (t.z : Int), .string ⟨t.v.toArray⟩, .int .i64 t.n] 46)) := Only.of ((Below.refl _ _).alloc (Nat.le_refl _) _)
            cases hfo : fol (nt s.data.toList) 4 p1 with
            | no o er =>
              have hR : R = .no o er := by rw [HR2.out, hfo]; rfl
              have HF0 := HFO.out
              rw [hfo] at HF0
              have HF := Lib.hid HF0
              clear HF0 HFO HR2 hfg hfo HIH
              go_wp2_with (refine Lx.wpList_fetch _ rfl _ rfl gt _ rfl bt5 rfl ?_)
              refine (HF.out _ pr5).mono ?_
              rintro e w6 ⟨hO6, hB6, rfl⟩
              go_wp2_with fail
              refine ⟨rfl, ?_⟩
              rw [hR]
              exact ⟨(ls5.on.trans o5).trans hO6, hB6, rfl⟩
            | ok x2 p2 =>
              obtain ⟨t2, d2⟩ := x2
              rw [hfo] at hfg
              obtain ⟨_, hq2, hat2, hlt2, hd2⟩ := hfg
              have hR : R = Lk (nt s.data.toList) (fun t p => val (nt s.data.toList) f t lv p) g (acc ++ [v]) t2 d2 p2 := by rw [HR2.out, hfo]; rfl
              have HR3 := Lib.hid hR
              have HF0 := HFO.out
              rw [hfo] at HF0
              have HF := Lib.hid HF0
              have hdp : d2 = true → p ≤ t2.o := fun q => by
                have h1 := hd2 q
                have h2 := hpq trivial
                have h3 := hat.o
                simp only at h1
                omega
              have hal2 : (acc ++ [v]).length ≤ p2 := by simp; omega
              have hq2 : p2 ≤ s.size := by simpa using hq2
              unfold tb tkV at HF
              clear HF0 HFO HR2 hfo hR hd2
              go_wp2_with (refine Lx.wpList_fetch _ rfl _ rfl gt _ rfl bt5 rfl ?_)
              refine (HF.out _ pr5).mono ?_
              rintro e w6 ⟨hO6, hP6, _, rfl, rfl⟩
              have n6 := hO6.box n5 (by omega)
              have o6 := o5.trans hO6
              have lw := Below.refl w5.heap.size w6
              clear n5 o5 hO6 pr5
              go_wp2_with (refine Lx.wpList_keep _ rfl _ _ rfl w5.heap.size _ lw w5.heap.size (Nat.le_refl _) _ _ _ _ _ _ rfl rfl n6 rfl ?_; intro w7 bx7 hb7 hk7)
              have ls7 := ls5.nextO (o6.low2 hb7) (hP6.low hb7 b5 (by omega))
              have hm1 := ls7.pr.c1
              go_roundw
              case rel => exact ⟨_, t2, d2, p2, g, acc ++ [v], _, _, rfl, rfl, bx7, ls7, hat2, hdp, by omega, hal2, by omega, HR3⟩
              case measure => rw [hm0, hm1]; simp [RowKit.intOf]; omega
end Go.Proofs.YtbpofhlnnldceaaGreatDoor.Par

namespace Go.Proofs.YtbpofhlnnldceaaGreatDoor.Par
open Go.RowKit Go.Lib Go.Maps Go.WideMaps Go.Proofs.YtbpofhlnnldceaaGreatDoor.Byt Go.Proofs.YtbpofhlnnldceaaGreatDoor.Lx
open Go.Proofs.YtbpofhlnnldceaaGreatDoor.Tre (Seen hasB keyS hasB_app)

/-- Of what was there only blocks b and c may have changed. -/
structure Two (b c : Nat) (W W' : World) : Prop where
  os : W'.os = W.os
  tape : W'.tape = W.tape
  output : W'.output = W.output
  size : W.heap.size ≤ W'.heap.size
  block : ∀ k, k < W.heap.size → k ≠ b → k ≠ c → W'.heap[k]? = W.heap[k]?
section
variable {b c : Nat} {w0 W W' W2 : World}
theorem Two.of (h : Only b W W') (c : Nat) : Two b c W W' := ⟨h.os, h.tape, h.output, h.size, fun _ hk hb _ => h.at_ hk hb⟩
theorem Two.map (h : W.grownBy W' (some c)) (b : Nat) : Two b c W W' := ⟨h.os, h.tape, h.output, h.size, fun _ hk _ hc => h.block _ hk (by simpa using hc)⟩
theorem Two.trans (h : Two b c W W') (k : Two b c W' W2) : Two b c W W2 :=
  ⟨k.os.trans h.os, k.tape.trans h.tape, k.output.trans h.output, Nat.le_trans h.size k.size, fun j hj hb hc => (k.block j (Nat.lt_of_lt_of_le hj h.size) hb hc).trans (h.block j hj hb hc)⟩
theorem Two.low (h : Two b c W W') {B : Nat} (hb : Below B w0 W) (hB : B ≤ b) (hC : B ≤ c) (hs : B ≤ w0.heap.size) : Below B w0 W' :=
  hb.trans ⟨h.os, h.tape, h.output, h.size, fun k hk => h.block k (by have := hb.size; omega) (by omega) (by omega)⟩
theorem Two.box {g : Nat} {cs : Array Value} (h : Two b c W W') (hb : Box W g cs) (h1 : g ≠ b) (h2 : g ≠ c) : Box W' g cs := (h.block g hb.lt h1 h2).trans hb
end
theorem map_size (w : World) (s : ByteArray) (mb n : Nat) (L : List ByteArray) (h : Seen w mb n L) (hs : s.size ≤ 140737488351232) (hn : n ≤ 140737488355328) :
    ∃ w', (Instr.mapUpdate 81 (.map (some mb)) (.string s) (.bool true)).run Tryz.prog w = .ok () w' ∧ Seen w' mb (n + 1) (L ++ [s]) ∧ w.grownBy w' (some mb) := by
  obtain ⟨w', hr, h1, _⟩ := h.put (w0 := w) (B := 0) s hs hn (Nat.zero_le _) (Below.refl _ _)
  obtain ⟨D, h2, _⟩ := h
  obtain ⟨w2, hr2, _, h4⟩ := h2.update keyS Tryz.underlying81 (by unfold maxLen; omega) (keyOf_string_mk Tryz.underlying9 (s := s) (by unfold maxLen; omega)) (plainElem_bool Tryz.underlying4 true)
  rw [hr] at hr2
  injection hr2 with _ e
  subst e
  exact ⟨w', hr, h1, h4⟩
def nam (T : Nat → Rs Tk) (ns : List ByteArray) (t : Tk) (p : Nat) : Rs ByteArray :=
  if t.k = 7 then (if isin ns (tx t) = true then .no t.o 11 else bnd (T p) fun t2 p2 => if t2.k = 5 then .ok (tx t) p2 else refu t2) else refu t
/-- How takeName ends. -/
def OutN (w0 : World) (b mb : Nat) (s : ByteArray) (n : Nat) (ns : List ByteArray) (W : World) (r : Rs ByteArray) (e : Ending) (W' : World) : Prop :=
  Two b mb W W' ∧ match r with
  | .ok x q => Pr w0 b s q W' ∧ e = .returned (.string x) ∧ Seen W' mb (n + 1) (ns ++ [x])
  | .no o er => Below w0.heap.size w0 W' ∧ e = .panicked (Fp o er)
theorem seen_next {W W' : World} {mb n : Nat} {ns : List ByteArray} {b : Nat} (h : Seen W mb n ns) (k : Only b W W') (hne : mb ≠ b) : Seen W' mb n ns := by
  have hlt := h.lt
  obtain ⟨D, ⟨es, clock, hk, rest⟩, h2⟩ := h
  exact ⟨D, ⟨es, clock, (k.at_ hlt hne).trans hk, rest⟩, h2⟩

set_option maxRecDepth 100000 in
set_option maxHeartbeats 2000000 in
theorem name_at (w0 : World) (b : Nat) (s : ByteArray) (p : Nat) (W : World) (h : Pr w0 b s p W) (hs : s.size ≤ 8000000) (hp : p ≤ s.size) (t : Tk) (hts : (tx t).size ≤ 8000000) (mb n : Nat) (ns : List ByteArray)
    (hm : Seen W mb n ns) (hmb : mb ≠ b) (hlo : w0.heap.size ≤ mb) (hn : n ≤ 140737488355328) :
    Calls Tryz.prog 45 #[.pointer (some ⟨b, 0, none⟩), tkV t, .map (some mb)] W (OutN w0 b mb s n ns W (nam (nt s.data.toList) ns t p)) := by
  have hbl := h.lt
  have hml := hm.lt
  have hwz := h.bel.size
  have b0 : Box (W.alloc (.cells #[.int .i64 (t.k : Int), .int .i64 (t.o : Int), .int .i64 (t.z : Int), .string ⟨t.v.toArray⟩, .int .i64 t.n] 46)) W.heap.size _ := box_new _ _
  have e0 : Below W.heap.size W (W.alloc (.cells #[.int .i64 (t.k : Int), .int .i64 (t.o : Int), .int .i64 (t.z : Int), .string ⟨t.v.toArray⟩, .int .i64 t.n] 46)) := (Below.refl _ _).alloc (Nat.le_refl _) _
  have RY := Lib.hid (fun w h => require_yes t 7 h w)
  have RN := Lib.hid (fun w h => require_no t 7 h w)
  unfold nam
  unfold tkV at *
  by_cases h7 : t.k = 7
  · rw [if_pos h7]
    have h7i : (t.k : Int) = 7 := by omega
    have RY2 := Lib.hid (fun w => RY.out w h7i)
    clear RY RN h7 h7i
    by_cases hin : isin ns (tx t) = true
    · rw [if_pos hin]
      have hin2 : hasB ns ⟨t.v.toArray⟩ = true := hin
      have HL := Lib.hid (fun w (hw : Seen w mb n ns) => hin2 ▸ hw.look ⟨t.v.toArray⟩ (by have : (ByteArray.mk t.v.toArray).size ≤ 8000000 := hts; omega))
      clear hin hin2
      go_enter Tryz.func45, Tryz.ntmps45
      go_wp2_with fail
      refine (RY2.out _).mono ?_
      rintro e w2 ⟨rfl, hb2⟩
      have e2 := e0.trans (hb2.mono (by simp))
      have b2 := b0.next hb2 (by simp)
      have c1 : w2.cell? ⟨W.heap.size, 1, none⟩ = some (.int .i64 (t.o : Int)) := b2.cell 1
      have c3 : w2.cell? ⟨W.heap.size, 3, none⟩ = some (.string ⟨t.v.toArray⟩) := b2.cell 3
      have hlook := HL.out w2 (hm.next e2)
      have o2 := h.next e2
      clear hb2 b2
      go_wp2_with fail
      exact ⟨rfl, Two.of (.of e2) mb, o2.bel, rfl⟩
    · rw [if_neg hin]
      have hin2 : hasB ns ⟨t.v.toArray⟩ = false := by have : isin ns (tx t) = false := by simpa using hin
                                                      exact this
      have hsz : (ByteArray.mk t.v.toArray).size ≤ 140737488351232 := by have : (ByteArray.mk t.v.toArray).size ≤ 8000000 := hts; omega
      have HL := Lib.hid (fun w (hw : Seen w mb n ns) => hin2 ▸ hw.look ⟨t.v.toArray⟩ hsz)
      have HM := Lib.hid (fun w (hw : Seen w mb n ns) => map_size w ⟨t.v.toArray⟩ mb n ns hw hsz hn)
      have HN0 := fun W (hw : Pr w0 b s p W) => next_at w0 b s p W hw hs hp
      have HN := Lib.hid HN0
      clear hin hin2 hsz HN0
      have PUT := Lib.hid (fun w2 w3 (o2 : Pr w0 b s p w2) (e2 : Below W.heap.size W w2) (g3 : w2.grownBy w3 (some mb)) =>
        o2.beside (W' := w3) (Two.low (b := b) (c := mb) (Two.map g3 b) o2.bel h.lo hlo (Nat.le_refl _)) (g3.block b (by have := e2.size; omega) (by simpa using fun q => hmb q.symm)))
      have R5Y := Lib.hid (fun (t2 : Tk) w h => require_yes t2 5 h w)
      have R5N := Lib.hid (fun (t2 : Tk) w h => require_no t2 5 h w)
      have hsx : ∀ w3, Seen w3 mb (n + 1) (ns ++ [⟨t.v.toArray⟩]) → Seen w3 mb (n + 1) (ns ++ [tx t]) := fun _ q => q
      have HSX := Lib.hid hsx
      clear hsx
      cases hr : nt s.data.toList p with
      | no o er =>
        have HN0 := HN.out
        rw [hr] at HN0
        have HN1 := Lib.hid HN0
        clear HN HN0 hr R5Y R5N
        go_enter Tryz.func45, Tryz.ntmps45
        go_wp2_with fail
        refine (RY2.out _).mono ?_
        rintro e w2 ⟨rfl, hb2⟩
        have e2 := e0.trans (hb2.mono (by simp))
        have b2 := b0.next hb2 (by simp)
        have c3 : w2.cell? ⟨W.heap.size, 3, none⟩ = some (.string ⟨t.v.toArray⟩) := b2.cell 3
        have hlook := HL.out w2 (hm.next e2)
        have o2 := h.next e2
        obtain ⟨w3, hr3, hs3, g3⟩ := HM.out w2 (hm.next e2)
        have p3 := PUT.out w2 w3 o2 e2 g3
        have t3 := (Two.of (.of e2) mb).trans (Two.map g3 b)
        have b3 : Box w3 W.heap.size _ := (g3.block _ b2.lt (by simp; omega)).trans b2
        have hW3 : W.heap.size < w3.heap.size := b3.lt
        have c3b : w3.cell? ⟨W.heap.size, 3, none⟩ = some (.string ⟨t.v.toArray⟩) := b3.cell 3
        clear hb2 b2
        go_wp2_with fail
        refine (HN1.out _ p3).mono ?_
        rintro e w4 ⟨hO4, hB4, rfl⟩
        go_wp2_with fail
        exact ⟨rfl, t3.trans (Two.of hO4 mb), hB4, rfl⟩
      | ok t2 q2 =>
        have HN0 := HN.out
        rw [hr] at HN0
        have HN1 := Lib.hid HN0
        clear HN HN0 hr
        show Calls _ _ _ _ (OutN w0 b mb s n ns W (if t2.k = 5 then .ok (tx t) q2 else refu t2))
        unfold tkV at *
        by_cases h5 : t2.k = 5
        · rw [if_pos h5]
          have h5i : (t2.k : Int) = 5 := by omega
          have R5 := Lib.hid (fun w => R5Y.out t2 w h5i)
          clear R5Y R5N h5 h5i
          go_enter Tryz.func45, Tryz.ntmps45
          go_wp2_with fail
          refine (RY2.out _).mono ?_
          rintro e w2 ⟨rfl, hb2⟩
          have e2 := e0.trans (hb2.mono (by simp))
          have b2 := b0.next hb2 (by simp)
          have c3 : w2.cell? ⟨W.heap.size, 3, none⟩ = some (.string ⟨t.v.toArray⟩) := b2.cell 3
          have hlook := HL.out w2 (hm.next e2)
          have o2 := h.next e2
          obtain ⟨w3, hr3, hs3, g3⟩ := HM.out w2 (hm.next e2)
          have p3 := PUT.out w2 w3 o2 e2 g3
          have t3 := (Two.of (.of e2) mb).trans (Two.map g3 b)
          have b3 : Box w3 W.heap.size _ := (g3.block _ b2.lt (by simp; omega)).trans b2
          have hW3 : W.heap.size < w3.heap.size := b3.lt
          have c3b : w3.cell? ⟨W.heap.size, 3, none⟩ = some (.string ⟨t.v.toArray⟩) := b3.cell 3
          clear hb2 b2
          go_wp2_with fail
          refine (HN1.out _ p3).mono ?_
          rintro e w4 ⟨hO4, hP4, _, rfl, rfl⟩
          have b4 := hO4.box b3 (by omega)
          have t4 := t3.trans (Two.of hO4 mb)
          have hs4 := seen_next hs3 hO4 hmb
          go_wp2_with fail
          refine (R5.out _).mono ?_
          rintro e w5 ⟨rfl, hb5⟩
          have b5 := b4.next hb5 b4.lt
          have c5 : w5.cell? ⟨W.heap.size, 3, none⟩ = some (.string ⟨t.v.toArray⟩) := b5.cell 3
          have p5 := hP4.next hb5
          have s5 := hs4.next hb5
          have t5 := t4.trans (Two.of (.of hb5) mb)
          go_wp2_with fail
          go_ret
          exact ⟨t5, p5, rfl, HSX.out _ s5⟩
        · rw [if_neg h5]
          have h5i : (t2.k : Int) ≠ 5 := by omega
          have R5 := Lib.hid (fun w => R5N.out t2 w h5i)
          unfold refu
          generalize (if t2.k = 0 then 3 else 4) = er at *
          clear R5Y R5N h5 h5i
          go_enter Tryz.func45, Tryz.ntmps45
          go_wp2_with fail
          refine (RY2.out _).mono ?_
          rintro e w2 ⟨rfl, hb2⟩
          have e2 := e0.trans (hb2.mono (by simp))
          have b2 := b0.next hb2 (by simp)
          have c3 : w2.cell? ⟨W.heap.size, 3, none⟩ = some (.string ⟨t.v.toArray⟩) := b2.cell 3
          have hlook := HL.out w2 (hm.next e2)
          have o2 := h.next e2
          obtain ⟨w3, hr3, hs3, g3⟩ := HM.out w2 (hm.next e2)
          have p3 := PUT.out w2 w3 o2 e2 g3
          have t3 := (Two.of (.of e2) mb).trans (Two.map g3 b)
          have b3 : Box w3 W.heap.size _ := (g3.block _ b2.lt (by simp; omega)).trans b2
          have hW3 : W.heap.size < w3.heap.size := b3.lt
          have c3b : w3.cell? ⟨W.heap.size, 3, none⟩ = some (.string ⟨t.v.toArray⟩) := b3.cell 3
          clear hb2 b2
          go_wp2_with fail
          refine (HN1.out _ p3).mono ?_
          rintro e w4 ⟨hO4, hP4, _, rfl, rfl⟩
          have t4 := t3.trans (Two.of hO4 mb)
          go_wp2_with fail
          refine (R5.out _).mono ?_
          rintro e w5 ⟨rfl, hb5⟩
          go_wp2_with fail
          exact ⟨rfl, t4.trans (Two.of (.of hb5) mb), (hP4.next hb5).bel, rfl⟩
  · rw [if_neg h7]
    have h7i : (t.k : Int) ≠ 7 := by omega
    have RN2 := Lib.hid (fun w => RN.out w h7i)
    unfold refu
    generalize (if t.k = 0 then 3 else 4) = er at *
    clear RY RN h7 h7i
    go_enter Tryz.func45, Tryz.ntmps45
    go_wp2_with fail
    refine (RN2.out _).mono ?_
    rintro e w2 ⟨rfl, hb2⟩
    have e2 := e0.trans (hb2.mono (by simp))
    go_wp2_with fail
    exact ⟨rfl, Two.of (.of e2) mb, (h.next e2).bel, rfl⟩
end Go.Proofs.YtbpofhlnnldceaaGreatDoor.Par

namespace Go.Proofs.YtbpofhlnnldceaaGreatDoor.Par
open Go.RowKit Go.Lib Go.Proofs.YtbpofhlnnldceaaGreatDoor.Byt Go.Proofs.YtbpofhlnnldceaaGreatDoor.Lx
open Go.Proofs.YtbpofhlnnldceaaGreatDoor.Tre (Vt V0 InS InS_upd Seen)

theorem obj_fol (T : Nat → Rs Tk) (vf : Tk → Nat → Rs Vt) (g : Nat) (ns : List ByteArray) (acc : List Vt) (t : Tk) (p : Nat) :
    obj T vf (g + 1) ns acc t p = bnd (nam T ns t p) fun n p2 => bnd (T p2) fun t3 p3 => bnd (vf t3 p3) fun v p4 => bnd (fol T 2 p4) fun x p5 => if x.2 = true then obj T vf g (ns ++ [n]) (acc ++ [v]) x.1 p5 else .ok (ns ++ [n], acc ++ [v]) p5 := by
  rw [obj]
  unfold nam
  by_cases h7 : t.k = 7
  · rw [if_pos h7, if_pos h7]
    by_cases hi : isin ns (tx t) = true
    · rw [if_pos hi, if_pos hi]; rfl
    · rw [if_neg hi, if_neg hi]
      cases T p with
      | no o e => rfl
      | ok t2 p2 =>
        show (if t2.k = 5 then _ else _) = bnd (if t2.k = 5 then _ else _) _
        by_cases h5 : t2.k = 5
        · rw [if_pos h5, if_pos h5]
          show bnd (T p2) _ = bnd (T p2) _
          congr 1
          funext t3 p3
          congr 1
          funext v p4
          unfold fol
          cases T p4 with
          | no o e => rfl
          | ok t5 p5 =>
            show (if t5.k = 2 then _ else _) = bnd (if t5.k = 2 then _ else _) _
            by_cases h4 : t5.k = 2
            · rw [if_pos h4, if_pos h4]; rfl
            · rw [if_neg h4, if_neg h4]
              by_cases h6 : t5.k = 6
              · rw [if_pos h6, if_pos h6]
                cases T p5 with
                | no o e => rfl
                | ok t3 p3 => rfl
              · rw [if_neg h6, if_neg h6]; rfl
        · rw [if_neg h5, if_neg h5]; rfl
  · rw [if_neg h7, if_neg h7]; rfl
/-- What is left of an object, from the token at hand on. -/
def Oc (T : Nat → Rs Tk) (vf : Tk → Nat → Rs Vt) (g : Nat) (ns : List ByteArray) (acc : List Vt) (t : Tk) (d : Bool) (p : Nat) : Rs Vt :=
  if d = true then bnd (obj T vf g ns acc t p) fun x q => .ok (.mk 5 0 ⟨#[]⟩ x.2 x.1) q else .ok (.mk 5 0 ⟨#[]⟩ acc ns) p
theorem obj0_fst (T : Nat → Rs Tk) (vf : Tk → Nat → Rs Vt) (f p : Nat) : obj0 T vf f p = bnd (fst T 2 p) fun x p1 => Oc T vf f [] [] x.1 x.2 p1 := by
  unfold obj0 fst
  cases T p with
  | no o e => rfl
  | ok t1 p1 =>
    show (if t1.k = 2 then _ else _) = Oc T vf f [] [] t1 (decide (t1.k ≠ 2)) p1
    unfold Oc
    by_cases h4 : t1.k = 2
    · rw [if_pos h4, if_neg (by simp [h4])]
    · rw [if_neg h4, if_pos (by simp [h4])]
theorem Oc_step (T : Nat → Rs Tk) (vf : Tk → Nat → Rs Vt) (g : Nat) (ns : List ByteArray) (acc : List Vt) (t : Tk) (p : Nat) :
    Oc T vf (g + 1) ns acc t true p = bnd (nam T ns t p) fun n p2 => bnd (T p2) fun t3 p3 => bnd (vf t3 p3) fun v p4 => bnd (fol T 2 p4) fun x p5 => Oc T vf g (ns ++ [n]) (acc ++ [v]) x.1 x.2 p5 := by
  unfold Oc
  rw [if_pos rfl, obj_fol]
  cases nam T ns t p with
  | no o e => rfl
  | ok n p2 =>
    show bnd (bnd (T p2) _) _ = bnd (T p2) _
    cases T p2 with
    | no o e => rfl
    | ok t3 p3 =>
      show bnd (bnd (vf t3 p3) _) _ = bnd (vf t3 p3) _
      cases vf t3 p3 with
      | no o e => rfl
      | ok v p1 =>
        show bnd (bnd (fol T 2 p1) _) _ = bnd (fol T 2 p1) _
        cases fol T 2 p1 with
        | no o e => rfl
        | ok x p2 =>
          obtain ⟨t2, d2⟩ := x
          cases d2 <;> rfl
theorem nam_good {l : List UInt8} {ns : List ByteArray} {t : Tk} {p : Nat} (ha : At l t p) : Gd l.length (fun x q => x = tx t ∧ p < q) p (nam (nt l) ns t p) := by
  unfold nam
  by_cases h7 : t.k = 7
  · rw [if_pos h7]
    by_cases hi : isin ns (tx t) = true
    · rw [if_pos hi]; exact ⟨Nat.le_trans ha.o ha.le, by omega⟩
    · rw [if_neg hi]
      refine (nt_good l p ha.le).bnd fun t2 q h1 h2 h3 => ?_
      by_cases h5 : t2.k = 5
      · rw [if_pos h5]
        have := h3.1.pos (by omega)
        exact ⟨Nat.le_refl _, h2, rfl, by omega⟩
      · rw [if_neg h5]; exact refu_good h3.1 _
  · rw [if_neg h7]; exact refu_good ha _
theorem Two.undrew {b c : Nat} {W W' : World} (h : Two b c W.drew W') : Two b c W W' := ⟨h.os, h.tape, h.output, h.size, h.block⟩
theorem Two.only {b c : Nat} {W wr W' : World} (h : Two b c wr W') (k : Only b W wr) (hc : W.heap.size ≤ c) : Only b W W' :=
  ⟨h.os.trans k.os, h.tape.trans k.tape, h.output.trans k.output, Nat.le_trans k.size h.size, fun j hj hne => (h.block j (Nat.lt_of_lt_of_le hj k.size) (by simpa using hne) (by omega)).trans (k.block j hj hne)⟩
theorem Oj.keepT {N b c : Nat} {W W' : World} {c3 c4 : Value} {D : List (List Value)} {acc : List Vt} {ns : List ByteArray} (h : Oj N W c3 D acc c4 ns) (k : Two b c W W') (hb : b < N) (hc : c < N) : Oj N W' c3 D acc c4 ns :=
  h.keep fun j hj hl => k.block j hl (by omega) (by omega)
theorem Two.boxV {b c g : Nat} {W W' : World} {cs : Array Value} (h : Two b c W W') (bx : Tre.Box W g cs) (h1 : g ≠ b) (h2 : g ≠ c) : Tre.Box W' g cs := (h.block g bx.lt h1 h2).trans bx
theorem seen_keep {W W' : World} {mb n : Nat} {ns : List ByteArray} (h : Seen W mb n ns) (k : W'.heap[mb]? = W.heap[mb]?) : Seen W' mb n ns := by
  obtain ⟨D, ⟨es, clock, hk, rest⟩, h2⟩ := h
  exact ⟨D, ⟨es, clock, k.trans hk, rest⟩, h2⟩
/-- Behind an append of a name that was read. -/
theorem Ls.pushN {w0 W wr w3 w4 : World} {b p q H N mb : Nat} {s : ByteArray} {k : Int} {c3 c4 v' : Value} {D : List (List Value)} {acc : List Vt} {ns : List ByteArray} {x : ByteArray} {o : Obj} (h : Ls w0 b s k W H N c3 D acc c4 ns p wr) (hT : Two b mb wr w3) (hmN : mb < N) (hmH : H + 1 < mb)
    (hP : Pr w0 b s q w3) (hv : Strs.Own w4 N v' (ns ++ [x])) (hg : (w3.alloc o).grownBy w4 c4.ownBlock) (hk : ∀ b, v'.ownBlock = some b → c4.ownBlock = some b ∨ b = (w3.alloc o).heap.size) :
    Tre.Box w4 (H + 1) #[.int .i64 k, .int .i64 0, .string ⟨#[]⟩, c3, c4] ∧ Ls w0 b s k W H N c3 D acc v' (ns ++ [x]) q (w4.setCell ⟨H + 1, 4, none⟩ v') ∧
      (∀ g, g < w3.heap.size → g ≠ H + 1 → c4.ownBlock ≠ some g → (w4.setCell ⟨H + 1, 4, none⟩ v').heap[g]? = w3.heap[g]?) := by
  obtain ⟨oj, bz, bl, pr, on, hH, hb, hN, hz⟩ := h
  have hz3 := hT.size
  have oj3 := oj.keepT hT (by omega) hmN
  have hs3 : (w3.alloc o).heap.size = w3.heap.size + 1 := by simp
  have oj4 : Oj N w4 c3 D acc v' (ns ++ [x]) := oj3.pushN hv hg hk
  have low : ∀ j, j < w3.heap.size → c4.ownBlock ≠ some j → w4.heap[j]? = w3.heap[j]? := fun j hj hne => (hg.block j (by omega) (fun q => hne q.symm)).trans (Below.heap_alloc _ _ _ hj)
  have lowN : ∀ j, j < N → w4.heap[j]? = w3.heap[j]? := fun j hj => low j (by omega) (fun q => by have := (oj3.c4_lt q).1; omega)
  have bl4 : Tre.Box w4 (H + 1) #[.int .i64 k, .int .i64 0, .string ⟨#[]⟩, c3, c4] := (lowN _ (by omega)).trans (hT.boxV bl (by omega) (by omega))
  have fin : ∀ j, j ≠ H + 1 → (w4.setCell ⟨H + 1, 4, none⟩ v').heap[j]? = w4.heap[j]? := fun j hj => heap_setCell_other w4 ⟨H + 1, 4, none⟩ j v' hj
  have hb4 : Below (H + 2) w3 w4 := ⟨hg.os, hg.tape, hg.output, by have := hg.size; omega, fun j hj => lowN j (by omega)⟩
  refine ⟨bl4, ⟨oj4.keep fun j hj _ => fin j (by omega), (fin _ (by omega)).trans ((lowN _ (by omega)).trans (hT.boxV bz (by omega) (by omega))), heap_setCell_same w4 (H + 1) 4 _ _ v' bl4, ?_, ?_, hH, hb, hN, by have := hg.size; simp; omega⟩, fun g hg1 hgH hne => (fin g hgH).trans (low g hg1 hne)⟩
  · exact hP.low (B := H) ((hb4.mono (by omega)).setCell (p := ⟨H + 1, 4, none⟩) (by show H ≤ H + 1; omega) v') hb (by have := pr.lo; omega)
  · have h1 : Only b W w3 := hT.only on (by omega)
    exact h1.low2 ((hb4.mono (by omega)).setCell (p := ⟨H + 1, 4, none⟩) (by show W.heap.size ≤ H + 1; omega) v')
theorem three_new (W : World) (a c : Array Value) (T T' : TypeId) : (((W.alloc (.cells a T)).alloc (.cells c T')).alloc (.map #[] 0)).heap[W.heap.size]? = some (.cells a T (0, 0)) ∧ (((W.alloc (.cells a T)).alloc (.cells c T')).alloc (.map #[] 0)).heap[W.heap.size + 1]? = some (.cells c T' (0, 0)) ∧
    (((W.alloc (.cells a T)).alloc (.cells c T')).alloc (.map #[] 0)).heap.size = W.heap.size + 3 ∧ Seen (((W.alloc (.cells a T)).alloc (.cells c T')).alloc (.map #[] 0)) (W.heap.size + 2) 0 [] ∧ Below W.heap.size W (((W.alloc (.cells a T)).alloc (.cells c T')).alloc (.map #[] 0)) := by
  obtain ⟨h1, h2, h3⟩ := two_new W a c T T'
  have hs := Tre.seen_made ((W.alloc (.cells a T)).alloc (.cells c T'))
  rw [h3] at hs
  exact ⟨(Below.heap_alloc _ _ _ (by omega)).trans h1, (Below.heap_alloc _ _ _ (by omega)).trans h2, by simp, hs, (((Below.refl _ _).alloc (Nat.le_refl _) _).alloc (by simp) _).alloc (by omega) _⟩
end Go.Proofs.YtbpofhlnnldceaaGreatDoor.Par
