/- The document's lists and objects: what they keep in memory, and the calls told by what is left to read. Conditions: as each theorem states. -/
import Derived.Test.YteinaclkpickaaaGreatDoorParS
namespace Go.Proofs.YteinaclkpickaaaGreatDoor.Par
open Go.RowKit Go.Lib Go.Proofs.YteinaclkpickaaaGreatDoor.Byt Go.Proofs.YteinaclkpickaaaGreatDoor.Lx
open Go.Proofs.YteinaclkpickaaaGreatDoor.Tre (Vt V0 InS InS_upd)

/-- A list's variables: its result's block H, its own block H + 1, the rows from H + 2 on. -/
structure Lq (w0 : World) (b : Nat) (s : ByteArray) (k : Int) (W : World) (H N : Nat) (c3 : Value) (D : List (List Value)) (acc : List Vt) (c4 : Value) (ns : List ByteArray) (p o e : Nat) (wr : World) : Prop where
  oj : Oj N wr c3 D acc c4 ns
  bz : Tre.Box wr H #[.int .i64 0, .int .i64 0, .string ⟨#[]⟩, .slice none 0 0, .slice none 0 0]
  bl : Tre.Box wr (H + 1) #[.int .i64 k, .int .i64 0, .string ⟨#[]⟩, c3, c4]
  pr : Qr w0 b s p o e wr
  on : Only b W wr
  hH : H = W.heap.size
  hb : b < H
  hN : H + 2 ≤ N
  hz : N ≤ wr.heap.size

theorem Lq.next {w0 W wr w2 : World} {b p o e H N : Nat} {s : ByteArray} {k : Int} {c3 c4 : Value} {D : List (List Value)} {acc : List Vt} {ns : List ByteArray} (h : Lq w0 b s k W H N c3 D acc c4 ns p o e wr) (hb : Below wr.heap.size wr w2) : Lq w0 b s k W H N c3 D acc c4 ns p o e w2 :=
  ⟨h.oj.keep fun b _ hl => hb.block b hl, h.bz.next hb h.bz.lt, h.bl.next hb h.bl.lt, h.pr.next hb, h.on.next hb, h.hH, h.hb, h.hN, Nat.le_trans h.hz hb.size⟩
theorem Lq.nextO {w0 W wr w2 : World} {b p q o e o2 e2 H N : Nat} {s : ByteArray} {k : Int} {c3 c4 : Value} {D : List (List Value)} {acc : List Vt} {ns : List ByteArray} (h : Lq w0 b s k W H N c3 D acc c4 ns p o e wr) (ho : Only b wr w2) (hp : Qr w0 b s q o2 e2 w2) : Lq w0 b s k W H N c3 D acc c4 ns q o2 e2 w2 := by
  have hb := h.hb
  have hN := h.hN
  exact ⟨h.oj.keepO ho (by omega), ho.boxV h.bz (by omega), ho.boxV h.bl (by omega), hp, h.on.trans ho, h.hH, h.hb, hN, Nat.le_trans h.hz ho.size⟩
theorem Lq.start {w0 W w2 w1 : World} {b p q o e o2 e2 N : Nat} {s : ByteArray} {k : Int} (h : Qr w0 b s p o e W) (hN : W.heap.size + 2 ≤ N) (h1 : Tre.Box w2 W.heap.size #[.int .i64 0, .int .i64 0, .string ⟨#[]⟩, .slice none 0 0, .slice none 0 0])
    (h2 : Tre.Box w2 (W.heap.size + 1) #[.int .i64 k, .int .i64 0, .string ⟨#[]⟩, .slice none 0 0, .slice none 0 0]) (h3 : Below W.heap.size W w2) (h4 : N ≤ w2.heap.size) (hO : Only b w2 w1) (hP : Qr w0 b s q o2 e2 w1) : Lq w0 b s k W W.heap.size N (.slice none 0 0) [] [] (.slice none 0 0) [] q o2 e2 w1 := by
  have hbl := h.lt
  exact ⟨Oj.nil _ _, hO.boxV h1 (by omega), hO.boxV h2 (by omega), hP, (Only.of h3).trans hO, rfl, hbl, hN, Nat.le_trans h4 hO.size⟩
/-- Behind an append of a value that was read: what is known ahead of the store, and behind it. -/
theorem Lq.pushV {w0 W wr w3 w4 : World} {b p q o e o2 e2 H N M : Nat} {s : ByteArray} {k : Int} {c3 c4 v' : Value} {D : List (List Value)} {acc : List Vt} {ns : List ByteArray} {v : Vt} {es : List Value} {ob : Obj} (h : Lq w0 b s k W H N c3 D acc c4 ns p o e wr) (hO2 : Only b wr w3)
    (hP : Qr w0 b s q o2 e2 w3) (hM : wr.heap.size ≤ M) (hI : InS (fun k => M ≤ k) w3 v es) (hv : Tre.OwnR w4 N v' (D ++ [es])) (hg : (w3.alloc ob).grownBy w4 c3.ownBlock) (hk : ∀ b, v'.ownBlock = some b → c3.ownBlock = some b ∨ b = (w3.alloc ob).heap.size) :
    Tre.Box w4 (H + 1) #[.int .i64 k, .int .i64 0, .string ⟨#[]⟩, c3, c4] ∧ Lq w0 b s k W H N v' (D ++ [es]) (acc ++ [v]) c4 ns q o2 e2 (w4.setCell ⟨H + 1, 3, none⟩ v') ∧
      (∀ g, g < w3.heap.size → g ≠ H + 1 → c3.ownBlock ≠ some g → (w4.setCell ⟨H + 1, 3, none⟩ v').heap[g]? = w3.heap[g]?) := by
  obtain ⟨oj, bz, bl, pr, on, hH, hb, hN, hz⟩ := h
  have hz3 := hO2.size
  have oj3 := oj.keepO hO2 (by omega)
  have hs3 : (w3.alloc ob).heap.size = w3.heap.size + 1 := by simp
  have oj4 : Oj N w4 v' (D ++ [es]) (acc ++ [v]) c4 ns := oj3.pushV (M := M) hI (fun b hb => by
    rcases hb with hb | hb
    · have := (oj.c3_lt hb).2; omega
    · have := (oj.c4_lt hb).2; omega) (by omega) hv hg hk
  have low : ∀ j, j < w3.heap.size → c3.ownBlock ≠ some j → w4.heap[j]? = w3.heap[j]? := fun j hj hne => (hg.block j (by omega) (fun q => hne q.symm)).trans (Below.heap_alloc _ _ _ hj)
  have lowN : ∀ j, j < N → w4.heap[j]? = w3.heap[j]? := fun j hj => low j (by omega) (fun q => by have := (oj3.c3_lt q).1; omega)
  have bl4 : Tre.Box w4 (H + 1) #[.int .i64 k, .int .i64 0, .string ⟨#[]⟩, c3, c4] := (lowN _ (by omega)).trans (hO2.boxV bl (by omega))
  have fin : ∀ j, j ≠ H + 1 → (w4.setCell ⟨H + 1, 3, none⟩ v').heap[j]? = w4.heap[j]? := fun j hj => heap_setCell_other w4 ⟨H + 1, 3, none⟩ j v' hj
  have hb4 : Below (H + 2) w3 w4 := ⟨hg.os, hg.tape, hg.output, by have := hg.size; omega, fun j hj => lowN j (by omega)⟩
  refine ⟨bl4, ⟨oj4.keep fun j hj _ => fin j (by omega), (fin _ (by omega)).trans ((lowN _ (by omega)).trans (hO2.boxV bz (by omega))), heap_setCell_same w4 (H + 1) 3 _ _ v' bl4, ?_, ?_, hH, hb, hN, by have := hg.size; simp; omega⟩, fun g hg1 hgH hne => (fin g hgH).trans (low g hg1 hne)⟩
  · exact hP.low (B := H) ((hb4.mono (by omega)).setCell (p := ⟨H + 1, 3, none⟩) (by show H ≤ H + 1; omega) v') hb (by have := pr.lo; omega)
  · have h1 : Only b W w3 := on.trans hO2
    exact h1.low2 ((hb4.mono (by omega)).setCell (p := ⟨H + 1, 3, none⟩) (by show W.heap.size ≤ H + 1; omega) v')

/-- Behind an append of a name that was read. -/
theorem Lq.pushN {w0 W wr w3 w4 : World} {b p q o e o2 e2 H N : Nat} {s : ByteArray} {k : Int} {c3 c4 v' : Value} {D : List (List Value)} {acc : List Vt} {ns : List ByteArray} {x : ByteArray} {ob : Obj} (h : Lq w0 b s k W H N c3 D acc c4 ns p o e wr) (hT : Only b wr w3)
    (hP : Qr w0 b s q o2 e2 w3) (hv : Strs.Own w4 N v' (ns ++ [x])) (hg : (w3.alloc ob).grownBy w4 c4.ownBlock) (hk : ∀ b, v'.ownBlock = some b → c4.ownBlock = some b ∨ b = (w3.alloc ob).heap.size) :
    Tre.Box w4 (H + 1) #[.int .i64 k, .int .i64 0, .string ⟨#[]⟩, c3, c4] ∧ Lq w0 b s k W H N c3 D acc v' (ns ++ [x]) q o2 e2 (w4.setCell ⟨H + 1, 4, none⟩ v') ∧
      (∀ g, g < w3.heap.size → g ≠ H + 1 → c4.ownBlock ≠ some g → (w4.setCell ⟨H + 1, 4, none⟩ v').heap[g]? = w3.heap[g]?) := by
  obtain ⟨oj, bz, bl, pr, on, hH, hb, hN, hz⟩ := h
  have hz3 := hT.size
  have oj3 := oj.keepO hT (by omega)
  have hs3 : (w3.alloc ob).heap.size = w3.heap.size + 1 := by simp
  have oj4 : Oj N w4 c3 D acc v' (ns ++ [x]) := oj3.pushN hv hg hk
  have low : ∀ j, j < w3.heap.size → c4.ownBlock ≠ some j → w4.heap[j]? = w3.heap[j]? := fun j hj hne => (hg.block j (by omega) (fun q => hne q.symm)).trans (Below.heap_alloc _ _ _ hj)
  have lowN : ∀ j, j < N → w4.heap[j]? = w3.heap[j]? := fun j hj => low j (by omega) (fun q => by have := (oj3.c4_lt q).1; omega)
  have bl4 : Tre.Box w4 (H + 1) #[.int .i64 k, .int .i64 0, .string ⟨#[]⟩, c3, c4] := (lowN _ (by omega)).trans (hT.boxV bl (by omega))
  have fin : ∀ j, j ≠ H + 1 → (w4.setCell ⟨H + 1, 4, none⟩ v').heap[j]? = w4.heap[j]? := fun j hj => heap_setCell_other w4 ⟨H + 1, 4, none⟩ j v' hj
  have hb4 : Below (H + 2) w3 w4 := ⟨hg.os, hg.tape, hg.output, by have := hg.size; omega, fun j hj => lowN j (by omega)⟩
  refine ⟨bl4, ⟨oj4.keep fun j hj _ => fin j (by omega), (fin _ (by omega)).trans ((lowN _ (by omega)).trans (hT.boxV bz (by omega))), heap_setCell_same w4 (H + 1) 4 _ _ v' bl4, ?_, ?_, hH, hb, hN, by have := hg.size; simp; omega⟩, fun g hg1 hgH hne => (fin g hgH).trans (low g hg1 hne)⟩
  · exact hP.low (B := H) ((hb4.mono (by omega)).setCell (p := ⟨H + 1, 4, none⟩) (by show H ≤ H + 1; omega) v') hb (by have := pr.lo; omega)
  · have h1 : Only b W w3 := on.trans hT
    exact h1.low2 ((hb4.mono (by omega)).setCell (p := ⟨H + 1, 4, none⟩) (by show W.heap.size ≤ H + 1; omega) v')

/-- Rows that are empty yet may begin later. -/
theorem Lq.rebase {w0 W wr : World} {b p o e H N N' : Nat} {s : ByteArray} {k : Int} (h : Lq w0 b s k W H N (.slice none 0 0) [] [] (.slice none 0 0) [] p o e wr) (hN : N ≤ N') (hz : N' ≤ wr.heap.size) : Lq w0 b s k W H N' (.slice none 0 0) [] [] (.slice none 0 0) [] p o e wr := by
  obtain ⟨oj, bz, bl, pr, on, hH, hb, hN0, hz0⟩ := h
  exact ⟨Oj.nil _ _, bz, bl, pr, on, hH, hb, by omega, hz⟩
/-- Another variable below the rows is stored to. -/
theorem Lq.store {w0 W wr w2 : World} {b p o e H N : Nat} {s : ByteArray} {k : Int} {c3 c4 : Value} {D : List (List Value)} {acc : List Vt} {ns : List ByteArray} (h : Lq w0 b s k W H N c3 D acc c4 ns p o e wr) (g : Nat) (hg : H + 1 < g) (hgN : g < N)
    (hb : Below g wr w2) (hk : ∀ k, k ≠ g → w2.heap[k]? = wr.heap[k]?) : Lq w0 b s k W H N c3 D acc c4 ns p o e w2 := by
  obtain ⟨oj, bz, bl, pr, on, hH, hbH, hN0, hz0⟩ := h
  have hlo := pr.lo
  exact ⟨oj.keep fun j hj _ => hk j (by omega), (hk _ (by omega)).trans bz, (hk _ (by omega)).trans bl, pr.beside (pr.bel.trans (hb.mono (by omega))) (hk _ (by omega)), on.low2 (hb.mono (by omega)), hH, hbH, hN0, Nat.le_trans hz0 hb.size⟩

/-! ### what is left to read -/
/-- Either no fault yet, and the rest holds; or the fault is the answer's. -/
def Kt (R : Rs Vt) (o e : Nat) (good : Prop) : Prop := (e = 0 ∧ o = 0 ∧ good) ∨ (e ≠ 0 ∧ R = .no o e)
/-- A token at hand: it was read, and C is left to do with it; or it is none. -/
def TkT (l : List UInt8) (R : Rs Vt) (C : Tk → Nat → Rs Vt) (p : Nat) (kI : Int) (o1 z1 : Nat) (v1 : ByteArray) (n1 : Int) (pp oo ee : Nat) : Prop :=
  (ee = 0 ∧ oo = 0 ∧ ∃ t : Tk, kI = (t.k : Int) ∧ o1 = t.o ∧ z1 = t.z ∧ v1 = ⟨t.v.toArray⟩ ∧ n1 = t.n ∧ At l t pp ∧ p ≤ t.o ∧ R = C t pp) ∨
  (ee ≠ 0 ∧ kI = -1 ∧ o1 = 0 ∧ z1 = 0 ∧ v1 = ⟨#[]⟩ ∧ n1 = 0 ∧ R = .no oo ee)
abbrev tokW (kI : Int) (o1 z1 : Nat) (v1 : ByteArray) (n1 : Int) : Value := .agg #[.int .i64 kI, .int .i64 (o1 : Int), .int .i64 (z1 : Int), .string v1, .int .i64 n1]
theorem Kt.map {R : Rs Vt} {o e : Nat} {P Q : Prop} (h : Kt R o e P) (f : P → Q) : Kt R o e Q := by
  rcases h with ⟨a, b, c⟩ | h
  · exact .inl ⟨a, b, f c⟩
  · exact .inr h
theorem TkT.low {l : List UInt8} {R : Rs Vt} {C : Tk → Nat → Rs Vt} {p p2 : Nat} {kI : Int} {o1 z1 : Nat} {v1 : ByteArray} {n1 : Int} {pp oo ee : Nat} (h : TkT l R C p2 kI o1 z1 v1 n1 pp oo ee) (hp : p ≤ p2) : TkT l R C p kI o1 z1 v1 n1 pp oo ee := by
  rcases h with ⟨a, b, t, c, d, e, f, g, h, i, j⟩ | h
  · exact .inl ⟨a, b, t, c, d, e, f, g, h, Nat.le_trans hp i, j⟩
  · exact .inr h
section
variable {w0 : World} {b : Nat} {s : ByteArray} {R : Rs Vt}
theorem next_tie (hs : s.size ≤ 1000000) (C : Tk → Nat → Rs Vt) (p o e : Nat) (hp : p ≤ s.size) (W : World) (h : Qr w0 b s p o e W) (hK : Kt R o e (R = bnd (nt s.data.toList p) C)) :
    Calls Tryz.prog 16 #[.pointer (some ⟨b, 0, none⟩)] W fun e' W' => Only b W W' ∧ ∃ kI o1 z1 v1 n1 pp oo ee, e' = .returned (tokW kI o1 z1 v1 n1) ∧ Qr w0 b s pp oo ee W' ∧ p ≤ pp ∧ pp ≤ s.size ∧ TkT s.data.toList R C p kI o1 z1 v1 n1 pp oo ee := by
  have hl : s.data.toList.length = s.size := by simp
  rcases hK with ⟨rfl, rfl, hR⟩ | ⟨he, hR⟩
  · have hg := nt_good s.data.toList p (by omega)
    have hc := rnext_at w0 b s p W h hs hp
    cases hr : nt s.data.toList p with
    | no o' er =>
      rw [hr] at hc hR
      refine hc.mono fun e' W' ⟨k1, k2, k3, k4⟩ => ⟨k1, -1, 0, 0, ⟨#[]⟩, 0, p, o', er, k2, k3, Nat.le_refl _, hp, .inr ⟨k4, rfl, rfl, rfl, rfl, rfl, hR⟩⟩
    | ok t q =>
      rw [hr] at hc hR hg
      obtain ⟨g1, g2, g3, g4⟩ := hg
      refine hc.mono fun e' W' ⟨k1, k2, k3⟩ => ⟨k1, t.k, t.o, t.z, ⟨t.v.toArray⟩, t.n, q, 0, 0, k2, k3, g1, by omega, .inl ⟨rfl, rfl, t, rfl, rfl, rfl, rfl, rfl, g3, g4, hR⟩⟩
  · exact (rnext_more w0 b s p o e he W h).mono fun e' W' ⟨k1, k2⟩ => ⟨.of k2, -1, 0, 0, ⟨#[]⟩, 0, p, o, e, k1, h.next k2, Nat.le_refl _, hp, .inr ⟨he, rfl, rfl, rfl, rfl, rfl, hR⟩⟩
theorem next_tie0 (hs : s.size ≤ 1000000) (C : Tk → Nat → Rs Vt) (p o e : Nat) (hp : e = 0 → p ≤ s.size) (W : World) (h : Qr w0 b s p o e W) (hK : Kt R o e (R = bnd (nt s.data.toList p) C)) :
    Calls Tryz.prog 16 #[.pointer (some ⟨b, 0, none⟩)] W fun e' W' => Only b W W' ∧ ∃ kI o1 z1 v1 n1 pp oo ee, e' = .returned (tokW kI o1 z1 v1 n1) ∧ Qr w0 b s pp oo ee W' ∧ TkT s.data.toList R C 0 kI o1 z1 v1 n1 pp oo ee := by
  rcases hK with ⟨rfl, rfl, hR⟩ | ⟨he, hR⟩
  · exact (next_tie hs C p 0 0 (hp rfl) W h (.inl ⟨rfl, rfl, hR⟩)).mono fun e' W' ⟨k1, kI, o1, z1, v1, n1, pp, oo, ee, k2, k3, _, _, k4⟩ => ⟨k1, kI, o1, z1, v1, n1, pp, oo, ee, k2, k3, k4.low (Nat.zero_le _)⟩
  · exact (rnext_more w0 b s p o e he W h).mono fun e' W' ⟨k1, k2⟩ => ⟨.of k2, -1, 0, 0, ⟨#[]⟩, 0, p, o, e, k1, h.next k2, .inr ⟨he, rfl, rfl, rfl, rfl, rfl, hR⟩⟩
theorem wrong_tie (C : Tk → Nat → Rs Vt) (p : Nat) (kI : Int) (o1 z1 : Nat) (v1 : ByteArray) (n1 : Int) (pp oo ee : Nat) (W : World) (h : Qr w0 b s pp oo ee W) (hT : TkT s.data.toList R C p kI o1 z1 v1 n1 pp oo ee) (hC : ∀ t : Tk, kI = (t.k : Int) → C t pp = refu t) :
    Calls Tryz.prog 32 #[.pointer (some ⟨b, 0, none⟩), tokW kI o1 z1 v1 n1] W fun e' W' => Only b W W' ∧ e' = .returned nilV ∧ ∃ o' e'', Qr w0 b s pp o' e'' W' ∧ e'' ≠ 0 ∧ R = .no o' e'' := by
  rcases hT with ⟨rfl, rfl, t, rfl, rfl, rfl, rfl, rfl, ha, ho, hR⟩ | ⟨he, rfl, rfl, rfl, rfl, rfl, hR⟩
  · refine (rwrong_first w0 b s pp t W h).mono fun e' W' ⟨k1, k2, k3⟩ => ⟨k2, k1, _, _, k3, by split <;> omega, ?_⟩
    rw [hR, hC t rfl]
    rfl
  · exact (rwrong_more w0 b s pp oo ee he W h).mono fun e' W' ⟨k1, k2⟩ => ⟨.of k2, k1, oo, ee, h.next k2, he, hR⟩
theorem fail_tie (x y p o e : Nat) (hy : y ≠ 0) (W : World) (h : Qr w0 b s p o e W) (hK : Kt R o e (R = .no x y)) :
    Calls Tryz.prog 17 #[.pointer (some ⟨b, 0, none⟩), .int .i64 (x : Int), .int .i64 (y : Int)] W fun e' W' => Only b W W' ∧ e' = .returned (.tuple #[]) ∧ ∃ o' e'', Qr w0 b s p o' e'' W' ∧ e'' ≠ 0 ∧ R = .no o' e'' := by
  rcases hK with ⟨rfl, rfl, hR⟩ | ⟨he, hR⟩
  · exact (fail_first w0 b s p 0 W h x y).mono fun e' W' ⟨k1, k2, k3⟩ => ⟨k3, k1, x, y, k2, hy, hR⟩
  · exact (fail_more w0 b s p o e he W h _ _).mono fun e' W' ⟨k1, k2⟩ => ⟨k2 ▸ .refl _ _, k1, o, e, k2 ▸ h, he, hR⟩
theorem more_tie (hs : s.size ≤ 1000000) (C : Tk → Bool → Nat → Rs Vt) (en : Nat) (hen : en ≠ 6) (hen0 : en ≠ 0) (p o e : Nat) (hp : p ≤ s.size ∨ e ≠ 0) (W : World) (h : Qr w0 b s p o e W) (hK : Kt R o e (R = bnd (fol (nt s.data.toList) en p) fun x q => C x.1 x.2 q)) :
    Calls Tryz.prog 48 #[.pointer (some ⟨b, 0, none⟩), .int .i64 (en : Int)] W fun e' W' => Only b W W' ∧ ∃ bm p' o' e'', e' = .returned (.bool bm) ∧ Qr w0 b s p' o' e'' W' ∧
      (bm = true → e = 0 ∧ p < p' ∧ p' ≤ s.size ∧ o' = 0 ∧ e'' = 0 ∧ R = bnd (nt s.data.toList p') fun t q => C t true q) ∧ (bm = false → Kt R o' e'' (∃ t, R = C t false p')) := by
  have hl : s.data.toList.length = s.size := by simp
  rcases hK with ⟨rfl, rfl, hR⟩ | ⟨he, hR⟩
  · have hp : p ≤ s.size := by rcases hp with h | h; exact h; exact absurd rfl h
    have hg := nt_good s.data.toList p (by omega)
    have hc := rmore_at w0 b s p W h hs hp en
    unfold fol at hR
    cases hr : nt s.data.toList p with
    | no o' er =>
      rw [hr] at hc hR
      refine hc.mono fun e' W' ⟨k1, k2, k3, k4⟩ => ⟨k1, false, p, o', er, k2, k3, (fun q => by cases q), fun _ => .inr ⟨k4, hR⟩⟩
    | ok t q =>
      rw [hr] at hc hR hg
      obtain ⟨g1, g2, g3, g4⟩ := hg
      have hR2 : R = bnd (if t.k = en then .ok (t, false) q else if t.k = 6 then bnd (nt s.data.toList q) fun t2 q2 => .ok (t2, true) q2 else refu t) fun x q => C x.1 x.2 q := hR
      refine hc.mono fun e' W' ⟨k1, k2⟩ => ?_
      by_cases h6 : t.k = 6
      · have k2' : e' = .returned (.bool true) ∧ Qr w0 b s q 0 0 W' := by have := k2; simp only [if_pos h6] at this; exact this
        rw [if_neg (by omega), if_pos h6] at hR2
        refine ⟨k1, true, q, 0, 0, k2'.1, k2'.2, fun _ => ⟨rfl, by have := g3.pos (by omega); omega, by omega, rfl, rfl, ?_⟩, fun q => by cases q⟩
        rw [hR2]
        cases nt s.data.toList q <;> rfl
      · by_cases hke : t.k = en
        · have k2' : e' = .returned (.bool false) ∧ Qr w0 b s q 0 0 W' := by have := k2; simp only [if_neg h6, if_pos hke] at this; exact this
          rw [if_pos hke] at hR2
          exact ⟨k1, false, q, 0, 0, k2'.1, k2'.2, (fun q => by cases q), fun _ => .inl ⟨rfl, rfl, t, hR2⟩⟩
        · have k2' : e' = .returned (.bool false) ∧ Qr w0 b s q t.o (if t.k = 0 then 3 else 4) W' := by have := k2; simp only [if_neg h6, if_neg hke] at this; exact this
          rw [if_neg hke, if_neg h6] at hR2
          exact ⟨k1, false, q, t.o, _, k2'.1, k2'.2, (fun q => by cases q), fun _ => .inr ⟨by split <;> omega, hR2⟩⟩
  · exact (rmore_more w0 b s p o e he W h en).mono fun e' W' ⟨k1, k2⟩ => ⟨.of k2, false, p, o, e, k1, h.next k2, (fun q => by cases q), fun _ => .inr ⟨he, hR⟩⟩
/-- How the document's value ends. -/
def OutR (w0 : World) (b : Nat) (s : ByteArray) (W : World) (r : Rs Vt) (e : Ending) (W' : World) : Prop :=
  Only b W W' ∧ ∃ (v : Vt) (cs : List Value) (p' o' e' : Nat), e = .returned (.agg cs.toArray) ∧ InS (fun k => W.heap.size ≤ k) W' v cs ∧ Qr w0 b s p' o' e' W' ∧ Kt r o' e' (r = .ok v p')
theorem value_tie (hs : s.size ≤ 1000000) (m : Int) (f lv : Nat) (hlv : lv ≤ 64)
    (ih : ∀ (t : Tk) (p : Nat) (W : World), Qr w0 b s p 0 0 W → At s.data.toList t p → Fu s.data.toList f t p → Calls Tryz.prog 15 #[.pointer (some ⟨b, 0, none⟩), tkV t, .int .i64 m] W (OutR w0 b s W (val (nt s.data.toList) f t lv p)))
    (ihb : ∀ (p o e : Nat) (W : World), e ≠ 0 → Qr w0 b s p o e W → Calls Tryz.prog 15 #[.pointer (some ⟨b, 0, none⟩), badT, .int .i64 m] W fun e' W' => e' = .returned nilV ∧ Below W.heap.size W W')
    (D : Vt → Nat → Rs Vt) (p : Nat) (hf : s.size + 1 ≤ f + p) (kI : Int) (o1 z1 : Nat) (v1 : ByteArray) (n1 : Int) (pp oo ee : Nat) (W : World) (h : Qr w0 b s pp oo ee W)
    (hT : TkT s.data.toList R (fun t q => bnd (val (nt s.data.toList) f t lv q) D) p kI o1 z1 v1 n1 pp oo ee) :
    Calls Tryz.prog 15 #[.pointer (some ⟨b, 0, none⟩), tokW kI o1 z1 v1 n1, .int .i64 m] W fun e' W' => Only b W W' ∧ ∃ (v : Vt) (cs : List Value) (p' o' e'' : Nat), e' = .returned (.agg cs.toArray) ∧ InS (fun k => W.heap.size ≤ k) W' v cs ∧ Qr w0 b s p' o' e'' W' ∧
      Kt R o' e'' (ee = 0 ∧ pp ≤ p' ∧ p' ≤ s.size ∧ R = D v p') := by
  have hl : s.data.toList.length = s.size := by simp
  rcases hT with ⟨rfl, rfl, t, rfl, rfl, rfl, rfl, rfl, ha, ho, hR⟩ | ⟨he, rfl, rfl, rfl, rfl, rfl, hR⟩
  · replace hR : R = bnd (val (nt s.data.toList) f t lv pp) D := hR
    have hFu := Fu_next (f := f) (p := p) (by omega) ha ho
    have hg := val_good (l := s.data.toList) (by omega) f t lv pp ha hFu hlv
    refine (ih t pp W h ha hFu).mono fun e' W' ⟨k1, v, cs, p', o', e'', k2, k3, k4, k5⟩ => ⟨k1, v, cs, p', o', e'', k2, k3, k4, ?_⟩
    rcases k5 with ⟨rfl, rfl, hv⟩ | ⟨he, hv⟩
    · rw [hv] at hg hR
      exact .inl ⟨rfl, rfl, rfl, hg.1, by have := hg.2.1; omega, hR⟩
    · rw [hv] at hR
      exact .inr ⟨he, hR⟩
  · exact (ihb pp oo ee W he h).mono fun e' W' ⟨k1, k2⟩ => ⟨.of k2, V0, [.int .i64 0, .int .i64 0, .string ⟨#[]⟩, .slice none 0 0, .slice none 0 0], pp, oo, ee, k1, scal_in _ _ _ _ _, h.next k2, .inr ⟨he, hR⟩⟩
end
section
variable {ops : Array Oper} {rest : List Oper} {o : Oper} {a : Act} {Q : Exit → Act → World → Prop}
theorem wpList_npush (W : World) (hg : o.guard = none) (s x : Operand) (ho : o.op = .call { callee := .builtin .append, args := #[s, x], argTypes := #[24, 24] })
    (B : Nat) (v : Value) (l : List ByteArray) (hs : a.eval s = v) (hown : Strs.Own W B v l) (hB : B ≤ W.heap.size)
    (g c : Nat) (hx : a.eval x = .slice (some ⟨g, 0, none⟩) 1 c) (t : ByteArray) (fr : Nat × Nat) (hblk : W.heap[g]? = some (.cells #[.string t] 9 fr)) (hlim : (l.length + 1) * 16 ≤ 140737488355328)
    (h : ∀ v' w', Strs.Own w' B v' (l ++ [t]) → W.grownBy w' v.ownBlock → (∀ b, v'.ownBlock = some b → v.ownBlock = some b ∨ b = W.heap.size) → wpList Tryz.prog ops Q rest (a.put o.dst v') w') : wpList Tryz.prog ops Q (o :: rest) a W := by
  obtain ⟨v', w', hr, h2, h3, h4⟩ := Tre.run_npush W o.type B v l hown hB g c t fr hblk hlim
  refine wpList_plain hg fun K hK => ?_
  unfold Oper.wp execOp
  simp only [ho, resolve, invoke, builtin, Sem.run_bind, Sem.run_pure, Result.andThen_ok, List.map_toArray, List.map_cons, List.map_nil, hs, hx, hr]
  exact hK _ _ (h v' w' h2 h3 h4)
end
end Go.Proofs.YteinaclkpickaaaGreatDoor.Par
