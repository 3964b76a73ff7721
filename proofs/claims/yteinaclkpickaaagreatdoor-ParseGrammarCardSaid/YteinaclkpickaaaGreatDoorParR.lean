/- The document's reader in memory; contracts of its fail, next, wrong, more, twice. Conditions: as each theorem states. -/
import Derived.Test.YteinaclkpickaaaGreatDoorParG3
import Derived.Test.YteinaclkpickaaaGreatDoorLexH
namespace Go.Proofs.YteinaclkpickaaaGreatDoor.Par
open Go.RowKit Go.Lib Go.Proofs.YteinaclkpickaaaGreatDoor.Byt Go.Proofs.YteinaclkpickaaaGreatDoor.Lx
open Go.Proofs.YteinaclkpickaaaGreatDoor.Tre (Vt V0 InS InS_upd)

/-- The document's reader at block b: s, how far it is read, the first fault and where it stands; w0 is the world in which the call began. -/
structure Qr (w0 : World) (b : Nat) (s : ByteArray) (p o e : Nat) (W : World) : Prop where
  lo : w0.heap.size ≤ b
  cells : W.heap[b]? = some (.cells #[.string s, .int .i64 (p : Int), .int .i64 (o : Int), .int .i64 (e : Int)] 45 (0, 0))
  bel : Below w0.heap.size w0 W
section
variable {w0 W W' : World} {b p o e : Nat} {s : ByteArray}
theorem Qr.lt (h : Qr w0 b s p o e W) : b < W.heap.size := by
  rcases Nat.lt_or_ge b W.heap.size with h' | h'
  · exact h'
  · have := h.cells; simp [Array.getElem?_eq_none h'] at this
theorem Qr.next (h : Qr w0 b s p o e W) (hb : Below W.heap.size W W') : Qr w0 b s p o e W' := ⟨h.lo, (hb.block b h.lt).trans h.cells, h.bel.trans (hb.mono h.bel.size)⟩
theorem Qr.drew (h : Qr w0 b s p o e W) : Qr w0 b s p o e W.drew := ⟨h.lo, h.cells, h.bel.drew⟩
theorem Qr.alloc (h : Qr w0 b s p o e W) (x : Obj) : Qr w0 b s p o e (W.alloc x) := h.next ((Below.refl _ _).alloc (Nat.le_refl _) x)
theorem Qr.c0 (h : Qr w0 b s p o e W) : W.cell? ⟨b, 0, none⟩ = some (.string s) := by rw [Lib.cell_of_heap h.cells]; rfl
theorem Qr.c1 (h : Qr w0 b s p o e W) : W.cell? ⟨b, 1, none⟩ = some (.int .i64 (p : Int)) := by rw [Lib.cell_of_heap h.cells]; rfl
theorem Qr.c2 (h : Qr w0 b s p o e W) : W.cell? ⟨b, 2, none⟩ = some (.int .i64 (o : Int)) := by rw [Lib.cell_of_heap h.cells]; rfl
theorem Qr.c3 (h : Qr w0 b s p o e W) : W.cell? ⟨b, 3, none⟩ = some (.int .i64 (e : Int)) := by rw [Lib.cell_of_heap h.cells]; rfl
theorem Qr.free (h : Qr w0 b s p o e W) (j : Nat) : W.frozen? ⟨b, j, none⟩ = false := Lib.frozen_of_heap h.cells j
theorem Qr.put1 (h : Qr w0 b s p o e W) (q : Nat) : Qr w0 b s q o e (W.setCell ⟨b, 1, none⟩ (.int .i64 (q : Int))) :=
  ⟨h.lo, Go.heap_setCell_same W b 1 _ _ (.int .i64 (q : Int)) h.cells, h.bel.setCell (p := ⟨b, 1, none⟩) h.lo _⟩
theorem Qr.put2 (h : Qr w0 b s p o e W) (q : Nat) : Qr w0 b s p q e (W.setCell ⟨b, 2, none⟩ (.int .i64 (q : Int))) :=
  ⟨h.lo, Go.heap_setCell_same W b 2 _ _ (.int .i64 (q : Int)) h.cells, h.bel.setCell (p := ⟨b, 2, none⟩) h.lo _⟩
theorem Qr.put3 (h : Qr w0 b s p o e W) (q : Nat) : Qr w0 b s p o q (W.setCell ⟨b, 3, none⟩ (.int .i64 (q : Int))) :=
  ⟨h.lo, Go.heap_setCell_same W b 3 _ _ (.int .i64 (q : Int)) h.cells, h.bel.setCell (p := ⟨b, 3, none⟩) h.lo _⟩
theorem Qr.low {W2 : World} {B : Nat} (h : Qr w0 b s p o e W') (k : Below B W' W2) (hb : b < B) (hw : w0.heap.size ≤ B) : Qr w0 b s p o e W2 := ⟨h.lo, (k.block b hb).trans h.cells, h.bel.trans (k.mono hw)⟩
theorem Qr.beside (h : Qr w0 b s p o e W) (hb : Below w0.heap.size w0 W') (k : W'.heap[b]? = W.heap[b]?) : Qr w0 b s p o e W' := ⟨h.lo, k.trans h.cells, hb⟩
end
/-- What the document's reader says of a fault: the first one stays. -/
def fst1 (e x y : Nat) : Nat := if e = 0 then x else y

theorem fail_first (w0 : World) (b : Nat) (s : ByteArray) (p o : Nat) (W : World) (h : Qr w0 b s p o 0 W) (x y : Nat) :
    Calls Tryz.prog 17 #[.pointer (some ⟨b, 0, none⟩), .int .i64 (x : Int), .int .i64 (y : Int)] W fun e w' => e = .returned (.tuple #[]) ∧ Qr w0 b s p x y w' ∧ Only b W w' := by
  have c3 : W.cell? ⟨b, 3, none⟩ = some (.int .i64 0) := h.c3
  have f2 := h.free 2
  have f3 := h.free 3
  have h2 := h.put2 x
  have c3b : (W.setCell ⟨b, 2, none⟩ (.int .i64 (x : Int))).cell? ⟨b, 3, none⟩ = some (.int .i64 0) := h2.c3
  have c2 : W.cell? ⟨b, 2, none⟩ = some (.int .i64 (o : Int)) := h.c2
  have f3b := h2.free 3
  have h3 := h2.put3 y
  have o3 := ((Only.refl b W).put 2 (.int .i64 (x : Int))).put 3 (.int .i64 (y : Int))
  go_enter Tryz.func17, Tryz.ntmps17
  go_wp2_with fail
  first | go_end0 | refine bodyPost_ret (results_none rfl _ _ _) rfl ?_
  exact ⟨rfl, h3, o3⟩
theorem fail_more (w0 : World) (b : Nat) (s : ByteArray) (p o e : Nat) (he : e ≠ 0) (W : World) (h : Qr w0 b s p o e W) (x y : Value) :
    Calls Tryz.prog 17 #[.pointer (some ⟨b, 0, none⟩), x, y] W fun e' w' => e' = .returned (.tuple #[]) ∧ w' = W := by
  have c3 := h.c3
  have hb : ((e : Int) == 0) = false := by rw [beq_eq_false_iff_ne]; omega
  clear he
  go_enter Tryz.func17, Tryz.ntmps17
  go_wp2_with fail
  first | go_end0 | refine bodyPost_ret (results_none rfl _ _ _) rfl ?_
  exact ⟨rfl, rfl⟩

/-- The token that is none. -/
abbrev badT : Value := .agg #[.int .i64 (-1), .int .i64 0, .int .i64 0, .string ⟨#[]⟩, .int .i64 0]
abbrev nilV : Value := .agg #[.int .i64 0, .int .i64 0, .string ⟨#[]⟩, .slice none 0 0, .slice none 0 0]
/-- How the document's next ends. -/
def OutN' (w0 : World) (b : Nat) (s : ByteArray) (p : Nat) (W : World) (r : Rs Tk) (e : Ending) (W' : World) : Prop :=
  Only b W W' ∧ match r with
  | .ok t q => e = .returned (tkV t) ∧ Qr w0 b s q 0 0 W'
  | .no o er => e = .returned badT ∧ Qr w0 b s p o er W' ∧ er ≠ 0
theorem rnext_more (w0 : World) (b : Nat) (s : ByteArray) (p o e : Nat) (he : e ≠ 0) (W : World) (h : Qr w0 b s p o e W) :
    Calls Tryz.prog 16 #[.pointer (some ⟨b, 0, none⟩)] W fun e' w' => e' = .returned badT ∧ Below W.heap.size W w' := by
  have hb : ((e : Int) != 0) = true := by rw [bne_iff_ne]; omega
  have c3 := h.c3
  have hbl := h.lt
  have e0 : Below W.heap.size W (W.alloc (.cells #[.int .i64 (-1), .int .i64 0, .int .i64 0, .string ⟨#[]⟩, .int .i64 0] 41)) := (Below.refl _ _).alloc (Nat.le_refl _) _
  clear he
  go_enter Tryz.func16, Tryz.ntmps16
  go_wp2_with fail
  go_returns
  exact ⟨rfl, e0⟩

/-- A reader, and what was there stays. -/
structure Nq (w0 : World) (b : Nat) (s : ByteArray) (p : Nat) (W1 W' : World) : Prop where
  pr : Qr w0 b s p 0 0 W'
  be : Below W1.heap.size W1 W'
  lt : b < W1.heap.size
section
variable {w0 W1 W' W2 : World} {b p : Nat} {s : ByteArray}
theorem Nq.next (h : Nq w0 b s p W1 W') (k : Below W'.heap.size W' W2) : Nq w0 b s p W1 W2 := ⟨h.pr.next k, h.be.trans (k.mono h.be.size), h.lt⟩
theorem Nq.drew (h : Nq w0 b s p W1 W') : Nq w0 b s p W1 W'.drew := ⟨h.pr.drew, h.be.drew, h.lt⟩
theorem Nq.alloc (h : Nq w0 b s p W1 W') (o : Obj) : Nq w0 b s p W1 (W'.alloc o) := h.next ((Below.refl _ _).alloc (Nat.le_refl _) o)
theorem Nq.set (h : Nq w0 b s p W1 W') {g : Nat} (hg : W1.heap.size ≤ g) (j : Nat) (u : Value) : Nq w0 b s p W1 (W'.setCell ⟨g, j, none⟩ u) :=
  ⟨h.pr.beside ((h.pr.bel.trans ⟨rfl, rfl, rfl, by simp [World.setCell], fun k hk => Below.heap_setCell _ _ _ _ (by have := h.lt; have := h.pr.lo; show k ≠ g; omega)⟩)) (heap_setCell_other _ _ _ _ (by have := h.lt; show b ≠ g; omega)), h.be.setCell (p := ⟨g, j, none⟩) hg u, h.lt⟩
theorem Nq.sets (h : Nq w0 b s p W1 W') {g : Nat} (hg : W1.heap.size ≤ g) (u0 u1 u2 u3 u4 : Value) :
    Nq w0 b s p W1 (((((W'.setCell ⟨g, 0, none⟩ u0).setCell ⟨g, 1, none⟩ u1).setCell ⟨g, 2, none⟩ u2).setCell ⟨g, 3, none⟩ u3).setCell ⟨g, 4, none⟩ u4) := ((((h.set hg 0 u0).set hg 1 u1).set hg 2 u2).set hg 3 u3).set hg 4 u4
end

set_option maxRecDepth 100000 in
set_option maxHeartbeats 2000000 in
theorem rnext_at (w0 : World) (b : Nat) (s : ByteArray) (p : Nat) (W : World) (h : Qr w0 b s p 0 0 W) (hs : s.size ≤ 1000000) (hp : p ≤ s.size) :
    Calls Tryz.prog 16 #[.pointer (some ⟨b, 0, none⟩)] W (OutN' w0 b s p W (nt s.data.toList p)) := by
  have HN0 := fun W => Lx.rnext_any s (p : Int) hs W
  rw [nxA_at s p hp, nR_tk] at HN0
  rw [nt_sf]
  have hg := nx_good (sf s p)
  rw [sf_len] at hg
  have H := Lib.hid HN0
  clear HN0
  by_cases he : (nx (sf s p)).1 = 0
  · rw [if_pos he]
    obtain ⟨_, hle, _⟩ := hg he
    have hx1 : ((nx (sf s p)).2.sh p).o + ((nx (sf s p)).2.sh p).z ≤ s.size := by show p + (nx (sf s p)).2.o + (nx (sf s p)).2.z ≤ _; omega
    have hx2 : p + (nx (sf s p)).2.o + (nx (sf s p)).2.z = ((nx (sf s p)).2.sh p).o + ((nx (sf s p)).2.sh p).z := rfl
    rw [hx2]
    rw [he] at H
    clear hx2 hle hg he
    generalize (nx (sf s p)).2.sh p = X at *
    have e0 : Below W.heap.size W (W.alloc (.cells #[.int .i64 0, .int .i64 0, .int .i64 0, .string ⟨#[]⟩, .int .i64 0] 41)) := (Below.refl _ _).alloc (Nat.le_refl _) _
    have b0 : Box (W.alloc (.cells #[.int .i64 0, .int .i64 0, .int .i64 0, .string ⟨#[]⟩, .int .i64 0] 41)) W.heap.size _ := box_new _ _
    have h0 := h.next e0
    have c3 : (W.alloc (.cells #[.int .i64 0, .int .i64 0, .int .i64 0, .string ⟨#[]⟩, .int .i64 0] 41)).cell? ⟨b, 3, none⟩ = some (.int .i64 0) := h0.c3
    have hs0 : W.heap.size < (W.alloc (.cells #[.int .i64 0, .int .i64 0, .int .i64 0, .string ⟨#[]⟩, .int .i64 0] 41)).heap.size := by simp
    have hbl := h.lt
    go_enter Tryz.func16, Tryz.ntmps16
    go_wp2_with fail
    generalize W.alloc (.cells #[.int .i64 0, .int .i64 0, .int .i64 0, .string ⟨#[]⟩, .int .i64 0] 41) = W1 at *
    have hdr := (⟨h0, Below.refl _ _, by omega⟩ : Nq w0 b s p W1 W1).drew
    have d0 : ∀ W, Nq w0 b s p W1 W → W.cell? ⟨b, 0, none⟩ = some (.string s) := fun W hw => hw.pr.c0
    have d1 : ∀ W, Nq w0 b s p W1 W → W.cell? ⟨b, 1, none⟩ = some (.int .i64 (p : Int)) := fun W hw => hw.pr.c1
    clear c3
    go_region_held3 (Nq w0 b s p W1) (first | exact hdr | assumption | exact Nq.alloc (by assumption) _ | exact Nq.sets (by assumption) (Nat.le_refl _) _ _ _ _ _ | exact Nq.sets (by assumption) (by assumption) _ _ _ _ _)
      ((go_at_call 33; (with_reducible refine (H.out _).mono ?_); rintro e w1 ⟨rfl, hb1⟩; have nr1 := Nq.next (by assumption) hb1; have hle1 := nr1.be.size; have ck := fun h j => keep_at (g := W1.heap.size) hb1 h (j := j); have cz := fun h j => keep_free (g := W1.heap.size) hb1 h (j := j)))
    · have bx : Box (w1.alloc (.cells #[.int .i64 (X.k : Int), .int .i64 (X.o : Int), .int .i64 (X.z : Int), .string ⟨X.v.toArray⟩, .int .i64 X.n] 41)) w1.heap.size _ := box_new _ _
      have nr : Nq w0 b s p W1 (w1.alloc (.cells #[.int .i64 (X.k : Int), .int .i64 (X.o : Int), .int .i64 (X.z : Int), .string ⟨X.v.toArray⟩, .int .i64 X.n] 41)) := by assumption
      clear ck cz nr1 hb1
      generalize (w1.alloc (.cells #[.int .i64 (X.k : Int), .int .i64 (X.o : Int), .int .i64 (X.z : Int), .string ⟨X.v.toArray⟩, .int .i64 X.n] 41)) = w2 at *
      generalize w1.heap.size = g at *
      have r1 : w2.cell? ⟨g, 1, none⟩ = some (.int .i64 (X.o : Int)) := bx.cell 1
      have r2 : w2.cell? ⟨g, 2, none⟩ = some (.int .i64 (X.z : Int)) := bx.cell 2
      have f1 := nr.pr.free 1
      have hgb : g ≠ b := by have := nr.lt; omega
      have bx2 := box_other (j := 1) bx hgb (.int .i64 ((X.o + X.z : Nat) : Int))
      have b2 := box_other (j := 1) (b0.next nr.be hs0) (by omega : W.heap.size ≠ b) (.int .i64 ((X.o + X.z : Nat) : Int))
      have p2 := nr.pr.put1 (X.o + X.z)
      have o2 : Only b W (w2.setCell ⟨b, 1, none⟩ (.int .i64 ((X.o + X.z : Nat) : Int))) := Only.put ((Only.of e0).next nr.be) 1 _
      have hwr : IntKind.i64.wrap ((X.o : Int) + (X.z : Int)) = ((X.o + X.z : Nat) : Int) := by rw [IntKind.wrap_i64]; omega
      clear nr bx
      generalize hJ : X.o + X.z = J at *
      have HJ := Lib.hid hJ
      clear hJ
      have lw := Below.refl W.heap.size (w2.setCell ⟨b, 1, none⟩ (.int .i64 (J : Int)))
      go_wp2_with (first
        | (refine wpList_fetch _ rfl _ rfl g _ rfl bx2 rfl ?_)
        | (refine Lx.wpList_keep _ rfl _ _ rfl W.heap.size _ lw W.heap.size (Nat.le_refl _) _ _ _ _ _ _ rfl rfl b2 rfl ?_; intro w3 bx3 hb3 hk3))
      try simp only [Exit.inBlock, Exit.then]
      refine bodyPost_ret (results_one rfl _ _ _ _ rfl bx3 rfl) rfl ?_
      exact ⟨o2.low2 hb3, rfl, HJ.out ▸ p2.low hb3 hbl (by have := h.bel.size; omega)⟩
    · have bx : Box (((((w1.setCell ⟨W1.heap.size, 0, none⟩ (.int .i64 (X.k : Int))).setCell ⟨W1.heap.size, 1, none⟩ (.int .i64 (X.o : Int))).setCell ⟨W1.heap.size, 2, none⟩ (.int .i64 (X.z : Int))).setCell ⟨W1.heap.size, 3, none⟩ (.string ⟨X.v.toArray⟩)).setCell ⟨W1.heap.size, 4, none⟩ (.int .i64 X.n)) W1.heap.size _ := box_sets (Box.next (show Box (W1.alloc (.cells #[.int .i64 0, .int .i64 0, .int .i64 0, .string ⟨#[]⟩, .int .i64 0] 41)).drew W1.heap.size _ from box_new W1 _) hb1 (by show _ < (W1.alloc _).heap.size; simp)) _ _ _ _ _
      have nr : Nq w0 b s p W1 (((((w1.setCell ⟨W1.heap.size, 0, none⟩ (.int .i64 (X.k : Int))).setCell ⟨W1.heap.size, 1, none⟩ (.int .i64 (X.o : Int))).setCell ⟨W1.heap.size, 2, none⟩ (.int .i64 (X.z : Int))).setCell ⟨W1.heap.size, 3, none⟩ (.string ⟨X.v.toArray⟩)).setCell ⟨W1.heap.size, 4, none⟩ (.int .i64 X.n)) := by assumption
      have hle2 : W1.heap.size ≤ W1.heap.size := Nat.le_refl _
      clear ck cz nr1 hb1 hle1
      generalize (((((w1.setCell ⟨W1.heap.size, 0, none⟩ (.int .i64 (X.k : Int))).setCell ⟨W1.heap.size, 1, none⟩ (.int .i64 (X.o : Int))).setCell ⟨W1.heap.size, 2, none⟩ (.int .i64 (X.z : Int))).setCell ⟨W1.heap.size, 3, none⟩ (.string ⟨X.v.toArray⟩)).setCell ⟨W1.heap.size, 4, none⟩ (.int .i64 X.n)) = w2 at *
      have r1 : w2.cell? ⟨W1.heap.size, 1, none⟩ = some (.int .i64 (X.o : Int)) := bx.cell 1
      have r2 : w2.cell? ⟨W1.heap.size, 2, none⟩ = some (.int .i64 (X.z : Int)) := bx.cell 2
      have f1 := nr.pr.free 1
      have hgb : W1.heap.size ≠ b := by have := nr.lt; omega
      have bx2 := box_other (j := 1) bx hgb (.int .i64 ((X.o + X.z : Nat) : Int))
      have b2 := box_other (j := 1) (b0.next nr.be hs0) (by omega : W.heap.size ≠ b) (.int .i64 ((X.o + X.z : Nat) : Int))
      have p2 := nr.pr.put1 (X.o + X.z)
      have o2 : Only b W (w2.setCell ⟨b, 1, none⟩ (.int .i64 ((X.o + X.z : Nat) : Int))) := Only.put ((Only.of e0).next nr.be) 1 _
      have hwr : IntKind.i64.wrap ((X.o : Int) + (X.z : Int)) = ((X.o + X.z : Nat) : Int) := by rw [IntKind.wrap_i64]; omega
      clear nr bx
      generalize hJ : X.o + X.z = J at *
      have HJ := Lib.hid hJ
      clear hJ
      have lw := Below.refl W.heap.size (w2.setCell ⟨b, 1, none⟩ (.int .i64 (J : Int)))
      go_wp2_with (first
        | (refine wpList_fetch _ rfl _ rfl W1.heap.size _ rfl bx2 rfl ?_)
        | (refine Lx.wpList_keep _ rfl _ _ rfl W.heap.size _ lw W.heap.size (Nat.le_refl _) _ _ _ _ _ _ rfl rfl b2 rfl ?_; intro w3 bx3 hb3 hk3))
      try simp only [Exit.inBlock, Exit.then]
      refine bodyPost_ret (results_one rfl _ _ _ _ rfl bx3 rfl) rfl ?_
      exact ⟨o2.low2 hb3, rfl, HJ.out ▸ p2.low hb3 hbl (by have := h.bel.size; omega)⟩
  · rw [if_neg he]
    have hx2 : p + (nx (sf s p)).2.o = ((nx (sf s p)).2.sh p).o := rfl
    rw [hx2]
    have hne : (((nx (sf s p)).1 : Int) != 0) = true := by rw [bne_iff_ne]; omega
    have HE := Lib.hid he
    clear hx2 hg he
    generalize (nx (sf s p)).2.sh p = X at *
    generalize (nx (sf s p)).1 = E at *
    have HF := Lib.hid (fun W hw => fail_first w0 b s p 0 W hw X.o E)
    have e0 : Below W.heap.size W (W.alloc (.cells #[.int .i64 0, .int .i64 0, .int .i64 0, .string ⟨#[]⟩, .int .i64 0] 41)) := (Below.refl _ _).alloc (Nat.le_refl _) _
    have b0 : Box (W.alloc (.cells #[.int .i64 0, .int .i64 0, .int .i64 0, .string ⟨#[]⟩, .int .i64 0] 41)) W.heap.size _ := box_new _ _
    have h0 := h.next e0
    have c3 : (W.alloc (.cells #[.int .i64 0, .int .i64 0, .int .i64 0, .string ⟨#[]⟩, .int .i64 0] 41)).cell? ⟨b, 3, none⟩ = some (.int .i64 0) := h0.c3
    have hs0 : W.heap.size < (W.alloc (.cells #[.int .i64 0, .int .i64 0, .int .i64 0, .string ⟨#[]⟩, .int .i64 0] 41)).heap.size := by simp
    have hbl := h.lt
    go_enter Tryz.func16, Tryz.ntmps16
    go_wp2_with fail
    generalize W.alloc (.cells #[.int .i64 0, .int .i64 0, .int .i64 0, .string ⟨#[]⟩, .int .i64 0] 41) = W1 at *
    have hdr := (⟨h0, Below.refl _ _, by omega⟩ : Nq w0 b s p W1 W1).drew
    have d0 : ∀ W, Nq w0 b s p W1 W → W.cell? ⟨b, 0, none⟩ = some (.string s) := fun W hw => hw.pr.c0
    have d1 : ∀ W, Nq w0 b s p W1 W → W.cell? ⟨b, 1, none⟩ = some (.int .i64 (p : Int)) := fun W hw => hw.pr.c1
    clear c3
    go_region_held3 (Nq w0 b s p W1) (first | exact hdr | assumption | exact Nq.alloc (by assumption) _ | exact Nq.sets (by assumption) (Nat.le_refl _) _ _ _ _ _ | exact Nq.sets (by assumption) (by assumption) _ _ _ _ _)
      ((go_at_call 33; (with_reducible refine (H.out _).mono ?_); rintro e w1 ⟨rfl, hb1⟩; have nr1 := Nq.next (by assumption) hb1; have hle1 := nr1.be.size; have ck := fun h j => keep_at (g := W1.heap.size) hb1 h (j := j); have cz := fun h j => keep_free (g := W1.heap.size) hb1 h (j := j)))
    · have bx : Box (w1.alloc (.cells #[.int .i64 (X.k : Int), .int .i64 (X.o : Int), .int .i64 (X.z : Int), .string ⟨X.v.toArray⟩, .int .i64 X.n] 41)) w1.heap.size _ := box_new _ _
      have nr : Nq w0 b s p W1 (w1.alloc (.cells #[.int .i64 (X.k : Int), .int .i64 (X.o : Int), .int .i64 (X.z : Int), .string ⟨X.v.toArray⟩, .int .i64 X.n] 41)) := by assumption
      clear ck cz nr1 hb1
      generalize (w1.alloc (.cells #[.int .i64 (X.k : Int), .int .i64 (X.o : Int), .int .i64 (X.z : Int), .string ⟨X.v.toArray⟩, .int .i64 X.n] 41)) = w2 at *
      generalize w1.heap.size = g at *
      have r1 : w2.cell? ⟨g, 1, none⟩ = some (.int .i64 (X.o : Int)) := bx.cell 1
      have hgb : g ≠ b := by have := nr.lt; omega
      have hq2 := nr.pr
      have b2 := b0.next nr.be hs0
      have o2 : Only b W w2 := (Only.of e0).next nr.be
      clear nr
      go_wp2_with fail
      refine (HF.out _ hq2).mono ?_
      rintro e w3 ⟨rfl, hq3, ho3⟩
      have b3 := ho3.box b2 (by omega)
      have o3 := o2.trans ho3
      have lw := Below.refl W.heap.size w3
      clear bx r1 b2 o2 hq2 ho3
      go_wp2_with (refine Lx.wpList_keep _ rfl _ _ rfl W.heap.size _ lw W.heap.size (Nat.le_refl _) _ _ _ _ _ _ rfl rfl b3 rfl ?_; intro w4 bx4 hb4 hk4)
      try simp only [Exit.inBlock, Exit.then]
      refine bodyPost_ret (results_one rfl _ _ _ _ rfl bx4 rfl) rfl ?_
      exact ⟨o3.low2 hb4, rfl, hq3.low hb4 hbl (by have := h.bel.size; omega), HE.out⟩
    · have bx : Box (((((w1.setCell ⟨W1.heap.size, 0, none⟩ (.int .i64 (X.k : Int))).setCell ⟨W1.heap.size, 1, none⟩ (.int .i64 (X.o : Int))).setCell ⟨W1.heap.size, 2, none⟩ (.int .i64 (X.z : Int))).setCell ⟨W1.heap.size, 3, none⟩ (.string ⟨X.v.toArray⟩)).setCell ⟨W1.heap.size, 4, none⟩ (.int .i64 X.n)) W1.heap.size _ := box_sets (Box.next (show Box (W1.alloc (.cells #[.int .i64 0, .int .i64 0, .int .i64 0, .string ⟨#[]⟩, .int .i64 0] 41)).drew W1.heap.size _ from box_new W1 _) hb1 (by show _ < (W1.alloc _).heap.size; simp)) _ _ _ _ _
      have nr : Nq w0 b s p W1 (((((w1.setCell ⟨W1.heap.size, 0, none⟩ (.int .i64 (X.k : Int))).setCell ⟨W1.heap.size, 1, none⟩ (.int .i64 (X.o : Int))).setCell ⟨W1.heap.size, 2, none⟩ (.int .i64 (X.z : Int))).setCell ⟨W1.heap.size, 3, none⟩ (.string ⟨X.v.toArray⟩)).setCell ⟨W1.heap.size, 4, none⟩ (.int .i64 X.n)) := by assumption
      have hle2 : W1.heap.size ≤ W1.heap.size := Nat.le_refl _
      clear ck cz nr1 hb1 hle1
      generalize (((((w1.setCell ⟨W1.heap.size, 0, none⟩ (.int .i64 (X.k : Int))).setCell ⟨W1.heap.size, 1, none⟩ (.int .i64 (X.o : Int))).setCell ⟨W1.heap.size, 2, none⟩ (.int .i64 (X.z : Int))).setCell ⟨W1.heap.size, 3, none⟩ (.string ⟨X.v.toArray⟩)).setCell ⟨W1.heap.size, 4, none⟩ (.int .i64 X.n)) = w2 at *
      have r1 : w2.cell? ⟨W1.heap.size, 1, none⟩ = some (.int .i64 (X.o : Int)) := bx.cell 1
      have hgb : W1.heap.size ≠ b := by have := nr.lt; omega
      have hq2 := nr.pr
      have b2 := b0.next nr.be hs0
      have o2 : Only b W w2 := (Only.of e0).next nr.be
      clear nr
      go_wp2_with fail
      refine (HF.out _ hq2).mono ?_
      rintro e w3 ⟨rfl, hq3, ho3⟩
      have b3 := ho3.box b2 (by omega)
      have o3 := o2.trans ho3
      have lw := Below.refl W.heap.size w3
      clear bx r1 b2 o2 hq2 ho3
      go_wp2_with (refine Lx.wpList_keep _ rfl _ _ rfl W.heap.size _ lw W.heap.size (Nat.le_refl _) _ _ _ _ _ _ rfl rfl b3 rfl ?_; intro w4 bx4 hb4 hk4)
      try simp only [Exit.inBlock, Exit.then]
      refine bodyPost_ret (results_one rfl _ _ _ _ rfl bx4 rfl) rfl ?_
      exact ⟨o3.low2 hb4, rfl, hq3.low hb4 hbl (by have := h.bel.size; omega), HE.out⟩

theorem rwrong_first (w0 : World) (b : Nat) (s : ByteArray) (p : Nat) (t : Tk) (W : World) (h : Qr w0 b s p 0 0 W) :
    Calls Tryz.prog 32 #[.pointer (some ⟨b, 0, none⟩), tkV t] W fun e w' => e = .returned nilV ∧ Only b W w' ∧ Qr w0 b s p t.o (if t.k = 0 then 3 else 4) w' := by
  have e0 : Below W.heap.size W ((W.alloc (.cells #[.int .i64 (t.k : Int), .int .i64 (t.o : Int), .int .i64 (t.z : Int), .string ⟨t.v.toArray⟩, .int .i64 t.n] 41)).alloc (.cells #[.int .i64 0, .int .i64 0, .string ⟨#[]⟩, .slice none 0 0, .slice none 0 0] 26)) := ((Below.refl _ _).alloc (Nat.le_refl _) _).alloc (by simp) _
  obtain ⟨n1, n2, n3⟩ := two_new W #[.int .i64 (t.k : Int), .int .i64 (t.o : Int), .int .i64 (t.z : Int), .string ⟨t.v.toArray⟩, .int .i64 t.n] #[.int .i64 0, .int .i64 0, .string ⟨#[]⟩, .slice none 0 0, .slice none 0 0] 41 26
  have h1 := h.next e0
  have hbl := h.lt
  have hwz := h.bel.size
  have bt : Box _ W.heap.size _ := n1
  have bv : Tre.Box _ (W.heap.size + 1) _ := n2
  have t0 : _ = some (Value.int .i64 (t.k : Int)) := bt.cell 0
  have t1 : _ = some (Value.int .i64 (t.o : Int)) := bt.cell 1
  unfold tkV
  by_cases h0 : t.k = 0
  · rw [if_pos h0]
    have hk : ((t.k : Int) == 0) = true := by rw [h0]; rfl
    have HF : Hid (∀ W, Qr w0 b s p 0 0 W → Calls Tryz.prog 17 #[.pointer (some ⟨b, 0, none⟩), .int .i64 (t.o : Int), .int .i64 3] W fun e w' => e = .returned (.tuple #[]) ∧ Qr w0 b s p t.o 3 w' ∧ Only b W w') := Lib.hid (fun W hw => fail_first w0 b s p 0 W hw t.o 3)
    have HM := Lib.hid (fun W hw => fail_more w0 b s p t.o 3 (by omega) W hw)
    clear h0
    go_enter Tryz.func32, Tryz.ntmps32
    go_wp2_with fail
    refine (HF.out _ h1).mono ?_
    rintro e w1 ⟨rfl, hq1, ho1⟩
    have bt1 := ho1.box bt (by omega)
    have bv1 := ho1.boxV bv (by omega)
    have t1b : w1.cell? ⟨W.heap.size, 1, none⟩ = some (.int .i64 (t.o : Int)) := bt1.cell 1
    go_wp2_with fail
    refine (HM.out _ hq1 _ _).mono ?_
    rintro e w2 ⟨rfl, rfl⟩
    have lw := Below.refl W.heap.size w2
    go_wp2_with (refine Tre.wpList_keep _ rfl _ _ rfl W.heap.size _ lw (W.heap.size + 1) (by omega) _ _ rfl rfl bv1 rfl rfl (by intro u hu; simp at hu; rcases hu with rfl | rfl | rfl | rfl | rfl <;> rfl) ?_; intro w9 bx9 hb9 hk9 hs9; clear hs9)
    (try simp only [Exit.inBlock, Exit.then])
    refine bodyPost_ret (Tre.results_val rfl _ _ _ _ rfl bx9 rfl) rfl ?_
    exact ⟨rfl, ((Only.of e0).trans ho1).low2 hb9, hq1.low hb9 hbl hwz⟩
  · rw [if_neg h0]
    have hk : ((t.k : Int) == 0) = false := by rw [beq_eq_false_iff_ne]; omega
    have HF : Hid (∀ W, Qr w0 b s p 0 0 W → Calls Tryz.prog 17 #[.pointer (some ⟨b, 0, none⟩), .int .i64 (t.o : Int), .int .i64 4] W fun e w' => e = .returned (.tuple #[]) ∧ Qr w0 b s p t.o 4 w' ∧ Only b W w') := Lib.hid (fun W hw => fail_first w0 b s p 0 W hw t.o 4)
    clear h0
    go_enter Tryz.func32, Tryz.ntmps32
    go_wp2_with fail
    refine (HF.out _ h1).mono ?_
    rintro e w1 ⟨rfl, hq1, ho1⟩
    have bv1 := ho1.boxV bv (by omega)
    have lw := Below.refl W.heap.size w1
    go_wp2_with (refine Tre.wpList_keep _ rfl _ _ rfl W.heap.size _ lw (W.heap.size + 1) (by omega) _ _ rfl rfl bv1 rfl rfl (by intro u hu; simp at hu; rcases hu with rfl | rfl | rfl | rfl | rfl <;> rfl) ?_; intro w9 bx9 hb9 hk9 hs9; clear hs9)
    (try simp only [Exit.inBlock, Exit.then])
    refine bodyPost_ret (Tre.results_val rfl _ _ _ _ rfl bx9 rfl) rfl ?_
    exact ⟨rfl, ((Only.of e0).trans ho1).low2 hb9, hq1.low hb9 hbl hwz⟩
theorem rwrong_more (w0 : World) (b : Nat) (s : ByteArray) (p o e : Nat) (he : e ≠ 0) (W : World) (h : Qr w0 b s p o e W) :
    Calls Tryz.prog 32 #[.pointer (some ⟨b, 0, none⟩), badT] W fun e' w' => e' = .returned nilV ∧ Below W.heap.size W w' := by
  have e0 : Below W.heap.size W ((W.alloc (.cells #[.int .i64 (-1), .int .i64 0, .int .i64 0, .string ⟨#[]⟩, .int .i64 0] 41)).alloc (.cells #[.int .i64 0, .int .i64 0, .string ⟨#[]⟩, .slice none 0 0, .slice none 0 0] 26)) := ((Below.refl _ _).alloc (Nat.le_refl _) _).alloc (by simp) _
  have h1 := h.next e0
  have HM := Lib.hid (fun W hw => fail_more w0 b s p o e he W hw)
  clear he
  go_enter Tryz.func32, Tryz.ntmps32
  go_wp2_with fail
  refine (HM.out _ h1 _ _).mono ?_
  rintro e' w2 ⟨rfl, rfl⟩
  go_wp2_with fail
  go_returns
  exact ⟨rfl, e0⟩
end Go.Proofs.YteinaclkpickaaaGreatDoor.Par
