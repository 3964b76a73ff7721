/- The reader in memory; the contract of skipBlanks. Conditions: as each theorem states. -/
import Derived.Test.YtggahjhjapnfeaaDoorGraMath
import Derived.Test.YtggahjhjapnfeaaDoorLexA
import Derived.Test.YtggahjhjapnfeaaDoorQuoD
import Derived.Lib.Builder
import Derived.Lib.BufferMore
import Derived.OneCell
import Derived.WalkSmall
namespace Go.Proofs.YtggahjhjapnfeaaDoor.Gr
open Go.RowKit Go.Lib Go.Proofs.YtggahjhjapnfeaaDoor.Byt Go.Proofs.YtggahjhjapnfeaaDoor.Lx

/-- The reader's five cells. -/
def Fv (w : World) (b : Nat) (s : ByteArray) (p ex : Nat) (v : Value) (lv : Nat) : Prop :=
  w.heap[b]? = some (.cells #[.string s, .int .i64 (p : Int), .int .i64 (ex : Int), v, .int .i64 (lv : Int)] 36 (0, 0))
/-- A reader of the call's own (from block B on), at block b: what it reads, where it is, what it expects, what is open, the level. -/
def Rd (w : World) (B b : Nat) (s : ByteArray) (p ex : Nat) (E : List UInt8) (lv : Nat) : Prop :=
  B ≤ b ∧ ∃ ao cap, Fv w b s p ex (.slice ao E.length cap) lv ∧ Own w B (.slice ao E.length cap) E.reverse ∧ (Value.slice ao E.length cap).ownBlock ≠ some b

section
variable {w w' : World} {B b : Nat} {s : ByteArray} {p ex lv : Nat} {E : List UInt8} {v : Value}
theorem Fv.lt (h : Fv w b s p ex v lv) : b < w.heap.size := by
  rcases Nat.lt_or_ge b w.heap.size with h' | h'
  · exact h'
  · unfold Fv at h; simp [Array.getElem?_eq_none h'] at h
theorem Fv.c0 (h : Fv w b s p ex v lv) : w.cell? ⟨b, 0, none⟩ = some (.string s) := by rw [Lib.cell_of_heap h]; rfl
theorem Fv.c1 (h : Fv w b s p ex v lv) : w.cell? ⟨b, 1, none⟩ = some (.int .i64 (p : Int)) := by rw [Lib.cell_of_heap h]; rfl
theorem Fv.c2 (h : Fv w b s p ex v lv) : w.cell? ⟨b, 2, none⟩ = some (.int .i64 (ex : Int)) := by rw [Lib.cell_of_heap h]; rfl
theorem Fv.c3 (h : Fv w b s p ex v lv) : w.cell? ⟨b, 3, none⟩ = some v := by rw [Lib.cell_of_heap h]; rfl
theorem Fv.c4 (h : Fv w b s p ex v lv) : w.cell? ⟨b, 4, none⟩ = some (.int .i64 (lv : Int)) := by rw [Lib.cell_of_heap h]; rfl
theorem Fv.free (h : Fv w b s p ex v lv) (j : Nat) : w.frozen? ⟨b, j, none⟩ = false := Lib.frozen_of_heap h j
theorem Fv.put1 (h : Fv w b s p ex v lv) (q : Nat) : Fv (w.setCell ⟨b, 1, none⟩ (.int .i64 (q : Int))) b s q ex v lv := by
  have := Go.heap_setCell_same w b 1 _ _ (.int .i64 (q : Int)) h
  exact this
theorem Fv.put2 (h : Fv w b s p ex v lv) (q : Nat) : Fv (w.setCell ⟨b, 2, none⟩ (.int .i64 (q : Int))) b s p q v lv := by
  have := Go.heap_setCell_same w b 2 _ _ (.int .i64 (q : Int)) h
  exact this
theorem Fv.put3 (h : Fv w b s p ex v lv) (q : Value) : Fv (w.setCell ⟨b, 3, none⟩ q) b s p ex q lv := by
  have := Go.heap_setCell_same w b 3 _ _ q h
  exact this
theorem Fv.put4 (h : Fv w b s p ex v lv) (q : Nat) : Fv (w.setCell ⟨b, 4, none⟩ (.int .i64 (q : Int))) b s p ex v q := by
  have := Go.heap_setCell_same w b 4 _ _ (.int .i64 (q : Int)) h
  exact this
theorem Own.aside {l : List UInt8} (h : Own w B v l) (hne : v.ownBlock ≠ some b) (j : Nat) (u : Value) : Own (w.setCell ⟨b, j, none⟩ u) B v l :=
  ownsRow_setCell_other h (a := ⟨b, j, none⟩) hne u
theorem Own.form {l : List UInt8} (h : Own w B v l) : ∃ ao cap, v = .slice ao l.length cap := by
  rcases h.shape with ⟨h1, h2⟩ | ⟨g, cap, h1⟩
  · exact ⟨none, 0, by rw [h1, h2]; rfl⟩
  · exact ⟨_, _, h1⟩
theorem Own.stay {l : List UInt8} (h : Own w B v l) (hb : Below w.heap.size w w') : Own w' B v l := by
  unfold Own at h ⊢
  refine ⟨h.1, ?_⟩
  rcases h.2 with hn | ⟨g, cap, cur, hv, hbg, hg, rest⟩
  · exact .inl hn
  · have hg2 : g < w.heap.size := by
      rcases Nat.lt_or_ge g w.heap.size with h' | h'
      · exact h'
      · simp [Array.getElem?_eq_none h'] at hg
    exact .inr ⟨g, cap, cur, hv, hbg, (hb.block g hg2).trans hg, rest⟩
theorem Rd.at_ (h : Rd w B b s p ex E lv) : w.cell? ⟨b, 1, none⟩ = some (.int .i64 (p : Int)) := by
  obtain ⟨_, ao, cap, h1, _⟩ := h
  exact h1.c1
theorem Rd.lt (h : Rd w B b s p ex E lv) : b < w.heap.size := by
  obtain ⟨_, ao, cap, h1, _⟩ := h
  exact h1.lt
/-- It stays when memory is made. -/
theorem Rd.stay (h : Rd w B b s p ex E lv) (hb : Below w.heap.size w w') : Rd w' B b s p ex E lv := by
  have hlt := h.lt
  obtain ⟨h0, ao, cap, h1, h2, h3⟩ := h
  exact ⟨h0, ao, cap, (hb.block b hlt).trans h1, Own.stay h2 hb, h3⟩
theorem Rd.set1 (h : Rd w B b s p ex E lv) (q : Nat) : Rd (w.setCell ⟨b, 1, none⟩ (.int .i64 (q : Int))) B b s q ex E lv := by
  obtain ⟨h0, ao, cap, h1, h2, h3⟩ := h
  exact ⟨h0, ao, cap, h1.put1 q, Own.aside h2 h3 _ _, h3⟩
theorem Rd.set2 (h : Rd w B b s p ex E lv) (q : Nat) : Rd (w.setCell ⟨b, 2, none⟩ (.int .i64 (q : Int))) B b s p q E lv := by
  obtain ⟨h0, ao, cap, h1, h2, h3⟩ := h
  exact ⟨h0, ao, cap, h1.put2 q, Own.aside h2 h3 _ _, h3⟩
theorem Rd.set4 (h : Rd w B b s p ex E lv) (q : Nat) : Rd (w.setCell ⟨b, 4, none⟩ (.int .i64 (q : Int))) B b s p ex E q := by
  obtain ⟨h0, ao, cap, h1, h2, h3⟩ := h
  exact ⟨h0, ao, cap, h1.put4 q, Own.aside h2 h3 _ _, h3⟩
theorem Rd.drew (h : Rd w B b s p ex E lv) : Rd w.drew B b s p ex E lv := h
theorem Rd.drewN (h : Rd w B b s p ex E lv) (n : Nat) : Rd (w.drewN n) B b s p ex E lv := h
theorem below_drewN {W : World} (h : Below B w W) (n : Nat) : Below B w (W.drewN n) := ⟨h.os, h.tape, h.output, h.size, h.block⟩
theorem below_put {W : World} (h : Below B w W) (hB : B ≤ b) (j : Nat) (u : Value) : Below B w (W.setCell ⟨b, j, none⟩ u) := h.setCell (p := ⟨b, j, none⟩) hB u
end

/-! ### skipBlanks -/
theorem find_quiet (c : Nat) (hc : c < 256) (w : World) (n : Nat) :
    Calls Tryd.prog 21 #[.string ⟨#[32, 9, 10, 13]⟩, .int .u8 (c : Int)] (w.drewN n) fun e w'' => e = .returned (.int .i64 (blI c)) ∧ ∃ m, w'' = w.drewN m :=
  (blank_find c hc (w.drewN n)).mono fun _ _ ⟨h1, h2⟩ => ⟨h1, n, h2.symm⟩
set_option maxHeartbeats 1000000 in
set_option maxRecDepth 100000 in
theorem skipBlanks_any (B b : Nat) (s : ByteArray) (p ex : Nat) (E : List UInt8) (lv : Nat) (w : World) (h : Rd w B b s p ex E lv) (hp : p ≤ s.size) (hs : s.size ≤ 140737488355328) :
    Calls Tryd.prog 15 #[.pointer (some ⟨b, 0, none⟩)] w fun e w' => e = .returned (.tuple #[]) ∧ Rd w' B b s (p + skp (sf s p)) ex E lv ∧ Below B w w' := by
  have hB := h.1
  obtain ⟨Z, hZ⟩ : ∃ Z, Z = p + skp (sf s p) := ⟨_, rfl⟩
  rw [← hZ]
  have HZ := Lib.hid hZ
  clear hZ
  go_enter Tryd.func15, Tryd.ntmps15
  go_wp2_with fail
  go_loopw [] (fun wr => ∃ k, Rd wr B b s k ex E lv ∧ k ≤ s.size ∧ Below B w wr ∧ Hid (Z = k + skp (sf s k))) (fun wr => s.size - (RowKit.intOf ((wr.cell? ⟨b, 1, none⟩).getD undef)).toNat)
  case atStart => exact ⟨p, h, hp, Below.refl _ _, HZ⟩
  case round =>
    clear HZ
    obtain ⟨k, hR, hk, hb, hh⟩ := hrel
    have st := skp_sf s k
    have hat := hR.at_
    obtain ⟨_, ao, cap, hF, _⟩ := id hR
    have c0 := hF.c0
    have c1 := hF.c1
    have f1 := hF.free 1
    by_cases hkl : k < s.size
    · have hix := fun w => index_of s k (k : Int) rfl hkl w
      have hc := by8_lt s k
      obtain ⟨_, b1, b2⟩ := blank_dig ⟨by8 s k, hc⟩
      simp only at b1 b2
      have HF := Lib.hid (find_quiet (by8 s k) hc)
      cases hbl : bl (by8 s k) with
      | true =>
        rw [if_pos hbl] at st
        have b3 := b1 hbl
        have HE2 := Lib.hid (show Z = k + 1 + skp (sf s (k + 1)) by rw [hh.out, st]; omega)
        generalize by8 s k = c at *
        clear st hbl hh b1 b2
        generalize blI c = j at *
        have d1 : decide ((0 : Int) ≤ j) = true := decide_eq_true b3
        go_wp2_with fail
        go_quiet ((go_at_call 21; with_reducible exact HF.out _ _))
        have hR2 := hR.drewN nq
        have hb2 := below_drewN hb nq
        generalize wr.drewN nq = wq at *
        have hm := hR.at_
        clear hR hb c0 c1 f1 hF hat
        obtain ⟨_, ao, cap, hF, _⟩ := id hR2
        have c1 := hF.c1
        have f1 := hF.free 1
        go_wp2_with fail
        go_roundw
        case rel => exact ⟨k + 1, by have := hR2.set1 (k + 1); push_cast at this; exact this, by omega, below_put hb2 hB _ _, HE2⟩
        case measure =>
          have h9 := (hR2.set1 (k + 1)).at_
          push_cast at h9
          rw [hm, h9]
          simp [RowKit.intOf]; omega
      | false =>
        rw [if_neg (by rw [hbl]; simp)] at st
        rw [b2 hbl] at HF
        have HE2 := Lib.hid (show Z = k by rw [hh.out, st]; rfl)
        generalize by8 s k = c at *
        clear st hbl hh b1 b2
        go_wp2_with fail
        go_quiet ((go_at_call 21; with_reducible exact HF.out _ _))
        go_wp2_with fail
        go_end0
        exact ⟨rfl, by rw [HE2.out]; exact hR.drewN _, below_drewN hb _⟩
    · rw [by8_end s k (by omega), show bl 0 = false from rfl, if_neg (by simp)] at st
      have HE2 := Lib.hid (show Z = k by rw [hh.out, st]; rfl)
      clear st hh
      have d1 : decide ((k : Int) < (s.size : Int)) = false := decide_eq_false (by omega)
      go_wp2_with fail
      go_quiet (fail)
      go_wp2_with fail
      go_end0
      exact ⟨rfl, by rw [HE2.out]; exact hR.drewN _, below_drewN hb _⟩

/-! ### one predicate for all -/
structure Env (w : World) : Prop where
  tabs : Utf.Tabs w
  syn : Quo.Syn w
theorem Env.next {w w' : World} (h : Env w) (hb : Below w.heap.size w w') : Env w' := ⟨h.tabs.next hb, h.syn.next hb⟩
/-- The reader at block b of a call that began in w0. -/
structure Sr (w0 : World) (b : Nat) (s : ByteArray) (p ex : Nat) (E : List UInt8) (lv : Nat) (W : World) : Prop where
  rd : Rd W w0.heap.size b s p ex E lv
  bel : Below w0.heap.size w0 W
  env0 : Env w0
section
variable {w0 W W' : World} {b : Nat} {s : ByteArray} {p ex lv : Nat} {E : List UInt8}
theorem Sr.env (h : Sr w0 b s p ex E lv W) : Env W := h.env0.next h.bel
theorem Sr.drew (h : Sr w0 b s p ex E lv W) : Sr w0 b s p ex E lv W.drew := ⟨h.rd.drew, h.bel.drew, h.env0⟩
theorem Sr.drewN (h : Sr w0 b s p ex E lv W) (n : Nat) : Sr w0 b s p ex E lv (W.drewN n) := ⟨h.rd.drewN n, below_drewN h.bel n, h.env0⟩
theorem Sr.next (h : Sr w0 b s p ex E lv W) (hb : Below W.heap.size W W') : Sr w0 b s p ex E lv W' := ⟨h.rd.stay hb, h.bel.trans (hb.mono h.bel.size), h.env0⟩
theorem Sr.cells (h : Sr w0 b s p ex E lv W) : ∃ ao cap, W.cell? ⟨b, 0, none⟩ = some (.string s) ∧ W.cell? ⟨b, 1, none⟩ = some (.int .i64 (p : Int)) ∧ W.cell? ⟨b, 2, none⟩ = some (.int .i64 (ex : Int)) ∧
    W.cell? ⟨b, 3, none⟩ = some (.slice ao E.length cap) ∧ W.cell? ⟨b, 4, none⟩ = some (.int .i64 (lv : Int)) ∧ (∀ j, W.frozen? ⟨b, j, none⟩ = false) := by
  obtain ⟨_, ao, cap, h1, _⟩ := h.rd
  exact ⟨ao, cap, h1.c0, h1.c1, h1.c2, h1.c3, h1.c4, h1.free⟩
theorem Sr.c0 (h : Sr w0 b s p ex E lv W) : W.cell? ⟨b, 0, none⟩ = some (.string s) := by obtain ⟨_, _, c, _⟩ := h.cells; exact c
theorem Sr.c1 (h : Sr w0 b s p ex E lv W) : W.cell? ⟨b, 1, none⟩ = some (.int .i64 (p : Int)) := by obtain ⟨_, _, _, c, _⟩ := h.cells; exact c
theorem Sr.c2 (h : Sr w0 b s p ex E lv W) : W.cell? ⟨b, 2, none⟩ = some (.int .i64 (ex : Int)) := by obtain ⟨_, _, _, _, c, _⟩ := h.cells; exact c
theorem Sr.c4 (h : Sr w0 b s p ex E lv W) : W.cell? ⟨b, 4, none⟩ = some (.int .i64 (lv : Int)) := by obtain ⟨_, _, _, _, _, _, c, _⟩ := h.cells; exact c
theorem Sr.free (h : Sr w0 b s p ex E lv W) (j : Nat) : W.frozen? ⟨b, j, none⟩ = false := by obtain ⟨_, _, _, _, _, _, _, c⟩ := h.cells; exact c j
theorem Sr.set1 (h : Sr w0 b s p ex E lv W) (q : Nat) : Sr w0 b s q ex E lv (W.setCell ⟨b, 1, none⟩ (.int .i64 (q : Int))) := ⟨h.rd.set1 q, below_put h.bel h.rd.1 _ _, h.env0⟩
theorem Sr.set2 (h : Sr w0 b s p ex E lv W) (q : Nat) : Sr w0 b s p q E lv (W.setCell ⟨b, 2, none⟩ (.int .i64 (q : Int))) := ⟨h.rd.set2 q, below_put h.bel h.rd.1 _ _, h.env0⟩
theorem Sr.set4 (h : Sr w0 b s p ex E lv W) (q : Nat) : Sr w0 b s p ex E q (W.setCell ⟨b, 4, none⟩ (.int .i64 (q : Int))) := ⟨h.rd.set4 q, below_put h.bel h.rd.1 _ _, h.env0⟩
end
theorem blanks_at (w0 : World) (b : Nat) (s : ByteArray) (p ex : Nat) (E : List UInt8) (lv : Nat) (W : World) (h : Sr w0 b s p ex E lv W) (hp : p ≤ s.size) (hs : s.size ≤ 1000000) :
    Calls Tryd.prog 15 #[.pointer (some ⟨b, 0, none⟩)] W fun e w' => e = .returned (.tuple #[]) ∧ Sr w0 b s (p + skp (sf s p)) ex E lv w' := by
  refine (skipBlanks_any w0.heap.size b s p ex E lv W h.rd hp (by omega)).mono ?_
  rintro e w' ⟨rfl, h1, h2⟩
  exact ⟨rfl, h1, h.bel.trans h2, h.env0⟩
end Go.Proofs.YtggahjhjapnfeaaDoor.Gr
