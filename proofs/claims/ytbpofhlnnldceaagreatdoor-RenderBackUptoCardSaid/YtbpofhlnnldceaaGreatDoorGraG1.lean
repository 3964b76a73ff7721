/- The reader in memory; the contract of skipBlanks. Conditions: as each theorem states. · Contracts of takeText, takeWord, takeInteger. Conditions: as each theorem states. · Contracts of takeEnd, takeComma, open. Conditions: as each theorem states. · Contracts of takeName, takeValue, takeNext. Conditions: as each theorem states. · Contracts of Level, Is. Conditions: the two tables of unicode/utf8 are as its text lays them, strconv.ErrSyntax holds an error; as each theorem states. -/
import Derived.Test.YtbpofhlnnldceaaGreatDoorGraG0
import Derived.Test.YtbpofhlnnldceaaGreatDoorLexG1
import Derived.Test.YtbpofhlnnldceaaGreatDoorQuoG1
import Derived.Lib.Builder
import Derived.Lib.BufferMore
import Derived.OneCell
import Derived.WalkSmall
import Derived.Deep.RegionHeld3
import Derived.StillTailTactics
import Derived.Deep.MidRow
import Derived.Laws.CopyOwn
namespace Go.Proofs.YtbpofhlnnldceaaGreatDoor.Gr
open Go.RowKit Go.Lib Go.Proofs.YtbpofhlnnldceaaGreatDoor.Byt Go.Proofs.YtbpofhlnnldceaaGreatDoor.Lx

/-- The reader's five cells. -/
def Fv (w : World) (b : Nat) (s : ByteArray) (p ex : Nat) (v : Value) (lv : Nat) : Prop :=
  w.heap[b]? = some (.cells #[.string s, .int .i64 (p : Int), .int .i64 (ex : Int), v, .int .i64 (lv : Int)] 68 (0, 0))
/-- A reader of the call's own (from block B on), at block b: what it reads, where it is, what it expects, what is open, the level. -/
def Rd (w : World) (B b : Nat) (s : ByteArray) (p ex : Nat) (E : List UInt8) (lv : Nat) : Prop :=
  B ≤ b ∧ ∃ ao cap, Fv w b s p ex (.slice ao E.length cap) lv ∧ Own w B (.slice ao E.length cap) E.reverse ∧ (Value.slice ao E.length cap).ownBlock ≠ some b

section
variable {w w' : World} {B b : Nat} {s : ByteArray} {p ex lv : Nat} {E : List UInt8} {v : Value}
theorem Fv.lt (h : Fv w b s p ex v lv) : b < w.heap.size := by
  rcases Nat.lt_or_ge b w.heap.size with h' | h'
  · exact h'
  · unfold Fv at h; simp [Array.getElem?_eq_none h'] at h
theorem Fv.c0 (h : Fv w b s p ex v lv) : w.cell? ⟨b, 0, none⟩ = some (.string s) := by rw [Lib.cell_of_heap h]; rfl
theorem Fv.c1 (h : Fv w b s p ex v lv) : w.cell? ⟨b, 1, none⟩ = some (.int .i64 (p : Int)) := by rw [Lib.cell_of_heap h]; rfl
theorem Fv.c2 (h : Fv w b s p ex v lv) : w.cell? ⟨b, 2, none⟩ = some (.int .i64 (ex : Int)) := by rw [Lib.cell_of_heap h]; rfl
theorem Fv.c3 (h : Fv w b s p ex v lv) : w.cell? ⟨b, 3, none⟩ = some v := by rw [Lib.cell_of_heap h]; rfl
theorem Fv.c4 (h : Fv w b s p ex v lv) : w.cell? ⟨b, 4, none⟩ = some (.int .i64 (lv : Int)) := by rw [Lib.cell_of_heap h]; rfl
theorem Fv.free (h : Fv w b s p ex v lv) (j : Nat) : w.frozen? ⟨b, j, none⟩ = false := Lib.frozen_of_heap h j
theorem Fv.put1 (h : Fv w b s p ex v lv) (q : Nat) : Fv (w.setCell ⟨b, 1, none⟩ (.int .i64 (q : Int))) b s q ex v lv := by
  have := Go.heap_setCell_same w b 1 _ _ (.int .i64 (q : Int)) h
  exact this
theorem Fv.put2 (h : Fv w b s p ex v lv) (q : Nat) : Fv (w.setCell ⟨b, 2, none⟩ (.int .i64 (q : Int))) b s p q v lv := by
  have := Go.heap_setCell_same w b 2 _ _ (.int .i64 (q : Int)) h
  exact this
theorem Fv.put3 (h : Fv w b s p ex v lv) (q : Value) : Fv (w.setCell ⟨b, 3, none⟩ q) b s p ex q lv := by
  have := Go.heap_setCell_same w b 3 _ _ q h
  exact this
theorem Fv.put4 (h : Fv w b s p ex v lv) (q : Nat) : Fv (w.setCell ⟨b, 4, none⟩ (.int .i64 (q : Int))) b s p ex v q := by
  have := Go.heap_setCell_same w b 4 _ _ (.int .i64 (q : Int)) h
  exact this
theorem Own.aside {l : List UInt8} (h : Own w B v l) (hne : v.ownBlock ≠ some b) (j : Nat) (u : Value) : Own (w.setCell ⟨b, j, none⟩ u) B v l :=
  ownsRow_setCell_other h (a := ⟨b, j, none⟩) hne u
theorem Own.form {l : List UInt8} (h : Own w B v l) : ∃ ao cap, v = .slice ao l.length cap := by
  rcases h.shape with ⟨h1, h2⟩ | ⟨g, cap, h1⟩
  · exact ⟨none, 0, by rw [h1, h2]; rfl⟩
  · exact ⟨_, _, h1⟩
theorem Own.stay {l : List UInt8} (h : Own w B v l) (hb : Below w.heap.size w w') : Own w' B v l := by
  unfold Byt.Own at h ⊢
  refine ⟨h.1, ?_⟩
  rcases h.2 with hn | ⟨g, cap, cur, hv, hbg, hg, rest⟩
  · exact .inl hn
  · have hg2 : g < w.heap.size := by
      rcases Nat.lt_or_ge g w.heap.size with h' | h'
      · exact h'
      · simp [Array.getElem?_eq_none h'] at hg
    exact .inr ⟨g, cap, cur, hv, hbg, (hb.block g hg2).trans hg, rest⟩
theorem Rd.at_ (h : Rd w B b s p ex E lv) : w.cell? ⟨b, 1, none⟩ = some (.int .i64 (p : Int)) := by
  obtain ⟨_, ao, cap, h1, _⟩ := h
  exact h1.c1
theorem Rd.lt (h : Rd w B b s p ex E lv) : b < w.heap.size := by
  obtain ⟨_, ao, cap, h1, _⟩ := h
  exact h1.lt
/-- It stays when memory is made. -/
theorem Rd.stay (h : Rd w B b s p ex E lv) (hb : Below w.heap.size w w') : Rd w' B b s p ex E lv := by
  have hlt := h.lt
  obtain ⟨h0, ao, cap, h1, h2, h3⟩ := h
  exact ⟨h0, ao, cap, (hb.block b hlt).trans h1, Own.stay h2 hb, h3⟩
theorem Rd.set1 (h : Rd w B b s p ex E lv) (q : Nat) : Rd (w.setCell ⟨b, 1, none⟩ (.int .i64 (q : Int))) B b s q ex E lv := by
  obtain ⟨h0, ao, cap, h1, h2, h3⟩ := h
  exact ⟨h0, ao, cap, h1.put1 q, Own.aside h2 h3 _ _, h3⟩
theorem Rd.set2 (h : Rd w B b s p ex E lv) (q : Nat) : Rd (w.setCell ⟨b, 2, none⟩ (.int .i64 (q : Int))) B b s p q E lv := by
  obtain ⟨h0, ao, cap, h1, h2, h3⟩ := h
  exact ⟨h0, ao, cap, h1.put2 q, Own.aside h2 h3 _ _, h3⟩
theorem Rd.set4 (h : Rd w B b s p ex E lv) (q : Nat) : Rd (w.setCell ⟨b, 4, none⟩ (.int .i64 (q : Int))) B b s p ex E q := by
  obtain ⟨h0, ao, cap, h1, h2, h3⟩ := h
  exact ⟨h0, ao, cap, h1.put4 q, Own.aside h2 h3 _ _, h3⟩
theorem Rd.drew (h : Rd w B b s p ex E lv) : Rd w.drew B b s p ex E lv := h
theorem Rd.drewN (h : Rd w B b s p ex E lv) (n : Nat) : Rd (w.drewN n) B b s p ex E lv := h
theorem below_drewN {W : World} (h : Below B w W) (n : Nat) : Below B w (W.drewN n) := ⟨h.os, h.tape, h.output, h.size, h.block⟩
theorem below_put {W : World} (h : Below B w W) (hB : B ≤ b) (j : Nat) (u : Value) : Below B w (W.setCell ⟨b, j, none⟩ u) := h.setCell (p := ⟨b, j, none⟩) hB u
end

/-! ### skipBlanks -/
theorem find_quiet (c : Nat) (hc : c < 256) (w : World) (n : Nat) :
    Calls Tryz.prog 47 #[.string ⟨#[32, 9, 10, 13]⟩, .int .u8 (c : Int)] (w.drewN n) fun e w'' => e = .returned (.int .i64 (blI c)) ∧ ∃ m, w'' = w.drewN m :=
  (blank_find c hc (w.drewN n)).mono fun _ _ ⟨h1, h2⟩ => ⟨h1, n, h2.symm⟩
set_option maxHeartbeats 1000000 in
set_option maxRecDepth 100000 in
theorem skipBlanks_any (B b : Nat) (s : ByteArray) (p ex : Nat) (E : List UInt8) (lv : Nat) (w : World) (h : Rd w B b s p ex E lv) (hp : p ≤ s.size) (hs : s.size ≤ 140737488355328) :
    Calls Tryz.prog 34 #[.pointer (some ⟨b, 0, none⟩)] w fun e w' => e = .returned (.tuple #[]) ∧ Rd w' B b s (p + skp (sf s p)) ex E lv ∧ Below B w w' := by
  have hB := h.1
  obtain ⟨Z, hZ⟩ : ∃ Z, Z = p + skp (sf s p) := ⟨_, rfl⟩
  rw [← hZ]
  have HZ := Lib.hid hZ
  clear hZ
  go_enter Tryz.func34, Tryz.ntmps34
  go_wp2_with fail
  go_loopw [] (fun wr => ∃ k, Rd wr B b s k ex E lv ∧ k ≤ s.size ∧ Below B w wr ∧ Hid (Z = k + skp (sf s k))) (fun wr => s.size - (RowKit.intOf ((wr.cell? ⟨b, 1, none⟩).getD undef)).toNat)
  case atStart => exact ⟨p, h, hp, Below.refl _ _, HZ⟩
  case round =>
    clear HZ
    obtain ⟨k, hR, hk, hb, hh⟩ := hrel
    have st := skp_sf s k
    have hat := hR.at_
    obtain ⟨_, ao, cap, hF, _⟩ := id hR
    have c0 := hF.c0
    have c1 := hF.c1
    have f1 := hF.free 1
    by_cases hkl : k < s.size
    · have hix := fun w => index_of s k (k : Int) rfl hkl w
      have hc := by8_lt s k
      obtain ⟨_, b1, b2⟩ := blank_dig ⟨by8 s k, hc⟩
      simp only at b1 b2
      have HF := Lib.hid (find_quiet (by8 s k) hc)
      cases hbl : bl (by8 s k) with
      | true =>
        rw [if_pos hbl] at st
        have b3 := b1 hbl
        have HE2 := Lib.hid (show Z = k + 1 + skp (sf s (k + 1)) by rw [hh.out, st]; omega)
        generalize by8 s k = c at *
        clear st hbl hh b1 b2
        generalize blI c = j at *
        have d1 : decide ((0 : Int) ≤ j) = true := decide_eq_true b3
        go_wp2_with fail
        go_quiet ((go_at_call 47; with_reducible exact HF.out _ _))
        have hR2 := hR.drewN nq
        have hb2 := below_drewN hb nq
        generalize wr.drewN nq = wq at *
        have hm := hR.at_
        clear hR hb c0 c1 f1 hF hat
        obtain ⟨_, ao, cap, hF, _⟩ := id hR2
        have c1 := hF.c1
        have f1 := hF.free 1
        go_wp2_with fail
        go_roundw
        case rel => exact ⟨k + 1, by have := hR2.set1 (k + 1); push_cast at this; exact this, by omega, below_put hb2 hB _ _, HE2⟩
        case measure =>
          have h9 := (hR2.set1 (k + 1)).at_
          push_cast at h9
          rw [hm, h9]
          simp [RowKit.intOf]; omega
      | false =>
        rw [if_neg (by rw [hbl]; simp)] at st
        rw [b2 hbl] at HF
        have HE2 := Lib.hid (show Z = k by rw [hh.out, st]; rfl)
        generalize by8 s k = c at *
        clear st hbl hh b1 b2
        go_wp2_with fail
        go_quiet ((go_at_call 47; with_reducible exact HF.out _ _))
        go_wp2_with fail
        go_end0
        exact ⟨rfl, by rw [HE2.out]; exact hR.drewN _, below_drewN hb _⟩
    · rw [by8_end s k (by omega), show bl 0 = false from rfl, if_neg (by simp)] at st
      have HE2 := Lib.hid (show Z = k by rw [hh.out, st]; rfl)
      clear st hh
      have d1 : decide ((k : Int) < (s.size : Int)) = false := decide_eq_false (by omega)
      go_wp2_with fail
      go_quiet (fail)
      go_wp2_with fail
      go_end0
      exact ⟨rfl, by rw [HE2.out]; exact hR.drewN _, below_drewN hb _⟩

/-! ### one predicate for all -/
structure Env (w : World) : Prop where
  tabs : Utf.Tabs w
  syn : Quo.Syn w
theorem Env.next {w w' : World} (h : Env w) (hb : Below w.heap.size w w') : Env w' := ⟨h.tabs.next hb, h.syn.next hb⟩
/-- The reader at block b of a call that began in w0. -/
structure Sr (w0 : World) (b : Nat) (s : ByteArray) (p ex : Nat) (E : List UInt8) (lv : Nat) (W : World) : Prop where
  rd : Rd W w0.heap.size b s p ex E lv
  bel : Below w0.heap.size w0 W
  env0 : Env w0
section
variable {w0 W W' : World} {b : Nat} {s : ByteArray} {p ex lv : Nat} {E : List UInt8}
theorem Sr.env (h : Sr w0 b s p ex E lv W) : Env W := h.env0.next h.bel
theorem Sr.drew (h : Sr w0 b s p ex E lv W) : Sr w0 b s p ex E lv W.drew := ⟨h.rd.drew, h.bel.drew, h.env0⟩
theorem Sr.drewN (h : Sr w0 b s p ex E lv W) (n : Nat) : Sr w0 b s p ex E lv (W.drewN n) := ⟨h.rd.drewN n, below_drewN h.bel n, h.env0⟩
theorem Sr.next (h : Sr w0 b s p ex E lv W) (hb : Below W.heap.size W W') : Sr w0 b s p ex E lv W' := ⟨h.rd.stay hb, h.bel.trans (hb.mono h.bel.size), h.env0⟩
theorem Sr.cells (h : Sr w0 b s p ex E lv W) : ∃ ao cap, W.cell? ⟨b, 0, none⟩ = some (.string s) ∧ W.cell? ⟨b, 1, none⟩ = some (.int .i64 (p : Int)) ∧ W.cell? ⟨b, 2, none⟩ = some (.int .i64 (ex : Int)) ∧
    W.cell? ⟨b, 3, none⟩ = some (.slice ao E.length cap) ∧ W.cell? ⟨b, 4, none⟩ = some (.int .i64 (lv : Int)) ∧ (∀ j, W.frozen? ⟨b, j, none⟩ = false) := by
  obtain ⟨_, ao, cap, h1, _⟩ := h.rd
  exact ⟨ao, cap, h1.c0, h1.c1, h1.c2, h1.c3, h1.c4, h1.free⟩
theorem Sr.c0 (h : Sr w0 b s p ex E lv W) : W.cell? ⟨b, 0, none⟩ = some (.string s) := by obtain ⟨_, _, c, _⟩ := h.cells; exact c
theorem Sr.c1 (h : Sr w0 b s p ex E lv W) : W.cell? ⟨b, 1, none⟩ = some (.int .i64 (p : Int)) := by obtain ⟨_, _, _, c, _⟩ := h.cells; exact c
theorem Sr.c2 (h : Sr w0 b s p ex E lv W) : W.cell? ⟨b, 2, none⟩ = some (.int .i64 (ex : Int)) := by obtain ⟨_, _, _, _, c, _⟩ := h.cells; exact c
theorem Sr.c4 (h : Sr w0 b s p ex E lv W) : W.cell? ⟨b, 4, none⟩ = some (.int .i64 (lv : Int)) := by obtain ⟨_, _, _, _, _, _, c, _⟩ := h.cells; exact c
theorem Sr.free (h : Sr w0 b s p ex E lv W) (j : Nat) : W.frozen? ⟨b, j, none⟩ = false := by obtain ⟨_, _, _, _, _, _, _, c⟩ := h.cells; exact c j
theorem Sr.set1 (h : Sr w0 b s p ex E lv W) (q : Nat) : Sr w0 b s q ex E lv (W.setCell ⟨b, 1, none⟩ (.int .i64 (q : Int))) := ⟨h.rd.set1 q, below_put h.bel h.rd.1 _ _, h.env0⟩
theorem Sr.set2 (h : Sr w0 b s p ex E lv W) (q : Nat) : Sr w0 b s p q E lv (W.setCell ⟨b, 2, none⟩ (.int .i64 (q : Int))) := ⟨h.rd.set2 q, below_put h.bel h.rd.1 _ _, h.env0⟩
theorem Sr.set4 (h : Sr w0 b s p ex E lv W) (q : Nat) : Sr w0 b s p ex E q (W.setCell ⟨b, 4, none⟩ (.int .i64 (q : Int))) := ⟨h.rd.set4 q, below_put h.bel h.rd.1 _ _, h.env0⟩
end
theorem blanks_at (w0 : World) (b : Nat) (s : ByteArray) (p ex : Nat) (E : List UInt8) (lv : Nat) (W : World) (h : Sr w0 b s p ex E lv W) (hp : p ≤ s.size) (hs : s.size ≤ 8000000) :
    Calls Tryz.prog 34 #[.pointer (some ⟨b, 0, none⟩)] W fun e w' => e = .returned (.tuple #[]) ∧ Sr w0 b s (p + skp (sf s p)) ex E lv w' := by
  refine (skipBlanks_any w0.heap.size b s p ex E lv W h.rd hp (by omega)).mono ?_
  rintro e w' ⟨rfl, h1, h2⟩
  exact ⟨rfl, h1, h.bel.trans h2, h.env0⟩
end Go.Proofs.YtbpofhlnnldceaaGreatDoor.Gr

namespace Go.Proofs.YtbpofhlnnldceaaGreatDoor.Gr
open Go.RowKit Go.Lib Go.Proofs.YtbpofhlnnldceaaGreatDoor.Byt Go.Proofs.YtbpofhlnnldceaaGreatDoor.Lx Go.Proofs.YtbpofhlnnldceaaGreatDoor.Quo

/-! ### takeText -/
theorem tQ_qn (s : ByteArray) (p : Nat) : (qn (sf s p) = 0 ∧ (tQ s (p : Int)).1 ≠ 0) ∨ (qn (sf s p) ≠ 0 ∧ (tQ s (p : Int)).1 = 0 ∧ (tQ s (p : Int)).2.1 = p + qn (sf s p)) := by
  have e1 : dr s (p + 1) = (sf s p).drop 1 := (sf_drop s p 1).symm
  have e2 : Utf.bt s p = hd (sf s p) := (sf_hd s p).symm
  unfold tQ
  rw [Int.toNat_natCast, e1, e2]
  by_cases h : hd (sf s p) = 34
  · have hlt : p < s.size := by
      rcases Nat.lt_or_ge p s.size with h' | h'
      · exact h'
      · rw [sf_nil s p h'] at h; cases h
    rw [if_pos ⟨by omega, by omega, h⟩]
    unfold Quo.fin
    simp only
    by_cases h2 : (tkQ ((sf s p).drop 1)).1 = 0
    · have e3 : qn (sf s p) = (tkQ ((sf s p).drop 1)).2.1 + 1 := if_pos ⟨h, h2⟩
      rw [e3]; right; exact ⟨by omega, h2, by omega⟩
    · have e3 : qn (sf s p) = 0 := if_neg (fun h3 => h2 h3.2)
      rw [e3]; left; exact ⟨rfl, h2⟩
  · have e3 : qn (sf s p) = 0 := qn_none h
    rw [e3, if_neg (fun h3 => h h3.2.2)]; left; exact ⟨rfl, by show (4 : Nat) ≠ 0; decide⟩
set_option maxHeartbeats 1000000 in
set_option maxRecDepth 100000 in
theorem text_at (w0 : World) (b : Nat) (s : ByteArray) (p ex : Nat) (E : List UInt8) (lv : Nat) (W : World) (h : Sr w0 b s p ex E lv W) (hs : s.size ≤ 8000000) :
    Calls Tryz.prog 73 #[.pointer (some ⟨b, 0, none⟩)] W fun e w' => e = .returned (.bool (decide (qn (sf s p) ≠ 0))) ∧ Sr w0 b s (p + qn (sf s p)) ex E lv w' := by
  have HQ := fun W (hw : Sr w0 b s p ex E lv W) => qtake_any s (p : Int) W hw.env.syn hw.env.tabs hs
  have hc := tQ_qn s p
  unfold rT at HQ
  generalize tQ s (p : Int) = t at *
  obtain ⟨e0, n, v⟩ := t
  simp only at HQ hc
  have d0 := fun W (hw : Sr w0 b s p ex E lv W) => hw.c0
  have d1 := fun W (hw : Sr w0 b s p ex E lv W) => hw.c1
  have H := Lib.hid HQ
  clear HQ
  have hdr := h.drew
  generalize (⟨v.toArray⟩ : ByteArray) = V at *
  rcases hc with ⟨q0, q1⟩ | ⟨q0, rfl, rfl⟩
  · rw [q0, Nat.add_zero, decide_eq_false (by simp)]
    have hne : ((e0 : Int) != 0) = true := by rw [bne_iff_ne]; omega
    clear q0
    go_enter Tryz.func73, Tryz.ntmps73
    go_wp2_with fail
    go_region_held3 (Sr w0 b s p ex E lv) (first | exact hdr | assumption)
      ((go_at_call 68; (with_reducible refine (H.out _ (by assumption)).mono ?_); rintro e wx ⟨rfl, hbx⟩; have srx := Sr.next (by assumption) hbx))
    all_goals
      go_wp2_with fail
      go_ret
      exact ⟨rfl, srx⟩
  · have hq := q0
    rw [decide_eq_true q0]
    generalize qn (sf s p) = q at *
    go_enter Tryz.func73, Tryz.ntmps73
    go_wp2_with fail
    go_region_held3 (Sr w0 b s p ex E lv) (first | exact hdr | assumption)
      ((go_at_call 68; (with_reducible refine (H.out _ (by assumption)).mono ?_); rintro e wx ⟨rfl, hbx⟩; have srx := Sr.next (by assumption) hbx))
    all_goals
      have f1 := srx.free 1
      go_wp2_with fail
      go_ret
      exact ⟨rfl, srx.set1 (p + q)⟩

/-! ### takeWord -/
/-- What the words from the k-th on say. -/
def wG (k : Nat) (l : List UInt8) : Nat :=
  if k = 0 ∧ l.take 4 = [110, 117, 108, 108] then 4 else if k ≤ 1 ∧ l.take 4 = [116, 114, 117, 101] then 4 else if k ≤ 2 ∧ l.take 5 = [102, 97, 108, 115, 101] then 5 else 0
theorem wG_zero (l : List UInt8) : wG 0 l = wn l := by unfold wG wn; simp
theorem wG_0 {l : List UInt8} (h : l.take 4 = [110, 117, 108, 108]) : wG 0 l = 4 := if_pos ⟨rfl, h⟩
theorem wG_1 {l : List UInt8} (h : l.take 4 = [116, 114, 117, 101]) : wG 1 l = 4 := by unfold wG; rw [if_neg (by simp), if_pos ⟨by omega, h⟩]
theorem wG_2 {l : List UInt8} (h : l.take 5 = [102, 97, 108, 115, 101]) : wG 2 l = 5 := by unfold wG; rw [if_neg (by simp), if_neg (by simp), if_pos ⟨by omega, h⟩]
theorem wG_n0 {l : List UInt8} (h : l.take 4 ≠ [110, 117, 108, 108]) : wG 0 l = wG 1 l := by unfold wG; simp [h]
theorem wG_n1 {l : List UInt8} (h : l.take 4 ≠ [116, 114, 117, 101]) : wG 1 l = wG 2 l := by unfold wG; simp [h]
theorem wG_n2 {l : List UInt8} (h : l.take 5 ≠ [102, 97, 108, 115, 101]) : wG 2 l = wG 3 l := by unfold wG; simp [h]
theorem word_quiet (s : ByteArray) (i : Nat) (x : ByteArray) (w : World) (n : Nat) :
    Calls Tryz.prog 71 #[.string (cutB s i (s.size - i)), .string x] (w.drewN n) fun e w' => e = .returned (.bool (decide ((sf s i).take x.data.toList.length = x.data.toList))) ∧ ∃ m, w' = w.drewN m :=
  (word_find s i x (w.drewN n)).mono fun _ _ ⟨h1, h2⟩ => ⟨h1, n, h2.symm⟩
set_option maxHeartbeats 1000000 in
set_option maxRecDepth 100000 in
theorem word_any (w0 : World) (b : Nat) (s : ByteArray) (p ex : Nat) (E : List UInt8) (lv : Nat) (W : World) (h : Sr w0 b s p ex E lv W) (hp : p ≤ s.size) (hs : s.size ≤ 8000000) :
    Calls Tryz.prog 75 #[.pointer (some ⟨b, 0, none⟩)] W fun e w' => e = .returned (.bool (decide (wn (sf s p) ≠ 0))) ∧ Sr w0 b s (p + wn (sf s p)) ex E lv w' := by
  have hsl := fun w => sl_from s p (s.size - p) (by omega) w
  have H0 : Hid (∀ (w : World) (n : Nat), Calls Tryz.prog 71 #[.string (cutB s p (s.size - p)), .string ⟨#[110, 117, 108, 108]⟩] (w.drewN n) fun e w' => e = .returned (.bool (decide ((sf s p).take 4 = [110, 117, 108, 108]))) ∧ ∃ m, w' = w.drewN m) := Lib.hid fun w n => word_quiet s p ⟨#[110, 117, 108, 108]⟩ w n
  have H1 : Hid (∀ (w : World) (n : Nat), Calls Tryz.prog 71 #[.string (cutB s p (s.size - p)), .string ⟨#[116, 114, 117, 101]⟩] (w.drewN n) fun e w' => e = .returned (.bool (decide ((sf s p).take 4 = [116, 114, 117, 101]))) ∧ ∃ m, w' = w.drewN m) := Lib.hid fun w n => word_quiet s p ⟨#[116, 114, 117, 101]⟩ w n
  have H2 : Hid (∀ (w : World) (n : Nat), Calls Tryz.prog 71 #[.string (cutB s p (s.size - p)), .string ⟨#[102, 97, 108, 115, 101]⟩] (w.drewN n) fun e w' => e = .returned (.bool (decide ((sf s p).take 5 = [102, 97, 108, 115, 101]))) ∧ ∃ m, w' = w.drewN m) := Lib.hid fun w n => word_quiet s p ⟨#[102, 97, 108, 115, 101]⟩ w n
  go_enter Tryz.func75, Tryz.ntmps75
  go_wp2_with fail
  go_loopw [6] (fun x wr => ∃ (k : Nat) (a : Int), x = .int .i64 a ∧ a = (k : Int) ∧ k ≤ 3 ∧ Sr w0 b s p ex E lv wr ∧ Hid (wn (sf s p) = wG k (sf s p))) (fun x _ => 3 - (RowKit.intOf x).toNat)
  case atStart => exact ⟨0, 0, rfl, rfl, by omega, h, Lib.hid (wG_zero _).symm⟩
  case round =>
    obtain ⟨k, a, rfl, ha, hk, hR, hh⟩ := hrel
    have c0 := hR.c0
    have c1 := hR.c1
    have hk4 : k = 0 ∨ k = 1 ∨ k = 2 ∨ k = 3 := by omega
    rcases hk4 with rfl | rfl | rfl | rfl
    · obtain rfl : a = 0 := by omega
      clear ha hk
      have hwd : ∀ w, (Instr.index 96 (.agg #[.string ⟨#[110, 117, 108, 108]⟩, .string ⟨#[116, 114, 117, 101]⟩, .string ⟨#[102, 97, 108, 115, 101]⟩]) (.int .i64 0)).run Tryz.prog w = .ok (.string ⟨#[110, 117, 108, 108]⟩) w := fun w => by
        simp [Instr.index, run_underlying Tryz.underlying96, asIntOf, go_sem]
      by_cases h : (sf s p).take 4 = [110, 117, 108, 108]
      · rw [decide_eq_true h] at H0
        have HR := Lib.hid (hh.out.trans (wG_0 h))
        clear h hh
        go_wp2_with fail
        go_quiet ((go_at_call 71; with_reducible exact H0.out _ _))
        have hR2 := hR.drewN nq
        generalize wr.drewN nq = wq at *
        have c1 := hR2.c1
        have f1 := hR2.free 1
        go_wp2_with fail
        first | go_ret | go_returns
        have h9 := hR2.set1 (p + 4)
        push_cast at h9
        rw [HR.out]
        exact ⟨rfl, h9⟩
      · rw [decide_eq_false h] at H0
        have HR := Lib.hid (hh.out.trans (wG_n0 h))
        clear h hh
        go_wp2_with fail
        go_quiet ((go_at_call 71; with_reducible exact H0.out _ _))
        have hR2 := hR.drewN nq
        generalize wr.drewN nq = wq at *
        go_wp2_with fail
        go_roundw
        case rel => exact ⟨1, _, rfl, by omega, by omega, hR2, HR⟩
        case measure => simp [RowKit.intOf]
    · obtain rfl : a = 1 := by omega
      clear ha hk
      have hwd : ∀ w, (Instr.index 96 (.agg #[.string ⟨#[110, 117, 108, 108]⟩, .string ⟨#[116, 114, 117, 101]⟩, .string ⟨#[102, 97, 108, 115, 101]⟩]) (.int .i64 1)).run Tryz.prog w = .ok (.string ⟨#[116, 114, 117, 101]⟩) w := fun w => by
        simp [Instr.index, run_underlying Tryz.underlying96, asIntOf, go_sem]
      by_cases h : (sf s p).take 4 = [116, 114, 117, 101]
      · rw [decide_eq_true h] at H1
        have HR := Lib.hid (hh.out.trans (wG_1 h))
        clear h hh
        go_wp2_with fail
        go_quiet ((go_at_call 71; with_reducible exact H1.out _ _))
        have hR2 := hR.drewN nq
        generalize wr.drewN nq = wq at *
        have c1 := hR2.c1
        have f1 := hR2.free 1
        go_wp2_with fail
        first | go_ret | go_returns
        have h9 := hR2.set1 (p + 4)
        push_cast at h9
        rw [HR.out]
        exact ⟨rfl, h9⟩
      · rw [decide_eq_false h] at H1
        have HR := Lib.hid (hh.out.trans (wG_n1 h))
        clear h hh
        go_wp2_with fail
        go_quiet ((go_at_call 71; with_reducible exact H1.out _ _))
        have hR2 := hR.drewN nq
        generalize wr.drewN nq = wq at *
        go_wp2_with fail
        go_roundw
        case rel => exact ⟨2, _, rfl, by omega, by omega, hR2, HR⟩
        case measure => simp [RowKit.intOf]
    · obtain rfl : a = 2 := by omega
      clear ha hk
      have hwd : ∀ w, (Instr.index 96 (.agg #[.string ⟨#[110, 117, 108, 108]⟩, .string ⟨#[116, 114, 117, 101]⟩, .string ⟨#[102, 97, 108, 115, 101]⟩]) (.int .i64 2)).run Tryz.prog w = .ok (.string ⟨#[102, 97, 108, 115, 101]⟩) w := fun w => by
        simp [Instr.index, run_underlying Tryz.underlying96, asIntOf, go_sem]
      by_cases h : (sf s p).take 5 = [102, 97, 108, 115, 101]
      · rw [decide_eq_true h] at H2
        have HR := Lib.hid (hh.out.trans (wG_2 h))
        clear h hh
        go_wp2_with fail
        go_quiet ((go_at_call 71; with_reducible exact H2.out _ _))
        have hR2 := hR.drewN nq
        generalize wr.drewN nq = wq at *
        have c1 := hR2.c1
        have f1 := hR2.free 1
        go_wp2_with fail
        first | go_ret | go_returns
        have h9 := hR2.set1 (p + 5)
        push_cast at h9
        rw [HR.out]
        exact ⟨rfl, h9⟩
      · rw [decide_eq_false h] at H2
        have HR := Lib.hid (hh.out.trans (wG_n2 h))
        clear h hh
        go_wp2_with fail
        go_quiet ((go_at_call 71; with_reducible exact H2.out _ _))
        have hR2 := hR.drewN nq
        generalize wr.drewN nq = wq at *
        go_wp2_with fail
        go_roundw
        case rel => exact ⟨3, _, rfl, by omega, by omega, hR2, HR⟩
        case measure => simp [RowKit.intOf]
    · obtain rfl : a = 3 := by omega
      have HR := Lib.hid hh.out
      clear hh ha hk
      go_wp2_with fail
      first | go_ret | go_returns
      rw [HR.out]
      exact ⟨rfl, hR⟩

/-! ### takeInteger -/
theorem ltsize {s : ByteArray} {k : Nat} (h : by8 s k ≠ 0) : k < s.size := by
  rcases Nat.lt_or_ge k s.size with h' | h'
  · exact h'
  · exact absurd (by8_end s k h') h
set_option maxHeartbeats 1000000 in
set_option maxRecDepth 100000 in
theorem int_from (w0 : World) (b : Nat) (s : ByteArray) (p ex : Nat) (E : List UInt8) (lv f z q : Nat) (r : Bool) (W : World) (h : Sr w0 b s p ex E lv W) (hp : p < s.size) (hs : s.size ≤ 8000000)
    (hf : f = p + sgn (sf s p)) (hz : z = dgc (sf s f)) (hr : (z = 0 → r = false ∧ q = p) ∧ (z ≠ 0 → r = true ∧ q = f + z)) :
    Calls Tryz.prog 74 #[.pointer (some ⟨b, 0, none⟩)] W fun e w' => e = .returned (.bool r) ∧ Sr w0 b s q ex E lv w' := by
  have c0 := h.c0
  have c1 := h.c1
  have f1 := h.free 1
  have hR := Lib.hid h
  have hi0 := fun w => index_of s p (p : Int) rfl hp w
  have hs1 : (f : Int) = if by8 s p = 45 then (p : Int) + 1 else (p : Int) := by
    rw [hf]; unfold sgn; rw [sf_hd]; split <;> push_cast <;> omega
  have hfs : f ≤ s.size := by rw [hf]; unfold sgn; split <;> omega
  have HS := Lib.hid hs1
  clear hs1 hf
  have HZ := Lib.hid hz
  have HR := Lib.hid hr
  clear hz h hr
  by_cases h48 : by8 s f = 48
  · have hlt : f < s.size := ltsize (by omega)
    have hi1 := fun w => index_of s f (f : Int) rfl hlt w
    rw [h48] at hi1
    have hz1 : z = 1 := by rw [HZ.out]; unfold dgc; rw [sf_hd, if_pos h48]
    subst hz1
    obtain ⟨rfl, rfl⟩ := HR.out.2 (by decide)
    clear HZ h48
    have hf1 := HS.out
    have hfs1 : (f : Int) < s.size := by omega
    by_cases hm1 : by8 s p = 45
    · rw [if_pos hm1] at hf1
      rw [hm1] at hi0
      rw [hf1] at hi1 hfs1
      have HF := Lib.hid hf1
      clear HS hm1 hf1
      go_enter Tryz.func74, Tryz.ntmps74
      go_wp2_with fail
      go_loop [4] (fun x => x = .int .i64 ((p : Int) + 1)) (fun x => 0)
      case atStart => rfl
      case round =>
        obtain rfl := hrel
        go_wp2_with fail
        first | go_ret | go_returns
        have h9 := hR.out.set1 (f + 1)
        rw [show ((f + 1 : Nat) : Int) = (p : Int) + 1 + 1 by have := HF.out; omega] at h9
        exact ⟨rfl, h9⟩
    · rw [if_neg hm1] at hf1
      obtain rfl : f = p := by omega
      have hne : ((by8 s f : Int) == 45) = false := by rw [beq_eq_false_iff_ne]; omega
      clear HS hm1 hf1
      go_enter Tryz.func74, Tryz.ntmps74
      go_wp2_with fail
      go_loop [4] (fun x => x = .int .i64 (f : Int)) (fun x => 0)
      case atStart => rfl
      case round =>
        obtain rfl := hrel
        go_wp2_with fail
        first | go_ret | go_returns
        have h9 := hR.out.set1 (f + 1)
        push_cast at h9
        exact ⟨rfl, h9⟩
  · have hz1 : z = dgs (sf s f) := by rw [HZ.out]; unfold dgc; rw [sf_hd, if_neg h48]
    have HZ2 := Lib.hid (show f + z = f + dgs (sf s f) by rw [hz1])
    have h48b : f < s.size → ((by8 s f : Int) == 48) = false := fun _ => by rw [beq_eq_false_iff_ne]; omega
    have hi1 : f < s.size → ∀ w, (Instr.index 9 (.string s) (.int .i64 (f : Int))).run Tryz.prog w = .ok (.int .u8 (by8 s f : Int)) w := fun hlt w => index_of s f (f : Int) rfl hlt w
    clear HZ hz1 h48
    have hent : ((p : Int) = f ∧ ((by8 s p : Int) == 45) = false) ∨ ((f : Int) = (p : Int) + 1 ∧ ((by8 s p : Int) == 45) = true) := by
      have := HS.out
      by_cases hm1 : by8 s p = 45
      · rw [if_pos hm1] at this; right; exact ⟨this, by rw [beq_iff_eq]; omega⟩
      · rw [if_neg hm1] at this; left; exact ⟨this.symm, by rw [beq_eq_false_iff_ne]; omega⟩
    clear HS
    have hfin : ∀ k, f + z = k → Hid ((k = f → r = false ∧ q = p) ∧ (k ≠ f → r = true ∧ q = k)) := fun k hk => Lib.hid ⟨fun h => HR.out.1 (by omega), fun h => by have := HR.out.2 (by omega); exact ⟨this.1, by omega⟩⟩
    have HN := Lib.hid hfin
    clear hfin
    rcases hent with ⟨e1, e2⟩ | ⟨e1, e2⟩
    · obtain rfl : f = p := by omega
      clear e1
      go_enter Tryz.func74, Tryz.ntmps74
      go_wp2_with fail
      go_loop [4] (fun x => ∃ k : Nat, x = .int .i64 (k : Int) ∧ f ≤ k ∧ k ≤ s.size ∧ Hid (f + z = k + dgs (sf s k))) (fun x => s.size - (RowKit.intOf x).toNat)
      case atStart => exact ⟨f, rfl, Nat.le_refl _, hfs, HZ2⟩
      case round =>
        obtain ⟨k, rfl, hfk, hk, hh⟩ := hrel
        have st := dgs_sf s k
        have fin0 : Lx.dg (by8 s k) = false → Hid ((k = f → r = false ∧ q = f) ∧ (k ≠ f → r = true ∧ q = k)) := fun hd => by
          rw [hd, if_neg (by simp)] at st
          have := hh.out
          rw [st] at this
          exact HN.out k this
        by_cases hkl : k < s.size
        · have hix := fun w => index_of s k (k : Int) rfl hkl w
          have hif := hi1 (by omega)
          have hnf := h48b (by omega)
          cases hd : Lx.dg (by8 s k) with
          | true =>
            rw [if_pos hd] at st
            have HE2 := Lib.hid (show f + z = k + 1 + dgs (sf s (k + 1)) by rw [hh.out, st]; omega)
            rw [dg_iff] at hd
            obtain ⟨g1, g2⟩ := hd
            generalize by8 s k = c at *
            generalize by8 s f = cf at *
            have d1 : decide ((48 : Int) ≤ (c : Int)) = true := decide_eq_true (by omega)
            have d2 : decide ((c : Int) ≤ 57) = true := decide_eq_true (by omega)
            clear st hh fin0
            go_wp2_with fail
            go_round
            case rel => exact ⟨k + 1, by go_num, by omega, by omega, HE2⟩
            case measure => simp [RowKit.intOf]; omega
          | false =>
            have HF := fin0 hd
            have hd2 : (by8 s k < 48) ∨ (48 ≤ by8 s k ∧ 57 < by8 s k) := by
              have : ¬ (48 ≤ by8 s k ∧ by8 s k ≤ 57) := fun h => by rw [(dg_iff _).2 h] at hd; cases hd
              omega
            generalize by8 s k = c at *
            generalize by8 s f = cf at *
            clear st hh fin0 hd
            have ee : ((k : Int) == (f : Int)) = decide (k = f) := by rw [Bool.eq_iff_iff, beq_iff_eq, decide_eq_true_iff]; omega
            rcases hd2 with g1 | ⟨g1, g2⟩
            · have d1 : decide ((48 : Int) ≤ (c : Int)) = false := decide_eq_false (by omega)
              by_cases hkf : k = f
              · rw [decide_eq_true hkf] at ee
                obtain ⟨rfl, rfl⟩ := HF.out.1 hkf
                clear HF hkf
                go_wp2_with fail
                first | go_ret | go_returns
                exact ⟨rfl, hR.out⟩
              · rw [decide_eq_false hkf] at ee
                obtain ⟨rfl, rfl⟩ := HF.out.2 hkf
                clear HF hkf
                go_wp2_with fail
                first | go_ret | go_returns
                exact ⟨rfl, hR.out.set1 _⟩
            · have d1 : decide ((48 : Int) ≤ (c : Int)) = true := decide_eq_true (by omega)
              have d2 : decide ((c : Int) ≤ 57) = false := decide_eq_false (by omega)
              by_cases hkf : k = f
              · rw [decide_eq_true hkf] at ee
                obtain ⟨rfl, rfl⟩ := HF.out.1 hkf
                clear HF hkf
                go_wp2_with fail
                first | go_ret | go_returns
                exact ⟨rfl, hR.out⟩
              · rw [decide_eq_false hkf] at ee
                obtain ⟨rfl, rfl⟩ := HF.out.2 hkf
                clear HF hkf
                go_wp2_with fail
                first | go_ret | go_returns
                exact ⟨rfl, hR.out.set1 _⟩
        · have HF := fin0 (by rw [by8_end s k (by omega)]; rfl)
          have ee : ((k : Int) == (f : Int)) = decide (k = f) := by rw [Bool.eq_iff_iff, beq_iff_eq, decide_eq_true_iff]; omega
          have d0 : decide ((k : Int) < (s.size : Int)) = false := decide_eq_false (by omega)
          clear st hh fin0
          by_cases hkf : k = f
          · rw [decide_eq_true hkf] at ee
            obtain ⟨rfl, rfl⟩ := HF.out.1 hkf
            clear HF hkf
            go_wp2_with fail
            first | go_ret | go_returns
            exact ⟨rfl, hR.out⟩
          · rw [decide_eq_false hkf] at ee
            obtain ⟨rfl, rfl⟩ := HF.out.2 hkf
            clear HF hkf
            go_wp2_with fail
            first | go_ret | go_returns
            exact ⟨rfl, hR.out.set1 _⟩
    · have he : (p : Int) + 1 = (f : Int) := e1.symm
      clear e1
      go_enter Tryz.func74, Tryz.ntmps74
      go_wp2_with fail
      go_loop [4] (fun x => ∃ k : Nat, x = .int .i64 (k : Int) ∧ f ≤ k ∧ k ≤ s.size ∧ Hid (f + z = k + dgs (sf s k))) (fun x => s.size - (RowKit.intOf x).toNat)
      case atStart => exact ⟨f, rfl, Nat.le_refl _, hfs, HZ2⟩
      case round =>
        obtain ⟨k, rfl, hfk, hk, hh⟩ := hrel
        have st := dgs_sf s k
        have fin0 : Lx.dg (by8 s k) = false → Hid ((k = f → r = false ∧ q = p) ∧ (k ≠ f → r = true ∧ q = k)) := fun hd => by
          rw [hd, if_neg (by simp)] at st
          have := hh.out
          rw [st] at this
          exact HN.out k this
        by_cases hkl : k < s.size
        · have hix := fun w => index_of s k (k : Int) rfl hkl w
          have hif := hi1 (by omega)
          have hnf := h48b (by omega)
          cases hd : Lx.dg (by8 s k) with
          | true =>
            rw [if_pos hd] at st
            have HE2 := Lib.hid (show f + z = k + 1 + dgs (sf s (k + 1)) by rw [hh.out, st]; omega)
            rw [dg_iff] at hd
            obtain ⟨g1, g2⟩ := hd
            generalize by8 s k = c at *
            generalize by8 s f = cf at *
            have d1 : decide ((48 : Int) ≤ (c : Int)) = true := decide_eq_true (by omega)
            have d2 : decide ((c : Int) ≤ 57) = true := decide_eq_true (by omega)
            clear st hh fin0
            go_wp2_with fail
            go_round
            case rel => exact ⟨k + 1, by go_num, by omega, by omega, HE2⟩
            case measure => simp [RowKit.intOf]; omega
          | false =>
            have HF := fin0 hd
            have hd2 : (by8 s k < 48) ∨ (48 ≤ by8 s k ∧ 57 < by8 s k) := by
              have : ¬ (48 ≤ by8 s k ∧ by8 s k ≤ 57) := fun h => by rw [(dg_iff _).2 h] at hd; cases hd
              omega
            generalize by8 s k = c at *
            generalize by8 s f = cf at *
            clear st hh fin0 hd
            have ee : ((k : Int) == (f : Int)) = decide (k = f) := by rw [Bool.eq_iff_iff, beq_iff_eq, decide_eq_true_iff]; omega
            rcases hd2 with g1 | ⟨g1, g2⟩
            · have d1 : decide ((48 : Int) ≤ (c : Int)) = false := decide_eq_false (by omega)
              by_cases hkf : k = f
              · rw [decide_eq_true hkf] at ee
                obtain ⟨rfl, rfl⟩ := HF.out.1 hkf
                clear HF hkf
                go_wp2_with fail
                first | go_ret | go_returns
                exact ⟨rfl, hR.out⟩
              · rw [decide_eq_false hkf] at ee
                obtain ⟨rfl, rfl⟩ := HF.out.2 hkf
                clear HF hkf
                go_wp2_with fail
                first | go_ret | go_returns
                exact ⟨rfl, hR.out.set1 _⟩
            · have d1 : decide ((48 : Int) ≤ (c : Int)) = true := decide_eq_true (by omega)
              have d2 : decide ((c : Int) ≤ 57) = false := decide_eq_false (by omega)
              by_cases hkf : k = f
              · rw [decide_eq_true hkf] at ee
                obtain ⟨rfl, rfl⟩ := HF.out.1 hkf
                clear HF hkf
                go_wp2_with fail
                first | go_ret | go_returns
                exact ⟨rfl, hR.out⟩
              · rw [decide_eq_false hkf] at ee
                obtain ⟨rfl, rfl⟩ := HF.out.2 hkf
                clear HF hkf
                go_wp2_with fail
                first | go_ret | go_returns
                exact ⟨rfl, hR.out.set1 _⟩
        · have HF := fin0 (by rw [by8_end s k (by omega)]; rfl)
          have ee : ((k : Int) == (f : Int)) = decide (k = f) := by rw [Bool.eq_iff_iff, beq_iff_eq, decide_eq_true_iff]; omega
          have d0 : decide ((k : Int) < (s.size : Int)) = false := decide_eq_false (by omega)
          clear st hh fin0
          by_cases hkf : k = f
          · rw [decide_eq_true hkf] at ee
            obtain ⟨rfl, rfl⟩ := HF.out.1 hkf
            clear HF hkf
            go_wp2_with fail
            first | go_ret | go_returns
            exact ⟨rfl, hR.out⟩
          · rw [decide_eq_false hkf] at ee
            obtain ⟨rfl, rfl⟩ := HF.out.2 hkf
            clear HF hkf
            go_wp2_with fail
            first | go_ret | go_returns
            exact ⟨rfl, hR.out.set1 _⟩
theorem int_any (w0 : World) (b : Nat) (s : ByteArray) (p ex : Nat) (E : List UInt8) (lv : Nat) (W : World) (h : Sr w0 b s p ex E lv W) (hp : p < s.size) (hs : s.size ≤ 8000000) :
    Calls Tryz.prog 74 #[.pointer (some ⟨b, 0, none⟩)] W fun e w' => e = .returned (.bool (decide (jn (sf s p) ≠ 0))) ∧ Sr w0 b s (p + jn (sf s p)) ex E lv w' := by
  refine int_from w0 b s p ex E lv (p + sgn (sf s p)) (dgc (sf s (p + sgn (sf s p)))) _ _ W h hp hs rfl rfl ?_
  have e : dgc (sf s (p + sgn (sf s p))) = dc (sf s p) := by unfold dc; rw [sf_drop]
  rw [e]
  constructor
  · intro h0
    have : jn (sf s p) = 0 := if_pos h0
    rw [this]
    exact ⟨rfl, rfl⟩
  · intro h0
    have : jn (sf s p) = sgn (sf s p) + dc (sf s p) := if_neg h0
    rw [this]
    exact ⟨decide_eq_true (by omega), by omega⟩
end Go.Proofs.YtbpofhlnnldceaaGreatDoor.Gr

namespace Go.Proofs.YtbpofhlnnldceaaGreatDoor.Gr
open Go.RowKit Go.Lib Go.Proofs.YtbpofhlnnldceaaGreatDoor.Byt Go.Proofs.YtbpofhlnnldceaaGreatDoor.Lx

/-- What is open, with its block. -/
theorem Sr.row {w0 W : World} {b : Nat} {s : ByteArray} {p ex lv : Nat} {E : List UInt8} (h : Sr w0 b s p ex E lv W) (c : UInt8) (F : List UInt8) (hE : E = c :: F) :
    ∃ g cap, W.cell? ⟨b, 3, none⟩ = some (.slice (some ⟨g, 0, none⟩) (F.length + 1) cap) ∧ W.cell? ⟨g, F.length, none⟩ = some (.int .u8 (c.toNat : Int)) ∧ W.frozen? ⟨g, F.length, none⟩ = false ∧ F.length ≤ cap ∧
      Sr w0 b s p ex F lv (W.setCell ⟨b, 3, none⟩ (.slice (some ⟨g, 0, none⟩) F.length cap)) := by
  subst hE
  obtain ⟨h0, ao, cap, h1, h2, h3⟩ := h.rd
  rcases h2.shape with ⟨k1, k2⟩ | ⟨g, cap', k1⟩
  · simp at k2
  · have k1' := k1
    injection k1 with e1 e2 e3
    subst e1 e3
    rw [List.length_reverse] at k1'
    have hl : (c :: F).length = F.length + 1 := rfl
    rw [hl] at h1 h2 h3
    have hc := h2.cell F.length (by omega)
    have hf := h2.free F.length
    have e : (c :: F).reverse.getD F.length 0 = c := by
      rw [List.reverse_cons, List.getD_eq_getElem?_getD, List.getElem?_append_right (by simp), List.length_reverse, Nat.sub_self]
      rfl
    rw [e] at hc
    have hcap : F.length ≤ cap := by
      unfold Byt.Own at h2
      rcases h2.2 with ⟨hv, _⟩ | ⟨g2, cap2, cur, hv, _, _, hn, _⟩
      · cases hv
      · injection hv with _ _ e4
        subst e4
        rw [List.length_reverse] at hn
        simp only [List.length_cons] at hn
        omega
    refine ⟨g, cap, h1.c3, hc, hf, hcap, ⟨⟨h0, some ⟨g, 0, none⟩, cap, h1.put3 _, ?_, h3⟩, below_put h.bel h0 _ _, h.env0⟩⟩
    have h4 : Own W w0.heap.size (.slice (some ⟨g, 0, none⟩) F.length cap) F.reverse := by
      unfold Byt.Own at h2 ⊢
      rw [List.length_reverse] at h2 ⊢
      have h5 := h2
      rw [List.reverse_cons, byteCells_append] at h5
      exact ownsRow_pop (by simp [byteCells]) h5
    exact Own.aside h4 h3 _ _

/-! ### takeEnd -/
set_option maxHeartbeats 1000000 in
set_option maxRecDepth 100000 in
theorem end_yes (w0 : World) (b : Nat) (s : ByteArray) (p ex : Nat) (c : UInt8) (F : List UInt8) (lv : Nat) (W : World) (h : Sr w0 b s p ex (c :: F) lv W) (hp : p < s.size) (hs : s.size ≤ 8000000) (hl : F.length ≤ 8000000) (hc : by8 s p = c.toNat) :
    Calls Tryz.prog 53 #[.pointer (some ⟨b, 0, none⟩)] W fun e w' => e = .returned (.bool true) ∧ Sr w0 b s (p + 1) 4 F lv w' := by
  have c0 := h.c0
  have c1 := h.c1
  obtain ⟨g, cap, c3, k0, k1, _, hS⟩ := h.row c F rfl
  have hix := fun w => index_of s p (p : Int) rfl hp w
  rw [hc] at hix
  have hR := Lib.hid h
  have hl1 : ((F.length + 1 : Nat) : Int) - 1 = (F.length : Int) := by omega
  have hlb : F.length ≤ 8000000 := hl
  have d0 : decide ((F.length : Int) < 0) = false := decide_eq_false (by omega)
  generalize hn : F.length = n at *
  have HN := Lib.hid hn
  clear hn hl h hS
  generalize hz : ((n + 1 : Nat) : Int) = z at *
  go_enter Tryz.func53, Tryz.ntmps53
  go_wp2_with fail
  go_quiet (fail)
  have hR1 := hR.out.drewN nq
  generalize W.drewN nq = W1 at *
  have c1 := hR1.c1
  have f1 := hR1.free 1
  have hR2 := hR1.set1 (p + 1)
  obtain ⟨g', cap', c3', _, _, hcap, hS⟩ := hR2.row c F rfl
  rw [HN.out] at c3' hS hcap
  have c2 := hR1.c2
  push_cast at c3' hS hR2
  have f3 := hR2.free 3
  have f2 := hS.free 2
  have HS := Lib.hid (hS.set2 4)
  clear hS hR1 hR2 c3 k0 k1
  go_wp2_with fail
  go_ret
  exact ⟨rfl, HS.out⟩
theorem Sr.len3 {w0 W : World} {b : Nat} {s : ByteArray} {p ex lv : Nat} {E : List UInt8} (h : Sr w0 b s p ex E lv W) : ∃ ao cap, W.cell? ⟨b, 3, none⟩ = some (.slice ao E.length cap) := by
  obtain ⟨ao, cap, _, _, _, c, _⟩ := h.cells
  exact ⟨ao, cap, c⟩
set_option maxHeartbeats 1000000 in
set_option maxRecDepth 100000 in
theorem end_other (w0 : World) (b : Nat) (s : ByteArray) (p ex : Nat) (c : UInt8) (F : List UInt8) (lv : Nat) (W : World) (h : Sr w0 b s p ex (c :: F) lv W) (hp : p < s.size) (hl : F.length ≤ 8000000) (hc : by8 s p ≠ c.toNat) :
    Calls Tryz.prog 53 #[.pointer (some ⟨b, 0, none⟩)] W fun e w' => e = .returned (.bool false) ∧ Sr w0 b s p ex (c :: F) lv w' := by
  have c0 := h.c0
  have c1 := h.c1
  obtain ⟨g, cap, c3, k0, k1, _, hS⟩ := h.row c F rfl
  have hix := fun w => index_of s p (p : Int) rfl hp w
  have hR := Lib.hid h
  have hl1 : ((F.length + 1 : Nat) : Int) - 1 = (F.length : Int) := by omega
  have hlb : F.length ≤ 8000000 := hl
  have d0 : decide ((F.length : Int) < 0) = false := decide_eq_false (by omega)
  have d1 : ((by8 s p : Int) != (c.toNat : Int)) = true := by rw [bne_iff_ne]; omega
  generalize by8 s p = x at *
  generalize F.length = n at *
  clear hl h hS hc
  generalize hz : ((n + 1 : Nat) : Int) = z at *
  go_enter Tryz.func53, Tryz.ntmps53
  go_wp2_with fail
  go_quiet (fail)
  have hR1 := hR.out.drewN nq
  go_wp2_with fail
  go_ret
  exact ⟨rfl, hR1⟩
set_option maxHeartbeats 1000000 in
set_option maxRecDepth 100000 in
theorem end_none (w0 : World) (b : Nat) (s : ByteArray) (p ex : Nat) (lv : Nat) (W : World) (h : Sr w0 b s p ex [] lv W) :
    Calls Tryz.prog 53 #[.pointer (some ⟨b, 0, none⟩)] W fun e w' => e = .returned (.bool false) ∧ Sr w0 b s p ex [] lv w' := by
  obtain ⟨ao, cap, c3⟩ := h.len3
  rw [List.length_nil] at c3
  have hR := Lib.hid h
  clear h
  go_enter Tryz.func53, Tryz.ntmps53
  go_wp2_with fail
  go_quiet (fail)
  have hR1 := hR.out.drewN nq
  go_wp2_with fail
  go_ret
  exact ⟨rfl, hR1⟩

/-! ### takeComma -/
set_option maxHeartbeats 1000000 in
set_option maxRecDepth 100000 in
theorem comma_yes (w0 : World) (b : Nat) (s : ByteArray) (p ex : Nat) (c : UInt8) (F : List UInt8) (lv : Nat) (W : World) (h : Sr w0 b s p ex (c :: F) lv W) (hp : p < s.size) (hs : s.size ≤ 8000000) (hl : F.length ≤ 8000000) (hc : by8 s p = 44) (q : Nat) (hq : q = if c.toNat = 125 then 3 else 0) :
    Calls Tryz.prog 55 #[.pointer (some ⟨b, 0, none⟩)] W fun e w' => e = .returned (.bool true) ∧ Sr w0 b s (p + 1) q (c :: F) lv w' := by
  have c0 := h.c0
  have c1 := h.c1
  obtain ⟨g, cap, c3, k0, k1, _, hS⟩ := h.row c F rfl
  have hix := fun w => index_of s p (p : Int) rfl hp w
  rw [hc] at hix
  have hR := Lib.hid h
  have hl1 : ((F.length + 1 : Nat) : Int) - 1 = (F.length : Int) := by omega
  have hlb : F.length ≤ 8000000 := hl
  have d0 : decide ((F.length : Int) < 0) = false := decide_eq_false (by omega)
  generalize hn : F.length = n at *
  have HN := Lib.hid hn
  have HQ := Lib.hid hq
  clear hn hl h hS hc k0 k1 hq
  generalize hz : ((n + 1 : Nat) : Int) = z at *
  go_enter Tryz.func55, Tryz.ntmps55
  go_wp2_with fail
  go_quiet (fail)
  have hR1 := hR.out.drewN nq
  generalize W.drewN nq = W1 at *
  have c1 := hR1.c1
  have c2 := hR1.c2
  have f1 := hR1.free 1
  have hR2 := hR1.set1 (p + 1)
  have f2 := hR2.free 2
  have hR3 := hR2.set2 0
  obtain ⟨g', cap', c3', k0, k1, hcap, _⟩ := hR3.row c F rfl
  rw [HN.out] at c3' hcap k0 k1
  push_cast at c3' hR2 hR3 f2 k0 k1
  have f22 := hR3.free 2
  push_cast at f22
  have hq := HQ.out
  clear HQ
  by_cases hc125 : c.toNat = 125
  · have HS := Lib.hid (hR3.set2 3)
    have c22 := hR3.c2
    push_cast at c22
    rw [hc125] at k0
    rw [if_pos hc125] at hq
    subst hq
    clear hR1 hR2 hR3 c3 hc125
    go_wp2_with fail
    go_ret
    exact ⟨rfl, HS.out⟩
  · have HS := Lib.hid hR3
    have hne : ((c.toNat : Int) == 125) = false := by rw [beq_eq_false_iff_ne]; omega
    rw [if_neg hc125] at hq
    subst hq
    clear hR1 hR2 hR3 c3 hc125
    go_wp2_with fail
    go_ret
    exact ⟨rfl, HS.out⟩
set_option maxHeartbeats 1000000 in
set_option maxRecDepth 100000 in
theorem comma_other (w0 : World) (b : Nat) (s : ByteArray) (p ex : Nat) (c : UInt8) (F : List UInt8) (lv : Nat) (W : World) (h : Sr w0 b s p ex (c :: F) lv W) (hp : p < s.size) (hl : F.length ≤ 8000000) (hc : by8 s p ≠ 44) :
    Calls Tryz.prog 55 #[.pointer (some ⟨b, 0, none⟩)] W fun e w' => e = .returned (.bool false) ∧ Sr w0 b s p ex (c :: F) lv w' := by
  have c0 := h.c0
  have c1 := h.c1
  obtain ⟨g, cap, c3, k0, k1, _, hS⟩ := h.row c F rfl
  have hix := fun w => index_of s p (p : Int) rfl hp w
  have hR := Lib.hid h
  have hl1 : ((F.length + 1 : Nat) : Int) - 1 = (F.length : Int) := by omega
  have hlb : F.length ≤ 8000000 := hl
  have d0 : decide ((F.length : Int) < 0) = false := decide_eq_false (by omega)
  have d1 : ((by8 s p : Int) != 44) = true := by rw [bne_iff_ne]; omega
  generalize by8 s p = x at *
  generalize F.length = n at *
  clear hl h hS hc k0 k1
  generalize hz : ((n + 1 : Nat) : Int) = z at *
  go_enter Tryz.func55, Tryz.ntmps55
  go_wp2_with fail
  go_quiet (fail)
  have hR1 := hR.out.drewN nq
  go_wp2_with fail
  go_ret
  exact ⟨rfl, hR1⟩
set_option maxHeartbeats 1000000 in
set_option maxRecDepth 100000 in
theorem comma_none (w0 : World) (b : Nat) (s : ByteArray) (p ex : Nat) (lv : Nat) (W : World) (h : Sr w0 b s p ex [] lv W) :
    Calls Tryz.prog 55 #[.pointer (some ⟨b, 0, none⟩)] W fun e w' => e = .returned (.bool false) ∧ Sr w0 b s p ex [] lv w' := by
  obtain ⟨ao, cap, c3⟩ := h.len3
  rw [List.length_nil] at c3
  have hR := Lib.hid h
  clear h
  go_enter Tryz.func55, Tryz.ntmps55
  go_wp2_with fail
  go_quiet (fail)
  have hR1 := hR.out.drewN nq
  go_wp2_with fail
  go_ret
  exact ⟨rfl, hR1⟩

/-! ### open -/
theorem run_pushK (W : World) (ty : TypeId) (B : Nat) (v : Value) (l : List UInt8) (hown : Own W B v l) (hB : B ≤ W.heap.size)
    (g m c : Nat) (cs : Array Value) (fr : Nat × Nat) (hblk : W.heap[g]? = some (.cells cs 5 fr)) (ns : List UInt8) (hm : ns.length = m) (hcs : cs.toList = byteCells ns) (hlim : l.length + m ≤ 140737488355328) :
    ∃ v' w', (Builtin.append_ #[53, 53] ty #[v, .slice (some ⟨g, 0, none⟩) m c]).run Tryz.prog W = .ok v' w' ∧ Own w' B v' (l ++ ns) ∧ W.grownBy w' v.ownBlock := by
  obtain ⟨i0, hi, hz0, hz1, hz2⟩ := info_parts info8
  subst hm
  have hnews : ∀ j u, (byteCells ns)[j]? = some u → W.cell? ((⟨g, 0, none⟩ : Addr).add j) = some u := by
    intro j u hj
    rw [← hcs] at hj
    have : ((⟨g, 0, none⟩ : Addr).add j) = ⟨g, j, none⟩ := add_at g j
    rw [this, World.cell?, hblk]
    simpa using hj
  obtain ⟨v', w', hr, h2, h3, _⟩ := run_append_own (P := Tryz.prog) W B 53 ty 5 i0 (.int .u8 0) 1 1 Tryz.underlying53 hi hz0 hz1 hz2 rfl (by omega) v l.length (byteCells l) hown
    ⟨g, 0, none⟩ ns.length c (byteCells ns) (by simp [byteCells]) hnews (Byt.byteCells_one ns) (by unfold maxLen; omega) (by omega) (by omega)
  refine ⟨v', w', hr, ?_, h3⟩
  unfold Byt.Own
  rw [List.length_append, byteCells_append]
  exact h2
section
variable {ops : Array Oper} {rest : List Oper} {o : Oper} {a : Act} {Q : Exit → Act → World → Prop}
theorem wpList_pushK (W : World) (hg : o.guard = none) (s x : Operand) (ho : o.op = .call { callee := .builtin .append, args := #[s, x], argTypes := #[53, 53] })
    (B : Nat) (v : Value) (l : List UInt8) (hs : a.eval s = v) (hown : Own W B v l) (hB : B ≤ W.heap.size)
    (g m c : Nat) (hx : a.eval x = .slice (some ⟨g, 0, none⟩) m c) (cs : Array Value) (fr : Nat × Nat) (hblk : W.heap[g]? = some (.cells cs 5 fr)) (ns : List UInt8) (hm : ns.length = m) (hcs : cs.toList = byteCells ns) (hlim : l.length + m ≤ 140737488355328)
    (h : ∀ v' w', Own w' B v' (l ++ ns) → W.grownBy w' v.ownBlock → wpList Tryz.prog ops Q rest (a.put o.dst v') w') : wpList Tryz.prog ops Q (o :: rest) a W := by
  obtain ⟨v', w', hr, h2, h3⟩ := run_pushK W o.type B v l hown hB g m c cs fr hblk ns hm hcs hlim
  refine wpList_plain hg fun K hK => ?_
  unfold Oper.wp execOp
  simp only [ho, resolve, invoke, builtin, Sem.run_bind, Sem.run_pure, Result.andThen_ok, List.map_toArray, List.map_cons, List.map_nil, hs, hx, hr]
  exact hK _ _ (h v' w' h2 h3)
end
/-- Behind 'r.ends = append(r.ends, c)'. -/
theorem Sr.grown {w0 W w' : World} {b : Nat} {s : ByteArray} {p ex lv : Nat} {E : List UInt8} {v v' : Value} {c : UInt8} (h : Sr w0 b s p ex E lv W) (hv : W.cell? ⟨b, 3, none⟩ = some v)
    (hgr : W.grownBy w' v.ownBlock) (ho : Own w' w0.heap.size v' (E.reverse ++ [c])) :
    ∃ ao cap, v' = .slice ao (E.length + 1) cap ∧ w'.cell? ⟨b, 3, none⟩ = some v ∧ w'.frozen? ⟨b, 3, none⟩ = false ∧ Sr w0 b s p ex (c :: E) lv (w'.setCell ⟨b, 3, none⟩ (.slice ao (E.length + 1) cap)) := by
  obtain ⟨h0, ao, cap, h1, h2, h3⟩ := h.rd
  have hlt := h1.lt
  obtain rfl : v = .slice ao E.length cap := by
    have := h1.c3.symm.trans hv
    injection this with this
    exact this.symm
  have hF : Fv w' b s p ex (.slice ao E.length cap) lv := (hgr.block b hlt (fun e => h3 e.symm)).trans h1
  obtain ⟨ao', cap', e⟩ := Own.form ho
  have hl : (E.reverse ++ [c]).length = E.length + 1 := by simp
  rw [hl] at e
  subst e
  have hne : (Value.slice ao' (E.length + 1) cap').ownBlock ≠ some b := Lib.ownBlock_ne ho hF (by decide)
  have hb : Below w0.heap.size w0 w' := h.bel.grown hgr h.bel.size (fun k hk => (World.ownsRow.lt h2 k hk).1)
  have e2 : E.reverse ++ [c] = (c :: E).reverse := by rw [List.reverse_cons]
  rw [e2] at ho
  exact ⟨ao', cap', rfl, hF.c3, hF.free 3, ⟨⟨h0, ao', cap', hF.put3 _, Own.aside ho hne _ _, hne⟩, below_put hb h0 _ _, h.env0⟩⟩
theorem new_set (W : World) (a : Addr) (u : Value) (cs : Array Value) (t : TypeId) : ((W.setCell a u).alloc (.cells cs t)).heap[W.heap.size]? = some (.cells cs t (0, 0)) := by
  have h := heap_alloc_new (W.setCell a u) (.cells cs t)
  rw [World.size_setCell] at h
  exact h
theorem max_run (x y : Nat) (w : World) : (Builtin.max_ #[3, 3] 3 #[.int .i64 (x : Int), .int .i64 (y : Int)]).run Tryz.prog w = .ok (.int .i64 ((max x y : Nat) : Int)) w := by
  rw [run_max_int2]
  congr 2
  split <;> omega
theorem byte_cell (c : UInt8) : (#[Value.int .u8 (c.toNat : Int)] : Array Value).toList = byteCells [c] := rfl
set_option maxHeartbeats 1000000 in
set_option maxRecDepth 100000 in
theorem open_any (w0 : World) (b : Nat) (s : ByteArray) (p ex : Nat) (E : List UInt8) (lv : Nat) (W : World) (h : Sr w0 b s p ex E lv W) (hp : p < s.size) (hs : s.size ≤ 8000000) (hl : E.length ≤ 8000000) (c : UInt8) (q : Nat) :
    Calls Tryz.prog 72 #[.pointer (some ⟨b, 0, none⟩), .int .u8 (c.toNat : Int), .int .i64 (q : Int)] W fun e w' => e = .returned (.bool true) ∧ Sr w0 b s (p + 1) q (c :: E) (max lv (E.length + 1)) w' := by
  have c1 := h.c1
  have f1 := h.free 1
  have hR1 := h.set1 (p + 1)
  push_cast at hR1
  obtain ⟨_, ao, cap, hF, hown, _⟩ := id hR1.rd
  have hA3 : ∀ o, ((W.setCell ⟨b, 1, none⟩ (.int .i64 ((p : Int) + 1))).alloc o).cell? ⟨b, 3, none⟩ = some (.slice ao E.length cap) := fun o => (((Below.refl _ _).alloc (Nat.le_refl _) o).cell (Lib.lt_of_cell hF.c3)).trans hF.c3
  have c3 := hF.c3
  have hHS := hR1.bel.size
  have hA := fun o => hR1.next ((Below.refl _ _).alloc (Nat.le_refl _) o)
  have HR := Lib.hid hR1
  clear hR1 h hF
  go_enter Tryz.func72, Tryz.ntmps72
  go_wp2_with (refine wpList_pushK _ rfl _ _ rfl w0.heap.size (.slice ao E.length cap) E.reverse rfl (hown.alloc _) (by rw [World.size_alloc]; omega) _ _ _ rfl _ _ (new_set _ _ _ _ _) [c] rfl (byte_cell c) (by rw [List.length_reverse]; omega) ?_; intro v2 w2 hown2 hgr; obtain ⟨ao', cap', rfl, c3', f3', hS⟩ := (hA _).grown (hA3 _) hgr hown2)
  generalize w2.setCell ⟨b, 3, none⟩ (.slice ao' (E.length + 1) cap') = w3 at *
  clear c3' f3' hown2 hgr hA hA3 hown c3 c1 f1
  have hl2 : (c :: E).length = E.length + 1 := rfl
  obtain ⟨a3, k3, c0, c1, c2, c3, c4, ff⟩ := hS.cells
  rw [hl2] at c3
  have f4 := ff 4
  have f2 := ff 2
  have hmx := fun w => max_run lv (E.length + 1) w
  have HS := Lib.hid (hS.drew.set4 (max lv (E.length + 1)))
  clear hS hl2 ff
  generalize hm : E.length + 1 = m at *
  generalize hM : max lv m = M at *
  have HM := Lib.hid (hm.symm ▸ hM)
  clear hm hM
  go_still_tail 13, (by kernel_rfl)
  change wpList _ _ _ _ _ w3.drew
  have c2 : w3.drew.cell? ⟨b, 2, none⟩ = some (.int .i64 (ex : Int)) := c2
  have c4 : w3.drew.cell? ⟨b, 4, none⟩ = some (.int .i64 (lv : Int)) := c4
  have f4 : w3.drew.frozen? ⟨b, 4, none⟩ = false := f4
  have f2 : w3.drew.frozen? ⟨b, 2, none⟩ = false := f2
  generalize w3.drew = w4 at *
  have f22 := HS.out.free 2
  have HS2 := Lib.hid (HS.out.set2 q)
  clear HS
  go_wp2_with fail
  go_ret
  exact ⟨rfl, by rw [HM.out]; exact HS2.out⟩
end Go.Proofs.YtbpofhlnnldceaaGreatDoor.Gr

namespace Go.Proofs.YtbpofhlnnldceaaGreatDoor.Gr
open Go.RowKit Go.Lib Go.Proofs.YtbpofhlnnldceaaGreatDoor.Byt Go.Proofs.YtbpofhlnnldceaaGreatDoor.Lx

/-- What a step hands back, and where the reader is behind it. -/
def Post (w0 : World) (b : Nat) (s : ByteArray) (p : Nat) (r : Option (St × Nat)) (e : Ending) (w' : World) : Prop :=
  match r with
  | none => e = .returned (.bool false) ∧ Below w0.heap.size w0 w'
  | some q => e = .returned (.bool true) ∧ Sr w0 b s (p + q.2) q.1.ex q.1.E q.1.lv w'

/-! ### takeName -/
set_option maxHeartbeats 1000000 in
set_option maxRecDepth 100000 in
theorem name_none (w0 : World) (b : Nat) (s : ByteArray) (p ex : Nat) (E : List UInt8) (lv : Nat) (W : World) (h : Sr w0 b s p ex E lv W) (hs : s.size ≤ 8000000) (hq : qn (sf s p) = 0) :
    Calls Tryz.prog 54 #[.pointer (some ⟨b, 0, none⟩)] W fun e w' => e = .returned (.bool false) ∧ Below w0.heap.size w0 w' := by
  have H := fun W h => text_at w0 b s p ex E lv W h hs
  rw [hq, decide_eq_false (by simp)] at H
  have HT := Lib.hid H
  have HR := Lib.hid h
  clear H hq h
  go_enter Tryz.func54, Tryz.ntmps54
  go_wp2_with (go_at_call 73; (with_reducible refine (HT.out _ HR.out).mono ?_); rintro e wx ⟨rfl, hx⟩)
  go_ret
  exact ⟨rfl, hx.bel⟩
set_option maxHeartbeats 1000000 in
set_option maxRecDepth 100000 in
theorem name_some (w0 : World) (b : Nat) (s : ByteArray) (p ex : Nat) (E : List UInt8) (lv k : Nat) (W : World) (h : Sr w0 b s p ex E lv W) (hs : s.size ≤ 8000000) (hq : qn (sf s p) ≠ 0) (hk : k = p + kn (sf s p)) :
    Calls Tryz.prog 54 #[.pointer (some ⟨b, 0, none⟩)] W fun e w' => (by8 s k = 58 → e = .returned (.bool true) ∧ Sr w0 b s (k + 1) 0 E lv w') ∧ (by8 s k ≠ 58 → e = .returned (.bool false) ∧ Below w0.heap.size w0 w') := by
  have H := fun W h => text_at w0 b s p ex E lv W h hs
  rw [decide_eq_true hq] at H
  have HT := Lib.hid H
  have hqle : p + qn (sf s p) ≤ s.size := by
    have h1 := qn_le (sf s p)
    rw [sf_len] at h1
    omega
  have H2 := fun W h => blanks_at w0 b s (p + qn (sf s p)) ex E lv W h hqle hs
  have hk2 : p + qn (sf s p) + skp (sf s (p + qn (sf s p))) = k := by rw [hk]; unfold kn; rw [sf_drop]; omega
  rw [hk2] at H2
  have HB := Lib.hid H2
  have hks : k ≤ s.size := by
    have h1 := skp_le (sf s (p + qn (sf s p)))
    rw [sf_len] at h1
    omega
  have HR := Lib.hid h
  clear H H2 hq h hk hk2 hqle
  generalize p + qn (sf s p) = u at *
  by_cases hke : k = s.size
  · have hb0 : by8 s k = 0 := by8_end s k (by omega)
    rw [hb0]
    have ee : ((k : Int) == (s.size : Int)) = true := by rw [beq_iff_eq]; omega
    clear hke hb0
    go_enter Tryz.func54, Tryz.ntmps54
    go_wp2_with (first
      | (go_at_call 73; (with_reducible refine (HT.out _ HR.out).mono ?_); rintro e wx ⟨rfl, hx⟩; have HX := Lib.hid hx; clear hx)
      | (go_at_call 34; (with_reducible refine (HB.out _ HX.out).mono ?_); rintro e wy ⟨rfl, hy⟩))
    have c0 := hy.c0
    have c1 := hy.c1
    go_quiet (fail)
    have HY := Lib.hid (hy.drewN nq)
    generalize wy.drewN nq = wz at *
    clear hy
    go_wp2_with fail
    go_ret
    exact ⟨fun h => absurd h (by decide), fun _ => ⟨rfl, HY.out.bel⟩⟩
  · have hkl : k < s.size := by omega
    have ee : ((k : Int) == (s.size : Int)) = false := by rw [beq_eq_false_iff_ne]; omega
    have hix := fun w => index_of s k (k : Int) rfl hkl w
    clear hke
    by_cases h58 : by8 s k = 58
    · rw [h58] at hix ⊢
      clear h58
      go_enter Tryz.func54, Tryz.ntmps54
      go_wp2_with (first
        | (go_at_call 73; (with_reducible refine (HT.out _ HR.out).mono ?_); rintro e wx ⟨rfl, hx⟩; have HX := Lib.hid hx; clear hx)
        | (go_at_call 34; (with_reducible refine (HB.out _ HX.out).mono ?_); rintro e wy ⟨rfl, hy⟩))
      have c0 := hy.c0
      have c1 := hy.c1
      go_quiet (fail)
      have HY := Lib.hid (hy.drewN nq)
      generalize wy.drewN nq = wz at *
      clear hy c0 c1
      have c1 := HY.out.c1
      have c2 := HY.out.c2
      have f1 := HY.out.free 1
      have hz := HY.out.set1 (k + 1)
      push_cast at hz
      have f2 := hz.free 2
      have HZ := Lib.hid (hz.set2 0)
      clear hz
      go_wp2_with fail
      go_ret
      exact ⟨fun _ => ⟨rfl, HZ.out⟩, fun h => absurd rfl h⟩
    · have hne : ((by8 s k : Int) != 58) = true := by rw [bne_iff_ne]; omega
      generalize by8 s k = x at *
      have HN := Lib.hid h58
      clear h58
      go_enter Tryz.func54, Tryz.ntmps54
      go_wp2_with (first
        | (go_at_call 73; (with_reducible refine (HT.out _ HR.out).mono ?_); rintro e wx ⟨rfl, hx⟩; have HX := Lib.hid hx; clear hx)
        | (go_at_call 34; (with_reducible refine (HB.out _ HX.out).mono ?_); rintro e wy ⟨rfl, hy⟩))
      have c0 := hy.c0
      have c1 := hy.c1
      go_quiet (fail)
      have HY := Lib.hid (hy.drewN nq)
      generalize wy.drewN nq = wz at *
      clear hy
      go_wp2_with fail
      go_ret
      exact ⟨fun h => absurd h HN.out, fun _ => ⟨rfl, HY.out.bel⟩⟩
theorem name_any (w0 : World) (b : Nat) (s : ByteArray) (p ex : Nat) (E : List UInt8) (lv : Nat) (W : World) (h : Sr w0 b s p ex E lv W) (hs : s.size ≤ 8000000) :
    Calls Tryz.prog 54 #[.pointer (some ⟨b, 0, none⟩)] W (Post w0 b s p (nStep ⟨ex, E, lv⟩ (sf s p))) := by
  by_cases hq : qn (sf s p) = 0
  · have e : nStep ⟨ex, E, lv⟩ (sf s p) = none := if_neg fun h => h.1 hq
    rw [e]
    exact name_none w0 b s p ex E lv W h hs hq
  · refine (name_some w0 b s p ex E lv _ W h hs hq rfl).mono ?_
    rintro e w' ⟨h1, h2⟩
    have e8 : hd ((sf s p).drop (kn (sf s p))) = by8 s (p + kn (sf s p)) := by rw [sf_drop, sf_hd]
    by_cases h58 : by8 s (p + kn (sf s p)) = 58
    · have e : nStep ⟨ex, E, lv⟩ (sf s p) = some (⟨0, E, lv⟩, kn (sf s p) + 1) := if_pos ⟨hq, by rw [e8]; exact h58⟩
      rw [e]
      exact h1 h58
    · have e : nStep ⟨ex, E, lv⟩ (sf s p) = none := if_neg fun h => h58 (by rw [← e8]; exact h.2)
      rw [e]
      exact h2 h58

/-! ### takeEnd, takeComma, told by the machine's steps -/
theorem end_any (w0 : World) (b : Nat) (s : ByteArray) (p ex : Nat) (E : List UInt8) (lv : Nat) (W : World) (h : Sr w0 b s p ex E lv W) (hp : p < s.size) (hs : s.size ≤ 8000000) (hl : E.length ≤ 8000000) :
    (∃ q, eStep ⟨ex, E, lv⟩ (sf s p) = some q ∧ Calls Tryz.prog 53 #[.pointer (some ⟨b, 0, none⟩)] W (fun e w' => e = .returned (.bool true) ∧ Sr w0 b s (p + q.2) q.1.ex q.1.E q.1.lv w')) ∨
    (eStep ⟨ex, E, lv⟩ (sf s p) = none ∧ Calls Tryz.prog 53 #[.pointer (some ⟨b, 0, none⟩)] W (fun e w' => e = .returned (.bool false) ∧ Sr w0 b s p ex E lv w')) := by
  cases E with
  | nil => exact .inr ⟨if_neg fun h => h.1 rfl, end_none w0 b s p ex lv W h⟩
  | cons c F =>
    simp only [List.length_cons] at hl
    by_cases hc : by8 s p = c.toNat
    · exact .inl ⟨_, if_pos ⟨by simp, by rw [sf_hd]; exact hc⟩, end_yes w0 b s p ex c F lv W h hp hs (by omega) hc⟩
    · exact .inr ⟨if_neg fun h => hc (by have := h.2; rw [sf_hd] at this; exact this), end_other w0 b s p ex c F lv W h hp (by omega) hc⟩
theorem comma_any (w0 : World) (b : Nat) (s : ByteArray) (p ex : Nat) (E : List UInt8) (lv : Nat) (W : World) (h : Sr w0 b s p ex E lv W) (hp : p < s.size) (hs : s.size ≤ 8000000) (hl : E.length ≤ 8000000) :
    (∃ q, cStep ⟨ex, E, lv⟩ (sf s p) = some q ∧ Calls Tryz.prog 55 #[.pointer (some ⟨b, 0, none⟩)] W (fun e w' => e = .returned (.bool true) ∧ Sr w0 b s (p + q.2) q.1.ex q.1.E q.1.lv w')) ∨
    (cStep ⟨ex, E, lv⟩ (sf s p) = none ∧ Calls Tryz.prog 55 #[.pointer (some ⟨b, 0, none⟩)] W (fun e w' => e = .returned (.bool false) ∧ Sr w0 b s p ex E lv w')) := by
  cases E with
  | nil => exact .inr ⟨if_neg fun h => h.1 rfl, comma_none w0 b s p ex lv W h⟩
  | cons c F =>
    simp only [List.length_cons] at hl
    by_cases hc : by8 s p = 44
    · exact .inl ⟨_, if_pos ⟨by simp, by rw [sf_hd]; exact hc⟩, comma_yes w0 b s p ex c F lv W h hp hs (by omega) hc _ rfl⟩
    · exact .inr ⟨if_neg fun h => hc (by have := h.2; rw [sf_hd] at this; exact this), comma_other w0 b s p ex c F lv W h hp (by omega) hc⟩

/-! ### takeValue -/
set_option maxHeartbeats 1000000 in
set_option maxRecDepth 100000 in
theorem value_list (w0 : World) (b : Nat) (s : ByteArray) (p ex : Nat) (E : List UInt8) (lv : Nat) (W : World) (h : Sr w0 b s p ex E lv W) (hp : p < s.size) (hs : s.size ≤ 8000000) (hl : E.length ≤ 8000000) (hc : by8 s p = 91) :
    Calls Tryz.prog 52 #[.pointer (some ⟨b, 0, none⟩)] W fun e w' => e = .returned (.bool true) ∧ Sr w0 b s (p + 1) 1 (93 :: E) (max lv (E.length + 1)) w' := by
  have HO : Hid (∀ W, Sr w0 b s p ex E lv W → Calls Tryz.prog 72 #[.pointer (some ⟨b, 0, none⟩), .int .u8 93, .int .i64 1] W fun e w' => e = .returned (.bool true) ∧ Sr w0 b s (p + 1) 1 (93 :: E) (max lv (E.length + 1)) w') := Lib.hid fun W h => open_any w0 b s p ex E lv W h hp hs hl 93 1
  have c0 := h.c0
  have c1 := h.c1
  have hix := fun w => index_of s p (p : Int) rfl hp w
  rw [hc] at hix
  have HR := Lib.hid h
  clear h hc
  go_enter Tryz.func52, Tryz.ntmps52
  go_wp2_with fail
  go_quiet (fail)
  have HY := Lib.hid (HR.out.drewN nq)
  generalize W.drewN nq = wz at *
  go_wp2_with (go_at_call 72; (with_reducible refine (HO.out _ HY.out).mono ?_); rintro e wx ⟨rfl, hx⟩)
  go_ret
  exact ⟨rfl, hx⟩
set_option maxHeartbeats 1000000 in
set_option maxRecDepth 100000 in
theorem value_object (w0 : World) (b : Nat) (s : ByteArray) (p ex : Nat) (E : List UInt8) (lv : Nat) (W : World) (h : Sr w0 b s p ex E lv W) (hp : p < s.size) (hs : s.size ≤ 8000000) (hl : E.length ≤ 8000000) (hc : by8 s p = 123) :
    Calls Tryz.prog 52 #[.pointer (some ⟨b, 0, none⟩)] W fun e w' => e = .returned (.bool true) ∧ Sr w0 b s (p + 1) 2 (125 :: E) (max lv (E.length + 1)) w' := by
  have HO : Hid (∀ W, Sr w0 b s p ex E lv W → Calls Tryz.prog 72 #[.pointer (some ⟨b, 0, none⟩), .int .u8 125, .int .i64 2] W fun e w' => e = .returned (.bool true) ∧ Sr w0 b s (p + 1) 2 (125 :: E) (max lv (E.length + 1)) w') := Lib.hid fun W h => open_any w0 b s p ex E lv W h hp hs hl 125 2
  have c0 := h.c0
  have c1 := h.c1
  have hix := fun w => index_of s p (p : Int) rfl hp w
  rw [hc] at hix
  have HR := Lib.hid h
  clear h hc
  go_enter Tryz.func52, Tryz.ntmps52
  go_wp2_with fail
  go_quiet (fail)
  have HY := Lib.hid (HR.out.drewN nq)
  generalize W.drewN nq = wz at *
  go_wp2_with (go_at_call 72; (with_reducible refine (HO.out _ HY.out).mono ?_); rintro e wx ⟨rfl, hx⟩)
  go_ret
  exact ⟨rfl, hx⟩
set_option maxHeartbeats 1000000 in
set_option maxRecDepth 100000 in
theorem value_text (w0 : World) (b : Nat) (s : ByteArray) (p ex : Nat) (E : List UInt8) (lv : Nat) (W : World) (h : Sr w0 b s p ex E lv W) (hp : p < s.size) (hs : s.size ≤ 8000000) (h1 : by8 s p ≠ 91) (h2 : by8 s p ≠ 123) (hq : qn (sf s p) ≠ 0) :
    Calls Tryz.prog 52 #[.pointer (some ⟨b, 0, none⟩)] W fun e w' => e = .returned (.bool true) ∧ Sr w0 b s (p + qn (sf s p)) 4 E lv w' := by
  have HT := fun W (h : Sr w0 b s p 4 E lv W) => text_at w0 b s p 4 E lv W h hs
  rw [decide_eq_true hq] at HT
  have HT := Lib.hid HT
  clear hq
  have c0 := h.c0
  have c1 := h.c1
  have hix := fun w => index_of s p (p : Int) rfl hp w
  have n1 : ((by8 s p : Int) == 91) = false := by rw [beq_eq_false_iff_ne]; omega
  have n2 : ((by8 s p : Int) == 123) = false := by rw [beq_eq_false_iff_ne]; omega
  generalize by8 s p = x at *
  have HR := Lib.hid h
  clear h h1 h2
  go_enter Tryz.func52, Tryz.ntmps52
  go_wp2_with fail
  go_quiet (fail)
  have HY := Lib.hid (HR.out.drewN nq)
  generalize W.drewN nq = wz at *
  have c2 := HY.out.c2
  have f2 := HY.out.free 2
  have HZ := Lib.hid (HY.out.set2 4)
  push_cast at HZ
  go_wp2_with ((go_at_call 73; (with_reducible refine (HT.out _ HZ.out).mono ?_); rintro e wa ⟨rfl, ha⟩; have HA := Lib.hid ha; clear ha))
  go_ret
  exact ⟨rfl, HA.out⟩
set_option maxHeartbeats 1000000 in
set_option maxRecDepth 100000 in
theorem value_int (w0 : World) (b : Nat) (s : ByteArray) (p ex : Nat) (E : List UInt8) (lv : Nat) (W : World) (h : Sr w0 b s p ex E lv W) (hp : p < s.size) (hs : s.size ≤ 8000000) (h1 : by8 s p ≠ 91) (h2 : by8 s p ≠ 123) (hq : qn (sf s p) = 0) (hj : jn (sf s p) ≠ 0) :
    Calls Tryz.prog 52 #[.pointer (some ⟨b, 0, none⟩)] W fun e w' => e = .returned (.bool true) ∧ Sr w0 b s (p + jn (sf s p)) 4 E lv w' := by
  have HT : Hid (∀ W, Sr w0 b s p 4 E lv W → Calls Tryz.prog _ #[.pointer (some ⟨b, 0, none⟩)] W fun e w' => e = .returned (.bool false) ∧ Sr w0 b s p 4 E lv w') := Lib.hid fun W h => by have := text_at w0 b s p 4 E lv W h hs; rw [hq, Nat.add_zero, decide_eq_false (by simp)] at this; exact this
  have HI := fun W (h : Sr w0 b s p 4 E lv W) => int_any w0 b s p 4 E lv W h hp hs
  rw [decide_eq_true hj] at HI
  have HI := Lib.hid HI
  clear hq hj
  have c0 := h.c0
  have c1 := h.c1
  have hix := fun w => index_of s p (p : Int) rfl hp w
  have n1 : ((by8 s p : Int) == 91) = false := by rw [beq_eq_false_iff_ne]; omega
  have n2 : ((by8 s p : Int) == 123) = false := by rw [beq_eq_false_iff_ne]; omega
  generalize by8 s p = x at *
  have HR := Lib.hid h
  clear h h1 h2
  go_enter Tryz.func52, Tryz.ntmps52
  go_wp2_with fail
  go_quiet (fail)
  have HY := Lib.hid (HR.out.drewN nq)
  generalize W.drewN nq = wz at *
  have c2 := HY.out.c2
  have f2 := HY.out.free 2
  have HZ := Lib.hid (HY.out.set2 4)
  push_cast at HZ
  go_wp2_with (first | (go_at_call 73; (with_reducible refine (HT.out _ HZ.out).mono ?_); rintro e wa ⟨rfl, ha⟩; have HA := Lib.hid ha; clear ha) | (go_at_call 74; (with_reducible refine (HI.out _ HA.out).mono ?_); rintro e wb ⟨rfl, hb⟩; have HB := Lib.hid hb; clear hb))
  go_ret
  exact ⟨rfl, HB.out⟩
set_option maxHeartbeats 1000000 in
set_option maxRecDepth 100000 in
theorem value_word (w0 : World) (b : Nat) (s : ByteArray) (p ex : Nat) (E : List UInt8) (lv : Nat) (W : World) (h : Sr w0 b s p ex E lv W) (hp : p < s.size) (hs : s.size ≤ 8000000) (h1 : by8 s p ≠ 91) (h2 : by8 s p ≠ 123) (hq : qn (sf s p) = 0) (hj : jn (sf s p) = 0) (hw : wn (sf s p) ≠ 0) :
    Calls Tryz.prog 52 #[.pointer (some ⟨b, 0, none⟩)] W fun e w' => e = .returned (.bool true) ∧ Sr w0 b s (p + wn (sf s p)) 4 E lv w' := by
  have HT : Hid (∀ W, Sr w0 b s p 4 E lv W → Calls Tryz.prog _ #[.pointer (some ⟨b, 0, none⟩)] W fun e w' => e = .returned (.bool false) ∧ Sr w0 b s p 4 E lv w') := Lib.hid fun W h => by have := text_at w0 b s p 4 E lv W h hs; rw [hq, Nat.add_zero, decide_eq_false (by simp)] at this; exact this
  have HI : Hid (∀ W, Sr w0 b s p 4 E lv W → Calls Tryz.prog _ #[.pointer (some ⟨b, 0, none⟩)] W fun e w' => e = .returned (.bool false) ∧ Sr w0 b s p 4 E lv w') := Lib.hid fun W h => by have := int_any w0 b s p 4 E lv W h hp hs; rw [hj, Nat.add_zero, decide_eq_false (by simp)] at this; exact this
  have HW := fun W (h : Sr w0 b s p 4 E lv W) => word_any w0 b s p 4 E lv W h (by omega) hs
  rw [decide_eq_true hw] at HW
  have HW := Lib.hid HW
  clear hq hj hw
  have c0 := h.c0
  have c1 := h.c1
  have hix := fun w => index_of s p (p : Int) rfl hp w
  have n1 : ((by8 s p : Int) == 91) = false := by rw [beq_eq_false_iff_ne]; omega
  have n2 : ((by8 s p : Int) == 123) = false := by rw [beq_eq_false_iff_ne]; omega
  generalize by8 s p = x at *
  have HR := Lib.hid h
  clear h h1 h2
  go_enter Tryz.func52, Tryz.ntmps52
  go_wp2_with fail
  go_quiet (fail)
  have HY := Lib.hid (HR.out.drewN nq)
  generalize W.drewN nq = wz at *
  have c2 := HY.out.c2
  have f2 := HY.out.free 2
  have HZ := Lib.hid (HY.out.set2 4)
  push_cast at HZ
  go_wp2_with (first | (go_at_call 73; (with_reducible refine (HT.out _ HZ.out).mono ?_); rintro e wa ⟨rfl, ha⟩; have HA := Lib.hid ha; clear ha) | (go_at_call 74; (with_reducible refine (HI.out _ HA.out).mono ?_); rintro e wb ⟨rfl, hb⟩; have HB := Lib.hid hb; clear hb) | (go_at_call 75; (with_reducible refine (HW.out _ HB.out).mono ?_); rintro e wd ⟨rfl, hd⟩; have HD := Lib.hid hd; clear hd))
  go_ret
  exact ⟨rfl, HD.out⟩
set_option maxHeartbeats 1000000 in
set_option maxRecDepth 100000 in
theorem value_none (w0 : World) (b : Nat) (s : ByteArray) (p ex : Nat) (E : List UInt8) (lv : Nat) (W : World) (h : Sr w0 b s p ex E lv W) (hp : p < s.size) (hs : s.size ≤ 8000000) (h1 : by8 s p ≠ 91) (h2 : by8 s p ≠ 123) (hq : qn (sf s p) = 0) (hj : jn (sf s p) = 0) (hw : wn (sf s p) = 0) :
    Calls Tryz.prog 52 #[.pointer (some ⟨b, 0, none⟩)] W fun e w' => e = .returned (.bool false) ∧ Below w0.heap.size w0 w' := by
  have HT : Hid (∀ W, Sr w0 b s p 4 E lv W → Calls Tryz.prog _ #[.pointer (some ⟨b, 0, none⟩)] W fun e w' => e = .returned (.bool false) ∧ Sr w0 b s p 4 E lv w') := Lib.hid fun W h => by have := text_at w0 b s p 4 E lv W h hs; rw [hq, Nat.add_zero, decide_eq_false (by simp)] at this; exact this
  have HI : Hid (∀ W, Sr w0 b s p 4 E lv W → Calls Tryz.prog _ #[.pointer (some ⟨b, 0, none⟩)] W fun e w' => e = .returned (.bool false) ∧ Sr w0 b s p 4 E lv w') := Lib.hid fun W h => by have := int_any w0 b s p 4 E lv W h hp hs; rw [hj, Nat.add_zero, decide_eq_false (by simp)] at this; exact this
  have HW : Hid (∀ W, Sr w0 b s p 4 E lv W → Calls Tryz.prog _ #[.pointer (some ⟨b, 0, none⟩)] W fun e w' => e = .returned (.bool false) ∧ Sr w0 b s p 4 E lv w') := Lib.hid fun W h => by have := word_any w0 b s p 4 E lv W h (by omega) hs; rw [hw, Nat.add_zero, decide_eq_false (by simp)] at this; exact this
  clear hq hj hw
  have c0 := h.c0
  have c1 := h.c1
  have hix := fun w => index_of s p (p : Int) rfl hp w
  have n1 : ((by8 s p : Int) == 91) = false := by rw [beq_eq_false_iff_ne]; omega
  have n2 : ((by8 s p : Int) == 123) = false := by rw [beq_eq_false_iff_ne]; omega
  generalize by8 s p = x at *
  have HR := Lib.hid h
  clear h h1 h2
  go_enter Tryz.func52, Tryz.ntmps52
  go_wp2_with fail
  go_quiet (fail)
  have HY := Lib.hid (HR.out.drewN nq)
  generalize W.drewN nq = wz at *
  have c2 := HY.out.c2
  have f2 := HY.out.free 2
  have HZ := Lib.hid (HY.out.set2 4)
  push_cast at HZ
  go_wp2_with (first | (go_at_call 73; (with_reducible refine (HT.out _ HZ.out).mono ?_); rintro e wa ⟨rfl, ha⟩; have HA := Lib.hid ha; clear ha) | (go_at_call 74; (with_reducible refine (HI.out _ HA.out).mono ?_); rintro e wb ⟨rfl, hb⟩; have HB := Lib.hid hb; clear hb) | (go_at_call 75; (with_reducible refine (HW.out _ HB.out).mono ?_); rintro e wd ⟨rfl, hd⟩; have HD := Lib.hid hd; clear hd))
  go_ret
  exact ⟨rfl, HD.out.bel⟩
theorem value_any (w0 : World) (b : Nat) (s : ByteArray) (p ex : Nat) (E : List UInt8) (lv : Nat) (W : World) (h : Sr w0 b s p ex E lv W) (hp : p < s.size) (hs : s.size ≤ 8000000) (hl : E.length ≤ 8000000) :
    Calls Tryz.prog 52 #[.pointer (some ⟨b, 0, none⟩)] W (Post w0 b s p (vStep ⟨ex, E, lv⟩ (sf s p))) := by
  by_cases h1 : by8 s p = 91
  · have e : vStep ⟨ex, E, lv⟩ (sf s p) = some (opened ⟨ex, E, lv⟩ 1 93, 1) := if_pos (by rw [sf_hd]; exact h1)
    rw [e]
    exact value_list w0 b s p ex E lv W h hp hs hl h1
  · by_cases h2 : by8 s p = 123
    · have e : vStep ⟨ex, E, lv⟩ (sf s p) = some (opened ⟨ex, E, lv⟩ 2 125, 1) := by
        unfold vStep; rw [if_neg (by rw [sf_hd]; exact h1), if_pos (by rw [sf_hd]; exact h2)]
      rw [e]
      exact value_object w0 b s p ex E lv W h hp hs hl h2
    · have e : vStep ⟨ex, E, lv⟩ (sf s p) = if sn (sf s p) ≠ 0 then some (⟨4, E, lv⟩, sn (sf s p)) else none := by
        unfold vStep; rw [if_neg (by rw [sf_hd]; exact h1), if_neg (by rw [sf_hd]; exact h2)]
      rw [e]
      by_cases hq : qn (sf s p) = 0
      · by_cases hj : jn (sf s p) = 0
        · rw [sn_w hq hj]
          by_cases hw : wn (sf s p) = 0
          · rw [if_neg (by simpa using hw)]
            exact value_none w0 b s p ex E lv W h hp hs h1 h2 hq hj hw
          · rw [if_pos hw]
            exact value_word w0 b s p ex E lv W h hp hs h1 h2 hq hj hw
        · rw [sn_j hq hj, if_pos hj]
          exact value_int w0 b s p ex E lv W h hp hs h1 h2 hq hj
      · rw [sn_q hq, if_pos hq]
        exact value_text w0 b s p ex E lv W h hp hs h1 h2 hq

/-! ### takeNext -/
set_option maxHeartbeats 1000000 in
set_option maxRecDepth 100000 in
theorem next_0Vy (w0 : World) (b : Nat) (s : ByteArray) (p ex : Nat) (E : List UInt8) (lv : Nat) (W : World) (q : St × Nat) (h : Sr w0 b s p ex E lv W) (hex : ex = 0)
    (H : Hid (Calls Tryz.prog 52 #[.pointer (some ⟨b, 0, none⟩)] W fun e w' => e = .returned (.bool true) ∧ Sr w0 b s (p + q.2) q.1.ex q.1.E q.1.lv w')) :
    Calls Tryz.prog 35 #[.pointer (some ⟨b, 0, none⟩)] W fun e w' => e = .returned (.bool true) ∧ Sr w0 b s (p + q.2) q.1.ex q.1.E q.1.lv w' := by
  subst hex
  have c2 := h.c2
  go_enter Tryz.func35, Tryz.ntmps35
  go_wp2_with (go_at_call 52; (with_reducible refine H.out.mono ?_); rintro e wx ⟨rfl, hx⟩)
  go_ret
  exact ⟨rfl, hx⟩
set_option maxHeartbeats 1000000 in
set_option maxRecDepth 100000 in
theorem next_0Vn (w0 : World) (b : Nat) (s : ByteArray) (p ex : Nat) (E : List UInt8) (lv : Nat) (W : World) (h : Sr w0 b s p ex E lv W) (hex : ex = 0)
    (H : Hid (Calls Tryz.prog 52 #[.pointer (some ⟨b, 0, none⟩)] W fun e w' => e = .returned (.bool false) ∧ Below w0.heap.size w0 w')) :
    Calls Tryz.prog 35 #[.pointer (some ⟨b, 0, none⟩)] W fun e w' => e = .returned (.bool false) ∧ Below w0.heap.size w0 w' := by
  subst hex
  have c2 := h.c2
  go_enter Tryz.func35, Tryz.ntmps35
  go_wp2_with (go_at_call 52; (with_reducible refine H.out.mono ?_); rintro e wx ⟨rfl, hx⟩)
  go_ret
  exact ⟨rfl, hx⟩
set_option maxHeartbeats 1000000 in
set_option maxRecDepth 100000 in
theorem next_1Ey (w0 : World) (b : Nat) (s : ByteArray) (p ex : Nat) (E : List UInt8) (lv : Nat) (W : World) (q : St × Nat) (h : Sr w0 b s p ex E lv W) (hex : ex = 1)
    (H : Hid (Calls Tryz.prog 53 #[.pointer (some ⟨b, 0, none⟩)] W fun e w' => e = .returned (.bool true) ∧ Sr w0 b s (p + q.2) q.1.ex q.1.E q.1.lv w')) :
    Calls Tryz.prog 35 #[.pointer (some ⟨b, 0, none⟩)] W fun e w' => e = .returned (.bool true) ∧ Sr w0 b s (p + q.2) q.1.ex q.1.E q.1.lv w' := by
  subst hex
  have c2 := h.c2
  go_enter Tryz.func35, Tryz.ntmps35
  go_wp2_with (go_at_call 53; (with_reducible refine H.out.mono ?_); rintro e wx ⟨rfl, hx⟩)
  go_ret
  exact ⟨rfl, hx⟩
set_option maxHeartbeats 1000000 in
set_option maxRecDepth 100000 in
theorem next_1EVy (w0 : World) (b : Nat) (s : ByteArray) (p ex : Nat) (E : List UInt8) (lv : Nat) (W : World) (q : St × Nat) (h : Sr w0 b s p ex E lv W) (hex : ex = 1)
    (H1 : Hid (Calls Tryz.prog 53 #[.pointer (some ⟨b, 0, none⟩)] W fun e w' => e = .returned (.bool false) ∧ Sr w0 b s p ex E lv w')) (H : Hid (∀ W, Sr w0 b s p ex E lv W → Calls Tryz.prog 52 #[.pointer (some ⟨b, 0, none⟩)] W fun e w' => e = .returned (.bool true) ∧ Sr w0 b s (p + q.2) q.1.ex q.1.E q.1.lv w')) :
    Calls Tryz.prog 35 #[.pointer (some ⟨b, 0, none⟩)] W fun e w' => e = .returned (.bool true) ∧ Sr w0 b s (p + q.2) q.1.ex q.1.E q.1.lv w' := by
  subst hex
  have c2 := h.c2
  go_enter Tryz.func35, Tryz.ntmps35
  go_wp2_with (first
    | (go_at_call 53; (with_reducible refine H1.out.mono ?_); rintro e wy ⟨rfl, hy⟩; have HY := Lib.hid hy; clear hy)
    | (go_at_call 52; (with_reducible refine (H.out _ HY.out).mono ?_); rintro e wx ⟨rfl, hx⟩))
  go_ret
  exact ⟨rfl, hx⟩
set_option maxHeartbeats 1000000 in
set_option maxRecDepth 100000 in
theorem next_1EVn (w0 : World) (b : Nat) (s : ByteArray) (p ex : Nat) (E : List UInt8) (lv : Nat) (W : World) (h : Sr w0 b s p ex E lv W) (hex : ex = 1)
    (H1 : Hid (Calls Tryz.prog 53 #[.pointer (some ⟨b, 0, none⟩)] W fun e w' => e = .returned (.bool false) ∧ Sr w0 b s p ex E lv w')) (H : Hid (∀ W, Sr w0 b s p ex E lv W → Calls Tryz.prog 52 #[.pointer (some ⟨b, 0, none⟩)] W fun e w' => e = .returned (.bool false) ∧ Below w0.heap.size w0 w')) :
    Calls Tryz.prog 35 #[.pointer (some ⟨b, 0, none⟩)] W fun e w' => e = .returned (.bool false) ∧ Below w0.heap.size w0 w' := by
  subst hex
  have c2 := h.c2
  go_enter Tryz.func35, Tryz.ntmps35
  go_wp2_with (first
    | (go_at_call 53; (with_reducible refine H1.out.mono ?_); rintro e wy ⟨rfl, hy⟩; have HY := Lib.hid hy; clear hy)
    | (go_at_call 52; (with_reducible refine (H.out _ HY.out).mono ?_); rintro e wx ⟨rfl, hx⟩))
  go_ret
  exact ⟨rfl, hx⟩
set_option maxHeartbeats 1000000 in
set_option maxRecDepth 100000 in
theorem next_2Ey (w0 : World) (b : Nat) (s : ByteArray) (p ex : Nat) (E : List UInt8) (lv : Nat) (W : World) (q : St × Nat) (h : Sr w0 b s p ex E lv W) (hex : ex = 2)
    (H : Hid (Calls Tryz.prog 53 #[.pointer (some ⟨b, 0, none⟩)] W fun e w' => e = .returned (.bool true) ∧ Sr w0 b s (p + q.2) q.1.ex q.1.E q.1.lv w')) :
    Calls Tryz.prog 35 #[.pointer (some ⟨b, 0, none⟩)] W fun e w' => e = .returned (.bool true) ∧ Sr w0 b s (p + q.2) q.1.ex q.1.E q.1.lv w' := by
  subst hex
  have c2 := h.c2
  go_enter Tryz.func35, Tryz.ntmps35
  go_wp2_with (go_at_call 53; (with_reducible refine H.out.mono ?_); rintro e wx ⟨rfl, hx⟩)
  go_ret
  exact ⟨rfl, hx⟩
set_option maxHeartbeats 1000000 in
set_option maxRecDepth 100000 in
theorem next_2ENy (w0 : World) (b : Nat) (s : ByteArray) (p ex : Nat) (E : List UInt8) (lv : Nat) (W : World) (q : St × Nat) (h : Sr w0 b s p ex E lv W) (hex : ex = 2)
    (H1 : Hid (Calls Tryz.prog 53 #[.pointer (some ⟨b, 0, none⟩)] W fun e w' => e = .returned (.bool false) ∧ Sr w0 b s p ex E lv w')) (H : Hid (∀ W, Sr w0 b s p ex E lv W → Calls Tryz.prog 54 #[.pointer (some ⟨b, 0, none⟩)] W fun e w' => e = .returned (.bool true) ∧ Sr w0 b s (p + q.2) q.1.ex q.1.E q.1.lv w')) :
    Calls Tryz.prog 35 #[.pointer (some ⟨b, 0, none⟩)] W fun e w' => e = .returned (.bool true) ∧ Sr w0 b s (p + q.2) q.1.ex q.1.E q.1.lv w' := by
  subst hex
  have c2 := h.c2
  go_enter Tryz.func35, Tryz.ntmps35
  go_wp2_with (first
    | (go_at_call 53; (with_reducible refine H1.out.mono ?_); rintro e wy ⟨rfl, hy⟩; have HY := Lib.hid hy; clear hy)
    | (go_at_call 54; (with_reducible refine (H.out _ HY.out).mono ?_); rintro e wx ⟨rfl, hx⟩))
  go_ret
  exact ⟨rfl, hx⟩
set_option maxHeartbeats 1000000 in
set_option maxRecDepth 100000 in
theorem next_2ENn (w0 : World) (b : Nat) (s : ByteArray) (p ex : Nat) (E : List UInt8) (lv : Nat) (W : World) (h : Sr w0 b s p ex E lv W) (hex : ex = 2)
    (H1 : Hid (Calls Tryz.prog 53 #[.pointer (some ⟨b, 0, none⟩)] W fun e w' => e = .returned (.bool false) ∧ Sr w0 b s p ex E lv w')) (H : Hid (∀ W, Sr w0 b s p ex E lv W → Calls Tryz.prog 54 #[.pointer (some ⟨b, 0, none⟩)] W fun e w' => e = .returned (.bool false) ∧ Below w0.heap.size w0 w')) :
    Calls Tryz.prog 35 #[.pointer (some ⟨b, 0, none⟩)] W fun e w' => e = .returned (.bool false) ∧ Below w0.heap.size w0 w' := by
  subst hex
  have c2 := h.c2
  go_enter Tryz.func35, Tryz.ntmps35
  go_wp2_with (first
    | (go_at_call 53; (with_reducible refine H1.out.mono ?_); rintro e wy ⟨rfl, hy⟩; have HY := Lib.hid hy; clear hy)
    | (go_at_call 54; (with_reducible refine (H.out _ HY.out).mono ?_); rintro e wx ⟨rfl, hx⟩))
  go_ret
  exact ⟨rfl, hx⟩
set_option maxHeartbeats 1000000 in
set_option maxRecDepth 100000 in
theorem next_3Ny (w0 : World) (b : Nat) (s : ByteArray) (p ex : Nat) (E : List UInt8) (lv : Nat) (W : World) (q : St × Nat) (h : Sr w0 b s p ex E lv W) (hex : ex = 3)
    (H : Hid (Calls Tryz.prog 54 #[.pointer (some ⟨b, 0, none⟩)] W fun e w' => e = .returned (.bool true) ∧ Sr w0 b s (p + q.2) q.1.ex q.1.E q.1.lv w')) :
    Calls Tryz.prog 35 #[.pointer (some ⟨b, 0, none⟩)] W fun e w' => e = .returned (.bool true) ∧ Sr w0 b s (p + q.2) q.1.ex q.1.E q.1.lv w' := by
  subst hex
  have c2 := h.c2
  go_enter Tryz.func35, Tryz.ntmps35
  go_wp2_with (go_at_call 54; (with_reducible refine H.out.mono ?_); rintro e wx ⟨rfl, hx⟩)
  go_ret
  exact ⟨rfl, hx⟩
set_option maxHeartbeats 1000000 in
set_option maxRecDepth 100000 in
theorem next_3Nn (w0 : World) (b : Nat) (s : ByteArray) (p ex : Nat) (E : List UInt8) (lv : Nat) (W : World) (h : Sr w0 b s p ex E lv W) (hex : ex = 3)
    (H : Hid (Calls Tryz.prog 54 #[.pointer (some ⟨b, 0, none⟩)] W fun e w' => e = .returned (.bool false) ∧ Below w0.heap.size w0 w')) :
    Calls Tryz.prog 35 #[.pointer (some ⟨b, 0, none⟩)] W fun e w' => e = .returned (.bool false) ∧ Below w0.heap.size w0 w' := by
  subst hex
  have c2 := h.c2
  go_enter Tryz.func35, Tryz.ntmps35
  go_wp2_with (go_at_call 54; (with_reducible refine H.out.mono ?_); rintro e wx ⟨rfl, hx⟩)
  go_ret
  exact ⟨rfl, hx⟩
set_option maxHeartbeats 1000000 in
set_option maxRecDepth 100000 in
theorem next_4Cy (w0 : World) (b : Nat) (s : ByteArray) (p ex : Nat) (E : List UInt8) (lv : Nat) (W : World) (q : St × Nat) (h : Sr w0 b s p ex E lv W) (hex : ex = 4)
    (H : Hid (Calls Tryz.prog 55 #[.pointer (some ⟨b, 0, none⟩)] W fun e w' => e = .returned (.bool true) ∧ Sr w0 b s (p + q.2) q.1.ex q.1.E q.1.lv w')) :
    Calls Tryz.prog 35 #[.pointer (some ⟨b, 0, none⟩)] W fun e w' => e = .returned (.bool true) ∧ Sr w0 b s (p + q.2) q.1.ex q.1.E q.1.lv w' := by
  subst hex
  have c2 := h.c2
  go_enter Tryz.func35, Tryz.ntmps35
  go_wp2_with (go_at_call 55; (with_reducible refine H.out.mono ?_); rintro e wx ⟨rfl, hx⟩)
  go_ret
  exact ⟨rfl, hx⟩
set_option maxHeartbeats 1000000 in
set_option maxRecDepth 100000 in
theorem next_4CEy (w0 : World) (b : Nat) (s : ByteArray) (p ex : Nat) (E : List UInt8) (lv : Nat) (W : World) (q : St × Nat) (h : Sr w0 b s p ex E lv W) (hex : ex = 4)
    (H1 : Hid (Calls Tryz.prog 55 #[.pointer (some ⟨b, 0, none⟩)] W fun e w' => e = .returned (.bool false) ∧ Sr w0 b s p ex E lv w')) (H : Hid (∀ W, Sr w0 b s p ex E lv W → Calls Tryz.prog 53 #[.pointer (some ⟨b, 0, none⟩)] W fun e w' => e = .returned (.bool true) ∧ Sr w0 b s (p + q.2) q.1.ex q.1.E q.1.lv w')) :
    Calls Tryz.prog 35 #[.pointer (some ⟨b, 0, none⟩)] W fun e w' => e = .returned (.bool true) ∧ Sr w0 b s (p + q.2) q.1.ex q.1.E q.1.lv w' := by
  subst hex
  have c2 := h.c2
  go_enter Tryz.func35, Tryz.ntmps35
  go_wp2_with (first
    | (go_at_call 55; (with_reducible refine H1.out.mono ?_); rintro e wy ⟨rfl, hy⟩; have HY := Lib.hid hy; clear hy)
    | (go_at_call 53; (with_reducible refine (H.out _ HY.out).mono ?_); rintro e wx ⟨rfl, hx⟩))
  go_ret
  exact ⟨rfl, hx⟩
set_option maxHeartbeats 1000000 in
set_option maxRecDepth 100000 in
theorem next_4CEn (w0 : World) (b : Nat) (s : ByteArray) (p ex : Nat) (E : List UInt8) (lv : Nat) (W : World) (h : Sr w0 b s p ex E lv W) (hex : ex = 4)
    (H1 : Hid (Calls Tryz.prog 55 #[.pointer (some ⟨b, 0, none⟩)] W fun e w' => e = .returned (.bool false) ∧ Sr w0 b s p ex E lv w')) (H : Hid (∀ W, Sr w0 b s p ex E lv W → Calls Tryz.prog 53 #[.pointer (some ⟨b, 0, none⟩)] W fun e w' => e = .returned (.bool false) ∧ Below w0.heap.size w0 w')) :
    Calls Tryz.prog 35 #[.pointer (some ⟨b, 0, none⟩)] W fun e w' => e = .returned (.bool false) ∧ Below w0.heap.size w0 w' := by
  subst hex
  have c2 := h.c2
  go_enter Tryz.func35, Tryz.ntmps35
  go_wp2_with (first
    | (go_at_call 55; (with_reducible refine H1.out.mono ?_); rintro e wy ⟨rfl, hy⟩; have HY := Lib.hid hy; clear hy)
    | (go_at_call 53; (with_reducible refine (H.out _ HY.out).mono ?_); rintro e wx ⟨rfl, hx⟩))
  go_ret
  exact ⟨rfl, hx⟩
theorem next_any (w0 : World) (b : Nat) (s : ByteArray) (p ex : Nat) (E : List UInt8) (lv : Nat) (W : World) (h : Sr w0 b s p ex E lv W) (hp : p < s.size) (hs : s.size ≤ 8000000) (hl : E.length ≤ 8000000) (hex : ex ≤ 4) :
    Calls Tryz.prog 35 #[.pointer (some ⟨b, 0, none⟩)] W (Post w0 b s p (step ⟨ex, E, lv⟩ (sf s p))) := by
  have HV := fun W h => value_any w0 b s p ex E lv W h hp hs hl
  have HN := fun W h => name_any w0 b s p ex E lv W h hs
  have HE := fun W h => end_any w0 b s p ex E lv W h hp hs hl
  have HC := comma_any w0 b s p ex E lv W h hp hs hl
  have h5 : ex = 0 ∨ ex = 1 ∨ ex = 2 ∨ ex = 3 ∨ ex = 4 := by omega
  rcases h5 with h5 | h5 | h5 | h5 | h5
  · rw [step_0 h5]
    cases hv : vStep ⟨ex, E, lv⟩ (sf s p) with
    | none => rw [hv] at HV; exact next_0Vn w0 b s p ex E lv W h h5 (Lib.hid (HV W h))
    | some q => rw [hv] at HV; exact next_0Vy w0 b s p ex E lv W q h h5 (Lib.hid (HV W h))
  · rw [step_1 h5]
    rcases HE W h with ⟨q, e, H⟩ | ⟨e, H⟩
    · rw [e]; exact next_1Ey w0 b s p ex E lv W q h h5 (Lib.hid H)
    · rw [e]
      show Calls _ _ _ _ (Post w0 b s p (vStep ⟨ex, E, lv⟩ (sf s p)))
      cases hv : vStep ⟨ex, E, lv⟩ (sf s p) with
      | none => rw [hv] at HV; exact next_1EVn w0 b s p ex E lv W h h5 (Lib.hid H) (Lib.hid HV)
      | some q => rw [hv] at HV; exact next_1EVy w0 b s p ex E lv W q h h5 (Lib.hid H) (Lib.hid HV)
  · rw [step_2 h5]
    rcases HE W h with ⟨q, e, H⟩ | ⟨e, H⟩
    · rw [e]; exact next_2Ey w0 b s p ex E lv W q h h5 (Lib.hid H)
    · rw [e]
      show Calls _ _ _ _ (Post w0 b s p (nStep ⟨ex, E, lv⟩ (sf s p)))
      cases hv : nStep ⟨ex, E, lv⟩ (sf s p) with
      | none => rw [hv] at HN; exact next_2ENn w0 b s p ex E lv W h h5 (Lib.hid H) (Lib.hid HN)
      | some q => rw [hv] at HN; exact next_2ENy w0 b s p ex E lv W q h h5 (Lib.hid H) (Lib.hid HN)
  · rw [step_3 h5]
    cases hv : nStep ⟨ex, E, lv⟩ (sf s p) with
    | none => rw [hv] at HN; exact next_3Nn w0 b s p ex E lv W h h5 (Lib.hid (HN W h))
    | some q => rw [hv] at HN; exact next_3Ny w0 b s p ex E lv W q h h5 (Lib.hid (HN W h))
  · rw [step_4 h5]
    rcases HC with ⟨q, e, H⟩ | ⟨e, H⟩
    · rw [e]; exact next_4Cy w0 b s p ex E lv W q h h5 (Lib.hid H)
    · rw [e]
      show Calls _ _ _ _ (Post w0 b s p (eStep ⟨ex, E, lv⟩ (sf s p)))
      have HE2 : (∃ q, eStep ⟨ex, E, lv⟩ (sf s p) = some q ∧ ∀ W, Sr w0 b s p ex E lv W → Calls Tryz.prog 53 #[.pointer (some ⟨b, 0, none⟩)] W (fun e w' => e = .returned (.bool true) ∧ Sr w0 b s (p + q.2) q.1.ex q.1.E q.1.lv w')) ∨
          (eStep ⟨ex, E, lv⟩ (sf s p) = none ∧ ∀ W, Sr w0 b s p ex E lv W → Calls Tryz.prog 53 #[.pointer (some ⟨b, 0, none⟩)] W (fun e w' => e = .returned (.bool false) ∧ Below w0.heap.size w0 w')) := by
        cases hv : eStep ⟨ex, E, lv⟩ (sf s p) with
        | none =>
          right
          refine ⟨rfl, fun W h => ?_⟩
          rcases HE W h with ⟨q, e2, H2⟩ | ⟨_, H2⟩
          · rw [hv] at e2; cases e2
          · exact H2.mono fun _ _ h => ⟨h.1, h.2.bel⟩
        | some q =>
          left
          refine ⟨q, rfl, fun W h => ?_⟩
          rcases HE W h with ⟨q2, e2, H2⟩ | ⟨e2, _⟩
          · rw [hv] at e2; cases e2; exact H2
          · rw [hv] at e2; cases e2
      rcases HE2 with ⟨q, e2, H2⟩ | ⟨e2, H2⟩
      · rw [e2]; exact next_4CEy w0 b s p ex E lv W q h h5 (Lib.hid H) (Lib.hid H2)
      · rw [e2]; exact next_4CEn w0 b s p ex E lv W h h5 (Lib.hid H) (Lib.hid H2)
end Go.Proofs.YtbpofhlnnldceaaGreatDoor.Gr

namespace Go.Proofs.YtbpofhlnnldceaaGreatDoor.Gr
open Go.RowKit Go.Lib Go.Proofs.YtbpofhlnnldceaaGreatDoor.Byt Go.Proofs.YtbpofhlnnldceaaGreatDoor.Lx

theorem orE_all {α} {a b : Option α} {P : α → Prop} (ha : ∀ x, a = some x → P x) (hb : ∀ x, b = some x → P x) : ∀ x, orE a b = some x → P x := by
  intro x h
  rcases orE_some h with h | h
  · exact ha x h
  · exact hb x h
/-- How a step changes what is expected and what is open. -/
theorem step_in {t : St} {m : List UInt8} : ∀ q, step t m = some q → q.1.ex ≤ 4 ∧ q.1.E.length ≤ t.E.length + 1 := by
  have hv : ∀ q, vStep t m = some q → q.1.ex ≤ 4 ∧ q.1.E.length ≤ t.E.length + 1 := by
    intro q h
    unfold vStep at h
    split at h
    · cases h; exact ⟨by show 1 ≤ 4; omega, by simp [opened]⟩
    · split at h
      · cases h; exact ⟨by show 2 ≤ 4; omega, by simp [opened]⟩
      · split at h
        · cases h; exact ⟨Nat.le_refl _, by simp⟩
        · cases h
  have hn : ∀ q, nStep t m = some q → q.1.ex ≤ 4 ∧ q.1.E.length ≤ t.E.length + 1 := by
    intro q h
    unfold nStep at h
    split at h
    · cases h; exact ⟨Nat.zero_le _, by simp⟩
    · cases h
  have he : ∀ q, eStep t m = some q → q.1.ex ≤ 4 ∧ q.1.E.length ≤ t.E.length + 1 := by
    intro q h
    unfold eStep at h
    split at h
    · cases h; exact ⟨Nat.le_refl _, by simp; omega⟩
    · cases h
  have hc : ∀ q, cStep t m = some q → q.1.ex ≤ 4 ∧ q.1.E.length ≤ t.E.length + 1 := by
    intro q h
    unfold cStep at h
    split at h
    · cases h; exact ⟨by simp only; split <;> omega, by simp⟩
    · cases h
  unfold step
  split
  · exact hv
  · split
    · exact orE_all he hv
    · split
      · exact orE_all he hn
      · split
        · exact hn
        · exact orE_all hc he

/-! ### the reader, made -/
theorem infoR : (Tryz.prog.info? 68).map (·.size) = some 5 := by kernel_rfl
section
variable {ops : Array Oper} {rest : List Oper} {o : Oper} {a : Act} {Q : Exit → Act → World → Prop}
theorem wpList_keepR (W : World) (hgd : o.guard = none) (x y : Operand) (ho : o.op = .store 68 x y) (B : Nat) (w0 : World) (hb : Below B w0 W) (g : Nat) (hB : B ≤ g) (s : ByteArray) (old : Array Value)
    (hx : a.eval x = .pointer (some ⟨g, 0, none⟩)) (hy : a.eval y = .agg #[.string s, .int .i64 0, .int .i64 0, .slice none 0 0, .int .i64 0]) (hk : W.heap[g]? = some (.cells old 68 (0, 0))) (ho5 : old.size = 5)
    (h : ∀ w', w'.heap[g]? = some (.cells #[.string s, .int .i64 0, .int .i64 0, .slice none 0 0, .int .i64 0] 68 (0, 0)) → Below B w0 w' → wpList Tryz.prog ops Q rest (a.put o.dst undef) w') : wpList Tryz.prog ops Q (o :: rest) a W := by
  refine wpList_store_row hgd _ x y ho g _ hx hy _ old hk infoR ho5 (by simp [Value.oneCell']) ?_
  exact h _ (setRow_heap W g old _ _ _ hk) (below_setRow hb hB _)
end
theorem Sr.made {w0 W : World} {b : Nat} {s : ByteArray} (hb : w0.heap.size ≤ b) (h : W.heap[b]? = some (.cells #[.string s, .int .i64 0, .int .i64 0, .slice none 0 0, .int .i64 0] 68 (0, 0))) (hB : Below w0.heap.size w0 W) (hE : Env w0) :
    Sr w0 b s 0 0 [] 0 W := ⟨⟨hb, none, 0, h, Own.nil _ _, by simp [Value.ownBlock]⟩, hB, hE⟩

set_option maxHeartbeats 1000000 in
set_option maxRecDepth 100000 in
theorem level_any (s : ByteArray) (w : World) (hE : Env w) (hs : s.size ≤ 8000000) :
    Calls Tryz.prog 19 #[.string s] w fun e w' => e = .returned (.int .i64 (lvl s.data.toList)) ∧ Below w.heap.size w w' := by
  have HM := Lib.hid (fun W h hB => Sr.made (w0 := w) (W := W) (s := s) (Nat.le_refl _) h hB hE)
  have hr0 : run ⟨0, [], 0⟩ (sf s (0 + skp (sf s 0))) = lvl s.data.toList := by
    rw [Nat.zero_add, show sf s (skp (sf s 0)) = (sf s 0).drop (skp (sf s 0)) by rw [sf_drop, Nat.zero_add], run_skp]
    rfl
  have hl0 : 0 + skp (sf s 0) ≤ s.size := by
    have := skp_le (sf s 0)
    rw [sf_len] at this
    omega
  have HB := Lib.hid (fun k ex E lv W h hk => blanks_at w w.heap.size s k ex E lv W h hk hs)
  have HN := Lib.hid (fun k ex E lv W h hp hl hex => next_any w w.heap.size s k ex E lv W h hp hs hl hex)
  have hsk0 : skp (sf s (0 + skp (sf s 0))) = 0 := by
    rw [← sf_drop]; exact skp_none (skp_head _)
  generalize hZ : lvl s.data.toList = Z at *
  have HZ := Lib.hid hr0
  have HS0 := Lib.hid hsk0
  clear hZ hr0 hsk0 hE
  go_enter Tryz.func19, Tryz.ntmps19
  go_wp2_with (first
    | (refine wpList_keepR _ rfl _ _ rfl w.heap.size w ((Below.refl _ w).alloc (Nat.le_refl _) _) w.heap.size (Nat.le_refl _) s _ rfl rfl (heap_alloc_new _ _) rfl ?_; intro w1 hk1 hb1)
    | (go_at_call 34; (with_reducible refine (HB.out 0 0 [] 0 _ (HM.out _ hk1 hb1) (Nat.zero_le _)).mono ?_); rintro e w2 ⟨rfl, hR2⟩))
  go_loopw [] (fun wr => ∃ k ex E lv, Sr w w.heap.size s k ex E lv wr ∧ k ≤ s.size ∧ E.length ≤ k ∧ ex ≤ 4 ∧ Hid (skp (sf s k) = 0) ∧ Hid (run ⟨ex, E, lv⟩ (sf s k) = Z)) (fun wr => s.size - (RowKit.intOf ((wr.cell? ⟨w.heap.size, 1, none⟩).getD undef)).toNat)
  case atStart => exact ⟨_, 0, [], 0, hR2, hl0, Nat.zero_le _, Nat.zero_le _, HS0, HZ⟩
  case round =>
    clear hR2 HZ HS0 hl0 hk1 hb1 HM
    obtain ⟨k, ex, E, lv, hR, hk, hEk, hex, hsk, hrun⟩ := hrel
    have c0 := hR.c0
    have c1 := hR.c1
    by_cases hkl : k < s.size
    · have hne : sf s k ≠ [] := fun e => by have := congrArg List.length e; rw [sf_len] at this; simp at this; omega
      have hrun2 := hrun.out
      have e0 : (sf s k).drop (skp (sf s k)) = sf s k := by rw [hsk.out, List.drop_zero]
      rw [run_eq, e0, if_neg hne] at hrun2
      have HN2 := HN.out k ex E lv wr hR hkl (by omega) hex
      have HR := Lib.hid hR
      clear hrun e0 hsk
      cases hst : step ⟨ex, E, lv⟩ (sf s k) with
      | none =>
        rw [hst] at HN2 hrun2
        have HZ2 := Lib.hid hrun2
        have HN3 := Lib.hid HN2
        clear HN2 hrun2 hst
        go_wp2_with (go_at_call 35; refine HN3.out.mono ?_; rintro e wx ⟨rfl, hx⟩)
        first | go_ret | go_returns
        exact ⟨by rw [← HZ2.out]; rfl, hx⟩
      | some q =>
        obtain ⟨g1, g2⟩ := step_in q hst
        obtain ⟨p1, p2⟩ := step_pos hne hst
        rw [sf_len] at p2
        rw [hst] at HN2 hrun2
        simp only at g1 g2
        have hkq : k + q.2 ≤ s.size := by omega
        have hsd : (sf s k).drop q.2 = sf s (k + q.2) := sf_drop s k q.2
        simp only [hsd] at hrun2
        rw [← run_skp, sf_drop] at hrun2
        have HZ2 := Lib.hid hrun2
        have hle : k + q.2 + skp (sf s (k + q.2)) ≤ s.size := by
          have := skp_le (sf s (k + q.2))
          rw [sf_len] at this
          omega
        have HSK : Hid (skp (sf s (k + q.2 + skp (sf s (k + q.2)))) = 0) := Lib.hid (by rw [← sf_drop]; exact skp_none (skp_head _))
        have hm := hR.c1
        have HN3 := Lib.hid HN2
        have HK := Lib.hid (show k < k + q.2 + skp (sf s (k + q.2)) ∧ q.1.E.length ≤ k + q.2 + skp (sf s (k + q.2)) by omega)
        clear HN2 hrun2 hst hsd
        go_wp2_with (first
          | (go_at_call 35; refine HN3.out.mono ?_; rintro e wx ⟨rfl, hx⟩)
          | (go_at_call 34; (with_reducible refine (HB.out _ _ _ _ _ hx hkq).mono ?_); rintro e wy ⟨rfl, hy⟩))
        go_roundw
        case rel => exact ⟨_, _, _, _, hy, hle, HK.out.2, g1, HSK, HZ2⟩
        case measure =>
          have h9 := hy.c1
          have := HK.out.1
          rw [hm, h9]
          simp [RowKit.intOf]
          omega
    · have hke : k = s.size := by omega
      have hrun2 := hrun.out
      rw [sf_nil s k (by omega), run_end (by rfl)] at hrun2
      unfold Gr.fin at hrun2
      simp only at hrun2
      have c2 := hR.c2
      have c4 := hR.c4
      obtain ⟨ao, cap, c3⟩ := hR.len3
      have HR := Lib.hid hR
      clear hrun hsk hR
      by_cases h4 : ex = 4
      · subst h4
        cases E with
        | nil =>
          rw [if_pos ⟨rfl, rfl⟩] at hrun2
          have HZ2 := Lib.hid hrun2
          clear hrun2
          rw [List.length_nil] at c3
          go_wp2_with fail
          first | go_ret | go_returns
          exact ⟨by rw [← HZ2.out]; rfl, HR.out.bel⟩
        | cons c F =>
          rw [if_neg (by simp)] at hrun2
          have HZ2 := Lib.hid hrun2
          have hpos : decide ((0 : Int) < ((F.length + 1 : Nat) : Int)) = true := decide_eq_true (by omega)
          rw [List.length_cons] at c3
          clear hrun2
          go_wp2_with fail
          first | go_ret | go_returns
          exact ⟨by rw [← HZ2.out]; rfl, HR.out.bel⟩
      · rw [if_neg (fun h => h4 h.1)] at hrun2
        have HZ2 := Lib.hid hrun2
        have hne : ((ex : Int) != 4) = true := by rw [bne_iff_ne]; omega
        clear hrun2 h4
        go_wp2_with fail
        first | go_ret | go_returns
        exact ⟨by rw [← HZ2.out]; rfl, HR.out.bel⟩
/-- What Is says. -/
def isB (z : Int) : Bool := decide (0 ≤ z) && decide (z ≤ 64)
theorem is_any (s : ByteArray) (w : World) (hE : Env w) (hs : s.size ≤ 8000000) :
    Calls Tryz.prog 12 #[.string s] w fun e w' => e = .returned (.bool (isB (lvl s.data.toList))) ∧ Below w.heap.size w w' := by
  have HL := Lib.hid (level_any s w hE hs)
  unfold isB
  generalize lvl s.data.toList = z at *
  by_cases h0 : 0 ≤ z
  · have d0 : decide (0 ≤ z) = true := decide_eq_true h0
    by_cases h1 : z ≤ 64
    · have d1 : decide (z ≤ 64) = true := decide_eq_true h1
      rw [d0, d1]
      go_enter Tryz.func12, Tryz.ntmps12
      go_wp2_with (go_at_call 19; (with_reducible refine HL.out.mono ?_); rintro e wx ⟨rfl, hx⟩)
      go_ret
      exact ⟨rfl, hx⟩
    · have d1 : decide (z ≤ 64) = false := decide_eq_false h1
      rw [d0, d1]
      go_enter Tryz.func12, Tryz.ntmps12
      go_wp2_with (go_at_call 19; (with_reducible refine HL.out.mono ?_); rintro e wx ⟨rfl, hx⟩)
      go_ret
      exact ⟨rfl, hx⟩
  · have d0 : decide (0 ≤ z) = false := decide_eq_false h0
    rw [d0]
    go_enter Tryz.func12, Tryz.ntmps12
    go_wp2_with (go_at_call 19; (with_reducible refine HL.out.mono ?_); rintro e wx ⟨rfl, hx⟩)
    go_ret
    exact ⟨rfl, hx⟩
end Go.Proofs.YtbpofhlnnldceaaGreatDoor.Gr
