/- Contract of the document's Same of sets of rules of version 1. Conditions: the rules can be read; the rates are doubles of 64 bits. -/
import Derived.Test.YtcdkibadnelgiaaDoorOneP2
namespace Go.Proofs.YtcdkibadnelgiaaDoor.One
open Go.RowKit Go.Lib Go.Proofs.YtcdkibadnelgiaaDoor.Real

theorem s8_next {w0 W W' : World} {b1 b2 o1 o2 : Nat} {xn xp yn yp : ByteArray} {xs ys : Nat} {xb yb : Int} (h : Below w0.heap.size w0 W ∧ W.cell? ⟨b1, o1, none⟩ = some (.string xn) ∧ W.cell? ⟨b1, o1 + 1, none⟩ = some (.string xp) ∧ W.cell? ⟨b1, o1 + 2, none⟩ = some (.float .f64 xs) ∧ W.cell? ⟨b1, o1 + 3, none⟩ = some (.int .i64 xb) ∧ W.cell? ⟨b2, o2, none⟩ = some (.string yn) ∧ W.cell? ⟨b2, o2 + 1, none⟩ = some (.string yp) ∧ W.cell? ⟨b2, o2 + 2, none⟩ = some (.float .f64 ys) ∧ W.cell? ⟨b2, o2 + 3, none⟩ = some (.int .i64 yb)) (hb : Below W.heap.size W W') :
    Below w0.heap.size w0 W' ∧ W'.cell? ⟨b1, o1, none⟩ = some (.string xn) ∧ W'.cell? ⟨b1, o1 + 1, none⟩ = some (.string xp) ∧ W'.cell? ⟨b1, o1 + 2, none⟩ = some (.float .f64 xs) ∧ W'.cell? ⟨b1, o1 + 3, none⟩ = some (.int .i64 xb) ∧ W'.cell? ⟨b2, o2, none⟩ = some (.string yn) ∧ W'.cell? ⟨b2, o2 + 1, none⟩ = some (.string yp) ∧ W'.cell? ⟨b2, o2 + 2, none⟩ = some (.float .f64 ys) ∧ W'.cell? ⟨b2, o2 + 3, none⟩ = some (.int .i64 yb) := by
  obtain ⟨h0, h1, h2, h3, h4, h5, h6, h7, h8⟩ := h
  exact ⟨h0.trans (hb.mono h0.size), (hb.cell (lt_of_cell h1)).trans h1, (hb.cell (lt_of_cell h2)).trans h2, (hb.cell (lt_of_cell h3)).trans h3, (hb.cell (lt_of_cell h4)).trans h4, (hb.cell (lt_of_cell h5)).trans h5, (hb.cell (lt_of_cell h6)).trans h6, (hb.cell (lt_of_cell h7)).trans h7, (hb.cell (lt_of_cell h8)).trans h8⟩
theorem rE_nm {x y : Ro} (h : x.nm ≠ y.nm) : rE x y = false := by unfold rE; rw [decide_eq_false h]; rfl
theorem rE_pa {x y : Ro} (h : x.pa ≠ y.pa) : rE x y = false := by unfold rE; rw [decide_eq_false h]; simp
theorem rE_bu {x y : Ro} (h : x.bu ≠ y.bu) : rE x y = false := by unfold rE; rw [decide_eq_false h]; simp
theorem rE_ps {x y : Ro} (h1 : x.nm = y.nm) (h2 : x.pa = y.pa) (h3 : x.bu = y.bu) : rE x y = sameB x.ps y.ps := by unfold rE; rw [decide_eq_true h1, decide_eq_true h2, decide_eq_true h3]; rfl
end Go.Proofs.YtcdkibadnelgiaaDoor.One
