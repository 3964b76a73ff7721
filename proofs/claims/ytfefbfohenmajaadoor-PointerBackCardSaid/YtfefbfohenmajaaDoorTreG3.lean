/- Contracts of fieldsRight. Conditions: as each theorem states. · Contracts of Right. Conditions: as each theorem states. -/
import Derived.Test.YtfefbfohenmajaaDoorTreG1
namespace Go.Proofs.YtfefbfohenmajaaDoor.Tre
open Go.RowKit Go.Lib Go.Proofs.YtfefbfohenmajaaDoor.Byt Go.Proofs.YtfefbfohenmajaaDoor.Utf

def hdF (k : Int) (bz b1 bs bi bn tx eq nm : Bool) : Bool :=
  if k = 0 then bz && bs && (bi && bn)
  else if k = 1 then (bz || b1) && bs && (bi && bn)
  else if k = 2 then bs && (bi && bn)
  else if k = 3 then bz && tx && (bi && bn)
  else if k = 4 then bn && bz && bs && true
  else if k = 5 then eq && nm && bz && bs && true
  else false
theorem hdF_is (k n : Int) (s : ByteArray) (l : List Vt) (ns : List ByteArray) : hdB k n s l ns 1 = hdF k (n == 0) (n == 1) (s.toList == []) ((l.length : Int) == 0) ((ns.length : Int) == 0) (textB s) ((ns.length : Int) == (l.length : Int)) (nmB ns) := by
  have e1 : decide (n = 0) = (n == 0) := by rw [Bool.eq_iff_iff, decide_eq_true_eq, beq_iff_eq]
  have e2 : decide (n = 0 ∨ n = 1) = (n == 0 || n == 1) := by rw [Bool.eq_iff_iff, decide_eq_true_eq, Bool.or_eq_true, beq_iff_eq, beq_iff_eq]
  have e3 : noneB s = (s.toList == []) := by
    unfold noneB
    rw [Bool.eq_iff_iff, decide_eq_true_eq, beq_iff_eq, Byt.toList_data]
    constructor
    · rintro rfl; rfl
    · intro q; exact ByteArray.ext (Array.toList_inj.1 q)
  have e4 : ∀ {α : Type} (l : List α), l.isEmpty = ((l.length : Int) == 0) := by
    intro α l
    rw [Bool.eq_iff_iff, List.isEmpty_iff_length_eq_zero, beq_iff_eq]
    omega
  have e5 : decide (ns.length = l.length) = ((ns.length : Int) == (l.length : Int)) := by rw [Bool.eq_iff_iff, decide_eq_true_eq, beq_iff_eq]; omega
  unfold hdB hdF scal
  rw [e1, e2, e3, e4, e4, e5]
  rfl

end Go.Proofs.YtfefbfohenmajaaDoor.Tre

namespace Go.Proofs.YtfefbfohenmajaaDoor.Tre
open Go.RowKit Go.Lib Go.Proofs.YtfefbfohenmajaaDoor.Byt Go.Proofs.YtfefbfohenmajaaDoor.Utf

theorem wi_parts (v : Vt) (m : Int) : wi v m = (hdB v.k v.n v.s v.l v.ns m && wiL v.l (m - 1)) := by cases v; rw [wi]; rfl
theorem hd_m (k n : Int) (s : ByteArray) (l : List Vt) (ns : List ByteArray) (m : Int) : hdB k n s l ns m = (hdB k n s l ns 1 && (!decide (k = 4 ∨ k = 5) || decide (1 ≤ m))) := by
  unfold hdB
  by_cases k0 : k = 0
  · subst k0; simp
  by_cases k1 : k = 1
  · subst k1; simp
  by_cases k2 : k = 2
  · subst k2; simp
  by_cases k3 : k = 3
  · subst k3; simp
  by_cases k4 : k = 4
  · subst k4; simp
  by_cases k5 : k = 5
  · subst k5; simp
  simp [k0, k1, k2, k3, k4, k5]
theorem hd_leaf {k n : Int} {s : ByteArray} {l : List Vt} {ns : List ByteArray} (h : hdB k n s l ns 1 = true) (hk : ¬ (k = 4 ∨ k = 5)) : l = [] := by
  unfold hdB scal at h
  have k4 : ¬ k = 4 := fun q => hk (.inl q)
  have k5 : ¬ k = 5 := fun q => hk (.inr q)
  simp only [if_neg k4, if_neg k5] at h
  have key : l.isEmpty = true := by
    split at h
    · simp only [Bool.and_eq_true] at h; exact h.2.1
    · split at h
      · simp only [Bool.and_eq_true] at h; exact h.2.1
      · split at h
        · simp only [Bool.and_eq_true] at h; exact h.2.1
        · split at h
          · simp only [Bool.and_eq_true] at h; exact h.2.1
          · cases h
  exact List.isEmpty_iff.1 key
theorem wiL_at (l : List Vt) (m : Int) : wiL l m = true ↔ ∀ i, i < l.length → wi (l.getD i V0) m = true := by
  rw [wiL_all, List.all_eq_true]
  constructor
  · intro h i hi; exact h _ (mem_get hi)
  · intro h x hx
    obtain ⟨i, hi, rfl⟩ := List.getElem_of_mem hx
    have := h i hi
    rwa [List.getD_eq_getElem?_getD, List.getElem?_eq_getElem hi] at this
theorem wiL_stop {l : List Vt} {m : Int} {i : Nat} (hi : i < l.length) (hf : wi (l.getD i V0) m = false) : wiL l m = false := by
  cases hs : wiL l m with
  | false => rfl
  | true => rw [(wiL_at l m).1 hs i hi] at hf; cases hf

/-- The same under a guard that lets it by. -/
theorem wpList_fetch_g {ops : Array Oper} {rest : List Oper} {o : Oper} {a : Act} {Q : Exit → Act → World → Prop} (W : World) (hw : Region.wanted o (yielded ops a.tmps) = true) (x : Operand) (ho : o.op = .load 25 x) (g : Nat) (cs : Array Value)
    (hx : a.eval x = .pointer (some ⟨g, 0, none⟩)) (hk : Box W g cs) (h5 : cs.size = 5)
    (h : wpList Tryd.prog ops Q rest (a.put o.dst (.agg cs)) W) : wpList Tryd.prog ops Q (o :: rest) a W :=
  wpList_step fun _ hK => by
    rw [if_pos hw]
    exact wp_load_row _ x ho g hx _ cs _ _ hk Tryd.underlying25 rfl (by rw [infoV, h5]) (hK _ _ h)
end Go.Proofs.YtfefbfohenmajaaDoor.Tre
