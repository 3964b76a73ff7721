/- Plain facts: places sorted by taking the least again and again. Conditions: as each theorem states. -/
import Derived.Test.YtafelidejkppkaaDoorTreM
namespace Go.Proofs.YtafelidejkppkaaDoor.Tre
open Go.Lib

/-- The first i places stand in their order, ahead of all others; these stand as they stood. -/
def Sel (key : Nat → ByteArray) (n : Nat) (Q : List Nat) (i : Nat) : Prop := Q.Perm (List.range n) ∧ (Q.drop i).Pairwise (· < ·) ∧ (Q.take i).Pairwise (ltN key) ∧ ∀ a ∈ Q.take i, ∀ b ∈ Q.drop i, ltN key a b
theorem Sel.start (key : Nat → ByteArray) (n : Nat) : Sel key n (List.range n) 0 := ⟨List.Perm.refl _, by rw [List.drop_zero]; exact List.pairwise_lt_range, by rw [List.take_zero]; exact List.Pairwise.nil, fun a ha => by rw [List.take_zero] at ha; cases ha⟩
theorem Sel.end_ {ns : List ByteArray} {Q : List Nat} (h : Sel (fun i => ns.getD i ⟨#[]⟩) ns.length Q ns.length) : Q = plc ns := by
  obtain ⟨h1, _, h3, _⟩ := h
  have hl : Q.length = ns.length := by rw [h1.length_eq, List.length_range]
  rw [List.take_of_length_le (by omega)] at h3
  exact plc_one h1 h3
theorem first_least {key : Nat → ByteArray} {R : List Nat} (hR : R.Pairwise (· < ·)) {m : Nat} (hm : m < R.length) (hmin : ∀ j, (hj : j < R.length) → ltB (key R[j]) (key R[m]) = false) (hfst : ∀ j, (hj : j < m) → ltB (key R[m]) (key (R[j]'(by omega))) = true) : ∀ y ∈ R.eraseIdx m, ltN key R[m] y := by
  intro y hy
  obtain ⟨j, hj, rfl⟩ := List.getElem_of_mem hy
  rw [List.length_eraseIdx_of_lt hm] at hj
  rw [List.getElem_eraseIdx]
  split
  · rename_i h; exact .inl (hfst j h)
  · rename_i h
    have hj1 : j + 1 < R.length := by omega
    cases hq : ltB (key R[m]) (key R[j + 1]) with
    | true => exact .inl hq
    | false => exact .inr ⟨lt_total hq (hmin (j + 1) hj1), List.pairwise_iff_getElem.1 hR m (j + 1) hm hj1 (by omega)⟩
theorem erase_perm : ∀ (R : List Nat) (m : Nat) (h : m < R.length), (R[m] :: R.eraseIdx m).Perm R
  | [], m, h => by simp at h
  | x :: R, 0, _ => List.Perm.refl _
  | x :: R, m + 1, h => by
    have hm : m < R.length := by simpa using h
    have := erase_perm R m hm
    exact (List.Perm.swap x R[m] (R.eraseIdx m)).trans (this.cons x)
theorem Sel.step {key : Nat → ByteArray} {n : Nat} {Q : List Nat} {i : Nat} (h : Sel key n Q i) {m : Nat} (hm : m < (Q.drop i).length) (hmin : ∀ j, (hj : j < (Q.drop i).length) → ltB (key (Q.drop i)[j]) (key (Q.drop i)[m]) = false)
    (hfst : ∀ j, (hj : j < m) → ltB (key (Q.drop i)[m]) (key ((Q.drop i)[j]'(by omega))) = true) : Sel key n (Q.take i ++ (Q.drop i)[m] :: (Q.drop i).eraseIdx m) (i + 1) := by
  obtain ⟨h1, h2, h3, h4⟩ := h
  have hlen : i < Q.length := by rw [List.length_drop] at hm; omega
  have htl : (Q.take i).length = i := by rw [List.length_take]; omega
  have hp : ((Q.drop i)[m] :: (Q.drop i).eraseIdx m).Perm (Q.drop i) := erase_perm _ _ hm
  have hl := first_least h2 hm hmin hfst
  have e1 : (Q.take i ++ (Q.drop i)[m] :: (Q.drop i).eraseIdx m).drop (i + 1) = (Q.drop i).eraseIdx m := by
    rw [List.drop_append, htl, List.drop_of_length_le (by omega), List.nil_append, show i + 1 - i = 1 by omega]
    rfl
  have e2 : (Q.take i ++ (Q.drop i)[m] :: (Q.drop i).eraseIdx m).take (i + 1) = Q.take i ++ [(Q.drop i)[m]] := by
    rw [List.take_append, htl, List.take_of_length_le (by omega), show i + 1 - i = 1 by omega]
    rfl
  refine ⟨?_, ?_, ?_, ?_⟩
  · refine ((List.Perm.append_left _ hp).trans ?_).trans h1
    rw [List.take_append_drop]
  · rw [e1]; exact h2.sublist (List.eraseIdx_sublist _ _)
  · rw [e2, List.pairwise_append]
    refine ⟨h3, List.pairwise_singleton _ _, fun a ha b hb => ?_⟩
    rw [List.mem_singleton.1 hb]
    exact h4 a ha _ (List.getElem_mem hm)
  · rw [e1, e2]
    intro a ha b hb
    rcases List.mem_append.1 ha with ha | ha
    · exact h4 a ha b ((List.eraseIdx_sublist _ _).subset hb)
    · rw [List.mem_singleton.1 ha]; exact hl b hb
/-! ### the least name -/
/-- The place of the first least name, of those from i on; best: the one so far. -/
def lstG (nm : Nat → ByteArray) (best i : Nat) : Nat → Nat
  | 0 => best
  | f + 1 => if ltB (nm i) (nm best) = true then lstG nm i (i + 1) f else lstG nm best (i + 1) f
theorem lst_is (nm : Nat → ByteArray) (a : Nat) : ∀ (f best i : Nat), a ≤ best → best < i → (∀ j, a ≤ j → j < i → ltB (nm j) (nm best) = false) → (∀ j, a ≤ j → j < best → ltB (nm best) (nm j) = true) →
    a ≤ lstG nm best i f ∧ lstG nm best i f < i + f ∧ (∀ j, a ≤ j → j < i + f → ltB (nm j) (nm (lstG nm best i f)) = false) ∧ ∀ j, a ≤ j → j < lstG nm best i f → ltB (nm (lstG nm best i f)) (nm j) = true
  | 0, best, i, h1, h2, h3, h4 => by rw [lstG]; exact ⟨h1, by omega, h3, h4⟩
  | f + 1, best, i, h1, h2, h3, h4 => by
    rw [lstG]
    split
    · rename_i h
      have := lst_is nm a f i (i + 1) (by omega) (by omega) (fun j ha hj => by
        by_cases e : j = i
        · rw [e, lt_irrefl]
        · cases hq : ltB (nm j) (nm i) with
          | false => rfl
          | true => have := lt_trans hq h; rw [h3 j ha (by omega)] at this; cases this) (fun j ha hj => by
        cases hq : ltB (nm i) (nm j) with
        | true => rfl
        | false => 
          have h5 := le_trans (c := nm i) (h3 j ha hj) hq
          rw [h] at h5; cases h5)
      rwa [show i + 1 + f = i + (f + 1) by omega] at this
    · rename_i h
      have := lst_is nm a f best (i + 1) h1 (by omega) (fun j ha hj => by
        by_cases e : j = i
        · rw [e]; simpa using h
        · exact h3 j ha (by omega)) h4
      rwa [show i + 1 + f = i + (f + 1) by omega] at this
/-- What least hands back. -/
def lst (nm : Nat → ByteArray) (a n : Nat) : Nat := lstG nm a (a + 1) (n - (a + 1))
theorem lst_least (nm : Nat → ByteArray) {a n : Nat} (h : a < n) : a ≤ lst nm a n ∧ lst nm a n < n ∧ (∀ j, a ≤ j → j < n → ltB (nm j) (nm (lst nm a n)) = false) ∧ ∀ j, a ≤ j → j < lst nm a n → ltB (nm (lst nm a n)) (nm j) = true := by
  have := lst_is nm a (n - (a + 1)) a (a + 1) (by omega) (by omega) (fun j h1 h2 => by rw [show j = a by omega, lt_irrefl]) (fun j h1 h2 => by omega)
  rwa [show a + 1 + (n - (a + 1)) = n by omega] at this
end Go.Proofs.YtafelidejkppkaaDoor.Tre
