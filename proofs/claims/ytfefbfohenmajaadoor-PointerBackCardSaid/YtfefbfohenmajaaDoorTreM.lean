/- Plain facts: places sorted by their names. Conditions: as each theorem states. -/
import Derived.Test.YtfefbfohenmajaaDoorPlainA
namespace Go.Proofs.YtfefbfohenmajaaDoor.Tre
open Go.Lib

section
variable (key : Nat → ByteArray)
/-- Place i stands ahead of place j: by its name, then by itself. -/
def ltN (i j : Nat) : Prop := ltB (key i) (key j) = true ∨ (key i = key j ∧ i < j)
def insN (p : Nat) : List Nat → List Nat
  | [] => [p]
  | q :: l => if ltB (key q) (key p) = true then q :: insN p l else p :: q :: l
def sortN : List Nat → List Nat
  | [] => []
  | p :: l => insN key p (sortN l)
theorem ins_map (f : Nat → Vt) (p : Nat) : ∀ l : List Nat, ins (key p, f p) (l.map fun i => (key i, f i)) = (insN key p l).map fun i => (key i, f i)
  | [] => rfl
  | q :: l => by
    rw [List.map_cons, ins, insN]
    split
    · rw [ins_map f p l]; rfl
    · rfl
theorem sort_map (f : Nat → Vt) : ∀ l : List Nat, isort (l.map fun i => (key i, f i)) = (sortN key l).map fun i => (key i, f i)
  | [] => rfl
  | p :: l => by rw [List.map_cons, isort, sort_map f l, ins_map, sortN]
theorem insN_perm (p : Nat) : ∀ l, (insN key p l).Perm (p :: l)
  | [] => List.Perm.refl _
  | q :: l => by
    rw [insN]
    split
    · exact ((insN_perm p l).cons q).trans (List.Perm.swap p q l)
    · exact List.Perm.refl _
theorem sortN_perm : ∀ l, (sortN key l).Perm l
  | [] => List.Perm.refl _
  | p :: l => (insN_perm key p _).trans ((sortN_perm l).cons p)
variable {key}
theorem ltN_trans {a b c : Nat} (h : ltN key a b) (k : ltN key b c) : ltN key a c := by
  rcases h with h | ⟨h, h2⟩
  · rcases k with k | ⟨k, _⟩
    · exact .inl (lt_trans h k)
    · exact .inl (k ▸ h)
  · rcases k with k | ⟨k, k2⟩
    · exact .inl (h ▸ k)
    · exact .inr ⟨h.trans k, by omega⟩
theorem ltN_irrefl (a : Nat) : ¬ ltN key a a := by
  rintro (h | ⟨_, h⟩)
  · rw [lt_irrefl] at h; cases h
  · omega
theorem ltN_total {a b : Nat} (h : a ≠ b) : ltN key a b ∨ ltN key b a := by
  cases h1 : ltB (key a) (key b) with
  | true => exact .inl (.inl h1)
  | false =>
    cases h2 : ltB (key b) (key a) with
    | true => exact .inr (.inl h2)
    | false =>
      have e := lt_total h1 h2
      rcases Nat.lt_or_gt_of_ne h with q | q
      · exact .inl (.inr ⟨e, q⟩)
      · exact .inr (.inr ⟨e.symm, q⟩)
theorem insN_sorted {p : Nat} : ∀ {l : List Nat}, (∀ q ∈ l, p < q) → l.Pairwise (ltN key) → (insN key p l).Pairwise (ltN key)
  | [], _, _ => by rw [insN]; exact List.pairwise_singleton _ _
  | q :: l, hp, hl => by
    rw [List.pairwise_cons] at hl
    rw [insN]
    split
    · rename_i h
      rw [List.pairwise_cons]
      refine ⟨fun x hx => ?_, insN_sorted (fun x hx => hp x (List.mem_cons_of_mem _ hx)) hl.2⟩
      rcases List.mem_cons.1 ((insN_perm key p l).mem_iff.1 hx) with rfl | hx
      · exact .inl h
      · exact hl.1 x hx
    · rename_i h
      have hpq : ltN key p q := by
        have hlt := hp q List.mem_cons_self
        rcases ltN_total (key := key) (show p ≠ q by omega) with h' | h'
        · exact h'
        · rcases h' with h' | ⟨_, h'⟩
          · exact absurd h' h
          · omega
      rw [List.pairwise_cons, List.pairwise_cons]
      refine ⟨fun x hx => ?_, hl⟩
      rcases List.mem_cons.1 hx with rfl | hx
      · exact hpq
      · exact ltN_trans hpq (hl.1 x hx)
theorem sortN_sorted : ∀ {l : List Nat}, l.Pairwise (· < ·) → (sortN key l).Pairwise (ltN key)
  | [], _ => List.Pairwise.nil
  | p :: l, h => by
    rw [List.pairwise_cons] at h
    rw [sortN]
    exact insN_sorted (fun q hq => h.1 q ((sortN_perm key l).mem_iff.1 hq)) (sortN_sorted h.2)
/-- There is one such order. -/
theorem ltN_one : ∀ (l m : List Nat), l.Pairwise (ltN key) → m.Pairwise (ltN key) → l.Perm m → l = m
  | [], m, _, _, h => by rw [List.Perm.eq_nil (h.symm)]
  | x :: l, [], _, _, h => by have := h.length_eq; simp at this
  | x :: l, y :: m, hl, hm, h => by
    rw [List.pairwise_cons] at hl hm
    have hxy : x = y := by
      by_cases e : x = y
      · exact e
      · exfalso
        have hx : x ∈ m := (List.mem_cons.1 (h.mem_iff.1 List.mem_cons_self)).resolve_left e
        have hy : y ∈ l := (List.mem_cons.1 (h.mem_iff.2 List.mem_cons_self)).resolve_left (fun q => e q.symm)
        exact ltN_irrefl x (ltN_trans (hl.1 y hy) (hm.1 x hx))
    subst hxy
    rw [ltN_one l m hl.2 hm.2 ((List.perm_cons x).1 h)]
end
/-- The places of names in their order. -/
def plc (ns : List ByteArray) : List Nat := sortN (fun i => ns.getD i ⟨#[]⟩) (List.range ns.length)
theorem plc_perm (ns : List ByteArray) : (plc ns).Perm (List.range ns.length) := sortN_perm _ _
theorem plc_len (ns : List ByteArray) : (plc ns).length = ns.length := by rw [(plc_perm ns).length_eq, List.length_range]
theorem plc_lt {ns : List ByteArray} {i : Nat} (h : i ∈ plc ns) : i < ns.length := List.mem_range.1 ((plc_perm ns).mem_iff.1 h)
theorem plc_one {ns : List ByteArray} {P : List Nat} (hp : P.Perm (List.range ns.length)) (hs : P.Pairwise (ltN fun i => ns.getD i ⟨#[]⟩)) : P = plc ns :=
  ltN_one _ _ hs (sortN_sorted List.pairwise_lt_range) (hp.trans (plc_perm ns).symm)
theorem zip_range (ns : List ByteArray) (l : List Vt) (h : ns.length = l.length) : ns.zip l = (List.range ns.length).map fun i => (ns.getD i ⟨#[]⟩, l.getD i V0) := by
  refine List.ext_getElem (by simp [h]) fun i h1 h2 => ?_
  simp at h1 h2
  simp [List.getD_eq_getElem?_getD, show i < l.length by omega, show i < ns.length by omega]
theorem isort_plc (ns : List ByteArray) (l : List Vt) (h : ns.length = l.length) : isort (ns.zip l) = (plc ns).map fun i => (ns.getD i ⟨#[]⟩, l.getD i V0) := by
  rw [zip_range ns l h, sort_map (fun i => ns.getD i ⟨#[]⟩) (fun i => l.getD i V0)]
  rfl
theorem isort_fst (ns : List ByteArray) (l : List Vt) (h : ns.length = l.length) : (isort (ns.zip l)).map Prod.fst = (plc ns).map fun i => ns.getD i ⟨#[]⟩ := by
  rw [isort_plc ns l h, List.map_map]; rfl
theorem isort_snd (ns : List ByteArray) (l : List Vt) (h : ns.length = l.length) : (isort (ns.zip l)).map Prod.snd = (plc ns).map fun i => l.getD i V0 := by
  rw [isort_plc ns l h, List.map_map]; rfl
end Go.Proofs.YtfefbfohenmajaaDoor.Tre
