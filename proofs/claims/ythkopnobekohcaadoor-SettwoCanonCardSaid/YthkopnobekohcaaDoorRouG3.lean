/- The document's Split of a route. Conditions: as each theorem states. · The document's Is, Pattern and Prefix of routes. Conditions: as each theorem states. -/
import Derived.Test.YthkopnobekohcaaDoorRouG2
import Derived.StillTailTactics
namespace Go.Proofs.YthkopnobekohcaaDoor.Rou
open Go.RowKit Go.Lib Go.Proofs.YthkopnobekohcaaDoor.Byt

/-! ### a store into a row of one's own -/
section
variable {w w' : World} {B : Nat} {v : Value} {l : List ByteArray}
theorem own_shape (h : Strs.Own w B v l) : (v = .slice none 0 0 ∧ l = []) ∨ ∃ g cap, v = .slice (some ⟨g, 0, none⟩) l.length cap ∧ B ≤ g := by
  rcases h.2 with ⟨hv, hx⟩ | ⟨g, cap, cur, hv, hB, _⟩
  · left; exact ⟨hv, List.eq_nil_of_length_eq_zero hx⟩
  · right; exact ⟨g, cap, hv, hB⟩
theorem own_set {g cap : Nat} (h : Strs.Own w B (.slice (some ⟨g, 0, none⟩) l.length cap) l) (j : Nat) (b : ByteArray) :
    Strs.Own (w.setCell ⟨g, j, none⟩ (.string b)) B (.slice (some ⟨g, 0, none⟩) l.length cap) (l.set j b) := by
  unfold Strs.Own at h ⊢
  rw [List.length_set]
  have := (World.ownsRow.stored h j (.string b)).1
  rwa [show (l.map Value.string).set j (.string b) = (l.set j b).map Value.string by rw [List.map_set]] at this
theorem own_cell {g cap : Nat} (h : Strs.Own w B (.slice (some ⟨g, 0, none⟩) l.length cap) l) (j : Nat) (hj : j < l.length) : w.cell? ⟨g, j, none⟩ = some (.string (l.getD j ⟨#[]⟩)) := by
  unfold Strs.Own at h
  have := World.ownsRow.cellAt h j (by omega)
  rw [this]
  simp [hj]
theorem own_free {g cap : Nat} (h : Strs.Own w B (.slice (some ⟨g, 0, none⟩) l.length cap) l) (j : Nat) : w.frozen? ⟨g, j, none⟩ = false := World.ownsRow.frozenAt h j
theorem own_one (w : World) (B : Nat) (hB : B ≤ w.heap.size) (x : ByteArray) : Strs.Own (w.alloc (.cells #[.string x] 9)) B (.slice (some ⟨w.heap.size, 0, none⟩) 1 1) [x] := by
  have := World.ownsRow_lit (base := B) (e := 9) (size := 1) w #[.string x] 1 hB (by decide) rfl
  simpa [Strs.Own] using this
end

/-! ### what is read so far -/
theorem psB_last (l : List UInt8) : ∃ P x, psB l = P ++ [x] ∧ x.size ≤ l.length := by
  obtain ⟨h, t, e⟩ := ps_some l
  have hne : psB l ≠ [] := by unfold psB; rw [e]; exact List.cons_ne_nil _ _
  refine ⟨(psB l).dropLast, (psB l).getLast hne, (List.dropLast_concat_getLast hne).symm, ?_⟩
  have := List.getLast_mem hne
  unfold psB at this
  obtain ⟨p, hp, hp2⟩ := List.mem_map.1 this
  have hs := ps_size l p hp
  have : (psB l).getLast hne = mk p := hp2.symm
  rw [this, sz_mk]; exact hs
theorem psB_snoc_slash (l : List UInt8) : psB (l ++ [47]) = psB l ++ [⟨#[]⟩] := by unfold psB; rw [ps_snoc_slash, List.map_append]; rfl
theorem psB_snoc {c : UInt8} {l : List UInt8} {P : List ByteArray} {x : ByteArray} (h : c ≠ 47) (e : psB l = P ++ [x]) : psB (l ++ [c]) = P ++ [x ++ mk [c]] := by
  unfold psB at e ⊢
  rw [ps_snoc l h]
  unfold tl1
  rw [List.map_append, List.map_dropLast, e]
  have hl : (ps l).getLast? = some x.data.toList := by
    have := congrArg List.getLast? e
    rw [List.getLast?_map, List.getLast?_append] at this
    obtain ⟨p, hp, hp2⟩ := Option.map_eq_some_iff.1 (this.trans rfl)
    have hp3 : mk p = x := hp2
    rw [hp, ← hp3, dt_mk]
  rw [hl]
  have e2 : mk (x.data.toList ++ [c]) = x ++ mk [c] := ext_data (by rw [app_data, dt_mk, dt_mk])
  simp [e2]
/-- The parts of what stands ahead of place j. -/
def fs (l : List UInt8) (j : Nat) : List ByteArray := psB (l.take (j - 1))
theorem take_snoc {l : List UInt8} {k : Nat} (h : k < l.length) : l.take (k + 1) = l.take k ++ [l.getD k 0] := by
  rw [List.take_add_one, List.getElem?_eq_getElem h, Option.toList_some, List.getD_eq_getElem?_getD, List.getElem?_eq_getElem h]
  rfl
theorem cut_one {s : ByteArray} {l : List UInt8} (h : s.data.toList = 47 :: l) {k : Nat} (hk : k < l.length) : cutB s (k + 1) 1 = mk [l.getD k 0] := by
  unfold cutB mk
  rw [h, List.drop_succ_cons, List.getD_eq_getElem?_getD, List.getElem?_eq_getElem hk, List.drop_eq_getElem_cons hk]
  rfl
theorem fs_slash {l : List UInt8} {k : Nat} (hk : k < l.length) (h : l.getD k 0 = 47) : fs l (k + 1 + 1) = fs l (k + 1) ++ [⟨#[]⟩] := by
  show psB (l.take (k + 1)) = psB (l.take k) ++ _
  rw [take_snoc hk, h, psB_snoc_slash]
theorem fs_plain {s : ByteArray} {l : List UInt8} {k : Nat} (hcl : s.data.toList = 47 :: l) (hk : k < l.length) (h : l.getD k 0 ≠ 47) :
    ∃ P x, fs l (k + 1) = P ++ [x] ∧ x.size ≤ l.length ∧ fs l (k + 1 + 1) = P ++ [x ++ cutB s (k + 1) 1] := by
  obtain ⟨P, x, e, hx⟩ := psB_last (l.take k)
  refine ⟨P, x, e, by rw [List.length_take] at hx; omega, ?_⟩
  show psB (l.take (k + 1)) = _
  rw [take_snoc hk, psB_snoc h e, cut_one hcl hk]
theorem fs_len (l : List UInt8) (j : Nat) : (fs l j).length ≤ l.length + 1 := by
  unfold fs
  rw [psB_len]
  have h1 := List.count_le_length (a := (47 : UInt8)) (l := l.take (j - 1))
  rw [List.length_take] at h1
  omega
theorem getD_last (P : List ByteArray) (x : ByteArray) {m : Nat} (h : P.length = m) : (P ++ [x]).getD m ⟨#[]⟩ = x := by
  subst h; simp
theorem set_last (P : List ByteArray) (x y : ByteArray) {m : Nat} (h : P.length = m) : (P ++ [x]).set m y = P ++ [y] := by
  subst h; simp
theorem bc_at {s : ByteArray} {l : List UInt8} (h : s.data.toList = 47 :: l) {k : Nat} : bc s (k + 1) = (l.getD k 0).toNat := by
  unfold bc
  rw [h]; rfl
theorem bc_zero {s : ByteArray} {c : UInt8} {l : List UInt8} (h : s.data.toList = c :: l) : bc s 0 = c.toNat := by
  unfold bc
  rw [h]; rfl
end Go.Proofs.YthkopnobekohcaaDoor.Rou

namespace Go.Proofs.YthkopnobekohcaaDoor.Rou
open Go.RowKit Go.Lib Go.Proofs.YthkopnobekohcaaDoor.Byt

theorem ret_b {a b : Bool} (h : a = b) : Ending.returned (.bool a) = .returned (.bool b) := by rw [h]
/-- So far all right. -/
def okN (r : Bool) (L : List ByteArray) (f : Nat → ByteArray → Bool) : Nat → Bool
  | 0 => r
  | k + 1 => okN r L f k && f k (L.getD k ⟨#[]⟩)
theorem okN_iff (r : Bool) (L : List ByteArray) (f : Nat → ByteArray → Bool) (k : Nat) : okN r L f k = true ↔ r = true ∧ ∀ j, j < k → f j (L.getD j ⟨#[]⟩) = true := by
  induction k with
  | zero => exact ⟨fun h => ⟨h, fun j hj => absurd hj (Nat.not_lt_zero _)⟩, fun h => h.1⟩
  | succ k ih =>
    rw [okN, Bool.and_eq_true, ih]
    constructor
    · rintro ⟨⟨h1, h2⟩, h3⟩
      refine ⟨h1, fun j hj => ?_⟩
      by_cases q : j < k
      · exact h2 j q
      · obtain rfl : j = k := by omega
        exact h3
    · rintro ⟨h1, h2⟩
      exact ⟨⟨h1, fun j hj => h2 j (by omega)⟩, h2 k (by omega)⟩
theorem all_iff (L : List ByteArray) (f : ByteArray → Bool) : L.all f = true ↔ ∀ j, j < L.length → f (L.getD j ⟨#[]⟩) = true := ⟨fun h j hj => by rw [List.all_eq_true] at h; exact h _ (mem_at hj), all_yes⟩
theorem sp_row (s : ByteArray) (f : List ByteArray → Bool) : (rowB s && f (spB s)) = (rowB s && f (prB s)) := by
  unfold spB
  cases rowB s with
  | false => rfl
  | true => rfl
theorem ok_is (s : ByteArray) : okN (rowB s) (spB s) (fun _ => wdB) (spB s).length = isB s := by
  rw [isB_is, ← sp_row s fun L => L.all wdB, Bool.eq_iff_iff, okN_iff, Bool.and_eq_true, all_iff]
/-- May x stand at place i of n? -/
def pf (n i : Nat) (x : ByteArray) : Bool := wdB x || (decide (x = ⟨#[42]⟩) || (decide (x = ⟨#[42, 42]⟩) && decide (i + 1 = n)))
theorem ok_pat (s : ByteArray) : okN (rowB s) (spB s) (pf (spB s).length) (spB s).length = patB s := by
  rw [patB_is, ← sp_row s fun L => (innB L).all sgB, Bool.eq_iff_iff, okN_iff, Bool.and_eq_true, all_iff]
  generalize spB s = L
  refine and_congr_right fun _ => ?_
  have sgw : ∀ x, sgB x = true ↔ (wdB x = true ∨ x = ⟨#[42]⟩) := fun x => by
    unfold sgB
    rw [Bool.or_eq_true, decide_eq_true_eq, or_comm]
  have pfw : ∀ i x, pf L.length i x = true ↔ (sgB x = true ∨ (x = ⟨#[42, 42]⟩ ∧ i + 1 = L.length)) := fun i x => by
    rw [sgw]
    unfold pf
    rw [Bool.or_eq_true, Bool.or_eq_true, Bool.and_eq_true, decide_eq_true_eq, decide_eq_true_eq, decide_eq_true_eq, or_assoc]
  by_cases h0 : L = []
  · subst h0; exact ⟨fun _ j hj => absurd hj (Nat.not_lt_zero _), fun _ j hj => absurd hj (Nat.not_lt_zero _)⟩
  · have hp : 0 < L.length := List.length_pos_iff.2 h0
    have hla := last_at hp
    by_cases hs : L.getD (L.length - 1) ⟨#[]⟩ = ⟨#[42, 42]⟩
    · have hq : innB L = L.dropLast := by unfold innB; rw [hla, hs, if_pos rfl]
      have hg : ∀ j, j < L.length - 1 → L.dropLast.getD j ⟨#[]⟩ = L.getD j ⟨#[]⟩ := fun j hj => by
        rw [List.dropLast_eq_take, List.getD_eq_getElem?_getD, List.getD_eq_getElem?_getD, List.getElem?_take_of_lt hj]
      rw [hq, List.length_dropLast]
      constructor
      · intro h j hj
        rw [hg j hj]
        rcases (pfw _ _).1 (h j (by omega)) with q | ⟨_, q⟩
        · exact q
        · omega
      · intro h j hj
        rw [pfw]
        by_cases q : j < L.length - 1
        · left; have := h j q; rwa [hg j q] at this
        · right
          obtain rfl : j = L.length - 1 := by omega
          exact ⟨hs, by omega⟩
    · have hq : innB L = L := by
        unfold innB
        rw [hla, if_neg]
        intro q
        exact hs (Option.some.inj q)
      rw [hq]
      constructor
      · intro h j hj
        rcases (pfw _ _).1 (h j hj) with q | ⟨q1, q2⟩
        · exact q
        · obtain rfl : j = L.length - 1 := by omega
          exact absurd q1 hs
      · intro h j hj
        rw [pfw]; left; exact h j hj
theorem spB_size (s : ByteArray) : (spB s).length ≤ 32 ∧ ∀ x ∈ spB s, x.size ≤ 255 := by
  unfold spB
  split
  · rename_i h; exact ⟨prB_len h, prB_size h⟩
  · exact ⟨Nat.zero_le _, fun x hx => by cases hx⟩
/-! ### Prefix -/
theorem take_no {x y : List ByteArray} {k : Nat} (hk : k < x.length) (h : x.getD k ⟨#[]⟩ ≠ y.getD k ⟨#[]⟩) : decide (x = y.take x.length) = false := decide_eq_false fun e => h (by
  have : (y.take x.length).getD k ⟨#[]⟩ = y.getD k ⟨#[]⟩ := by rw [List.getD_eq_getElem?_getD, List.getD_eq_getElem?_getD, List.getElem?_take_of_lt hk]
  rw [← this, ← e])
theorem take_yes {x y : List ByteArray} (hl : x.length ≤ y.length) (h : ∀ j, j < x.length → x.getD j ⟨#[]⟩ = y.getD j ⟨#[]⟩) : decide (x = y.take x.length) = true := by
  have := eq_yes (x := x) (y := y.take x.length) (by rw [List.length_take]; omega) (fun j hj => by
    have : (y.take x.length).getD j ⟨#[]⟩ = y.getD j ⟨#[]⟩ := by rw [List.getD_eq_getElem?_getD, List.getD_eq_getElem?_getD, List.getElem?_take_of_lt hj]
    rw [this]; exact h j hj)
  exact this
theorem pre_sp (p s : ByteArray) : preB p s = (rowB p && rowB s && (decide ((spB p).length ≤ (spB s).length) && decide (spB p = (spB s).take (spB p).length))) := by
  rw [preB_is]
  unfold spB
  cases rowB p with
  | false => rfl
  | true =>
    cases rowB s with
    | false => rfl
    | true => rfl
end Go.Proofs.YthkopnobekohcaaDoor.Rou
