/- The contract of the document's Same. Conditions: as each theorem states. -/
import Derived.Test.YtafelidejkppkaaDoorTreA
import Derived.StillTailTactics
namespace Go.Proofs.YtafelidejkppkaaDoor.Tre
open Go.RowKit Go.Lib Go.Proofs.YtafelidejkppkaaDoor.Byt

/-- The heads of two values, and their items one by one. -/
theorem sm_parts (v u : Vt) : smB v u = (decide (v.k = u.k ∧ v.n = u.n ∧ v.s = u.s ∧ v.ns = u.ns) && smL v.l u.l) := by
  cases v; cases u; rw [smB]; rfl
theorem smL_off : ∀ (l m : List Vt), l.length ≠ m.length → smL l m = false
  | l, m, h => by
    cases hs : smL l m with
    | false => rfl
    | true => exact absurd (smL_len l m hs) h
theorem smL_at : ∀ (l m : List Vt), l.length = m.length → (smL l m = true ↔ ∀ i, i < l.length → smB (l.getD i V0) (m.getD i V0) = true)
  | [], [], _ => by rw [smL]; simp
  | [], _ :: _, h => by simp at h
  | _ :: _, [], h => by simp at h
  | x :: l, y :: m, h => by
    rw [smL, Bool.and_eq_true, smL_at l m (by simpa using h)]
    constructor
    · rintro ⟨h1, h2⟩ i hi
      cases i with
      | zero => exact h1
      | succ i => exact h2 i (by simpa using hi)
    · intro h
      exact ⟨h 0 (by simp), fun i hi => h (i + 1) (by simpa using hi)⟩
theorem smL_stop {l m : List Vt} (h : l.length = m.length) {i : Nat} (hi : i < l.length) (hf : smB (l.getD i V0) (m.getD i V0) = false) : smL l m = false := by
  cases hs : smL l m with
  | false => rfl
  | true => rw [(smL_at l m h).1 hs i hi] at hf; cases hf
theorem ns_at {a b : List ByteArray} (h : a.length = b.length) : a = b ↔ ∀ i, i < a.length → a.getD i ⟨#[]⟩ = b.getD i ⟨#[]⟩ := by
  constructor
  · rintro rfl i _; rfl
  · intro hh
    refine List.ext_getElem h fun i h1 h2 => ?_
    have := hh i h1
    rwa [List.getD_eq_getElem?_getD, List.getD_eq_getElem?_getD, List.getElem?_eq_getElem h1, List.getElem?_eq_getElem h2] at this
end Go.Proofs.YtafelidejkppkaaDoor.Tre
