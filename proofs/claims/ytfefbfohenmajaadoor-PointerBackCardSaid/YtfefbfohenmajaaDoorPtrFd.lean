/- Plain facts of what stands on a path in a value; no program. Conditions: as each theorem states. -/
import Derived.Test.YtfefbfohenmajaaDoorPlainA
namespace Go.Proofs.YtfefbfohenmajaaDoor.Ptr
open Go.Proofs.YtfefbfohenmajaaDoor.Tre (Vt V0 find cnt wi)
open Go.Proofs.YtfefbfohenmajaaDoor.Lx (vl hd)

/-- The place that a part names in a list of e items. -/
def plc (s : List UInt8) (e : Nat) : Option Nat :=
  if s = [] ∨ 9 < s.length ∨ (1 < s.length ∧ hd s = 48) ∨ (s.all fun c => Lx.dg c.toNat) = false then none else if vl s < e then some (vl s) else none
theorem plc_lt {s : List UInt8} {e n : Nat} (h : plc s e = some n) : n < e := by
  unfold plc at h
  split at h
  · cases h
  · split at h
    · rename_i h2; rw [← Option.some.inj h]; exact h2
    · cases h
/-- One part further. -/
def stp1 (v : Vt) (p : ByteArray) : Option Vt := if v.k = 4 then (plc p.data.toList v.l.length).map (fun n => v.l.getD n V0) else find v p
def fdP : Vt → List ByteArray → Option Vt
  | v, [] => some v
  | v, p :: ps => (stp1 v p).bind fun x => fdP x ps
theorem fdP_app : ∀ (l m : List ByteArray) (v : Vt), fdP v (l ++ m) = (fdP v l).bind fun x => fdP x m
  | [], _, _ => rfl
  | p :: l, m, v => by
    rw [List.cons_append, fdP, fdP, Option.bind_assoc]
    congr 1
    funext x
    exact fdP_app l m x
/-- What stands on a path is a part of the whole, or the whole. -/
theorem stp1_mem {v x : Vt} {p : ByteArray} (h : stp1 v p = some x) : x ∈ v.l := by
  unfold stp1 at h
  by_cases hk : v.k = 4
  · rw [if_pos hk] at h
    obtain ⟨n, hn, rfl⟩ := Option.map_eq_some_iff.1 h
    have := plc_lt hn
    rw [List.getD_eq_getElem?_getD, List.getElem?_eq_getElem this]
    exact List.getElem_mem this
  · rw [if_neg hk] at h
    unfold find at h
    split at h
    · have key : ∀ (ns : List ByteArray) (l : List Vt), Tre.fnd ns l p = some x → x ∈ l := by
        intro ns
        induction ns with
        | nil => intro l h; cases l <;> simp [Tre.fnd] at h
        | cons m ns ih =>
          intro l h
          cases l with
          | nil => simp [Tre.fnd] at h
          | cons y l =>
            rw [Tre.fnd] at h
            by_cases hm : m = p
            · rw [if_pos hm] at h; rw [← Option.some.inj h]; exact List.mem_cons_self
            · rw [if_neg hm] at h; exact List.mem_cons_of_mem _ (ih l h)
      exact key _ _ h
    · cases h
/-- What every part of a value has, what stands on a path has. -/
theorem fdP_keep {P : Vt → Prop} (hP : ∀ v, P v → ∀ x ∈ v.l, P x) : ∀ (l : List ByteArray) (v x : Vt), P v → fdP v l = some x → P x
  | [], v, x, hv, h => by
    have : some v = some x := h
    rw [← Option.some.inj this]; exact hv
  | p :: l, v, x, hv, h => by
    rw [fdP] at h
    obtain ⟨y, hy, h2⟩ := Option.bind_eq_some_iff.1 h
    exact fdP_keep hP l y x (hP v hv y (stp1_mem hy)) h2
end Go.Proofs.YtfefbfohenmajaaDoor.Ptr
