/- The contract of Tokens. Conditions: the tables of unicode/utf8 and the errors of strconv (what the row lists); as each theorem states. -/
import Derived.Test.YteinaclkpickaaaGreatDoorLexG1
namespace Go.Proofs.YteinaclkpickaaaGreatDoor.Lx
open Go.RowKit Go.Lib Go.Proofs.YteinaclkpickaaaGreatDoor.Byt Go.Proofs.YteinaclkpickaaaGreatDoor.Quo

/-- Tokens so far, and what the rest says: the whole's answer. -/
def finT (acc : List Tk) (q : Nat × Nat × List Tk) : Nat × Nat × List Tk := if q.1 = 0 then (0, 0, acc ++ q.2.2) else q
theorem finT_nil (b : Nat) (l : List UInt8) : finT [] (tkA b l) = tkA b l := by
  unfold finT
  by_cases h : (tkA b l).1 = 0
  · rw [if_pos h]
    have : ∀ q : Nat × Nat × List Tk, q.1 = 0 → q.2.1 = 0 → (0, 0, [] ++ q.2.2) = q := by rintro ⟨a, b, c⟩ h1 h2; simp only at h1 h2; subst h1 h2; rfl
    refine this _ h ?_
    revert h
    refine tok_ind (p := fun b l => (tkA b l).1 = 0 → (tkA b l).2.1 = 0) ?_ ?_ ?_ b l
    · intro b l h h0; rw [tkA_bad b l h] at h0; exact absurd h0 h
    · intro b l h hk _; rw [tkA_end b l h hk]
    · intro b l h hk ih h0
      have h1 := tkA_step b l h hk
      by_cases hq : (tkA (b + (nx l).2.o + (nx l).2.z) (l.drop ((nx l).2.o + (nx l).2.z))).1 = 0
      · rw [if_pos hq] at h1; rw [h1]
      · rw [if_neg hq] at h1; rw [h1]; rw [h1] at h0; exact absurd h0 hq
  · rw [if_neg h]
theorem finT_bad (acc : List Tk) (b : Nat) (l : List UInt8) (h : (nx l).1 ≠ 0) : finT acc (tkA b l) = ((nx l).1, b + (nx l).2.o, []) := by
  rw [tkA_bad b l h]; unfold finT; rw [if_neg h]
theorem finT_end (acc : List Tk) (b : Nat) (l : List UInt8) (h : (nx l).1 = 0) (hk : (nx l).2.k = 0) : finT acc (tkA b l) = (0, 0, acc ++ [(nx l).2.sh b]) := by
  rw [tkA_end b l h hk]; rfl
theorem finT_step (acc : List Tk) (b : Nat) (l : List UInt8) (h : (nx l).1 = 0) (hk : (nx l).2.k ≠ 0) :
    finT acc (tkA b l) = finT (acc ++ [(nx l).2.sh b]) (tkA (b + (nx l).2.o + (nx l).2.z) (l.drop ((nx l).2.o + (nx l).2.z))) := by
  rw [tkA_step b l h hk]
  unfold finT
  by_cases hq : (tkA (b + (nx l).2.o + (nx l).2.z) (l.drop ((nx l).2.o + (nx l).2.z))).1 = 0
  · rw [if_pos hq, if_pos rfl, if_pos hq, List.append_assoc]; rfl
  · rw [if_neg hq, if_neg hq, if_neg hq]

theorem heap_new2 (w : World) (o o' : Obj) : ((w.alloc o).alloc o').heap[w.heap.size + 1]? = some o' := by
  have := heap_alloc_new (w.alloc o) o'
  simpa using this
/-- All tokens of s. -/
def tkS (s : ByteArray) : Nat × Nat × List Tk := tkA 0 s.data.toList
end Go.Proofs.YteinaclkpickaaaGreatDoor.Lx
