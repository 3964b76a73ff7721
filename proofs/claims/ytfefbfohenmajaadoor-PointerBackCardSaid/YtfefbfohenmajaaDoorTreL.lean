/- Contracts of cmp.Compare, cmp.Or, the closure of sortMembers. Conditions: as each theorem states. -/
import Derived.Test.YtfefbfohenmajaaDoorTreG2
import Derived.Laws.Cover1
namespace Go.Proofs.YtfefbfohenmajaaDoor.Tre
open Go.RowKit Go.Lib Go.Proofs.YtfefbfohenmajaaDoor.Byt

/-- How two names stand. -/
def cmpB (a b : ByteArray) : Int := if ltB a b = true then -1 else if ltB b a = true then 1 else 0
def orI (x y : Int) : Int := if x = 0 then y else x
theorem pair_at (w : World) (A B : Int) : (w.alloc (.cells #[.int .i64 A, .int .i64 B] 3)).cell? ⟨w.heap.size, 0, none⟩ = some (.int .i64 A) ∧ (w.alloc (.cells #[.int .i64 A, .int .i64 B] 3)).cell? ⟨w.heap.size, 1, none⟩ = some (.int .i64 B) := by
  have h := heap_alloc_new w (.cells #[.int .i64 A, .int .i64 B] 3)
  constructor
  · unfold World.cell?; dsimp only; rw [h]; rfl
  · unfold World.cell?; dsimp only; rw [h]; rfl
end Go.Proofs.YtfefbfohenmajaaDoor.Tre
