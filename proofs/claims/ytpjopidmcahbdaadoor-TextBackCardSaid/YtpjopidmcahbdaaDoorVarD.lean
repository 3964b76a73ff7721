/- Contracts of Zig, Zag, and of the document's; the example. Conditions: as each theorem states. -/
import Derived.Test.YtpjopidmcahbdaaDoorVarC
namespace Go.Proofs.YtpjopidmcahbdaaDoor.Var
open Go.RowKit Go.Lib Go.Proofs.YtpjopidmcahbdaaDoor.Byt

theorem ret_u {a b : Int} (h : a = b) : Ending.returned (.int .u64 a) = .returned (.int .u64 b) := by rw [h]
theorem ret_i {a b : Int} (h : a = b) : Ending.returned (.int .i64 a) = .returned (.int .i64 b) := by rw [h]

theorem aw_take1 (w : World) : Calls Tryd.prog 15 #[.string ⟨#[120, 172, 2]⟩, .int .i64 1] w fun e w' => e = .returned (.tuple #[.int .u64 300, .int .i64 3, .int .i64 0]) ∧ w = w' :=
  take_in ⟨#[120, 172, 2]⟩ 1 w (by decide) (by decide)
theorem aw_take2 (w : World) : Calls Tryd.prog 15 #[.string ⟨#[128, 0]⟩, .int .i64 0] w fun e w' => e = .returned (.tuple #[.int .u64 0, .int .i64 0, .int .i64 5]) ∧ w = w' :=
  take_in ⟨#[128, 0]⟩ 0 w (by decide) (by decide)
theorem aw_put (w : World) : Calls Tryd.prog 11 #[.int .u64 300] w fun e w' => e = .returned (.string ⟨#[172, 2]⟩) ∧ Below w.heap.size w w' := by
  have := put_any 300 w (by decide)
  rwa [putV_300] at this
theorem below_next {w W W' : World} {B : Nat} (h : Below B w W) (hB : B ≤ W.heap.size) (hb : Below W.heap.size W W') : Below B w W' := h.trans (hb.mono hB)

end Go.Proofs.YtpjopidmcahbdaaDoor.Var
