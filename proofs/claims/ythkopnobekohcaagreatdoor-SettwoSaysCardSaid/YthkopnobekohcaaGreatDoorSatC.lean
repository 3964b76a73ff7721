/- Contracts of the document's own answers for the layer 'sat'. Conditions: as each theorem states. -/
import Derived.Test.YthkopnobekohcaaGreatDoorSatB
namespace Go.Proofs.YthkopnobekohcaaGreatDoor.Sat
open Go.RowKit Go.Lib

theorem rclamp_any (n lo hi : Int) (w : World) :
    Calls Tryz.prog 75 #[.int .i64 n, .int .i64 lo, .int .i64 hi] w fun e w' => e = .returned (.int .i64 (max (min n hi) lo)) ∧ w = w' := by
  by_cases h : n < hi
  all_goals
    go_enter Tryz.func75, Tryz.ntmps75
    go_wp2
    all_goals
      go_ret
      exact ⟨ret_int (by omega), rfl⟩

end Go.Proofs.YthkopnobekohcaaGreatDoor.Sat
