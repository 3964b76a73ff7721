/- unit's laws: UnitSays and UnitBack. Conditions: the table of units reads as the program lays it. -/
import Derived.Test.YthkopnobekohcaaDoorUniC
namespace Go.Proofs.YthkopnobekohcaaDoor.Uni
open Go.RowKit Go.Lib

theorem norm_at (t a b : Int) (ha : nN t = a) (hb : nU t = b) (w : World) (hT : Tab w) :
    Calls Tryd.prog 23 #[.int .i64 t] w fun e w' => e = .returned (.tuple #[.int .i64 a, .int .i64 b]) ∧ w = w' := by
  subst ha; subst hb; exact norm_any t w hT
theorem ticks_at (n u a b : Int) (ha : tV n u = a) (hb : tE n u 15 2 = b) (n0 : -9223372036854775808 ≤ n) (n1 : n ≤ 9223372036854775807) (w : World) (hT : Tab w) :
    Calls Tryd.prog 9 #[.int .i64 n, .int .i64 u] w fun e w' => e = .returned (.tuple #[.int .i64 a, .int .i64 b]) ∧ w = w' := by
  subst ha; subst hb; exact ticks_any n u w n0 n1 hT
theorem name_at (u : Int) (s : ByteArray) (hs : nmB u = s) (w : World) (hT : Tab w) :
    Calls Tryd.prog 51 #[.int .i64 u] w fun e w' => e = .returned (.string s) ∧ w = w' := by
  subst hs; exact name_any u w hT
end Go.Proofs.YthkopnobekohcaaDoor.Uni
