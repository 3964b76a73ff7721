/- The law RenderSays over a row's listed variables. Conditions: as each theorem states. -/
import Derived.Test.YtbpofhlnnldceaaDoorRenTabs
import Derived.Test.YtbpofhlnnldceaaDoorRenT
namespace Go.Proofs.YtbpofhlnnldceaaDoor.Ren
open Go.ChangeShapes Go.WideShapes Go.ChangeAt Go.RowKit Go.Lib Go.Proofs.YtbpofhlnnldceaaDoor.Utf
open Go.Proofs.YtbpofhlnnldceaaDoor.Tre (Vt OkT InV)

theorem says_law {W : World} {H : Type} {d0 : DataW H} (v : Vt) (cs : List Value) (i : InV W v cs) (o : OkT v) (b : cw v ≤ Rows.uptoBulk d0) (hE : En W) (hk : Rows.uptoSmall H [d0] = true) :
    Calls Tryd.prog 3 #[.agg cs.toArray] W fun e w' => e = .returned (.bool true) ∧ Below W.heap.size W w' := says_any v o (Nat.le_trans b (Upto.one hk)) cs W i hE
end Go.Proofs.YtbpofhlnnldceaaDoor.Ren
