/- The law of the document's Level, as its row asks. Conditions: as each theorem states. -/
import Derived.Test.YtggahjhjapnfeaaDoorGraX
import Derived.Test.YtggahjhjapnfeaaDoorGraTabs
namespace Go.Proofs.YtggahjhjapnfeaaDoor.Gr
open Go.ChangeShapes Go.WideShapes Go.ChangeAt Go.RowKit Go.Lib

theorem says_law {W : World} (s : ByteArray) (_ws : s.size ≤ maxLen) (hE : Env W) :
    Calls Tryd.prog 3 #[.string s] W fun e w' => e = .returned (.bool true) ∧ Below W.heap.size W w' := says_walk s W hE
end Go.Proofs.YtggahjhjapnfeaaDoor.Gr
