/- Contracts of the document's own answers for the layer 'sat'. Conditions: as each theorem states. -/
import Derived.Test.YthkopnobekohcaaDoorSatB
namespace Go.Proofs.YthkopnobekohcaaDoor.Sat
open Go.RowKit Go.Lib

end Go.Proofs.YthkopnobekohcaaDoor.Sat
