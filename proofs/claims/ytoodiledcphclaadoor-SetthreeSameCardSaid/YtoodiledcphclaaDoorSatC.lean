/- Contracts of the document's own answers for the layer 'sat'. Conditions: as each theorem states. -/
import Derived.Test.YtoodiledcphclaaDoorSatB
namespace Go.Proofs.YtoodiledcphclaaDoor.Sat
open Go.RowKit Go.Lib

end Go.Proofs.YtoodiledcphclaaDoor.Sat
