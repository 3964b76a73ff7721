/- (*strings.Builder).Grow at a builder that has not been written. Conditions: as each theorem states. -/
import Derived.Test.YthkopnobekohcaaDoorRowsA
import Derived.BigCall
import Derived.BigGuard
import Derived.Deep.Draws
namespace Go.Proofs.YthkopnobekohcaaDoor.Bld
open Go.RowKit Go.Lib

end Go.Proofs.YthkopnobekohcaaDoor.Bld
