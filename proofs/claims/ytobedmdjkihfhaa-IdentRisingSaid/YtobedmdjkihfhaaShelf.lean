/- The contracts of the library that this translation reaches, laid by the library itself at its numbers. Conditions: as each theorem states. -/
import Derived.Shelf.Lay
import Derived.Shelf.LaySoft

import Derived.Test.YtobedmdjkihfhaaProg
namespace Go.Proofs
open Go.Shelf
shelf_tried
end Go.Proofs
