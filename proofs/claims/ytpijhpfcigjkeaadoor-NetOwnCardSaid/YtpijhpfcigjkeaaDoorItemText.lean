/-
  'Items' OF THE REFERENCE: an entry's two texts put behind what there is, in whatever order; then all entries' bytes.
-/
import Derived.Test.YtpijhpfcigjkeaaDoorItemRef
import Derived.Test.YtpijhpfcigjkeaaDoorRefNum
import Derived.Deep.RegionWith
namespace Go.Proofs.YtpijhpfcigjkeaaDoor
open Go Go.RowKit Go.Joins


end Go.Proofs.YtpijhpfcigjkeaaDoor
