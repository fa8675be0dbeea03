/-
  'Items' OF THE REFERENCE: an entry's two texts put behind what there is, in whatever order; then all entries' bytes.
-/
import Derived.Test.YtfhhobinpmbgmaaDoorItemRef
import Derived.Test.YtfhhobinpmbgmaaDoorRefNum
import Derived.Deep.RegionWith
namespace Go.Proofs.YtfhhobinpmbgmaaDoor
open Go Go.RowKit Go.Joins


end Go.Proofs.YtfhhobinpmbgmaaDoor
