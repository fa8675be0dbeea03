/-
  POINTS, AND THE REFERENCE's Nodes AND Has (layers 13 to 15).
-/
import Derived.Test.YtcmblihlbmclaaaPtMath
import Derived.Test.YtcmblihlbmclaaaNodesRef
