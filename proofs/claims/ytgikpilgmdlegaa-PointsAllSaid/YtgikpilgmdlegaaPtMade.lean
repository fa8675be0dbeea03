/-
  THE LANDED POINTS KEEP THE FACE of layer 13; what the frames of its laws ask of the program besides.
-/
import Derived.Test.YtgikpilgmdlegaaPtOf
import Derived.OpenShut
namespace Go.Proofs.Ytgikpilgmdlegaa
open Go Go.RowKit Go.Joins Go.ChangeShapes Go.WideShapes Go.ChangeAt

def thePoints : PointsOK where
  T := fun _ => True
  tk := fun _ _ => trivial
  less := fun w a b => less_any a b w
  may := fun w A c l _ hr hl hc => may_any w A c l hr hl hc
  of := fun w A c l _ hr hl hc => pof_any w A c l hr hl hc
set_option maxRecDepth 100000 in
theorem own : ownKnob Try.prog.godebug = none := by kernel_rfl
set_option maxRecDepth 100000 in
theorem laidOut : laidOutB Try.prog = true := by kernel_rfl

end Go.Proofs.Ytgikpilgmdlegaa
