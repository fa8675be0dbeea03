/-
  SLICES OF INTEGERS OF THE CALL's OWN.
-/
import Derived.Test.YtajapklpdfikoaaDoorWords
import Derived.Test.YtajapklpdfikoaaDoorDevMath
import Derived.Test.YtajapklpdfikoaaDoorProg
import Derived.WalkKit
namespace Go.Proofs.YtajapklpdfikoaaDoor
open Go Go.RowKit

theorem int_elem : Elem Tryd.prog 84 3 (.int .i64 0) 1 8 := ⟨Tryd.underlying84, by kernel_rfl, rfl, by decide⟩
/-- Places, as integers. -/
def nats (l : List Nat) : List Value := l.map fun n : Nat => .int .i64 (n : Int)
/-- A slice of the call's own that holds these numbers. -/
def OwnN (w : World) (base : Nat) (v : Value) (l : List Nat) : Prop := w.ownsRow base 3 1 v l.length (nats l)
theorem nats_at (l : List Nat) (j : Nat) (h : j < (nats l).length) : (nats l)[j] = .int .i64 ((l.getD j 0 : Nat) : Int) := by
  have hj : j < l.length := by simpa [nats] using h
  rw [getD_mem _ _ _ hj]; simp [nats]

end Go.Proofs.YtajapklpdfikoaaDoor
