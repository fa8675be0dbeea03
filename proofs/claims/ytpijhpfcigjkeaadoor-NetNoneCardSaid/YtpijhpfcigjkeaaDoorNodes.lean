/-
  WHICH NODES MAY BE (P13.1), as mathematics.
-/
import Derived.Test.YtpijhpfcigjkeaaDoorProg
import Derived.Test.YtpijhpfcigjkeaaDoorAllBase
import Derived.Test.YtpijhpfcigjkeaaDoorAllInvs
import Derived.WalkSpells
import Derived.Lib.Hide
import Derived.Lib.SmallJoins
namespace Go.Proofs.YtpijhpfcigjkeaaDoor
open Go Go.RowKit Go.Joins

/-- Which nodes may be: the one at j. -/
def nodeB (l : List Int) (j : Nat) : Bool := decide (1 ≤ l.getD j 0) && (decide (l.getD j 0 ≤ 5) && (decide (j = 0) || decide (l.getD (j - 1) 0 < l.getD j 0)))
def nodesB (l : List Int) : Bool := decide (0 < l.length) && (List.range l.length).all (nodeB l)
theorem nodesB_iff {l : List Int} : nodesB l = true ↔ 0 < l.length ∧ ∀ j, j < l.length → nodeB l j = true := by simp [nodesB]
theorem nodesB_no {l : List Int} {j : Nat} (hj : j < l.length) (h : nodeB l j = false) : nodesB l = false := by
  cases hb : nodesB l with
  | false => rfl
  | true => rw [(nodesB_iff.1 hb).2 j hj] at h; cases h
def hasN (l : List Int) (n : Int) : Bool := l.any fun x => x == n

end Go.Proofs.YtpijhpfcigjkeaaDoor
