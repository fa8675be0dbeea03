/-
  SLICES OF BYTES OF THE CALL's OWN.
-/
import Derived.Test.YtdgpdooikfamlaaWords
import Derived.Test.YtdgpdooikfamlaaProg
import Derived.WalkKit
namespace Go.Proofs.Ytdgpdooikfamlaa
open Go Go.RowKit

theorem byte_elem : Elem Try.prog 33 5 (.int .u8 0) 1 1 := ⟨Try.underlying33, by kernel_rfl, rfl, by decide⟩

/-- A slice of the call's own that holds these bytes. -/
def OwnB (w : World) (base : Nat) (v : Value) (l : List UInt8) : Prop := w.ownsRow base 5 1 v l.length (bcells l)
theorem OwnB.snoc {w : World} {base : Nat} {v : Value} {l r : List UInt8} {m : Nat} {xs : List Value} (h : w.ownsRow base 5 1 v m xs) (hm : m = (l ++ r).length) (hx : xs = bcells l ++ bcells r) : OwnB w base v (l ++ r) := by
  unfold OwnB; rw [bcells_append, ← hx, ← hm]; exact h

end Go.Proofs.Ytdgpdooikfamlaa
