/-
  SLICES OF NUMBERS THAT CAME IN (my own text; it knows no program).
-/
import Derived.Test.YtpiknekopmoepaaWords
namespace Go.Proofs.Ytpiknekopmoepaa
open Go Go.RowKit

/-- A slice of numbers that came in. -/
structure IPart where
  A : Option Addr
  cap : Nat
  l : List Int
instance : Inhabited IPart := ⟨⟨none, 0, []⟩⟩
def IPart.val (p : IPart) : Value := .slice p.A p.l.length p.cap
structure IPart.Fits (W : World) (p : IPart) : Prop where
  len : p.l.length ≤ p.cap
  cap : p.cap ≤ maxLen
  row : Row W p.A (fun b => b < W.heap.size) (p.l.map (Value.int .i64))
  small : ∀ x ∈ p.l, x < 9223372036854775808

end Go.Proofs.Ytpiknekopmoepaa
