/-
  THE WALK OF DevAll, whatever the program's device is made of.
-/
import Derived.Test.YtgmgojpkjchmcaaDevAllHi
import Derived.Test.YtgmgojpkjchmcaaDevAllLo
namespace Go.Proofs.Ytgmgojpkjchmcaa.devAll
open Go Go.RowKit Go.Joins

theorem walk (D : DevOK) (w : World) (n : Int) (hn : (Lit.int .i64 n).wf = true) (A : Option Addr) (cap : Nat) (l : List OpD) (h1 : l.length ≤ cap) (h2 : cap ≤ maxLen) (hO : OpsAt w A (fun b => b < w.heap.size) l) :
    Calls Try.prog 3 #[.int .i64 n, .slice A l.length cap] w fun e w' => e = .returned (.bool true) ∧ Below w.heap.size w w' := by
  cases h : decide (20 < n)
  · exact walkLo D w n hn h A cap l h1 h2 hO
  · exact walkHi D w n hn h A cap l h1 h2 hO
end Go.Proofs.Ytgmgojpkjchmcaa.devAll
