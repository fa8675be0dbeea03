/-
  WHAT THE PROGRAM's POINTS ARE (the face of layer 13), however it sorts.
-/
import Derived.Test.YtgikpilgmdlegaaPtMath
namespace Go.Proofs.Ytgikpilgmdlegaa
open Go Go.RowKit Go.Joins

structure PointsOK where
  T : World → Prop
  tk : ∀ {w w' : World}, T w → Kp w w' → T w'
  less : ∀ (w : World) (a b : P2), Calls Try.prog 11 #[pagg a, pagg b] w fun e w' => e = .returned (.bool (lessB a b)) ∧ Kp w w'
  may : ∀ (w : World) (A : Option Addr) (c : Nat) (l : List Int), T w → Row w A (fun _ => True) (l.map (Value.int .i64)) → l.length ≤ c → c ≤ maxLen →
    Calls Try.prog 10 #[.slice A l.length c] w fun e w' => e = .returned (.bool (nodesB l)) ∧ Kp w w'
  of : ∀ (w : World) (A : Option Addr) (c : Nat) (l : List Int), T w → Row w A (fun _ => True) (l.map (Value.int .i64)) → l.length ≤ c → c ≤ maxLen →
    Calls Try.prog 9 #[.slice A l.length c] w fun e w' => ∃ B cb, e = .returned (.slice B (ofP l).length cb) ∧ PRow w' B (fun _ => True) (ofP l) ∧ (ofP l).length ≤ cb ∧ cb ≤ maxLen ∧ Kp w w'

end Go.Proofs.Ytgikpilgmdlegaa
