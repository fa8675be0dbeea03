/-
  bytes.Equal.
-/
import Derived.Test.YtpijhpfcigjkeaaDoorWords
import Derived.Test.YtpijhpfcigjkeaaDoorProg
import Derived.WalkKit
import Derived.Lib.Hide
namespace Go.Proofs.YtpijhpfcigjkeaaDoor
open Go Go.RowKit

theorem equal_any (A B : Option Addr) (c d n m : Nat) (F G : Nat → Prop) (l r : List UInt8) (w : World) (h1 : Row w A F (bcells l)) (h2 : Row w B G (bcells r)) (hn : n = l.length) (hm : m = r.length) (x : Bool) (hx : ((txt l).toList == (txt r).toList) = x) :
    Calls Tryd.prog 55 #[.slice A n c, .slice B m d] w fun e w' => e = .returned (.bool x) ∧ w = w' := by
  have c1 := h1.to_string (P := Tryd.prog) Tryd.underlying63 Tryd.underlying5 Tryd.underlying9 n c hn
  have c2 := h2.to_string (P := Tryd.prog) Tryd.underlying63 Tryd.underlying5 Tryd.underlying9 m d hm
  clear h1 h2 hn hm
  go_enter Tryd.func55, Tryd.ntmps55
  go_wp2
  go_ret
  exact ⟨rfl, rfl⟩

end Go.Proofs.YtpijhpfcigjkeaaDoor
