/-
  'Short' OF LAYER 1's LAWS: the first n bytes of a slice that came in, or all.
-/
import Derived.Test.YtfhhobinpmbgmaaDoorWords
import Derived.Test.YtfhhobinpmbgmaaDoorProg
import Derived.WalkKit
import Derived.Lib.Hide
namespace Go.Proofs.YtfhhobinpmbgmaaDoor
open Go Go.RowKit

theorem short_any (A : Option Addr) (len cap n : Nat) (w : World) (hl : len ≤ cap) (_hc : cap ≤ maxLen) (hA : A = none → cap = 0) (hn : n ≤ 1000) :
    Calls Tryd.prog 16 #[.slice A len cap, .int .i64 (n : Int)] w fun e w' => e = .returned (.slice A (min len n) cap) ∧ w = w' := by
  unfold maxLen at _hc
  by_cases h : n < len
  · have h' : (n : Int) < (len : Int) := by omega
    have hm : min len n = n := by omega
    rcases A with _ | ad
    · have := hA rfl; omega
    · have H := Lib.hid hm
      clear hm hA
      go_enter Tryd.func16, Tryd.ntmps16
      go_wp2
      go_ret
      exact ⟨by rw [H.out]; rfl, rfl⟩
  · have h' : ¬ (n : Int) < (len : Int) := by omega
    have hm : min len n = len := by omega
    have H := Lib.hid hm
    clear hm hA
    go_enter Tryd.func16, Tryd.ntmps16
    go_wp2
    go_ret
    exact ⟨by rw [H.out]; rfl, rfl⟩

/-- At a literal. -/
theorem short_at (A : Option Addr) (len cap : Nat) (z : Int) (n m : Nat) (hz : z = (n : Int)) (hm : m = min len n) (w : World) (hl : len ≤ cap) (hc : cap ≤ maxLen) (hA : A = none → cap = 0) (hn : n ≤ 1000) :
    Calls Tryd.prog 16 #[.slice A len cap, .int .i64 z] w fun e w' => e = .returned (.slice A m cap) ∧ w = w' := by
  subst hz; subst hm; exact short_any A len cap n w hl hc hA hn

end Go.Proofs.YtfhhobinpmbgmaaDoor
