/-
  THE WALK OF ClockNone, however the program's clocks count.
-/
import Derived.Test.YtpiknekopmoepaaCkBegun
namespace Go.Proofs.Ytpiknekopmoepaa.clockNone
open Go Go.RowKit Go.Joins

set_option maxRecDepth 100000 in
set_option maxHeartbeats 1000000 in
theorem walk (S : ClockOK) (w : World) : Calls Try.prog 4 #[] w fun e w' => e = .returned (.bool true) ∧ Below w.heap.size w w' := by
  go_enter Try.func4, Try.ntmps4
  go_wp2_with fail
  refine (begun16 S w).mono ?_
  rintro e w1 ⟨rfl, hk⟩
  have HK1 := Lib.hid hk
  clear hk
  go_wp2_with fail
  refine (S.nowNil w1).mono ?_
  rintro e w2 ⟨rfl, hk⟩
  have HK2 := Lib.hid (HK1.out.trans hk)
  clear hk
  go_wp2_with fail
  refine (S.tickNil w2 none 0 0).mono ?_
  rintro e w3 ⟨rfl, hk⟩
  have HK3 := Lib.hid (HK2.out.trans hk)
  clear hk
  go_wp2_with fail
  refine (S.tickNil _ _ 1 1).mono ?_
  rintro e w4 ⟨rfl, hk⟩
  have HK4 := Lib.hid ((HK3.out.alloc _).trans hk)
  clear hk
  go_wp2_with fail
  refine (S.sinceNil w4 0).mono ?_
  rintro e w5 ⟨rfl, hk⟩
  have HK5 := Lib.hid (HK4.out.trans hk)
  clear hk
  go_wp2_with fail
  go_ret
  exact ⟨rfl, HK5.out.below⟩

end Go.Proofs.Ytpiknekopmoepaa.clockNone
