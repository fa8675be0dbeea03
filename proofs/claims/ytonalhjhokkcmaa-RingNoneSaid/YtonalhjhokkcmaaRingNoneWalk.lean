/-
  THE WALK OF RingNone, however the program's rings find an owner.
-/
import Derived.Test.YtonalhjhokkcmaaRgBegun
namespace Go.Proofs.Ytonalhjhokkcmaa.ringNone
open Go Go.RowKit Go.Joins

set_option maxRecDepth 100000 in
set_option maxHeartbeats 1000000 in
theorem walk (S : RingOK) (w : World) (hT : S.T w) : Calls Try.prog 6 #[] w fun e w' => e = .returned (.bool true) ∧ Below w.heap.size w w' := by
  have HT := Lib.hid hT
  clear hT
  go_enter Try.func6, Try.ntmps6
  go_wp2_with fail
  refine (begun14 S w HT.out).mono ?_
  rintro e w1 ⟨rfl, hk⟩
  have HK1 := Lib.hid hk
  clear hk
  go_wp2_with fail
  refine (S.epochNil w1).mono ?_
  rintro e w2 ⟨rfl, hk⟩
  have HK2 := Lib.hid (HK1.out.trans hk)
  clear hk HK1
  go_wp2_with fail
  refine (S.nodesNil w2).mono ?_
  rintro e w3 ⟨⟨B, cb, rfl⟩, hk⟩
  have HK3 := Lib.hid (HK2.out.trans hk)
  clear hk HK2
  go_wp2_with fail
  refine (S.ownerNil w3 1).mono ?_
  rintro e w4 ⟨rfl, hk⟩
  have HK4 := Lib.hid (HK3.out.trans hk)
  clear hk HK3
  go_wp2_with fail
  refine (S.ofNil w4 ⟨#[107]⟩ (by decide)).mono ?_
  rintro e w5 ⟨rfl, hk⟩
  have HK5 := Lib.hid (HK4.out.trans hk)
  clear hk HK4
  go_wp2_with fail
  refine (S.hasNil w5 1).mono ?_
  rintro e w6 ⟨rfl, hk⟩
  have HK6 := Lib.hid (HK5.out.trans hk)
  clear hk HK5
  go_wp2_with fail
  go_ret
  exact ⟨rfl, HK6.out.below⟩

end Go.Proofs.Ytonalhjhokkcmaa.ringNone
