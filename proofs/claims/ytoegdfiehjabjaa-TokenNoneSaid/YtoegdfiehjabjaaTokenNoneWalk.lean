/-
  THE WALK OF TokenNone, however rights are kept.
-/
import Derived.Test.YtoegdfiehjabjaaTkBegun
namespace Go.Proofs.Ytoegdfiehjabjaa.tokenNone
open Go Go.RowKit Go.Joins

set_option maxRecDepth 100000 in
set_option maxHeartbeats 4000000 in
theorem walk (S : TokensOK) (w : World) (hT : S.T w) : Calls Try.prog 5 #[] w fun e w' => e = .returned (.bool true) ∧ Below w.heap.size w w' := by
  have HT := Lib.hid hT
  clear hT
  go_enter Try.func5, Try.ntmps5
  go_wp2_with fail
  refine (show Calls _ _ _ _ _ from S.useNil w 1).mono ?_
  rintro e w1 ⟨rfl, hk⟩
  have HK := Lib.hid hk
  clear hk
  go_wp2_with fail
  refine (begun18 S w1 (S.tk HT.out HK.out)).mono ?_
  rintro e w2 ⟨rfl, hk⟩
  replace HK := Lib.hid (HK.out.trans hk)
  clear hk
  go_wp2_with fail
  refine (show Calls _ _ _ _ _ from S.giveNil w2 kk).mono ?_
  rintro e w3 ⟨rfl, hk⟩
  replace HK := Lib.hid (HK.out.trans hk)
  clear hk
  go_wp2_with fail
  refine (show Calls _ _ _ _ _ from S.killNil _ _ 1 1 (by decide) (by decide)).mono ?_
  rintro e w4 ⟨rfl, hk⟩
  replace HK := Lib.hid ((HK.out.alloc _).trans hk)
  clear hk
  go_wp2_with fail
  refine (show Calls _ _ _ _ _ from S.clearNil w4).mono ?_
  rintro e w5 ⟨rfl, hk⟩
  replace HK := Lib.hid (HK.out.trans hk)
  clear hk
  go_wp2_with fail
  refine (show Calls _ _ _ _ _ from S.lenNil w5).mono ?_
  rintro e w6 ⟨rfl, hk⟩
  replace HK := Lib.hid (HK.out.trans hk)
  clear hk
  go_wp2_with fail
  go_ret
  exact ⟨rfl, HK.out.below⟩

end Go.Proofs.Ytoegdfiehjabjaa.tokenNone
