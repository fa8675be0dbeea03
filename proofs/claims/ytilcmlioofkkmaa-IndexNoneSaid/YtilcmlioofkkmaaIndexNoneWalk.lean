/-
  IndexNone, walked over what an index keeps.
-/
import Derived.Test.YtilcmlioofkkmaaIndexBegun
namespace Go.Proofs.Ytilcmlioofkkmaa.indexNone
open Go Go.RowKit

set_option maxRecDepth 100000 in
set_option maxHeartbeats 1000000 in
theorem walk (S : IndexOK) (w : World) (hT : S.T w) : Calls Try.prog 5 #[] w fun e w' => e = .returned (.bool true) ∧ Below w.heap.size w w' := by
  have HT := Lib.hid hT
  clear hT
  go_enter Try.func5, Try.ntmps5
  go_wp2_with fail
  refine (show Calls _ _ _ _ _ from S.getNil w kA).mono ?_
  rintro e w1 ⟨rfl, hk⟩
  have K1 := Lib.hid hk
  clear hk
  go_wp2_with fail
  refine (show Calls _ _ _ _ _ from begun8 S w1 (S.tk HT.out K1.out)).mono ?_
  rintro e w2 ⟨rfl, hk⟩
  have K2 := Lib.hid (K1.out.trans hk)
  clear hk K1
  go_wp2_with fail
  refine (show Calls _ _ _ _ _ from S.putNil w2 kA 1).mono ?_
  rintro e w3 ⟨rfl, hk⟩
  have K3 := Lib.hid (K2.out.trans hk)
  clear hk K2
  go_wp2_with fail
  refine (show Calls _ _ _ _ _ from S.dropNil w3 kA).mono ?_
  rintro e w4 ⟨rfl, hk⟩
  have K4 := Lib.hid (K3.out.trans hk)
  clear hk K3
  go_wp2_with fail
  refine (show Calls _ _ _ _ _ from S.lenNil w4).mono ?_
  rintro e w5 ⟨rfl, hk⟩
  have K5 := Lib.hid (K4.out.trans hk)
  clear hk K4
  go_wp2_with fail
  refine (show Calls _ _ _ _ _ from S.belowNil w5 9).mono ?_
  rintro e w6 ⟨rfl, hk⟩
  have K6 := Lib.hid (K5.out.trans hk)
  clear hk K5
  go_wp2_with fail
  refine (show Calls _ _ _ _ _ from S.keysNil w6).mono ?_
  rintro e w7 ⟨A, c, rfl, hk⟩
  have K7 := Lib.hid (K6.out.trans hk)
  clear hk K6
  go_wp2_with fail
  go_ret
  exact ⟨rfl, K7.out.below⟩

end Go.Proofs.Ytilcmlioofkkmaa.indexNone
