/-
  NetNone (layer 20), walked.
-/
import Derived.Test.YtpijhpfcigjkeaaDoorNtBegun
namespace Go.Proofs.YtpijhpfcigjkeaaDoor.netNone
open Go Go.RowKit Go.Joins

set_option maxRecDepth 100000 in
set_option maxHeartbeats 4000000 in
theorem walk (S : NetOK) (w : World) (hT : S.T w) : Calls Tryd.prog 6 #[] w fun e w' => e = .returned (.bool true) ∧ Below w.heap.size w w' := by
  have HT := Lib.hid hT
  clear hT
  go_enter Tryd.func6, Tryd.ntmps6
  go_wp2_with fail
  refine (show Calls _ _ _ _ _ from S.takeNil w 0).mono ?_
  rintro e w1 ⟨⟨m1, a1, rfl, -⟩, hk⟩
  have HK := Lib.hid hk
  obtain ⟨v1, hv1⟩ : ∃ v, msV m1 a1 = v := ⟨_, rfl⟩
  have HV1 := Lib.hid hv1
  rw [hv1]
  clear hk hv1
  go_upto_region 3 with (first
    | (refine list_allocM rfl rfl ?_; intro w2 hb2 hk2 hs2)
    | (refine list_storeM rfl (.tmp 2) (.tmp 9) rfl _ _ m1 _ a1 hb2 rfl HV1.out.symm ?_; intro w3 hb3 hk3 hs3))
  replace HK := Lib.hid (HK.out.trans (kp_made hk2 hk3))
  clear hb2 hk2 hs2 hb3 hk3 hs3
  go_wp2_with fail
  refine (show Calls _ _ _ _ _ from S.lookNil w3 0).mono ?_
  rintro e w4 ⟨⟨m4, a4, rfl, -⟩, hk⟩
  replace HK := Lib.hid (HK.out.trans hk)
  obtain ⟨v4, hv4⟩ : ∃ v, msV m4 a4 = v := ⟨_, rfl⟩
  have HV4 := Lib.hid hv4
  rw [hv4]
  clear hk hv4
  go_upto_region 4 with (first
    | (refine list_allocM rfl rfl ?_; intro w5 hb5 hk5 hs5)
    | (refine list_storeM rfl (.tmp 4) (.tmp 14) rfl _ _ m4 _ a4 hb5 rfl HV4.out.symm ?_; intro w6 hb6 hk6 hs6))
  replace HK := Lib.hid (HK.out.trans (kp_made hk5 hk6))
  clear hb5 hk5 hs5 hb6 hk6 hs6
  go_wp2_with fail
  refine (show Calls _ _ _ _ _ from begun20 S w6 (S.tk HT.out HK.out)).mono ?_
  rintro e w7 ⟨rfl, hk⟩
  replace HK := Lib.hid (HK.out.trans hk)
  clear hk
  obtain ⟨vN, hvN⟩ : ∃ v, msV ⟨1, 1, 0, 0, 0, 0, 0, 0, 0, ⟨#[]⟩, 0, false, it0, [], [], [], 0, []⟩ msA0 = v := ⟨_, rfl⟩
  have HVN := Lib.hid hvN
  clear hvN
  go_wp2_with (first
    | (refine list_buildM rfl _ rfl vN (by rw [← HVN.out]; kernel_rfl) ?_)
    | (refine list_slice1 rfl (.tmp 19) rfl _ _ HVN.out.symm ?_; intro w8 hb8 hk8 hs8))
  refine (show Calls _ _ _ _ _ from S.sendNil w8 _ 1 1 (by decide) (by decide)).mono ?_
  rintro e w9 ⟨rfl, hk⟩
  replace HK := Lib.hid (HK.out.trans (hk8.trans hk))
  clear hk hb8 hk8 hs8
  go_wp2_with fail
  refine (show Calls _ _ _ _ _ from S.lenNil w9).mono ?_
  rintro e w10 ⟨rfl, hk⟩
  replace HK := Lib.hid (HK.out.trans hk)
  clear hk
  go_wp2_with fail
  refine (show Calls _ _ _ _ _ from S.dropNil w10 0).mono ?_
  rintro e w11 ⟨rfl, hk⟩
  replace HK := Lib.hid (HK.out.trans hk)
  clear hk
  go_wp2_with fail
  go_ret
  exact ⟨rfl, HK.out.below⟩

end Go.Proofs.YtpijhpfcigjkeaaDoor.netNone
