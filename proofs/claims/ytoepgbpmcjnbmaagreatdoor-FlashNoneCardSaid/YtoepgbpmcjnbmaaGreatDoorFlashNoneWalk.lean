/-
  FlashNone, walked over what a cache keeps.
-/
import Derived.Test.YtoepgbpmcjnbmaaGreatDoorFlashBegun
import Derived.Test.YtoepgbpmcjnbmaaGreatDoorTextCut
namespace Go.Proofs.YtoepgbpmcjnbmaaGreatDoor.flashNone
open Go Go.RowKit Go.Joins
set_option maxRecDepth 100000 in
set_option maxHeartbeats 1000000 in
theorem walk (S : FlashOK) (w : World) (hT : S.T w) : Calls Tryz.prog 5 #[] w fun e w' => e = .returned (.bool true) ∧ Below w.heap.size w w' := by
  have HT := Lib.hid hT
  clear hT
  go_enter Tryz.func5, Tryz.ntmps5
  go_wp2_with fail
  refine (show Calls _ _ _ _ _ from S.getNil w ⟨#[107]⟩ 0).mono ?_
  rintro e w1' ⟨rfl, hk⟩
  obtain ⟨w1, hw1⟩ : ∃ w1, w1'.alloc (.cells #[.string ⟨#[]⟩, .string ⟨#[]⟩, .int .i64 0, .bool false] 35) = w1 := ⟨_, rfl⟩
  have K1 := Lib.hid (show Kp w w1 by rw [← hw1]; exact hk.alloc _)
  have HW1 := Lib.hid hw1
  clear hk hw1
  go_wp2_with fail
  try rw [HW1.out]
  refine (show Calls _ _ _ _ _ from dv_new K1.out 10 (by decide) (by decide) 10 rfl).mono ?_
  rintro e w2 ⟨p, F, rfl, hd, -, hk⟩
  have HD := Lib.hid hd
  have K2 := Lib.hid (K1.out.trans hk)
  clear hk hd K1
  go_wp2_with fail
  refine (show Calls _ _ _ _ _ from S.openNo w2 p F _ HD.out.d (S.tk HT.out K2.out) 0 3 (by decide) (by decide) (by decide) (by decide) (.inr (.inr (.inr (by rw [still_len, List.length_replicate]; decide))))).mono ?_
  rintro e w3 ⟨⟨v3, rfl⟩, hk⟩
  have K3 := Lib.hid (K2.out.trans hk)
  clear hk K2 HD
  go_wp2_with fail
  refine (show Calls _ _ _ _ _ from begun9 S w3 (S.tk HT.out K3.out)).mono ?_
  rintro e w4 ⟨rfl, hk⟩
  have K4 := Lib.hid (K3.out.trans hk)
  clear hk K3
  go_wp2_with fail
  refine (show Calls _ _ _ _ _ from S.putNil w4 ⟨⟨#[107]⟩, ⟨#[]⟩, 0, false⟩).mono ?_
  rintro e w5 ⟨rfl, hk⟩
  have K5 := Lib.hid (K4.out.trans hk)
  clear hk K4
  go_wp2_with fail
  refine (show Calls _ _ _ _ _ from S.dropNil _ _ ⟨_, _, _, rfl, by decide⟩).mono ?_
  rintro e w6 ⟨rfl, hk⟩
  have K6 := Lib.hid ((K5.out.alloc (.cells #[.string ⟨#[107]⟩] 9)).trans hk)
  clear hk K5
  go_wp2_with fail
  refine (show Calls _ _ _ _ _ from S.flushNil w6).mono ?_
  rintro e w7 ⟨rfl, hk⟩
  have K7 := Lib.hid (K6.out.trans hk)
  clear hk K6
  go_wp2_with fail
  refine (show Calls _ _ _ _ _ from S.keysNil w7).mono ?_
  rintro e w8 ⟨⟨A8, c8, rfl⟩, hk⟩
  have K8 := Lib.hid (K7.out.trans hk)
  clear hk K7
  go_wp2_with fail
  refine (show Calls _ _ _ _ _ from S.wipeNil w8).mono ?_
  rintro e w9 ⟨rfl, hk⟩
  have K9 := Lib.hid (K8.out.trans hk)
  clear hk K8
  go_wp2_with fail
  refine (show Calls _ _ _ _ _ from S.betweenNil w9 0 9 ⟨#[]⟩ 3 (by decide) (by decide)).mono ?_
  rintro e w10 ⟨⟨A10, c10, rfl⟩, hk⟩
  have K10 := Lib.hid (K9.out.trans hk)
  clear hk K9
  go_wp2_with fail
  refine (show Calls _ _ _ _ _ from tcut_any ⟨#[97, 98]⟩ 1 (by decide) (by decide) w10).mono ?_
  rintro e w11 ⟨rfl, rfl⟩
  have hcz : cutZ ⟨#[97, 98]⟩ 1 = ⟨#[97]⟩ := by decide
  rw [hcz]
  go_wp2_with fail
  go_ret
  exact ⟨rfl, K10.out.below⟩
end Go.Proofs.YtoepgbpmcjnbmaaGreatDoor.flashNone
