/-
  THE WALK OF MetaNone, whatever lies on a keeper's sectors.
-/
import Derived.Test.YtmnjdlnjhomhnaaDoorMtBegun
namespace Go.Proofs.YtmnjdlnjhomhnaaDoor.metaNone
open Go Go.RowKit Go.Joins
set_option maxRecDepth 100000 in
set_option maxHeartbeats 4000000 in
theorem walk (S : MetaOK) (w : World) (hT : S.T w) : Calls Tryd.prog 4 #[] w fun e w' => e = .returned (.bool true) ∧ Below w.heap.size w w' := by
  have HT := Lib.hid hT
  clear hT
  go_enter Tryd.func4, Tryd.ntmps4
  go_wp2_with fail
  refine (show Calls _ _ _ _ _ from S.new w w 2 HT.out (Keeps.refl _ w) (by decide) (by decide)).mono ?_
  rintro e w1 ⟨p, F, rfl, hd, -, -⟩
  have HD := Lib.hid hd
  clear hd
  go_wp2_with fail
  refine (show Calls _ _ _ _ _ from S.makeNo w w1 p F 2 1 HT.out HD.out (by decide) (by decide)).mono ?_
  rintro e w2 ⟨⟨v, rfl⟩, hk⟩
  have HK2 := Lib.hid ((S.newIn HD.out).1.trans hk)
  clear hk HD
  go_wp2_with fail
  refine (show Calls _ _ _ _ _ from S.new w w2 2 HT.out HK2.out (by decide) (by decide)).mono ?_
  rintro e w3 ⟨q, F3, rfl, hd, -, -⟩
  have HD := Lib.hid hd
  clear hd HK2
  go_wp2_with fail
  refine (S.openNo w w3 q F3 2 HT.out HD.out (by decide)).mono ?_
  rintro e w4 ⟨⟨v4, rfl⟩, hk⟩
  have HK4 := Lib.hid ((S.newIn HD.out).1.trans hk)
  clear hk HD
  go_wp2_with fail
  refine (begun12 S w4 (S.tk HT.out HK4.out)).mono ?_
  rintro e w5 ⟨rfl, hk⟩
  have HK5 := Lib.hid (HK4.out.trans hk)
  clear hk HK4
  go_wp2_with fail
  refine (show Calls _ _ _ _ _ from S.saveNil w5 m0).mono ?_
  rintro e w6 ⟨rfl, hk⟩
  have HK6 := Lib.hid (HK5.out.trans hk)
  clear hk HK5
  go_wp2_with fail
  refine (S.getNil w6).mono ?_
  rintro e w7 ⟨rfl, hk⟩
  have HK7 := Lib.hid (HK6.out.trans hk)
  clear hk HK6
  go_wp2_with fail
  refine (show Calls _ _ _ _ _ from eq_any w7 m0 m0).mono ?_
  rintro e w8 ⟨rfl, hk⟩
  have HK8 := Lib.hid (HK7.out.trans hk)
  clear hk HK7
  rw [eqM_refl]
  go_wp2_with fail
  go_ret
  exact ⟨rfl, HK8.out.below⟩
end Go.Proofs.YtmnjdlnjhomhnaaDoor.metaNone
