/-
  'begun' OF LAYER 12 ANSWERS true, whatever lies on a keeper's sectors.
-/
import Derived.Test.YtmnjdlnjhomhnaaDoorMtIf
import Derived.Outline
namespace Go.Proofs.YtmnjdlnjhomhnaaDoor
open Go Go.RowKit Go.Joins
def m1 : M4 := ⟨1, 3, 5, true⟩
def mF : M4 := ⟨0, 0, 0, true⟩
theorem m1_fits : m1.Fits := ⟨by decide, by decide, by decide, by decide, by decide, by decide⟩
theorem mF_fits : mF.Fits := ⟨by decide, by decide, by decide, by decide, by decide, by decide⟩
set_option maxRecDepth 100000 in
set_option maxHeartbeats 4000000 in
theorem begun12 (S : MetaOK) (w : World) (hT : S.T w) : Calls Tryd.prog 7 #[] w fun e w' => e = .returned (.bool true) ∧ Kp w w' := by
  have HT := Lib.hid hT
  clear hT
  go_enter Tryd.func7, Tryd.ntmps7
  go_wp2_with fail
  refine (show Calls _ _ _ _ _ from S.new w w 4 HT.out (Keeps.refl _ w) (by decide) (by decide)).mono ?_
  rintro e w1 ⟨p, F, rfl, hd, -, -⟩
  have HD := Lib.hid hd
  clear hd
  go_wp2_with fail
  refine (S.make w w1 p F 4 HT.out HD.out (by decide)).mono ?_
  rintro e w2 ⟨k, F2, rfl, ha, -, -⟩
  have HA := Lib.hid ha
  clear ha HD
  go_wp2_with fail
  refine (show Calls _ _ _ _ _ from S.save w w2 p k F2 0 m0 m1 HT.out HA.out (by decide) m1_fits (by decide)).mono ?_
  rintro e w3 ⟨rfl, F3, ha, -, -⟩
  have HA3 := Lib.hid ha
  clear ha HA
  go_wp2_with fail
  refine (S.crash w w3 p k F3 _ _ HT.out HA3.out).mono ?_
  rintro e w4 ⟨q, F4, rfl, hh, -, -⟩
  have HH := Lib.hid hh
  clear hh HA3
  go_wp2_with fail
  refine (S.open_ w w4 q F4 _ _ HT.out HH.out).mono ?_
  rintro e w5 ⟨k5, F5, rfl, ha, -, -⟩
  have HA := Lib.hid ha
  clear ha HH
  go_wp2_with fail
  refine (show Calls _ _ _ _ (fun e w' => e = .returned (.agg #[.int .i64 1, .int .i64 3, .int .i64 5, .bool true]) ∧ Kp w5 w') from S.get w w5 q k5 F5 _ _ HT.out HA.out).mono ?_
  rintro e w6 ⟨rfl, hk⟩
  have HK := Lib.hid ((S.atIn HA.out).1.trans hk)
  clear hk HA
  go_wp2_with fail
  refine (show Calls _ _ _ _ _ from S.may _ mF mF_fits).mono ?_
  rintro e w7 ⟨rfl, hk⟩
  have HK7 := Lib.hid (HK.out.trans (((Keeps.refl (fun _ => True) w6).alloc _).trans hk))
  clear hk
  go_wp2_with fail
  go_ret
  exact ⟨rfl, HK7.out⟩
end Go.Proofs.YtmnjdlnjhomhnaaDoor
