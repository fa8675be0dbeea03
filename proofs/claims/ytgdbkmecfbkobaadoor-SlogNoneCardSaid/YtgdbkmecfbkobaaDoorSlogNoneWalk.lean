/-
  THE WALK OF SlogNone, however the program's log lies on its segments.
-/
import Derived.Test.YtgdbkmecfbkobaaDoorSlogBegun
namespace Go.Proofs.YtgdbkmecfbkobaaDoor.slogNone
open Go Go.RowKit Go.Joins

set_option maxRecDepth 100000 in
set_option maxHeartbeats 4000000 in
theorem walk (S : SlogOK) (w : World) (hT : S.T w) : Calls Tryd.prog 4 #[] w fun e w' => e = .returned (.bool true) ∧ Below w.heap.size w w' := by
  have kc := fun (w : World) (C : Array Value) (n c : Nat) => Lib.run_convert_bytes_const (P := Tryd.prog) w 31 5 C n c Tryd.underlying31 Tryd.underlying5
  have HT := Lib.hid hT
  clear hT
  go_enter Tryd.func4, Tryd.ntmps4
  go_wp2_with fail
  refine (dv_new (Keeps.refl _ w) 10 (by decide) (by decide) 10 rfl).mono ?_
  rintro e w1 ⟨p1, F1, rfl, hd, -, -⟩
  have HD := Lib.hid hd
  clear hd
  go_wp2_with fail
  refine (S.openNo w1 p1 F1 _ HD.out.d (S.tk HT.out HD.out.kp) 0 3 (by decide) (by decide) (by decide) (by decide) (.inr (.inr (.inr (by decide))))).mono ?_
  rintro e w2 ⟨⟨u1, rfl⟩, hk2⟩
  have HK2 := Lib.hid (HD.out.kp.trans hk2)
  clear hk2 HD
  go_wp2_with fail
  refine (dv_new HK2.out 100 (by decide) (by decide) 100 rfl).mono ?_
  rintro e w3 ⟨p3, F3, rfl, hd, -, -⟩
  have HD := Lib.hid hd
  clear hd HK2
  go_wp2_with fail
  refine (S.openNo w3 p3 F3 _ HD.out.d (S.tk HT.out HD.out.kp) 0 2 (by decide) (by decide) (by decide) (by decide) (.inr (.inl (by decide)))).mono ?_
  rintro e w4 ⟨⟨u2, rfl⟩, hk4⟩
  have HK4 := Lib.hid (HD.out.kp.trans hk4)
  clear hk4 HD
  go_wp2_with fail
  refine (dv_new HK4.out 100 (by decide) (by decide) 100 rfl).mono ?_
  rintro e w5 ⟨p5, F5, rfl, hd, -, -⟩
  have HD := Lib.hid hd
  clear hd HK4
  go_wp2_with fail
  refine (S.openNo w5 p5 F5 _ HD.out.d (S.tk HT.out HD.out.kp) (-1) 3 (by decide) (by decide) (by decide) (by decide) (.inl (by decide))).mono ?_
  rintro e w6 ⟨⟨u3, rfl⟩, hk6⟩
  have HK6 := Lib.hid (HD.out.kp.trans hk6)
  clear hk6 HD
  go_wp2_with fail
  refine (S.appendNil _ _ ⟨_, _, _, rfl, by decide⟩).mono ?_
  rintro e w7 ⟨⟨u4, rfl⟩, hk7⟩
  have HK7 := Lib.hid ((HK6.out.alloc (.cells #[.int .u8 120] 5 (1, 2))).trans hk7)
  clear hk7 HK6
  go_wp2_with fail
  refine (S.readNil _).mono ?_
  rintro e w8 ⟨⟨u5, rfl⟩, hk8⟩
  have HK8 := Lib.hid (HK7.out.trans hk8)
  clear hk8 HK7
  go_wp2_with fail
  refine (begun6 S w8 (S.tk HT.out HK8.out)).mono ?_
  rintro e w9 ⟨rfl, hk9⟩
  have HK9 := Lib.hid (HK8.out.trans hk9)
  clear hk9 HK8
  go_wp2_with fail
  refine (S.flushNil _).mono ?_
  rintro e w10 ⟨rfl, hk10⟩
  have HK10 := Lib.hid (HK9.out.trans hk10)
  clear hk10 HK9
  go_wp2_with fail
  refine (S.allNil _).mono ?_
  rintro e w11 ⟨⟨A, c, rfl⟩, hk11⟩
  have HK11 := Lib.hid (HK10.out.trans hk11)
  clear hk11 HK10
  go_wp2_with fail
  refine (S.firstNil _).mono ?_
  rintro e w12 ⟨rfl, hk12⟩
  have HK12 := Lib.hid (HK11.out.trans hk12)
  clear hk12 HK11
  go_wp2_with fail
  refine (S.nextNil _).mono ?_
  rintro e w13 ⟨rfl, hk13⟩
  have HK13 := Lib.hid (HK12.out.trans hk13)
  clear hk13 HK12
  go_wp2_with fail
  go_ret
  exact ⟨rfl, HK13.out.below⟩

end Go.Proofs.YtgdbkmecfbkobaaDoor.slogNone
