/-
  'begun' OF LAYER 16 ANSWERS true, however the program's clocks count.
-/
import Derived.Test.YtpiknekopmoepaaCkTick
import Derived.Deep.CutRange
namespace Go.Proofs.Ytpiknekopmoepaa
open Go Go.RowKit Go.Joins

set_option maxRecDepth 100000 in
set_option maxHeartbeats 1000000 in
theorem begun16 (S : ClockOK) (w : World) : Calls Try.prog 7 #[] w fun e w' => e = .returned (.bool true) ∧ Kp w w' := by
  have hz := S.zero w w (Keeps.refl _ w)
  unfold zClock at hz
  go_enter Try.func7, Try.ntmps7
  go_upto_region 2 with fail
  obtain ⟨c, hc⟩ : ∃ c, w.heap.size = c := ⟨_, rfl⟩
  rw [hc] at hz ⊢
  generalize World.alloc _ _ = w1 at hz ⊢
  clear hc
  have HT1 := Lib.hid (tick_none S hz)
  clear hz
  go_wp2_with fail
  refine (show Calls _ _ _ _ _ from HT1.out).mono ?_
  rintro e w2 ⟨rfl, F2, ha2, hk2, -⟩
  have HT2 := Lib.hid (tick_new S ha2 [5, -1, 2] #[.int .i64 5, .int .i64 (-1), .int .i64 2] rfl (by decide))
  rw [show tickZ 0 1 = 1 from by decide] at HT2 ⊢
  clear ha2 hk2 HT1
  go_wp2_with fail
  refine (show Calls _ _ _ _ _ from HT2.out).mono ?_
  rw [show ticks 1 [5, -1, 2] = 8 from by decide]
  rintro e w3 ⟨rfl, F3, ha3, hk3, -⟩
  have HK3 := Lib.hid hk3
  have HA3 := Lib.hid (show ∀ w', Kp w3 w' → S.At w w' c F3 8 from fun w' hk => S.atK ha3 hk)
  clear ha3 hk3 HT2
  go_wp2_with fail
  refine (S.now w w3 c F3 8 (HA3.out w3 (Keeps.refl _ _))).mono ?_
  rintro e w4 ⟨rfl, hk⟩
  have HK4 := Lib.hid hk
  clear hk
  go_wp2_with fail
  refine (S.since w w4 c F3 8 3 (HA3.out w4 HK4.out)).mono ?_
  rw [show sinceZ 8 3 = 5 from by decide]
  rintro e w5 ⟨rfl, hk⟩
  have HK5 := Lib.hid (HK4.out.trans hk)
  clear hk
  go_wp2_with fail
  refine (S.since w w5 c F3 8 9 (HA3.out w5 HK5.out)).mono ?_
  rw [show sinceZ 8 9 = 0 from by decide]
  rintro e w6 ⟨rfl, hk⟩
  have HK6 := Lib.hid (HK3.out.trans (HK5.out.trans hk))
  clear hk
  go_wp2_with fail
  go_ret
  exact ⟨rfl, HK6.out⟩

end Go.Proofs.Ytpiknekopmoepaa
