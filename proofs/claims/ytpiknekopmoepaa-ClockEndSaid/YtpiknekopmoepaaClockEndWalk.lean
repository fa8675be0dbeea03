/-
  THE WALK OF ClockEnd, however the program's clocks count.
-/
import Derived.Test.YtpiknekopmoepaaCkBegun
import Derived.Deep.CutRange
namespace Go.Proofs.Ytpiknekopmoepaa.clockEnd
open Go Go.RowKit Go.Joins

theorem tick_end (n : Int) : tickZ 1099511627776 n = 1099511627776 := by
  unfold tickZ
  split <;> omega
set_option maxRecDepth 100000 in
set_option maxHeartbeats 1000000 in
theorem walk (S : ClockOK) (w : World) (n : Int) : Calls Try.prog 6 #[.int .i64 n] w fun e w' => e = .returned (.bool true) ∧ Below w.heap.size w w' := by
  go_enter Try.func6, Try.ntmps6
  go_wp2_with fail
  refine (begun16 S w).mono ?_
  rintro e w1 ⟨rfl, hk⟩
  have hz := S.zero w w1 hk
  unfold zClock at hz
  go_upto_region 5 with fail
  obtain ⟨c, hc⟩ : ∃ c, w1.heap.size = c := ⟨_, rfl⟩
  rw [hc] at hz ⊢
  generalize World.alloc _ _ = w2 at hz ⊢
  have HT1 := Lib.hid (tick_new S hz [1099511627776] #[.int .i64 1099511627776] rfl (by decide))
  rw [show ticks 0 [1099511627776] = 1099511627776 from by decide] at HT1
  clear hc hk hz
  go_wp2_with fail
  refine (show Calls _ _ _ _ _ from HT1.out).mono ?_
  rintro e w3 ⟨rfl, F3, ha3, hk3, -⟩
  have HA3 := Lib.hid ha3
  have HK3 := Lib.hid hk3
  clear ha3 hk3 HT1
  go_wp2_with fail
  refine (S.now w w3 c F3 _ HA3.out).mono ?_
  rintro e w4 ⟨rfl, hk⟩
  have HT2 := Lib.hid (tick_new S (S.atK HA3.out hk) [n] #[.int .i64 n] rfl (Nat.le_add_left _ _))
  rw [ticks_one, tick_end] at HT2
  clear hk
  go_wp2_with fail
  refine (show Calls _ _ _ _ _ from HT2.out).mono ?_
  rintro e w5 ⟨rfl, F5, ha5, hk5, -⟩
  have HT3 := Lib.hid (tick_none S ha5)
  rw [tick_end] at HT3
  clear ha5 hk5 HT2
  go_wp2_with fail
  refine (show Calls _ _ _ _ _ from HT3.out).mono ?_
  rintro e w6 ⟨rfl, F6, ha6, hk6, -⟩
  have HA6 := Lib.hid ha6
  have HK6 := Lib.hid hk6
  clear ha6 hk6 HT3
  go_wp2_with fail
  refine (S.since w w6 c F6 _ 1099511627776 HA6.out).mono ?_
  rw [show sinceZ 1099511627776 1099511627776 = 0 from by decide]
  rintro e w7 ⟨rfl, hk⟩
  have HK7 := Lib.hid (HK6.out.trans hk)
  clear hk
  go_wp2_with fail
  go_ret
  exact ⟨rfl, HK7.out.below⟩

end Go.Proofs.Ytpiknekopmoepaa.clockEnd
