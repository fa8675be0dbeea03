/-
  'begun' OF LAYER 17 ANSWERS true, however the program's leases are kept.
-/
import Derived.Test.YtdgpkdcolljpjaaLsIf
import Derived.Deep.CutRange
namespace Go.Proofs.Ytdgpkdcolljpjaa
open Go Go.RowKit Go.Joins

set_option maxRecDepth 100000 in
set_option maxHeartbeats 2000000 in
theorem begun17 {S : ClockOK} (L : LeaseOK S) (w : World) : Calls Try.prog 9 #[] w fun e w' => e = .returned (.bool true) ∧ Kp w w' := by
  have hz := S.zero w w (Keeps.refl _ w)
  unfold zClock at hz
  go_enter Try.func9, Try.ntmps9
  go_upto_region 2 with fail
  obtain ⟨c, hc⟩ : ∃ c, w.heap.size = c := ⟨_, rfl⟩
  rw [hc] at hz ⊢
  generalize World.alloc _ _ = w1 at hz ⊢
  clear hc
  have HN := Lib.hid (lz_new L hz)
  clear hz
  go_wp2_with fail
  refine (show Calls _ _ _ _ _ from HN.out).mono ?_
  rintro e w2 ⟨l, F, rfl, hl, -, -⟩
  have HL2 := Lib.hid hl
  have HA := Lib.hid (L.ask w w2 l F c _ 0 ls0 hl.at_ hl.ck)
  clear hl HN
  go_wp2_with fail
  refine (show Calls _ _ _ _ _ from HA.out).mono ?_
  rintro e w3 ⟨rfl, hk⟩
  have HL3 := Lib.hid (HL2.out.keep hk)
  have HT3 := Lib.hid (lz_tick HL3.out 5)
  have c3 := HL3.out.ptr
  rw [show tickZ 0 5 = 5 from by decide] at HT3
  clear hk HL2 HA
  go_wp2_with fail
  refine (show Calls _ _ _ _ _ from HT3.out).mono ?_
  rintro e w4 ⟨rfl, Fc4, hl4, -, -⟩
  have HK4 := Lib.hid (lz_take hl4 0 3)
  rw [show takeB 5 ls0 0 3 = true from by decide, show takeS 5 ls0 0 3 = ⟨20, 3, 3⟩ from by decide] at HK4
  clear c3 hl4 HT3 HL3
  go_wp2_with fail
  refine (show Calls _ _ _ _ _ from HK4.out).mono ?_
  rintro e w5 ⟨rfl, F5, hl5, -, -⟩
  have HL5 := Lib.hid (show ∀ w', Kp w5 w' → Lz L w w' l c 5 ⟨20, 3, 3⟩ F5 Fc4 from fun w' hk => hl5.keep hk)
  clear hl5 HK4
  go_wp2_with fail
  refine (L.good w w5 l F5 c Fc4 5 ⟨20, 3, 3⟩ 3 (HL5.out w5 (Keeps.refl _ _)).at_ (HL5.out w5 (Keeps.refl _ _)).ck).mono ?_
  rw [show goodB 5 ⟨20, 3, 3⟩ 3 = true from by decide]
  rintro e w6 ⟨rfl, hk⟩
  have HK6 := Lib.hid hk
  clear hk
  go_wp2_with fail
  refine (L.good w w6 l F5 c Fc4 5 ⟨20, 3, 3⟩ 2 (HL5.out w6 HK6.out).at_ (HL5.out w6 HK6.out).ck).mono ?_
  rw [show goodB 5 ⟨20, 3, 3⟩ 2 = false from by decide]
  rintro e w7 ⟨rfl, hk⟩
  have HK7 := Lib.hid (HK6.out.trans hk)
  clear hk
  go_wp2_with fail
  refine (L.left w w7 l F5 c Fc4 5 ⟨20, 3, 3⟩ (HL5.out w7 HK7.out).at_ (HL5.out w7 HK7.out).ck).mono ?_
  rw [show leftZ 5 ⟨20, 3, 3⟩ = 15 from by decide]
  rintro e w8 ⟨rfl, hk⟩
  have HK8 := Lib.hid (HK7.out.trans hk)
  clear hk
  go_wp2_with fail
  refine (S.now w w8 c Fc4 5 (HL5.out w8 HK8.out).ck).mono ?_
  rintro e w9 ⟨rfl, hk⟩
  have HK9 := Lib.hid (HK8.out.trans hk)
  have c9 := (HL5.out w9 HK9.out).ptr
  clear hk
  go_wp2_with fail
  refine (S.now w w9 c Fc4 5 (HL5.out w9 HK9.out).ck).mono ?_
  rintro e w10 ⟨rfl, hk⟩
  have HK10 := Lib.hid (HK9.out.trans hk)
  have HTK := Lib.hid (lz_take (HL5.out w10 HK10.out) 0 3)
  rw [show takeB 5 ⟨20, 3, 3⟩ 0 3 = false from by decide, show takeS 5 ⟨20, 3, 3⟩ 0 3 = ⟨20, 3, 3⟩ from by decide] at HTK
  clear hk c9
  go_wp2_with fail
  refine (show Calls _ _ _ _ _ from HTK.out).mono ?_
  rintro e w11 ⟨rfl, F11, hl11, -, -⟩
  have HTK2 := Lib.hid (lz_take hl11 0 2)
  rw [show takeB 5 ⟨20, 3, 3⟩ 0 2 = false from by decide, show takeS 5 ⟨20, 3, 3⟩ 0 2 = ⟨20, 3, 3⟩ from by decide] at HTK2
  clear hl11 HTK
  go_wp2_with fail
  refine (show Calls _ _ _ _ _ from HTK2.out).mono ?_
  rintro e w12 ⟨rfl, F12, hl12, -, -⟩
  have HKE := Lib.hid hl12.kp
  clear hl12 HTK2
  go_wp2_with fail
  go_ret
  exact ⟨rfl, HKE.out⟩

end Go.Proofs.Ytdgpkdcolljpjaa
