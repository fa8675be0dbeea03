/-
  CtBegun: texts of mine, joined.
-/
import Derived.Test.YtemkjodkmehffaaGreatDoorAllA46
import Derived.Outline
namespace Go.Proofs.YtemkjodkmehffaaGreatDoor
open Go Go.RowKit Go.Joins
def bgS (lacks : List Int) (ph : Int) : CtS := ⟨1, [1], 2, some ⟨2, [1, 2], [1, 2], 0, [1, 2], ph, lacks⟩, fun _ => 0⟩
def bgJ : Nat → CtS
 | 0 => bgS [1, 2] 0
 | 1 => bgS [1, 2] 0
 | 2 => bgS [2] 0
 | _ => bgS [1, 2] 1
def bgO : Nat → List Ms
 | 2 => (beatC (bgS [1, 2] 1) 0).1
 | _ => []
theorem bg_next (j : Nat) (h1 : 1 ≤ j) (h2 : j ≤ 2) : stepC (bgJ j) 0 (stM 4 (j : Int) 2 true) = (bgO j, bgJ (j + 1)) := by
 have hh : j = 1 ∨ j = 2 := by omega
 rcases hh with rfl | rfl
 ·rfl
 ·rfl
theorem bg_one : stepC (bgS [1, 2] 1) 0 (stM 10 1 2 false) = ([], bgS [2] 1) := rfl
theorem bg_two : stepC (bgS [2] 1) 0 (stM 10 2 2 false) = ([tellM 11 1 2 0 [1, 2], tellM 11 2 2 0 [1, 2]], ⟨2, [1, 2], 2, none, fun _ => 0⟩) := rfl
set_option maxRecDepth 100000 in
set_option maxHeartbeats 4000000 in
theorem begun23 (w : World) (hT : theSup.T w) : Calls Tryz.prog 8 #[] w fun e w' => e = .returned (.bool true) ∧ Kp w w' := by
 have HT := Lib.hid hT
 clear hT
 go_enter Tryz.func8, Tryz.ntmps8
 go_wp2_with fail
 refine (show Calls _ _ _ _ _ from dv_new (Keeps.refl _ w) 2 (by decide) (by decide) 2 rfl).mono ?_
 rintro e w1 ⟨p, Fd, rfl, hd, -, -⟩
 have HM := Lib.hid (makeW HT.out hd [1] #[.int .i64 1] rfl (by decide) 1 rfl)
 clear hd
 go_wp2_with fail
 refine (show Calls _ _ _ _ _ from HM.out).mono ?_
 rintro e w2 ⟨c, kc, rfl, ha⟩
 have HA := Lib.hid ha
 clear ha HM
 go_wp2_with fail
 refine (show Calls _ _ _ _ _ from HA.out.join HT.out 2 (by decide) rfl [1, 2] rfl rfl).mono ?_
 rintro e w3 ⟨v, rfl, hs⟩
 have HA3 := Lib.hid (show CtW w w3 p c (some kc) 0 2 (bgJ 1) from hs.1)
 obtain ⟨b, o, cap, rfl, m0, m3⟩ := hs.2.fst (askM 3 1 ⟨2, [1, 2], [1, 2], 0, [1, 2], 0, [1, 2]⟩ 1 [1]) [askM 3 2 ⟨2, [1, 2], [1, 2], 0, [1, 2], 0, [1, 2]⟩ 1 [1]] rfl
 have m0' : w3.cell? ⟨b, o, none⟩ = some (.int .i64 3) := m0
 have m3' : w3.cell? ⟨b, o + 3, none⟩ = some (.int .i64 2) := m3
 rw [show (beatC (begC (start23 [1]) [1, 2] [1, 2] 0) 0).1.length = 2 from rfl]
 clear hs HA m0 m3
 go_wp2_with fail
 refine (show Calls _ _ _ _ _ from HA3.out.under).mono ?_
 rintro e w4 ⟨rfl, rfl⟩
 rw [show (bgJ 1).underZ = 2 from rfl]
 go_wp2_with fail
 refine (show Calls _ _ _ _ _ from HA3.out.epoch).mono ?_
 rintro e w4 ⟨rfl, rfl⟩
 rw [show (bgJ 1).epoch = 1 from rfl]
 clear m0' m3'
 go_wp2_with fail
 go_loopw [5] (fun i wr => ∃ j : Nat, 1 ≤ j ∧ j ≤ 3 ∧ i = .int .i64 (j : Int) ∧ Hid (CtW w wr p c (some kc) 0 (1 + j) (bgJ j))) (fun i _ => 3 - (intOf i).toNat)
 case atStart => exact ⟨1, by decide, by decide, rfl, HA3⟩
 case round =>
  obtain ⟨j, h1, h3, rfl, HJ⟩ := hrel
  by_cases hlt : j ≤ 2
  ·have hlt' : (j : Int) ≤ 2 := by omega
   obtain ⟨u, hu⟩ : ∃ u, msV (stM 4 (j : Int) 2 true) msA0 = u := ⟨_, rfl⟩
   have HU := Lib.hid hu
   have HS := Lib.hid (HJ.out.st HT.out 4 (j : Int) 2 true (by omega) u hu _ _ (bg_next j h1 hlt))
   clear hu
   go_wp2_with (refine list_buildM rfl _ rfl u (by rw [← HU.out]; kernel_rfl) ?_)
   refine (show Calls _ _ _ _ _ from HS.out).mono ?_
   rintro e w4 ⟨v, rfl, hs⟩
   have HJ2 := Lib.hid (show CtW w w4 p c (some kc) 0 (1 + (j + 1)) (bgJ (j + 1)) from hs.1)
   clear hs HS HJ HU
   go_wp2_with fail
   go_roundw
   case rel => exact ⟨j + 1, by omega, by omega, by go_num, HJ2⟩
   case measure => simp [intOf]; omega
  ·obtain rfl : j = 3 := by omega
   have hlt' : ¬ ((3 : Nat) : Int) ≤ 2 := by decide
   obtain ⟨u, hu⟩ : ∃ u, msV (stM 10 1 2 false) msA0 = u := ⟨_, rfl⟩
   obtain ⟨u2, hu2⟩ : ∃ u, msV (stM 10 2 2 false) msA0 = u := ⟨_, rfl⟩
   have HU := Lib.hid hu
   have HU2 := Lib.hid hu2
   have HS := Lib.hid (HJ.out.st HT.out 10 1 2 false (by decide) u hu _ _ bg_one)
   clear hu hu2 hlt
   go_wp2_with (refine list_buildM rfl _ rfl u (by rw [← HU.out]; kernel_rfl) ?_)
   refine (show Calls _ _ _ _ _ from HS.out).mono ?_
   rintro e w4 ⟨v, rfl, hs⟩
   have HS2 := Lib.hid (hs.1.st HT.out 10 2 2 false (by decide) u2 HU2.out _ _ bg_two)
   clear hs HS HU HJ
   go_wp2_with (refine list_buildM rfl _ rfl u2 (by rw [← HU2.out]; kernel_rfl) ?_)
   refine (show Calls _ _ _ _ _ from HS2.out).mono ?_
   rintro e w5 ⟨v, rfl, hs⟩
   have HA5 := Lib.hid hs.1
   obtain ⟨b, o, cap, rfl, m0, m3⟩ := hs.2.fst _ _ rfl
   have m0' : w5.cell? ⟨b, o, none⟩ = some (.int .i64 11) := m0
   clear hs HS2 HU2 m0 m3
   go_wp2_with fail
   refine (show Calls _ _ _ _ _ from HA5.out.epoch).mono ?_
   rintro e w6 ⟨rfl, rfl⟩
   go_wp2_with fail
   refine (show Calls _ _ _ _ _ from HA5.out.under).mono ?_
   rintro e w6 ⟨rfl, rfl⟩
   rw [show (⟨2, [1, 2], 2, none, fun _ => 0⟩ : CtS).underZ = 0 from rfl]
   go_wp2_with fail
   refine (show Calls _ _ _ _ _ from HA5.out.mem).mono ?_
   rintro e w6 ⟨A, cA, rfl, -, hk6⟩
   have HK := Lib.hid (HA5.out.kpW.trans hk6)
   clear hk6
   go_wp2_with fail
   go_ret
   exact ⟨rfl, HK.out⟩
end Go.Proofs.YtemkjodkmehffaaGreatDoor
