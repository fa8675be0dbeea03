/-
  ControlNoneWalk, ControlNoneProof: texts of mine, joined.
-/
import Derived.Test.YtemkjodkmehffaaGreatDoorAllA47
import Derived.Test.YtemkjodkmehffaaGreatDoorAllA21
import Derived.Test.YtemkjodkmehffaaGreatDoorAllA18
import Derived.Test.YtemkjodkmehffaaGreatDoorCards
import Derived.SevenTiedAt
namespace Go.Proofs.YtemkjodkmehffaaGreatDoor.controlNone
open Go Go.RowKit Go.Joins
set_option maxRecDepth 100000 in
set_option maxHeartbeats 4000000 in
theorem walk (w : World) (hT : theSup.T w) : Calls Tryz.prog 4 #[] w fun e w' => e = .returned (.bool true) ∧ Below w.heap.size w w' := by
 have HT := Lib.hid hT
 clear hT
 go_enter Tryz.func4, Tryz.ntmps4
 go_wp2_with fail
 refine (show Calls _ _ _ _ _ from join_nil w 1).mono ?_
 rintro e w1 ⟨v, z, rfl, rfl, rfl, hk⟩
 have HK1 := Lib.hid hk
 clear hk
 go_wp2_with fail
 refine (show Calls _ _ _ _ _ from leave_nil w1 1).mono ?_
 rintro e w2 ⟨v, z, rfl, rfl, rfl, hk⟩
 have HK2 := Lib.hid (HK1.out.trans hk)
 clear hk HK1
 go_wp2_with fail
 refine (show Calls _ _ _ _ _ from lose_nil w2 1).mono ?_
 rintro e w3 ⟨v, z, rfl, rfl, rfl, hk⟩
 have HK3 := Lib.hid (HK2.out.trans hk)
 clear hk HK2
 go_wp2_with fail
 refine (show Calls _ _ _ _ _ from cback_nil w3).mono ?_
 rintro e w4 ⟨rfl, rfl⟩
 go_wp2_with fail
 refine (show Calls _ _ _ _ _ from dv_new HK3.out 2 (by decide) (by decide) 2 rfl).mono ?_
 rintro e w4 ⟨p, Fd, rfl, hd, -, -⟩
 have HD := Lib.hid hd
 clear hd HK3
 go_wp2_with fail
 refine (show Calls _ _ _ _ _ from copen_bad (theSup.tk HT.out HD.out.kp) Fd _ HD.out.d (by decide) theSup.decBlank theSup.decBlank _).mono ?_
 rintro e w5 ⟨rfl, hk⟩
 have HK5 := Lib.hid (HD.out.kp.trans hk)
 clear hk HD
 go_wp2_with fail
 refine (show Calls _ _ _ _ _ from begun23 w5 (theSup.tk HT.out HK5.out)).mono ?_
 rintro e w6 ⟨rfl, hk⟩
 have HK6 := Lib.hid (HK5.out.trans hk)
 clear hk HK5
 go_wp2_with fail
 refine (show Calls _ _ _ _ _ from cepoch_nil w6).mono ?_
 rintro e w7 ⟨rfl, rfl⟩
 go_wp2_with fail
 refine (show Calls _ _ _ _ _ from cmembers_nil w6).mono ?_
 rintro e w7 ⟨rfl, rfl⟩
 go_wp2_with fail
 refine (show Calls _ _ _ _ _ from cunder_nil w6).mono ?_
 rintro e w7 ⟨rfl, rfl⟩
 go_wp2_with fail
 refine (show Calls _ _ _ _ _ from cbeat_nil w6).mono ?_
 rintro e w7 ⟨rfl, rfl⟩
 obtain ⟨u, hu⟩ : ∃ u, msV ms0 msA0 = u := ⟨_, rfl⟩
 have HU := Lib.hid hu
 have HS := Lib.hid (cstep_nil w6 ms0 msA0)
 rw [hu] at HS
 clear hu
 go_wp2_with (refine list_buildM rfl _ rfl u (by rw [← HU.out]; kernel_rfl) ?_)
 refine (show Calls _ _ _ _ _ from HS.out).mono ?_
 rintro e w7 ⟨rfl, hk⟩
 have HK7 := Lib.hid (HK6.out.trans hk)
 clear hk HK6 HS HU
 go_wp2_with fail
 go_ret
 exact ⟨rfl, HK7.out.below⟩
end Go.Proofs.YtemkjodkmehffaaGreatDoor.controlNone
namespace Go.Proofs.YtemkjodkmehffaaGreatDoor.controlNone
open Go Go.ChangeShapes Go.WideShapes Go.ChangeAt Go.RowKit
theorem walked (W : World)  (hT : Taken W) :
  Calls Tryz.prog 4 #[] W fun e W' => e = .returned (.bool true) ∧ Below W.heap.size W W' := by
 exact walk W hT
set_option maxRecDepth 100000 in
theorem lawWalk (H : Type) (enc : TypeId × Value → H) : LawWalk H enc Tryz.prog 4 Tryz.f4 (laidMetH Tryz.prog listed) := by
 intro W base args ds p hval hA hL
 rw [Tryz.params4] at hA hval
 obtain ⟨hargs, rfl, rfl⟩ := trodAll_nil hA
 obtain rfl : args = #[] := by cases args; simp_all
 exact walked W  (taken_of hL)
set_option maxRecDepth 100000 in
theorem lifted (os : Os) (started : os.Started) (H : Type) (enc : TypeId × Value → H) :
  ReturnsInHanded {} Tryz.checked os 4 .any (fun w args => (Rows.controlNoneSpec.pre enc Tryz.prog Tryz.f4 [] false w args ∧ laidMetH Tryz.prog listed w) ∧ sizedMet enc Tryz.prog Tryz.f4 (OpenSpec.ofChange Rows.controlNoneSpec) false w args)
   (Rows.controlNoneSpec.post enc Tryz.prog Tryz.f4 false true false false) :=
 law_laid (C := Tryz.checked) (X := laidMetH Tryz.prog listed) (tb := 4) (fun _ _ hh h => h.of_heap hh) own started (by kernel_rfl) Tryz.func4
  (ChangeSpec.witness_shaped (enc := enc) (C := Tryz.checked) (os := os) (X := fun w _ => laidMetH Tryz.prog listed w) false (World.doorLaid Tryz.prog 400 os) #[] 8 rfl (World.shaped_of_RefB (by kernel_rfl) (by kernel_rfl)) (by kernel_rfl) (by kernel_rfl) (by kernel_rfl) (door_met os _))
  laidOut (by kernel_rfl) (by kernel_rfl) Tryz.underlying4 rfl (fun ds h => by match ds, h with | [], _ => rfl) (lawWalk H enc)
set_option maxRecDepth 100000 in
theorem over : Rows.controlNoneRow.holds Tryz.pinned (OpenSpec.ofChange Rows.controlNoneSpec) :=
 OpenClaim.holds_of_wide 4 Tryz.f4 rfl rfl rfl rfl rfl rfl rfl ⟨rfl, rfl, rfl, rfl, rfl⟩ rfl rfl rfl rfl rfl (by kernel_rfl) Tryz.func4 (by kernel_rfl)
  (of_decide_eq_true (by kernel_rfl)) (by unfold Func.isWrapper; first | (rw [if_pos (by decide +kernel)]; kernel_rfl) | (rw [if_neg (by decide +kernel)]; exact ⟨rfl, rfl⟩))
  (fun os started H enc _ => lifted os started H enc)
theorem proved : Rows.ControlNoneCardSaid :=
 Claim7.holds_tied_plain_at .later [] Rows.controlNoneCard.laidKinds true (true, Rows.controlNoneCard.stood.harness.2) false
  over (fun _ h => by cases h) (by kernel_rfl) (fun _ h => by cases h) controlNone_row_tie rfl ⟨rfl, rfl⟩ (by kernel_rfl) rfl
  (fun f fn hf hfn => by
   obtain rfl : f = 4 := Option.some.inj ((show Tryz.prog.funcNamed "icehouse/icehouselaw23.ControlNone" = some 4 by kernel_rfl).symm.trans hf) |>.symm
   obtain rfl : fn = Tryz.f4 := (Option.some.inj (Tryz.func4.symm.trans hfn)).symm
   exact ⟨by kernel_rfl, fun j t ht => by
    rw [Tryz.params4] at ht
    have hm : t ∈ [] := by simpa using Array.mem_of_getElem? ht
    have hall : ([].all fun u => !Tryz.prog.wantsStandIn u) = true := by kernel_rfl
    exact (show Tryz.prog.wantsStandIn t = false by simpa using List.all_eq_true.1 hall t hm)⟩)
  (by kernel_rfl)
#print axioms proved
end Go.Proofs.YtemkjodkmehffaaGreatDoor.controlNone
