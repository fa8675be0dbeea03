/-
  StoreNoneWalk, StoreNoneProof: texts of mine, joined.
-/
import Derived.Test.YticophaepapjoaaGreatDoorAllA38
import Derived.Test.YticophaepapjoaaGreatDoorAllA47
import Derived.Test.YticophaepapjoaaGreatDoorAllA30
import Derived.Test.YticophaepapjoaaGreatDoorAllA28
import Derived.Test.YticophaepapjoaaGreatDoorCards
import Derived.SevenTiedAt
namespace Go.Proofs.YticophaepapjoaaGreatDoor.storeNone
open Go Go.RowKit Go.Joins
set_option maxRecDepth 100000 in
set_option maxHeartbeats 1000000 in
theorem walk (S : FlashOK) (J : JournalOK) (w : World) (hS : S.T w) (hJ : J.T w) (hT : theSup.T w) : Calls Tryz.prog 5 #[] w fun e w' => e = .returned (.bool true) ∧ Below w.heap.size w w' := by
 have HS := Lib.hid hS
 have HJ := Lib.hid hJ
 have HT := Lib.hid hT
 clear hS hJ hT
 go_enter Tryz.func5, Tryz.ntmps5
 go_wp2_with fail
 have K0 := Lib.hid (show Kp w (w.alloc (.cells #[.string { data := #[107] }] 9)) from (Keeps.refl _ w).alloc _)
 refine (show Calls _ _ _ _ _ from skill_nil _ _).mono ?_
 rintro e w1 ⟨rfl, rfl⟩
 go_wp2_with fail
 generalize w.alloc (.cells #[.string { data := #[107] }] 9) = w1 at *
 refine (show Calls _ _ _ _ _ from fo_dev (X := fun _ => False) K0.out (fun _ h => h.elim) 191 (by decide) (by decide) 191 rfl).mono ?_
 rintro e w2 ⟨p, rfl, ⟨F, hd, -⟩, -⟩
 have HD := Lib.hid hd
 clear hd K0
 go_wp2_with fail
 refine (show Calls _ _ _ _ _ from stmake_small (n := 191) HD.out (by rw [still_len, List.length_replicate]) (by decide)).mono ?_
 rintro e w3 ⟨rfl, rfl⟩
 have K2 := Lib.hid HD.out.kp
 clear HD
 go_wp2_with fail
 refine (show Calls _ _ _ _ _ from fo_dev (X := fun _ => False) K2.out (fun _ h => h.elim) 400 (by decide) (by decide) 400 rfl).mono ?_
 rintro e w3 ⟨p2, rfl, ⟨F2, hd, -⟩, -⟩
 have HD := Lib.hid hd
 clear hd K2
 go_wp2_with fail
 refine (show Calls _ _ _ _ _ from stopen_bad (n := 400) HT.out HD.out (by rw [still_len, List.length_replicate]) (by decide) (blank_at _ _ (by decide)) (blank_at _ _ (by decide))).mono ?_
 rintro e w4 ⟨rfl, hk4⟩
 have K4 := Lib.hid (HD.out.kp.trans hk4)
 clear hk4 HD
 go_wp2_with fail
 refine (show Calls _ _ _ _ _ from begun21 S J w4 (S.tk HS.out K4.out) (J.tk HJ.out K4.out) (theSup.tk HT.out K4.out)).mono ?_
 rintro e w5 ⟨rfl, hk5⟩
 have K5 := Lib.hid (K4.out.trans hk5)
 clear hk5 K4
 go_wp2_with fail
 refine (show Calls _ _ _ _ _ from sstarted_nil _).mono ?_
 rintro e w6 ⟨rfl, rfl⟩
 go_wp2_with fail
 go_ret
 exact ⟨rfl, K5.out.below⟩
end Go.Proofs.YticophaepapjoaaGreatDoor.storeNone
namespace Go.Proofs.YticophaepapjoaaGreatDoor.storeNone
open Go Go.ChangeShapes Go.WideShapes Go.ChangeAt Go.RowKit
theorem walked (W : World)  (hT : Taken W) :
  Calls Tryz.prog 5 #[] W fun e W' => e = .returned (.bool true) ∧ Below W.heap.size W W' := by
 exact walk theFlash theJournal W ⟨hT, trivial, trivial⟩ (jtaken hT) hT
set_option maxRecDepth 100000 in
theorem lawWalk (H : Type) (enc : TypeId × Value → H) : LawWalk H enc Tryz.prog 5 Tryz.f5 (laidMetH Tryz.prog listed) := by
 intro W base args ds p hval hA hL
 rw [Tryz.params5] at hA hval
 obtain ⟨hargs, rfl, rfl⟩ := trodAll_nil hA
 obtain rfl : args = #[] := by cases args; simp_all
 exact walked W  (taken_of hL)
set_option maxRecDepth 100000 in
theorem lifted (os : Os) (started : os.Started) (H : Type) (enc : TypeId × Value → H) :
  ReturnsInHanded {} Tryz.checked os 5 .any (fun w args => (Rows.storeNoneSpec.pre enc Tryz.prog Tryz.f5 [] false w args ∧ laidMetH Tryz.prog listed w) ∧ sizedMet enc Tryz.prog Tryz.f5 (OpenSpec.ofChange Rows.storeNoneSpec) false w args)
   (Rows.storeNoneSpec.post enc Tryz.prog Tryz.f5 false true false false) :=
 law_laid (C := Tryz.checked) (X := laidMetH Tryz.prog listed) (tb := 4) (fun _ _ hh h => h.of_heap hh) own started (by kernel_rfl) Tryz.func5
  (ChangeSpec.witness_shaped (enc := enc) (C := Tryz.checked) (os := os) (X := fun w _ => laidMetH Tryz.prog listed w) false (World.doorLaid Tryz.prog 400 os) #[] 8 rfl (World.shaped_of_RefB (by kernel_rfl) (by kernel_rfl)) (by kernel_rfl) (by kernel_rfl) (by kernel_rfl) (door_met os _))
  laidOut (by kernel_rfl) (by kernel_rfl) Tryz.underlying4 rfl (fun ds h => by match ds, h with | [], _ => rfl) (lawWalk H enc)
set_option maxRecDepth 100000 in
theorem over : Rows.storeNoneRow.holds Tryz.pinned (OpenSpec.ofChange Rows.storeNoneSpec) :=
 OpenClaim.holds_of_wide 5 Tryz.f5 rfl rfl rfl rfl rfl rfl rfl ⟨rfl, rfl, rfl, rfl, rfl⟩ rfl rfl rfl rfl rfl (by kernel_rfl) Tryz.func5 (by kernel_rfl)
  (of_decide_eq_true (by kernel_rfl)) (by unfold Func.isWrapper; first | (rw [if_pos (by decide +kernel)]; kernel_rfl) | (rw [if_neg (by decide +kernel)]; exact ⟨rfl, rfl⟩))
  (fun os started H enc _ => lifted os started H enc)
theorem proved : Rows.StoreNoneCardSaid :=
 Claim7.holds_tied_plain_at .later [] Rows.storeNoneCard.laidKinds true (true, Rows.storeNoneCard.stood.harness.2) false
  over (fun _ h => by cases h) (by kernel_rfl) (fun _ h => by cases h) storeNone_row_tie rfl ⟨rfl, rfl⟩ (by kernel_rfl) rfl
  (fun f fn hf hfn => by
   obtain rfl : f = 5 := Option.some.inj ((show Tryz.prog.funcNamed "icehouse/icehouselaw21.StoreNone" = some 5 by kernel_rfl).symm.trans hf) |>.symm
   obtain rfl : fn = Tryz.f5 := (Option.some.inj (Tryz.func5.symm.trans hfn)).symm
   exact ⟨by kernel_rfl, fun j t ht => by
    rw [Tryz.params5] at ht
    have hm : t ∈ [] := by simpa using Array.mem_of_getElem? ht
    have hall : ([].all fun u => !Tryz.prog.wantsStandIn u) = true := by kernel_rfl
    exact (show Tryz.prog.wantsStandIn t = false by simpa using List.all_eq_true.1 hall t hm)⟩)
  (by kernel_rfl)
#print axioms proved
end Go.Proofs.YticophaepapjoaaGreatDoor.storeNone
