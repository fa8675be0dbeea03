/-
  StoreNone, walked over what cache and journal keep.
-/
import Derived.Test.YticophaepapjoaaGreatDoorAllA08
namespace Go.Proofs.YticophaepapjoaaGreatDoor.storeNone
open Go Go.RowKit Go.Joins

set_option maxRecDepth 100000 in
set_option maxHeartbeats 1000000 in
theorem walk (S : FlashOK) (J : JournalOK) (w : World) (hS : S.T w) (hJ : J.T w) (hT : theSup.T w) : Calls Tryz.prog 5 #[] w fun e w' => e = .returned (.bool true) ∧ Below w.heap.size w w' := by
  have HS := Lib.hid hS
  have HJ := Lib.hid hJ
  have HT := Lib.hid hT
  clear hS hJ hT
  go_enter Tryz.func5, Tryz.ntmps5
  go_wp2_with fail
  have K0 := Lib.hid (show Kp w (w.alloc (.cells #[.string { data := #[107] }] 9)) from (Keeps.refl _ w).alloc _)
  refine (show Calls _ _ _ _ _ from skill_nil _ _).mono ?_
  rintro e w1 ⟨rfl, rfl⟩
  go_wp2_with fail
  generalize w.alloc (.cells #[.string { data := #[107] }] 9) = w1 at *
  refine (show Calls _ _ _ _ _ from fo_dev (X := fun _ => False) K0.out (fun _ h => h.elim) 191 (by decide) (by decide) 191 rfl).mono ?_
  rintro e w2 ⟨p, rfl, ⟨F, hd, -⟩, -⟩
  have HD := Lib.hid hd
  clear hd K0
  go_wp2_with fail
  refine (show Calls _ _ _ _ _ from stmake_small (n := 191) HD.out (by rw [still_len, List.length_replicate]) (by decide)).mono ?_
  rintro e w3 ⟨rfl, rfl⟩
  have K2 := Lib.hid HD.out.kp
  clear HD
  go_wp2_with fail
  refine (show Calls _ _ _ _ _ from fo_dev (X := fun _ => False) K2.out (fun _ h => h.elim) 400 (by decide) (by decide) 400 rfl).mono ?_
  rintro e w3 ⟨p2, rfl, ⟨F2, hd, -⟩, -⟩
  have HD := Lib.hid hd
  clear hd K2
  go_wp2_with fail
  refine (show Calls _ _ _ _ _ from stopen_bad (n := 400) HT.out HD.out (by rw [still_len, List.length_replicate]) (by decide) (blank_at _ _ (by decide)) (blank_at _ _ (by decide))).mono ?_
  rintro e w4 ⟨rfl, hk4⟩
  have K4 := Lib.hid (HD.out.kp.trans hk4)
  clear hk4 HD
  go_wp2_with fail
  refine (show Calls _ _ _ _ _ from begun21 S J w4 (S.tk HS.out K4.out) (J.tk HJ.out K4.out) (theSup.tk HT.out K4.out)).mono ?_
  rintro e w5 ⟨rfl, hk5⟩
  have K5 := Lib.hid (K4.out.trans hk5)
  clear hk5 K4
  go_wp2_with fail
  refine (show Calls _ _ _ _ _ from sstarted_nil _).mono ?_
  rintro e w6 ⟨rfl, rfl⟩
  go_wp2_with fail
  go_ret
  exact ⟨rfl, K5.out.below⟩

end Go.Proofs.YticophaepapjoaaGreatDoor.storeNone
