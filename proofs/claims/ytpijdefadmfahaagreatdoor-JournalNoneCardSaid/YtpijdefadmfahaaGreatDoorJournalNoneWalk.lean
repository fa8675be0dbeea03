/-
  JournalNone, walked: no journal; segments that are too few.
-/
import Derived.Test.YtpijdefadmfahaaGreatDoorAllJrA
namespace Go.Proofs.YtpijdefadmfahaaGreatDoor.journalNone
open Go Go.RowKit Go.Joins Go.Proofs.YtpijdefadmfahaaGreatDoor
theorem jo_openNo {S : JournalOK} {W w : World} {p n : Nat} {X : Nat → Prop} (hT : S.T W) (h : JBlank W w p n X) (i g : Int) (h1 : -9223372036854775808 ≤ i) (h2 : i < 9223372036854775808) (h3 : -9223372036854775808 ≤ g) (h4 : g < 9223372036854775808) (hno : i < 0 ∨ g < 20 ∨ 200 < g) :
    Calls Tryz.prog 9 #[.pointer (some ⟨p, 0, none⟩), .int .i64 i, .int .i64 g] w fun e w' => (∃ v, e = .returned (.tuple #[v, .int .i64 4])) ∧ Kp w w' := by
  obtain ⟨F, hd, -⟩ := h
  exact S.openNo w p F _ hd.d (S.tk hT hd.kp) i g h1 h2 h3 h4 (by omega)
set_option maxRecDepth 100000 in
set_option maxHeartbeats 1000000 in
theorem walk (S : JournalOK) (w : World) (hT : S.T w) : Calls Tryz.prog 4 #[] w fun e w' => e = .returned (.bool true) ∧ Below w.heap.size w w' := by
  have HT := Lib.hid hT
  clear hT
  go_enter Tryz.func4, Tryz.ntmps4
  go_wp2_with fail
  refine (show Calls _ _ _ _ _ from S.addNil _ _ ⟨_, _, _, rfl, by unfold maxLen; decide⟩).mono ?_
  rintro e w1 ⟨rfl, hk1⟩
  have K1 := Lib.hid (((Keeps.refl (fun _ => True) w).alloc _).trans hk1)
  clear hk1
  go_wp2_with fail
  refine (show Calls _ _ _ _ _ from S.sinceNil w1 0 1).mono ?_
  rintro e w2 ⟨⟨A, c, rfl⟩, hk2⟩
  have K2 := Lib.hid (K1.out.trans hk2)
  clear hk2 K1
  go_wp2_with fail
  refine (show Calls _ _ _ _ _ from jo_dev (X := fun _ => False) K2.out (fun _ h => h.elim) 300 (by decide) (by decide) 300 rfl).mono ?_
  rintro e w3 ⟨p, rfl, hB, hk3⟩
  have HB := Lib.hid hB
  have K3 := Lib.hid (K2.out.trans hk3)
  clear hB hk3 K2
  go_wp2_with fail
  refine (show Calls _ _ _ _ _ from jo_openNo HT.out HB.out 0 19 (by decide) (by decide) (by decide) (by decide) (by decide)).mono ?_
  rintro e w4 ⟨⟨v, rfl⟩, hk4⟩
  have K4 := Lib.hid (K3.out.trans hk4)
  clear hk4 K3 HB
  go_wp2_with fail
  refine (show Calls _ _ _ _ _ from begun10 S w4 (S.tk HT.out K4.out)).mono ?_
  rintro e w5 ⟨rfl, hk5⟩
  have K5 := Lib.hid (K4.out.trans hk5)
  clear hk5 K4
  go_wp2_with fail
  refine (show Calls _ _ _ _ _ from S.seqNil w5).mono ?_
  rintro e w6 ⟨rfl, hk6⟩
  have K6 := Lib.hid (K5.out.trans hk6)
  clear hk6 K5
  go_wp2_with fail
  refine (show Calls _ _ _ _ _ from S.baseNil w6).mono ?_
  rintro e w7 ⟨rfl, hk7⟩
  have K7 := Lib.hid (K6.out.trans hk7)
  clear hk7 K6
  go_wp2_with fail
  go_ret
  exact ⟨rfl, K7.out.below⟩
end Go.Proofs.YtpijdefadmfahaaGreatDoor.journalNone
