/-
  'begun' OF LAYER 14 ANSWERS true, however the program's rings find an owner.
-/
import Derived.Test.YtonalhjhokkcmaaRgIf
namespace Go.Proofs.Ytonalhjhokkcmaa
open Go Go.RowKit Go.Joins

theorem ints_new (w : World) (l : List Int) (C : Array Value) (hC : C.toList = l.map (Value.int .i64)) : Row (w.alloc (.cells C 3)) (some ⟨w.heap.size, 0, none⟩) (fun _ => True) (l.map (Value.int .i64)) :=
  Row.fresh w C 3 (0, 0) _ rfl trivial _ hC
set_option maxRecDepth 100000 in
set_option maxHeartbeats 1000000 in
theorem begun14 (S : RingOK) (w : World) (hT : S.T w) : Calls Try.prog 10 #[] w fun e w' => e = .returned (.bool true) ∧ Kp w w' := by
  have HT := Lib.hid hT
  clear hT
  have m2 : ringB 3 [2] = true := by decide
  have HO := Lib.hid (show ∀ h, ownerL [2] h = 2 from fun h => owner_one (ring_nodes m2) h)
  have HNEW := Lib.hid (show Calls Try.prog 13 #[.int .i64 3, .slice (some ⟨w.heap.size, 0, none⟩) 1 1] (w.alloc (.cells #[.int .i64 2] 3)) fun x w' => ∃ r F, x = .returned (.pointer (some ⟨r, 0, none⟩)) ∧ S.At w w' r F 3 [2] ∧ Kp w w' from
    (S.new w _ _ 1 [2] 3 HT.out ((Keeps.refl _ w).alloc _) (ints_new w [2] _ rfl) (by decide) (by decide) m2).mono fun x w' ⟨r, F, h1, h2, _, h4⟩ => ⟨r, F, h1, h2, ((Keeps.refl _ w).alloc _).trans h4⟩)
  have HN0 := Lib.hid (show ∀ w1, Kp w w1 → Calls Try.prog 13 #[.int .i64 0, .slice (some ⟨w1.heap.size, 0, none⟩) 1 1] (w1.alloc (.cells #[.int .i64 1] 3)) fun x w' => x = .returned (.pointer none) ∧ Kp w w' from fun w1 hk =>
    (S.newNo w _ _ 1 [1] 0 HT.out (hk.alloc _) (ints_new w1 [1] _ rfl) (by decide) (by decide) (by decide)).mono fun x w' ⟨h1, h2⟩ => ⟨h1, (hk.alloc _).trans h2⟩)
  have HN2 := Lib.hid (show ∀ w1, Kp w w1 → Calls Try.prog 13 #[.int .i64 1, .slice (some ⟨w1.heap.size, 0, none⟩) 2 2] (w1.alloc (.cells #[.int .i64 2, .int .i64 1] 3)) fun x w' => x = .returned (.pointer none) ∧ Kp w w' from fun w1 hk =>
    (S.newNo w _ _ 2 [2, 1] 1 HT.out (hk.alloc _) (ints_new w1 [2, 1] _ rfl) (by decide) (by decide) (by decide)).mono fun x w' ⟨h1, h2⟩ => ⟨h1, (hk.alloc _).trans h2⟩)
  go_enter Try.func10, Try.ntmps10
  go_wp2_with fail
  refine (show Calls _ _ _ _ _ from HNEW.out).mono ?_
  rintro e w1 ⟨r, F, rfl, hat, hk1⟩
  have HAT := Lib.hid (show ∀ w2, Kp w1 w2 → S.At w w2 r F 3 [2] from fun w2 hk => S.atK hat hk)
  have HK1 := Lib.hid hk1
  clear hat hk1 HNEW m2
  go_wp2_with fail
  refine (S.epoch w w1 r F 3 [2] HT.out (HAT.out w1 (Keeps.refl _ _))).mono ?_
  rintro e w2 ⟨rfl, hk2⟩
  have HK2 := Lib.hid hk2
  clear hk2
  go_wp2_with fail
  refine (S.nodes w w2 r F 3 [2] HT.out (HAT.out w2 HK2.out)).mono ?_
  rintro e w3 ⟨B, cb, rfl, -, -, -, -, hk3⟩
  have HK3 := Lib.hid (HK2.out.trans hk3)
  clear hk3 HK2
  go_wp2_with fail
  refine (S.owner w w3 r F 3 [2] 0 HT.out (HAT.out w3 HK3.out) (by decide) (by decide)).mono ?_
  rintro e w4 ⟨rfl, hk4⟩
  have HK4 := Lib.hid (HK3.out.trans hk4)
  clear hk4 HK3
  rw [HO.out]
  go_wp2_with fail
  refine (S.of w w4 r F 3 [2] ⟨#[107]⟩ HT.out (HAT.out w4 HK4.out) (by decide)).mono ?_
  rintro e w5 ⟨rfl, hk5⟩
  have HK5 := Lib.hid (HK4.out.trans hk5)
  clear hk5 HK4
  rw [HO.out]
  go_wp2_with fail
  refine (S.has w w5 r F 3 [2] 2 HT.out (HAT.out w5 HK5.out)).mono ?_
  rintro e w6 ⟨rfl, hk6⟩
  have HK6 := Lib.hid (HK5.out.trans hk6)
  clear hk6 HK5
  rw [show hasN [2] 2 = true from rfl]
  go_wp2_with fail
  refine (S.has w w6 r F 3 [2] 1 HT.out (HAT.out w6 HK6.out)).mono ?_
  rintro e w7 ⟨rfl, hk7⟩
  have HK7 := Lib.hid (HK1.out.trans (HK6.out.trans hk7))
  clear hk7 HK6
  rw [show hasN [2] 1 = false from rfl]
  go_wp2_with fail
  refine (show Calls _ _ _ _ _ from HN0.out w7 HK7.out).mono ?_
  rintro e w8 ⟨rfl, hk8⟩
  have HK8 := Lib.hid hk8
  clear hk8 HK7
  go_wp2_with fail
  refine (show Calls _ _ _ _ _ from HN2.out w8 HK8.out).mono ?_
  rintro e w9 ⟨rfl, hk9⟩
  have HK9 := Lib.hid hk9
  clear hk9 HK8
  go_wp2_with fail
  go_ret
  exact ⟨rfl, HK9.out⟩

end Go.Proofs.Ytonalhjhokkcmaa
