/-
  THE WALK OF MetaMay, whatever lies on a keeper's sectors.
-/
import Derived.Test.YtmnjdlnjhomhnaaDoorMtBegun
import Derived.Test.YtmnjdlnjhomhnaaDoorMtLocs
namespace Go.Proofs.YtmnjdlnjhomhnaaDoor.metaMay
open Go Go.RowKit Go.Joins
def G4 : Nat → Option Bool := fun _ => none
def L4 (m : M4) : List Value := [magg m, .bool (mayB m), magg m, .bool (mayB m), .bool true, .bool true]
def V4 (m : M4) : Nat → World → Value → Prop := fun i => IsV ((L4 m).getD i undef)
set_option maxRecDepth 100000 in
set_option maxHeartbeats 4000000 in
theorem walk (S : MetaOK) (w : World) (hT : S.T w) (x : M4) (hx : x.Fits) : Calls Tryd.prog 6 #[magg x] w fun e w' => e = .returned (.bool true) ∧ Below w.heap.size w w' := by
  have HT := Lib.hid hT
  have HX := Lib.hid hx
  clear hT hx
  have HL := Lib.hid (Four.new w x 32 _ rfl)
  have HG := Lib.hid (show magg x = .agg #[.int .i64 x.boot, .int .i64 x.epoch, .int .i64 x.ready, .bool x.frozen] from rfl)
  rw [HG.out]
  go_enter Tryd.func6, Tryd.ntmps6
  go_wp2_with fail
  refine (begun12 S _ (S.tk HT.out ((Keeps.refl _ w).alloc _))).mono ?_
  rintro e w1 ⟨rfl, hk⟩
  have HK := Lib.hid (HL.out.keep hk trivial)
  have HW := Lib.hid (((Keeps.refl (fun _ => True) w).alloc _).trans hk)
  clear hk HL
  go_wp2_with fail
  refine wp_region_guard (R := Kp) (V := V4 x) (w0 := w1) G4 (by kernel_rfl) (fun w => Keeps.refl _ w) (fun _ _ _ h k => h.trans k) (fun _ _ _ _ _ h => h) (by kernel_rfl) (fun _ _ h => by cases h) (unwanted_of [] (by kernel_rfl) (fun _ h => by cases h)) ((Keeps.refl _ w1).drew) (each_of ?_) ?_
  · refine ⟨?_, ?_, ?_, ?_, ?_, ?_, trivial⟩ <;> intro hw a1 wx L
    · exact kp_ldM (HK.out.keep L.rel trivial) rfl (L.old 1 (by kernel_rfl))
    · exact kp_mayP S HX.out rfl rfl (L.val 0 7 (by kernel_rfl) (by kernel_rfl))
    · exact kp_ldM (HK.out.keep L.rel trivial) rfl (L.old 1 (by kernel_rfl))
    · exact kp_mayL rfl rfl (L.val 2 9 (by kernel_rfl) (by kernel_rfl))
    · exact kp_eqB12 (beq_self_eq_true _) rfl (L.val 1 8 (by kernel_rfl) (by kernel_rfl)) (L.val 3 10 (by kernel_rfl) (by kernel_rfl))
    · exact kp_assign rfl (L.val 4 11 (by kernel_rfl) (by kernel_rfl))
  · intro vs w8 hw8 hlen hv
    match vs, hlen with
    | [v0, v1, v2, v3, v4, v5], _ =>
      have e5 : v5 = .bool true := hv 5 2 (by kernel_rfl)
      clear hv
      subst e5
      have HK8 := Lib.hid (HW.out.trans hw8)
      clear hw8
      simp only [putAll, List.map, Act.put, List.setIfInBounds_toArray, List.set_cons_succ, List.set_cons_zero, Exit.then]
      go_wp2_with fail
      go_ret
      exact ⟨rfl, HK8.out.below⟩
end Go.Proofs.YtmnjdlnjhomhnaaDoor.metaMay
