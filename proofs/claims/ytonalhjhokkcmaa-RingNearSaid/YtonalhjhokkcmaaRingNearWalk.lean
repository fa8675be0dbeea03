/-
  THE WALK OF RingNear, however the program's rings find an owner.
-/
import Derived.Test.YtonalhjhokkcmaaRgNodes
import Derived.Test.YtonalhjhokkcmaaRgRef
namespace Go.Proofs.Ytonalhjhokkcmaa.ringNear
open Go Go.RowKit Go.Joins

set_option maxRecDepth 100000 in
set_option maxHeartbeats 4000000 in
theorem walk (S : RingOK) (w : World) (hT : S.T w) (z n i d : Int) :
    Calls Try.prog 4 #[.int .i64 z, .int .i64 n, .int .i64 i, .int .i64 d] w fun e w' => e = .returned (.bool true) ∧ Below w.heap.size w w' := by
  have HT := Lib.hid hT
  clear hT
  go_enter Try.func4, Try.ntmps4
  go_wp2_with fail
  refine (begun14 S w HT.out).mono ?_
  rintro e w1 ⟨rfl, hk⟩
  have HK1 := Lib.hid hk
  clear hk
  go_wp2_with fail
  refine (rgnodes_any w1 z).mono ?_
  rintro e w2 ⟨A, c, rfl, hr, hc1, hc2, hk⟩
  have HK2 := Lib.hid (HK1.out.trans hk)
  have HR := Lib.hid (show ∀ w', Kp w2 w' → Row w' A (fun _ => True) ((nodes5 (bitB z) 5).map (Value.int .i64)) from fun w' hk => (hr.mono fun _ _ _ => trivial).keep hk)
  have HMAY := Lib.hid (nodes5_may (bitB z))
  have hl5 := nodes5_len (bitB z) 5
  generalize nodes5 (bitB z) 5 = l at HR HMAY hc1 hl5 ⊢
  clear hk hr HK1
  have hcs : ((l.length : Int) == 0) = true ∨ ((l.length : Int) == 0) = false ∧ (decide (n < 1) = true ∨ decide (n < 1) = false ∧ (decide (5 < n) = true ∨ decide (5 < n) = false ∧ (decide (i < 0) = true ∨ decide (i < 0) = false ∧ (decide (7 < i) = true ∨ decide (7 < i) = false ∧ (decide (d < -2) = true ∨ decide (d < -2) = false ∧ (decide (2 < d) = true ∨ decide (2 < d) = false)))))) := by
    cases ((l.length : Int) == 0) <;> cases decide (n < 1) <;> cases decide (5 < n) <;> cases decide (i < 0) <;> cases decide (7 < i) <;> cases decide (d < -2) <;> cases decide (2 < d) <;> simp
  rcases hcs with t0 | ⟨t0, t1 | ⟨t1, t2 | ⟨t2, t3 | ⟨t3, t4 | ⟨t4, t5 | ⟨t5, t6 | t6⟩⟩⟩⟩⟩⟩
  rotate_right 1
  · have hm : nodesB l = true := by
      rw [HMAY.out]
      cases l with
      | nil => simp at t0
      | cons x l => rfl
    have HM := Lib.hid hm
    have HRB := Lib.hid (ringB_of (e := 1) (by decide) (by decide) hm)
    clear hm HMAY
    have HNEW := Lib.hid (S.new w w2 A c l 1 HT.out HK2.out (HR.out w2 (Keeps.refl _ _)) hc1 hc2 HRB.out)
    have HOW := Lib.hid (show ∀ (w' : World) (h : Int), Kp w2 w' → Calls Try.prog 20 #[.slice A l.length c, .int .u64 h] w' fun e w3 => e = .returned (.int .i64 (ownerL l h)) ∧ Kp w' w3 from fun w' h hk => rowner_any w' A c l h (HR.out w' hk) hc1 hc2)
    go_wp2_with fail
    refine (show Calls _ _ _ _ _ from HNEW.out).mono ?_
    rintro e w3 ⟨r, F, rfl, hat, -, hk⟩
    have HAT := Lib.hid hat
    have HK3 := Lib.hid hk
    clear hat hk HNEW
    go_wp2_with fail
    refine (rpoint_any n i w3).mono ?_
    rintro e w3' ⟨rfl, rfl⟩
    go_wp2_with fail
    have h0 := wrap_nonneg (stZ (IntKind.u64.wrap (wrap64 (wrap64 (n * 1000003) + i))) + IntKind.u64.wrap d)
    have h1 := wrap_lt (stZ (IntKind.u64.wrap (wrap64 (wrap64 (n * 1000003) + i))) + IntKind.u64.wrap d)
    generalize IntKind.u64.wrap (stZ (IntKind.u64.wrap (wrap64 (wrap64 (n * 1000003) + i))) + IntKind.u64.wrap d) = h at h0 h1 ⊢
    refine (S.owner w w3 r F 1 l h HT.out HAT.out h0 h1).mono ?_
    rintro e w4 ⟨rfl, hk⟩
    have HK4 := Lib.hid (HK3.out.trans hk)
    clear hk
    have HO := Lib.hid (HOW.out w4 h HK4.out)
    clear HOW
    generalize ownerL l h = y at HO ⊢
    go_wp2_with fail
    refine (show Calls _ _ _ _ _ from HO.out).mono ?_
    rintro e w5 ⟨rfl, hk⟩
    have HK5 := Lib.hid (HK2.out.trans (HK4.out.trans hk))
    clear hk
    go_wp2_with fail
    go_ret
    exact ⟨by simp, HK5.out.below⟩
  all_goals (
    go_wp2_with fail
    go_ret
    exact ⟨rfl, HK2.out.below⟩)

end Go.Proofs.Ytonalhjhokkcmaa.ringNear
