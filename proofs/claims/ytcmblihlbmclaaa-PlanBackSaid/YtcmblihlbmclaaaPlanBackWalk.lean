/-
  THE WALK OF PlanBack, however the program's plans are made.
-/
import Derived.Test.YtcmblihlbmclaaaPnBegun
import Derived.Test.YtcmblihlbmclaaaRgRef
import Derived.BigQuiet
import Derived.Test.YtcmblihlbmclaaaPnLocs
namespace Go.Proofs.Ytcmblihlbmclaaa.planBack
open Go Go.RowKit Go.Joins

set_option maxRecDepth 100000 in
set_option maxHeartbeats 8000000 in
theorem walk {S : RingOK} (O : PlanOK S) (w : World) (hT : S.T w) (a b : Int) :
    Calls Try.prog 6 #[.int .i64 a, .int .i64 b] w fun e w' => e = .returned (.bool true) ∧ Below w.heap.size w w' := by
  have HT := Lib.hid hT
  clear hT
  go_enter Try.func6, Try.ntmps6
  go_wp2_with fail
  refine (begun15 O w HT.out).mono ?_
  rintro e w1 ⟨rfl, hk⟩
  have HK1 := Lib.hid hk
  clear hk
  go_wp2_with fail
  refine (pnodes_any w1 a).mono ?_
  rintro e w2 ⟨A, c, rfl, hr, hc1, hc2, hk⟩
  have HK2 := Lib.hid (HK1.out.trans hk)
  have HRX := Lib.hid (show ∀ w', Kp w2 w' → Row w' A (fun _ => True) ((nodes5 (bitB a) 5).map (Value.int .i64)) from fun w' hk => (hr.mono fun _ _ _ => trivial).keep hk)
  have HMX := Lib.hid (nodes5_may (bitB a))
  have hx5 := nodes5_len (bitB a) 5
  generalize nodes5 (bitB a) 5 = x at HRX HMX hc1 hx5 ⊢
  clear hk hr HK1
  go_wp2_with fail
  refine (pnodes_any w2 b).mono ?_
  rintro e w3 ⟨B, d, rfl, hr, hd1, hd2, hk⟩
  have HK3 := Lib.hid hk
  have HRY := Lib.hid (show ∀ w', Kp w3 w' → Row w' B (fun _ => True) ((nodes5 (bitB b) 5).map (Value.int .i64)) from fun w' hk => (hr.mono fun _ _ _ => trivial).keep hk)
  have HMY := Lib.hid (nodes5_may (bitB b))
  have hy5 := nodes5_len (bitB b) 5
  generalize nodes5 (bitB b) 5 = y at HRY HMY hd1 hy5 ⊢
  clear hk hr
  have hcs : ((x.length : Int) == 0) = true ∨ ((x.length : Int) == 0) = false ∧ (((y.length : Int) == 0) = true ∨ ((y.length : Int) == 0) = false) := by
    cases ((x.length : Int) == 0) <;> cases ((y.length : Int) == 0) <;> simp
  rcases hcs with t0 | ⟨t0, t1 | t1⟩
  rotate_right 1
  · have hmx : nodesB x = true := by
      rw [HMX.out]
      cases x with
      | nil => simp at t0
      | cons z x => rfl
    have hmy : nodesB y = true := by
      rw [HMY.out]
      cases y with
      | nil => simp at t1
      | cons z y => rfl
    have HX := Lib.hid hmx
    have HY := Lib.hid hmy
    clear hmx hmy HMX HMY
    go_wp2_with fail
    refine (ring_at S (e := 1) HT.out (HK2.out.trans HK3.out) (HRX.out w3 HK3.out) hc1 hc2 HX.out (by decide) (by decide)).mono ?_
    rintro e w4 ⟨r1, F1, rfl, ha1, hk⟩
    have HA1 := Lib.hid ha1
    have HK4 := Lib.hid hk
    clear ha1 hk
    go_wp2_with fail
    refine (ring_at S (e := 2) HT.out (HK2.out.trans (HK3.out.trans HK4.out)) (HRY.out w4 HK4.out) hd1 hd2 HY.out (by decide) (by decide)).mono ?_
    rintro e w5 ⟨r2, F2, rfl, ha2, hk⟩
    have HA2 := Lib.hid ha2
    have HK5 := Lib.hid hk
    clear ha2 hk
    go_wp2_with fail
    refine (O.of w w5 r1 F1 1 x r2 F2 2 y HT.out (HA1.out w5 HK5.out) (HA2.out w5 (Keeps.refl _ _))).mono ?_
    rintro e w6 ⟨D, cd, P, rfl, hr, hP, hp1, hp2, hp3, hk⟩
    have HP := Lib.hid hP
    have HRP := Lib.hid (show ∀ w', Kp w6 w' → MVRow w' D (fun _ => True) P from fun w' hk => Row.keep hr hk)
    have HK6 := Lib.hid (HK2.out.trans (HK3.out.trans (HK4.out.trans (HK5.out.trans hk))))
    have HRX6 := Lib.hid (show ∀ w', Kp w6 w' → Row w' A (fun _ => True) (x.map (Value.int .i64)) from fun w' hk2 => HRX.out w' (HK3.out.trans (HK4.out.trans (HK5.out.trans (hk.trans hk2)))))
    have HRY6 := Lib.hid (show ∀ w', Kp w6 w' → Row w' B (fun _ => True) (y.map (Value.int .i64)) from fun w' hk2 => HRY.out w' (HK4.out.trans (HK5.out.trans (hk.trans hk2))))
    have hcd : cd ≤ 9223372036854775807 := by unfold maxLen at hp3; omega
    clear hr hP hk HK2 HK3 HK4 HK5 HRX HRY HA1 HA2
    go_wp2_with fail
    refine (ring_at S (e := 1) HT.out HK6.out (HRY6.out w6 (Keeps.refl _ _)) hd1 hd2 HY.out (by decide) (by decide)).mono ?_
    rintro e w7 ⟨r3, F3, rfl, ha1, hk⟩
    have HA3 := Lib.hid ha1
    have HK7 := Lib.hid hk
    clear ha1 hk
    go_wp2_with fail
    refine (ring_at S (e := 2) HT.out (HK6.out.trans HK7.out) (HRX6.out w7 HK7.out) hc1 hc2 HX.out (by decide) (by decide)).mono ?_
    rintro e w8 ⟨r4, F4, rfl, ha2, hk⟩
    have HA4 := Lib.hid ha2
    have HK8 := Lib.hid hk
    clear ha2 hk
    go_wp2_with fail
    refine (O.of w w8 r3 F3 1 y r4 F4 2 x HT.out (HA3.out w8 HK8.out) (HA4.out w8 (Keeps.refl _ _))).mono ?_
    rintro e w9 ⟨E, ce, P2, rfl, hr2, hP2, -, he2, he3, hk⟩
    obtain rfl : P2 = P.map swapM := PlanFrom.unique hP2 (PlanFrom.swap HP.out)
    have HK9 := Lib.hid (HK7.out.trans (HK8.out.trans hk))
    have HR2 := Lib.hid (show ∀ w', Kp w9 w' → MVRow w' E (fun _ => True) (P.map swapM) from fun w' hk => Row.keep hr2 hk)
    have HR1 := Lib.hid (show ∀ w', Kp w9 w' → MVRow w' D (fun _ => True) P from fun w' hk => HRP.out w' (HK9.out.trans hk))
    have hce : ce ≤ 9223372036854775807 := by unfold maxLen at he3; omega
    rw [List.length_map] at he2 ⊢
    clear hr2 hP2 hk HK7 HK8 HA3 HA4
    have v0 : ((P.length : Int) != (P.length : Int)) = false := by simp
    go_wp2_with fail
    go_loopw [10] (fun i wr => ∃ j : Nat, j ≤ P.length ∧ i = .int .i64 (j : Int) ∧ Hid (Kp w9 wr)) (fun i _ => P.length - (intOf i).toNat)
    case atStart => exact ⟨0, by omega, rfl, Lib.hid (Keeps.refl _ _)⟩
    case round =>
      obtain ⟨j, hj, rfl, HKb⟩ := hrel
      by_cases hj1 : j < P.length
      · have hjI : (j : Int) < (P.length : Int) := by omega
        have hj2 : j < (P.map swapM).length := by rw [List.length_map]; exact hj1
        obtain ⟨b1, o1, rfl, -, h4⟩ := (HR1.out wr HKb.out).at_ hj1
        obtain ⟨b2, o2, rfl, -, g4⟩ := (HR2.out wr HKb.out).at_ hj2
        rw [List.getElem_map] at g4
        generalize P[j] = m at h4 g4
        obtain ⟨m1, m2, m3, m4⟩ := m
        have c0 := h4.c0
        have c1 := h4.c1
        have c2 := h4.c2
        have c3 := h4.c3
        have d0 := g4.c0
        have d1 := g4.c1
        have d2 := g4.c2
        have d3 := g4.c3
        simp only [swapM] at c0 c1 c2 c3 d0 d1 d2 d3
        have v1 : (m1 != m1) = false := by simp
        have v2 : (m2 != m2) = false := by simp
        have v3 : (m3 != m3) = false := by simp
        have v4 : (m4 != m4) = false := by simp
        clear h4 g4 hj2
        go_wp2_with fail
        go_quiet (fail)
        go_wp2_with fail
        go_roundw
        case rel => exact ⟨j + 1, by omega, by go_num, Lib.hid (HKb.out.drewN _)⟩
        case measure => simp [intOf]; omega
      · obtain rfl : j = P.length := by omega
        clear hj1
        go_wp2_with fail
        go_ret
        exact ⟨rfl, (HK6.out.trans (HK9.out.trans HKb.out)).below⟩
  · go_wp2_with fail
    go_ret
    exact ⟨rfl, (HK2.out.trans HK3.out).below⟩
  · go_wp2_with fail
    go_ret
    exact ⟨rfl, (HK2.out.trans HK3.out).below⟩

end Go.Proofs.Ytcmblihlbmclaaa.planBack
