/-
  THE WALK OF PlanPoints, however the program's plans are made.
-/
import Derived.Test.YtcmblihlbmclaaaPnBegun
import Derived.Test.YtcmblihlbmclaaaRgRef
import Derived.BigQuiet
namespace Go.Proofs.Ytcmblihlbmclaaa.planPoints
open Go Go.RowKit Go.Joins

set_option maxRecDepth 100000 in
set_option maxHeartbeats 8000000 in
theorem walk {S : RingOK} (O : PlanOK S) (w : World) (hT : S.T w) (a b : Int) :
    Calls Try.prog 4 #[.int .i64 a, .int .i64 b] w fun e w' => e = .returned (.bool true) ∧ Below w.heap.size w w' := by
  have HT := Lib.hid hT
  clear hT
  go_enter Try.func4, Try.ntmps4
  go_wp2_with fail
  refine (begun15 O w HT.out).mono ?_
  rintro e w1 ⟨rfl, hk⟩
  have HK1 := Lib.hid hk
  clear hk
  go_wp2_with fail
  refine (pnodes_any w1 a).mono ?_
  rintro e w2 ⟨A, c, rfl, hr, hc1, hc2, hk⟩
  have HK2 := Lib.hid (HK1.out.trans hk)
  have HRX := Lib.hid (show ∀ w', Kp w2 w' → Row w' A (fun _ => True) ((nodes5 (bitB a) 5).map (Value.int .i64)) from fun w' hk => (hr.mono fun _ _ _ => trivial).keep hk)
  have HMX := Lib.hid (nodes5_may (bitB a))
  have hx5 := nodes5_len (bitB a) 5
  generalize nodes5 (bitB a) 5 = x at HRX HMX hc1 hx5 ⊢
  clear hk hr HK1
  go_wp2_with fail
  refine (pnodes_any w2 b).mono ?_
  rintro e w3 ⟨B, d, rfl, hr, hd1, hd2, hk⟩
  have HK3 := Lib.hid hk
  have HRY := Lib.hid (show ∀ w', Kp w3 w' → Row w' B (fun _ => True) ((nodes5 (bitB b) 5).map (Value.int .i64)) from fun w' hk => (hr.mono fun _ _ _ => trivial).keep hk)
  have HMY := Lib.hid (nodes5_may (bitB b))
  have hy5 := nodes5_len (bitB b) 5
  generalize nodes5 (bitB b) 5 = y at HRY HMY hd1 hy5 ⊢
  clear hk hr
  have hcs : ((x.length : Int) == 0) = true ∨ ((x.length : Int) == 0) = false ∧ (((y.length : Int) == 0) = true ∨ ((y.length : Int) == 0) = false) := by
    cases ((x.length : Int) == 0) <;> cases ((y.length : Int) == 0) <;> simp
  rcases hcs with t0 | ⟨t0, t1 | t1⟩
  rotate_right 1
  · have hmx : nodesB x = true := by
      rw [HMX.out]
      cases x with
      | nil => simp at t0
      | cons z x => rfl
    have hmy : nodesB y = true := by
      rw [HMY.out]
      cases y with
      | nil => simp at t1
      | cons z y => rfl
    have HX := Lib.hid hmx
    have HY := Lib.hid hmy
    clear hmx hmy HMX HMY
    go_wp2_with fail
    refine (ring_at S (e := 1) HT.out (HK2.out.trans HK3.out) (HRX.out w3 HK3.out) hc1 hc2 HX.out (by decide) (by decide)).mono ?_
    rintro e w4 ⟨r1, F1, rfl, ha1, hk⟩
    have HA1 := Lib.hid ha1
    have HK4 := Lib.hid hk
    clear ha1 hk
    go_wp2_with fail
    refine (ring_at S (e := 2) HT.out (HK2.out.trans (HK3.out.trans HK4.out)) (HRY.out w4 HK4.out) hd1 hd2 HY.out (by decide) (by decide)).mono ?_
    rintro e w5 ⟨r2, F2, rfl, ha2, hk⟩
    have HA2 := Lib.hid ha2
    have HK5 := Lib.hid hk
    clear ha2 hk
    go_wp2_with fail
    refine (O.of w w5 r1 F1 1 x r2 F2 2 y HT.out (HA1.out w5 HK5.out) (HA2.out w5 (Keeps.refl _ _))).mono ?_
    rintro e w6 ⟨D, cd, P, rfl, hr, hP, hp1, hp2, hp3, hk⟩
    have HP := Lib.hid hP
    have HRP := Lib.hid (show ∀ w', Kp w6 w' → MVRow w' D (fun _ => True) P from fun w' hk => Row.keep hr hk)
    have HK6 := Lib.hid (HK2.out.trans (HK3.out.trans (HK4.out.trans (HK5.out.trans hk))))
    have HRX6 := Lib.hid (show ∀ w', Kp w6 w' → Row w' A (fun _ => True) (x.map (Value.int .i64)) from fun w' hk2 => HRX.out w' (HK3.out.trans (HK4.out.trans (HK5.out.trans (hk.trans hk2)))))
    have HRY6 := Lib.hid (show ∀ w', Kp w6 w' → Row w' B (fun _ => True) (y.map (Value.int .i64)) from fun w' hk2 => HRY.out w' (HK4.out.trans (HK5.out.trans (hk.trans hk2))))
    have hcd : cd ≤ 9223372036854775807 := by unfold maxLen at hp3; omega
    clear hr hP hk HK2 HK3 HK4 HK5 HRX HRY HA1 HA2
    have HCV := Lib.hid (show ∀ (w' : World) (h : Int), Kp w6 w' → 0 ≤ h → h < 18446744073709551616 → Calls Try.prog 14 #[.slice D P.length cd, .int .u64 h] w' fun e w'' => e = .returned (.tuple #[mvagg (covM P h), .bool (covB P h)]) ∧ Kp w' w'' from fun w' h hk h0 h1 => O.covers w' D cd P h (HRP.out w' hk) hp2 hp3 (by omega) (PlanFrom.apart HP.out) h0 h1)
    have HOX := Lib.hid (show ∀ (w' : World) (h : Int), Kp w6 w' → Calls Try.prog 13 #[.slice A x.length c, .int .u64 h] w' fun e w'' => e = .returned (.int .i64 (ownerL x h)) ∧ Kp w' w'' from fun w' h hk => rowner_any w' A c x h (HRX6.out w' hk) hc1 hc2)
    have HOY := Lib.hid (show ∀ (w' : World) (h : Int), Kp w6 w' → Calls Try.prog 13 #[.slice B y.length d, .int .u64 h] w' fun e w'' => e = .returned (.int .i64 (ownerL y h)) ∧ Kp w' w'' from fun w' h hk => rowner_any w' B d y h (HRY6.out w' hk) hd1 hd2)
    go_wp2_with fail
    go_loopw [9] (fun i wr => ∃ n : Nat, 1 ≤ n ∧ n ≤ 6 ∧ i = .int .i64 (n : Int) ∧ Hid (Kp w6 wr)) (fun i _ => 6 - (intOf i).toNat)
    case atStart => exact ⟨1, by omega, by omega, rfl, Lib.hid (Keeps.refl _ _)⟩
    case round =>
      obtain ⟨n, hn1, hn6, rfl, HKa⟩ := hrel
      by_cases hn : n < 6
      · have u1 : decide ((n : Int) ≤ 5) = true := by simp; omega
        go_wp2_with fail
        go_loopw [10] (fun i wr => ∃ k : Nat, k ≤ 8 ∧ i = .int .i64 (k : Int) ∧ Hid (Kp w6 wr)) (fun i _ => 8 - (intOf i).toNat)
        case atStart => exact ⟨0, by omega, rfl, HKa⟩
        case round =>
          clear HKa
          obtain ⟨k, hk8, rfl, HKb⟩ := hrel
          by_cases hk : k < 8
          · have u2 : decide ((k : Int) < 8) = true := by simp; omega
            go_wp2_with fail
            go_loopw [11] (fun i wr => ∃ q : Nat, q ≤ 3 ∧ i = .int .i64 (q : Int) ∧ Hid (Kp w6 wr)) (fun i _ => 3 - (intOf i).toNat)
            case atStart => exact ⟨0, by omega, rfl, HKb⟩
            case round =>
              clear HKb
              obtain ⟨q, hq3, rfl, HKc⟩ := hrel
              by_cases hq : q < 3
              · have u3 : decide ((q : Int) < 3) = true := by simp; omega
                have HPT := Lib.hid (show ∀ w2, Calls Try.prog 15 #[.int .i64 (n : Int), .int .i64 (k : Int)] w2 fun e w' => e = .returned (.int .u64 (placeZ (n : Int) (k : Int))) ∧ w2 = w' from fun w2 => rpoint_any (n : Int) (k : Int) w2)
                generalize placeZ (n : Int) (k : Int) = p at HPT
                go_wp2_with fail
                refine (show Calls _ _ _ _ _ from HPT.out _).mono ?_
                rintro e wr' ⟨rfl, rfl⟩
                go_wp2_with fail
                have h0 := wrap_nonneg (IntKind.u64.wrap (p + (q : Int)) - 1)
                have h1 := wrap_lt (IntKind.u64.wrap (p + (q : Int)) - 1)
                generalize IntKind.u64.wrap (IntKind.u64.wrap (p + (q : Int)) - 1) = h at h0 h1 ⊢
                have hsay := plan_says HP.out h0 h1
                have HC := Lib.hid (HCV.out wr h HKc.out h0 h1)
                have HOXh := Lib.hid (fun w' hk => HOX.out w' h hk)
                have HOYh := Lib.hid (fun w' hk => HOY.out w' h hk)
                clear h0 h1 HPT
                generalize covM P h = m at hsay HC
                generalize covB P h = f at hsay HC
                generalize ownerL x h = s at hsay HOXh
                generalize ownerL y h = t at hsay HOYh
                obtain ⟨m1, m2, m3, m4⟩ := m
                unfold mvagg mvcells at HC
                refine (show Calls _ _ _ _ _ from HC.out).mono ?_
                rintro e w7 ⟨rfl, hk7⟩
                have HK7 := Lib.hid (HKc.out.trans hk7)
                clear hk7 HC HKc
                go_upto_region 19 with fail
                obtain ⟨g, hg⟩ : ∃ g, w7.heap.size = g := ⟨_, rfl⟩
                have hb := MvBlk.new w7 ⟨m1, m2, m3, m4⟩ g hg
                have HK8 := Lib.hid (HK7.out.alloc (.cells (mvcells ⟨m1, m2, m3, m4⟩) 32))
                unfold mvcells at hb HK8
                rw [hg]
                generalize w7.alloc (.cells #[.int .u64 m1, .int .u64 m2, .int .i64 m3, .int .i64 m4] 32) = w8 at hb HK8 ⊢
                have HB := Lib.hid hb
                clear hb hg HK7
                go_wp2_with fail
                refine (show Calls _ _ _ _ _ from HOXh.out w8 HK8.out).mono ?_
                rintro e w9 ⟨rfl, hk⟩
                have HK9 := Lib.hid (HK8.out.trans hk)
                replace HB := Lib.hid (HB.out.keep hk trivial)
                clear hk HK8
                go_wp2_with fail
                refine (show Calls _ _ _ _ _ from HOYh.out w9 HK9.out).mono ?_
                rintro e w10 ⟨rfl, hk⟩
                have HK10 := Lib.hid (HK9.out.trans hk)
                have c2 := (HB.out.keep hk trivial).c2
                have c3 := (HB.out.keep hk trivial).c3
                clear hk HK9 HB HOXh HOYh
                rcases hsay with ⟨hne, rfl, hs, ht, -, -⟩ | ⟨hst, rfl⟩
                · subst hs ht
                  have v1 : (m3 != m4) = true := by simpa using hne
                  have v2 : (m3 != m3) = false := by simp
                  have v3 : (m4 != m4) = false := by simp
                  clear hne
                  go_wp2_with fail
                  go_roundw
                  case rel => exact ⟨q + 1, by omega, by go_num, HK10⟩
                  case measure => simp [intOf]; omega
                · subst hst
                  have v1 : (s != s) = false := by simp
                  go_wp2_with fail
                  go_roundw
                  case rel => exact ⟨q + 1, by omega, by go_num, HK10⟩
                  case measure => simp [intOf]; omega
              · obtain rfl : q = 3 := by omega
                have u3 : decide (((3 : Nat) : Int) < 3) = false := by decide
                go_wp2_with fail
                go_roundw
                case rel => exact ⟨k + 1, by omega, by go_num, HKc⟩
                case measure => simp [intOf]; omega
          · obtain rfl : k = 8 := by omega
            have u2 : decide (((8 : Nat) : Int) < 8) = false := by decide
            go_wp2_with fail
            go_roundw
            case rel => exact ⟨n + 1, by omega, by omega, by go_num, HKb⟩
            case measure => simp [intOf]; omega
      · obtain rfl : n = 6 := by omega
        have u1 : decide (((6 : Nat) : Int) ≤ 5) = false := by decide
        go_wp2_with fail
        go_ret
        exact ⟨rfl, (HK6.out.trans HKa.out).below⟩
  · go_wp2_with fail
    go_ret
    exact ⟨rfl, (HK2.out.trans HK3.out).below⟩
  · go_wp2_with fail
    go_ret
    exact ⟨rfl, (HK2.out.trans HK3.out).below⟩

end Go.Proofs.Ytcmblihlbmclaaa.planPoints
