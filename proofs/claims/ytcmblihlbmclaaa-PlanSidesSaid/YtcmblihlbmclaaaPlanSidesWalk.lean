/-
  THE WALK OF PlanSides, however the program's plans are made.
-/
import Derived.Test.YtcmblihlbmclaaaPnBegun
import Derived.Test.YtcmblihlbmclaaaRgRef
import Derived.BigQuiet
import Derived.Test.YtcmblihlbmclaaaPnLocs
namespace Go.Proofs.Ytcmblihlbmclaaa.planSides
open Go Go.RowKit Go.Joins

set_option maxRecDepth 100000 in
set_option maxHeartbeats 8000000 in
theorem walk {S : RingOK} (O : PlanOK S) (w : World) (hT : S.T w) (a b : Int) :
    Calls Try.prog 5 #[.int .i64 a, .int .i64 b] w fun e w' => e = .returned (.bool true) ∧ Below w.heap.size w w' := by
  have HT := Lib.hid hT
  clear hT
  go_enter Try.func5, Try.ntmps5
  go_wp2_with fail
  refine (begun15 O w HT.out).mono ?_
  rintro e w1 ⟨rfl, hk⟩
  have HK1 := Lib.hid hk
  clear hk
  go_wp2_with fail
  refine (pnodes_any w1 a).mono ?_
  rintro e w2 ⟨A, c, rfl, hr, hc1, hc2, hk⟩
  have HK2 := Lib.hid (HK1.out.trans hk)
  have HRX := Lib.hid (show ∀ w', Kp w2 w' → Row w' A (fun _ => True) ((nodes5 (bitB a) 5).map (Value.int .i64)) from fun w' hk => (hr.mono fun _ _ _ => trivial).keep hk)
  have HMX := Lib.hid (nodes5_may (bitB a))
  have hx5 := nodes5_len (bitB a) 5
  generalize nodes5 (bitB a) 5 = x at HRX HMX hc1 hx5 ⊢
  clear hk hr HK1
  go_wp2_with fail
  refine (pnodes_any w2 b).mono ?_
  rintro e w3 ⟨B, d, rfl, hr, hd1, hd2, hk⟩
  have HK3 := Lib.hid hk
  have HRY := Lib.hid (show ∀ w', Kp w3 w' → Row w' B (fun _ => True) ((nodes5 (bitB b) 5).map (Value.int .i64)) from fun w' hk => (hr.mono fun _ _ _ => trivial).keep hk)
  have HMY := Lib.hid (nodes5_may (bitB b))
  have hy5 := nodes5_len (bitB b) 5
  generalize nodes5 (bitB b) 5 = y at HRY HMY hd1 hy5 ⊢
  clear hk hr
  have hcs : ((x.length : Int) == 0) = true ∨ ((x.length : Int) == 0) = false ∧ (((y.length : Int) == 0) = true ∨ ((y.length : Int) == 0) = false) := by
    cases ((x.length : Int) == 0) <;> cases ((y.length : Int) == 0) <;> simp
  rcases hcs with t0 | ⟨t0, t1 | t1⟩
  rotate_right 1
  · have hmx : nodesB x = true := by
      rw [HMX.out]
      cases x with
      | nil => simp at t0
      | cons z x => rfl
    have hmy : nodesB y = true := by
      rw [HMY.out]
      cases y with
      | nil => simp at t1
      | cons z y => rfl
    have HX := Lib.hid hmx
    have HY := Lib.hid hmy
    clear hmx hmy HMX HMY
    go_wp2_with fail
    refine (ring_at S (e := 1) HT.out (HK2.out.trans HK3.out) (HRX.out w3 HK3.out) hc1 hc2 HX.out (by decide) (by decide)).mono ?_
    rintro e w4 ⟨r1, F1, rfl, ha1, hk⟩
    have HA1 := Lib.hid ha1
    have HK4 := Lib.hid hk
    clear ha1 hk
    go_wp2_with fail
    refine (ring_at S (e := 2) HT.out (HK2.out.trans (HK3.out.trans HK4.out)) (HRY.out w4 HK4.out) hd1 hd2 HY.out (by decide) (by decide)).mono ?_
    rintro e w5 ⟨r2, F2, rfl, ha2, hk⟩
    have HA2 := Lib.hid ha2
    have HK5 := Lib.hid hk
    clear ha2 hk
    go_wp2_with fail
    refine (O.of w w5 r1 F1 1 x r2 F2 2 y HT.out (HA1.out w5 HK5.out) (HA2.out w5 (Keeps.refl _ _))).mono ?_
    rintro e w6 ⟨D, cd, P, rfl, hr, hP, hp1, hp2, hp3, hk⟩
    have HP := Lib.hid hP
    have HRP := Lib.hid (show ∀ w', Kp w6 w' → MVRow w' D (fun _ => True) P from fun w' hk => Row.keep hr hk)
    have HK6 := Lib.hid (HK2.out.trans (HK3.out.trans (HK4.out.trans (HK5.out.trans hk))))
    have HRX6 := Lib.hid (show ∀ w', Kp w6 w' → Row w' A (fun _ => True) (x.map (Value.int .i64)) from fun w' hk2 => HRX.out w' (HK3.out.trans (HK4.out.trans (HK5.out.trans (hk.trans hk2)))))
    have HRY6 := Lib.hid (show ∀ w', Kp w6 w' → Row w' B (fun _ => True) (y.map (Value.int .i64)) from fun w' hk2 => HRY.out w' (HK4.out.trans (HK5.out.trans (hk.trans hk2))))
    have hcd : cd ≤ 9223372036854775807 := by unfold maxLen at hp3; omega
    clear hr hP hk HK2 HK3 HK4 HK5 HRX HRY HA1 HA2
    have HFR := Lib.hid (show ∀ (w' : World) (n : Int), Kp w6 w' → Calls Try.prog 16 #[.slice D P.length cd, .int .i64 n] w' _ from fun w' n hk => O.from_ w' D cd P n (HRP.out w' hk) hp2 hp3 (by omega))
    have HTO := Lib.hid (show ∀ (w' : World) (n : Int), Kp w6 w' → Calls Try.prog 17 #[.slice D P.length cd, .int .i64 n] w' _ from fun w' n hk => O.to_ w' D cd P n (HRP.out w' hk) hp2 hp3 (by omega))
    have HNS := Lib.hid (plan_nodes HX.out HY.out HP.out)
    have hASC : P.Pairwise fun a b => a.til < b.frm := HP.out.asc
    have HASC := Lib.hid hASC
    clear hASC
    go_wp2_with fail
    go_loopw [9, 10, 11] (fun s9 s10 i wr => ∃ n : Nat, n ≤ 7 ∧ i = .int .i64 (n : Int) ∧ s9 = .int .i64 (cntS P (n : Int) : Int) ∧ s10 = .int .i64 (cntD P (n : Int) : Int) ∧ Hid (Kp w6 wr)) (fun _ _ i _ => 7 - (intOf i).toNat)
    case atStart => exact ⟨0, by omega, rfl, by rw [show ((0 : Nat) : Int) = 0 from rfl, cntS_first fun m hm => (HNS.out m hm).1.1]; rfl, by rw [show ((0 : Nat) : Int) = 0 from rfl, cntD_first fun m hm => (HNS.out m hm).2.1]; rfl, Lib.hid (Keeps.refl _ _)⟩
    case round =>
      obtain ⟨n, hn7, rfl, rfl, rfl, HKa⟩ := hrel
      by_cases hn : n < 7
      · have u1 : decide ((n : Int) ≤ 6) = true := by simp; omega
        have HCS := Lib.hid (cntS_next P (n : Int))
        have HCD := Lib.hid (cntD_next P (n : Int))
        have hcs1 := cntS_le P (n : Int)
        have hcd1 := cntD_le P (n : Int)
        have HQS := Lib.hid (show ∀ (i : Nat) (hi : i < (P.filter fun m => m.src == (n : Int)).length), (P.filter fun m => m.src == (n : Int))[i].src = (n : Int) from fun i hi => by
          have h := (List.mem_filter.1 (List.getElem_mem hi)).2
          simpa using h)
        have HQD := Lib.hid (show ∀ (i : Nat) (hi : i < (P.filter fun m => m.dst == (n : Int)).length), (P.filter fun m => m.dst == (n : Int))[i].dst = (n : Int) from fun i hi => by
          have h := (List.mem_filter.1 (List.getElem_mem hi)).2
          simpa using h)
        have HQA := Lib.hid (show (P.filter fun m => m.dst == (n : Int)).Pairwise (fun a b => a.til < b.frm) from HASC.out.filter _)
        have HLS := Lib.hid (List.length_filter_le (fun m : Mv => m.src == (n : Int)) P)
        have HLD := Lib.hid (List.length_filter_le (fun m : Mv => m.dst == (n : Int)) P)
        have HF1 := Lib.hid (fun w' hk => HFR.out w' (n : Int) hk)
        have HT1 := Lib.hid (fun w' hk => HTO.out w' (n : Int) hk)
        generalize (P.filter fun m => m.src == (n : Int)) = QS at HCS HQS HLS HF1
        generalize (P.filter fun m => m.dst == (n : Int)) = QD at HCD HQD HQA HLD HT1
        generalize cntS P (n : Int) = zs at HCS hcs1 ⊢
        generalize cntD P (n : Int) = zd at HCD hcd1 ⊢
        go_wp2_with fail
        refine (show Calls _ _ _ _ _ from HF1.out wr HKa.out).mono ?_
        rintro e w7 ⟨B1, cb1, rfl, hr1, hb1, hb2, hk⟩
        have HK7 := Lib.hid (HKa.out.trans hk)
        have HR1 := Lib.hid (show ∀ w', Kp w7 w' → MVRow w' B1 (fun _ => True) QS from fun w' hk => Row.keep hr1 hk)
        clear hr1 hk HF1 HKa
        go_wp2_with fail
        refine (show Calls _ _ _ _ _ from HT1.out w7 HK7.out).mono ?_
        rintro e w8 ⟨B2, cb2, rfl, hr2, hb3, hb4, hk⟩
        have HK8 := Lib.hid (HK7.out.trans hk)
        have HR1b := Lib.hid (show ∀ w', Kp w8 w' → MVRow w' B1 (fun _ => True) QS from fun w' hk2 => HR1.out w' (hk.trans hk2))
        have HR2 := Lib.hid (show ∀ w', Kp w8 w' → MVRow w' B2 (fun _ => True) QD from fun w' hk => Row.keep hr2 hk)
        have hls := HLS.out
        have hld := HLD.out
        have HN1 := Lib.hid hn
        clear hr2 hk HT1 HK7 HR1 HLS HLD
        go_wp2_with fail
        go_loopw [14] (fun i wr => ∃ j : Nat, j ≤ QS.length ∧ i = .int .i64 (j : Int) ∧ Hid (Kp w8 wr)) (fun i _ => QS.length - (intOf i).toNat)
        case atStart => exact ⟨0, by omega, rfl, Lib.hid (Keeps.refl _ _)⟩
        case round =>
          obtain ⟨j, hj, rfl, HKb⟩ := hrel
          by_cases hj1 : j < QS.length
          · have hjI : (j : Int) < (QS.length : Int) := by omega
            obtain ⟨b, o, rfl, -, h4⟩ := (HR1b.out wr HKb.out).at_ hj1
            have c2 := h4.c2
            rw [HQS.out j hj1] at c2
            have v1 : ((n : Int) != (n : Int)) = false := by simp
            clear h4
            go_wp2_with fail
            go_roundw
            case rel => exact ⟨j + 1, by omega, by go_num, HKb⟩
            case measure => simp [intOf]; omega
          · obtain rfl : j = QS.length := by omega
            clear hj1
            go_wp2_with fail
            go_loopw [15] (fun i wi => ∃ q : Nat, q ≤ QD.length ∧ i = .int .i64 (q : Int) ∧ Hid (Kp w8 wi)) (fun i _ => QD.length - (intOf i).toNat)
            case atStart => exact ⟨0, by omega, rfl, HKb⟩
            case round =>
              clear HKb
              obtain ⟨q, hq, rfl, HKc⟩ := hrel
              by_cases hq1 : q < QD.length
              · have hqI : (q : Int) < (QD.length : Int) := by omega
                have v1 : ((n : Int) != (n : Int)) = false := by simp
                have hrow := HR2.out wr HKc.out
                obtain ⟨b, o, rfl, -, h4⟩ := hrow.at_ hq1
                have c0 := h4.c0
                have c3 := h4.c3
                rw [HQD.out q hq1] at c3
                clear h4
                cases q with
                | zero =>
                  clear hrow
                  have v2 : decide ((0 : Int) < ((0 : Nat) : Int)) = false := by decide
                  go_wp2_with fail
                  go_quiet (fail)
                  go_wp2_with fail
                  go_roundw
                  case rel => exact ⟨1, by omega, by go_num, Lib.hid (HKc.out.drewN _)⟩
                  case measure => simp [intOf]; omega
                | succ i =>
                  have h4 := hrow.fixed (j := i) (by omega)
                  have d1 := h4.c1
                  have hlt := List.pairwise_iff_getElem.1 HQA.out i (i + 1) (by omega) hq1 (by omega)
                  have v2 : decide ((0 : Int) < ((i + 1 : Nat) : Int)) = true := decide_eq_true (by omega)
                  have v3 : decide (QD[i + 1].frm ≤ QD[i].til) = false := by simp; omega
                  generalize QD[i + 1].frm = f1 at c0 v3
                  generalize QD[i].til = f2 at d1 v3
                  clear hrow h4 hlt
                  go_wp2_with fail
                  go_quiet (fail)
                  go_wp2_with fail
                  go_roundw
                  case rel => exact ⟨i + 1 + 1, by omega, by go_num, Lib.hid (HKc.out.drewN _)⟩
                  case measure => simp [intOf]; omega
              · obtain rfl : q = QD.length := by omega
                clear hq1
                have hk8 := HK8.out.trans HKc.out
                have HK9 := Lib.hid hk8
                have hn := HN1.out
                clear hk8
                go_wp2_with fail
                go_roundw
                case rel => exact ⟨n + 1, by omega, by go_num, by rw [show (((n + 1 : Nat) : Int)) = (n : Int) + 1 by omega, HCS.out]; go_num, by rw [show (((n + 1 : Nat) : Int)) = (n : Int) + 1 by omega, HCD.out]; go_num, HK9⟩
                case measure => simp [intOf]; omega
      · obtain rfl : n = 7 := by omega
        have u1 : decide (((7 : Nat) : Int) ≤ 6) = false := by decide
        rw [show ((7 : Nat) : Int) = 7 from rfl, cntS_last fun m hm => (HNS.out m hm).1.2, cntD_last fun m hm => (HNS.out m hm).2.2]
        have v1 : ((P.length : Int) == (P.length : Int)) = true := by simp
        clear hn
        go_wp2_with fail
        refine (ring_at S (e := 1) HT.out (HK6.out.trans HKa.out) (HRX6.out wr HKa.out) hc1 hc2 HX.out (by decide) (by decide)).mono ?_
        rintro e w7 ⟨r3, F3, rfl, ha1, hk⟩
        have HA3 := Lib.hid ha1
        have HK7 := Lib.hid (HKa.out.trans hk)
        clear ha1 hk
        go_wp2_with fail
        refine (ring_at S (e := 9) HT.out (HK6.out.trans HK7.out) (HRX6.out w7 HK7.out) hc1 hc2 HX.out (by decide) (by decide)).mono ?_
        rintro e w8 ⟨r4, F4, rfl, ha2, hk⟩
        have HA4 := Lib.hid ha2
        have HK8 := Lib.hid hk
        clear ha2 hk
        go_wp2_with fail
        refine (O.of w w8 r3 F3 1 x r4 F4 9 x HT.out (HA3.out w8 HK8.out) (HA4.out w8 (Keeps.refl _ _))).mono ?_
        rintro e w9 ⟨E, ce, P2, rfl, -, hP2, -, -, -, hk⟩
        have e0 : P2 = [] := PlanFrom.same hP2
        subst e0
        rw [show ([] : List Mv).length = 0 from rfl]
        have HK9 := Lib.hid (HK6.out.trans (HK7.out.trans (HK8.out.trans hk)))
        clear hP2 hk
        go_wp2_with fail
        go_ret
        exact ⟨rfl, HK9.out.below⟩
  · go_wp2_with fail
    go_ret
    exact ⟨rfl, (HK2.out.trans HK3.out).below⟩
  · go_wp2_with fail
    go_ret
    exact ⟨rfl, (HK2.out.trans HK3.out).below⟩

end Go.Proofs.Ytcmblihlbmclaaa.planSides
