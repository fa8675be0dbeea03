/-
  THE WALK OF PlanOne, however the program's plans are made.
-/
import Derived.Test.YtcmblihlbmclaaaPnLocs
import Derived.Test.YtcmblihlbmclaaaPtNodes
import Derived.Deep.CutRange
namespace Go.Proofs.Ytcmblihlbmclaaa.planOne
open Go Go.RowKit Go.Joins

set_option maxRecDepth 100000 in
set_option maxHeartbeats 8000000 in
theorem walk {S : RingOK} (O : PlanOK S) (w : World) (hT : S.T w) (z n : Int) :
    Calls Try.prog 7 #[.int .i64 z, .int .i64 n] w fun e w' => e = .returned (.bool true) ∧ Below w.heap.size w w' := by
  have HT := Lib.hid hT
  clear hT
  obtain ⟨j, hj, hjn⟩ := node_of n
  have HJN := Lib.hid hjn
  clear hjn
  go_enter Try.func7, Try.ntmps7
  go_wp2_with fail
  refine (begun15 O w HT.out).mono ?_
  rintro e w1 ⟨rfl, hk⟩
  have HK1 := Lib.hid hk
  clear hk
  go_upto_region 5 with fail
  rw [HJN.out]
  have hj1 : (j : Int) < 5 := by omega
  have HPW := Lib.hid (pow_of j hj)
  clear HJN
  go_wp2_with fail
  rw [HPW.out]
  have HLB := Lib.hid (nodes5_len (bitB (bits .andNot .i64 z ((2 ^ j : Nat) : Int))) 5)
  have HMB := Lib.hid (nodes5_len (bitB (bits .or .i64 z ((2 ^ j : Nat) : Int))) 5)
  have HLM := Lib.hid (nodes5_may (bitB (bits .andNot .i64 z ((2 ^ j : Nat) : Int))))
  have HMM := Lib.hid (nodes5_may (bitB (bits .or .i64 z ((2 ^ j : Nat) : Int))))
  have HSUB := Lib.hid (sub_of z j hj)
  have HNOT := Lib.hid (not_of z j hj)
  have HC1 := Lib.hid (show ∀ w', Kp w w' → Calls Try.prog 10 #[.int .i64 (bits .andNot .i64 z ((2 ^ j : Nat) : Int))] w' _ from fun w' _ => pnodes_any w' _)
  have HC2 := Lib.hid (show ∀ w', Kp w w' → Calls Try.prog 10 #[.int .i64 (bits .or .i64 z ((2 ^ j : Nat) : Int))] w' _ from fun w' _ => pnodes_any w' _)
  generalize nodes5 (bitB (bits .andNot .i64 z ((2 ^ j : Nat) : Int))) 5 = x at HLB HLM HSUB HNOT HC1
  generalize nodes5 (bitB (bits .or .i64 z ((2 ^ j : Nat) : Int))) 5 = y at HMB HMM HSUB HC2
  generalize bits .andNot .i64 z ((2 ^ j : Nat) : Int) = z1 at HC1 ⊢
  refine (show Calls _ _ _ _ _ from HC1.out w1 HK1.out).mono ?_
  rintro e w2 ⟨A, c, rfl, hr, hc1, hc2, hk⟩
  have HK2 := Lib.hid (HK1.out.trans hk)
  have HRX := Lib.hid (show ∀ w', Kp w2 w' → Row w' A (fun _ => True) (x.map (Value.int .i64)) from fun w' hk => (hr.mono fun _ _ _ => trivial).keep hk)
  clear hk hr HK1 HC1
  go_wp2_with fail
  rw [HPW.out]
  generalize bits .or .i64 z ((2 ^ j : Nat) : Int) = z2 at HC2 ⊢
  refine (show Calls _ _ _ _ _ from HC2.out w2 HK2.out).mono ?_
  rintro e w3 ⟨B, d, rfl, hr, hd1, hd2, hk⟩
  have HK3 := Lib.hid hk
  have HRY := Lib.hid (show ∀ w', Kp w3 w' → Row w' B (fun _ => True) (y.map (Value.int .i64)) from fun w' hk => (hr.mono fun _ _ _ => trivial).keep hk)
  clear hk hr HC2 HPW
  have hl5 := HLB.out
  have hm5 := HMB.out
  have hcs : ((x.length : Int) == 0) = true ∨ ((x.length : Int) == 0) = false := by cases ((x.length : Int) == 0) <;> simp
  rcases hcs with t0 | t0
  · go_wp2_with fail
    go_ret
    exact ⟨rfl, (HK2.out.trans HK3.out).below⟩
  · have hml : nodesB x = true := by
      rw [HLM.out]
      cases x with
      | nil => simp at t0
      | cons z x => rfl
    have hmm : nodesB y = true := by
      rw [HMM.out]
      have hin : ((j + 1 : Nat) : Int) ∈ y := (HSUB.out _).2 (.inr rfl)
      cases y with
      | nil => cases hin
      | cons z y => rfl
    have HX := Lib.hid hml
    have HY := Lib.hid hmm
    have HMORE := Lib.hid (show ∀ P, PlanIs (ownerL x) (ownerL y) P → P ≠ [] ∧ ∀ m ∈ P, m.dst = ((j + 1 : Nat) : Int) ∧ m.src ∈ x from fun P hP => plan_more hml hmm HSUB.out HNOT.out hP)
    clear hml hmm HLM HMM HSUB HNOT HLB HMB
    go_wp2_with fail
    refine (ring_at S (e := 1) HT.out (HK2.out.trans HK3.out) (HRX.out w3 HK3.out) hc1 hc2 HX.out (by decide) (by decide)).mono ?_
    rintro e w4 ⟨r1, F1, rfl, ha1, hk⟩
    have HA1 := Lib.hid ha1
    have HK4 := Lib.hid hk
    clear ha1 hk
    go_wp2_with fail
    refine (ring_at S (e := 2) HT.out (HK2.out.trans (HK3.out.trans HK4.out)) (HRY.out w4 HK4.out) hd1 hd2 HY.out (by decide) (by decide)).mono ?_
    rintro e w5 ⟨r2, F2, rfl, ha2, hk⟩
    have HA2 := Lib.hid ha2
    have HK5 := Lib.hid hk
    clear ha2 hk
    go_wp2_with fail
    refine (O.of w w5 r1 F1 1 x r2 F2 2 y HT.out (HA1.out w5 HK5.out) (HA2.out w5 (Keeps.refl _ _))).mono ?_
    rintro e w6 ⟨D, cd, P, rfl, hr, hP, hp1, hp2, hp3, hk⟩
    have HP := Lib.hid hP
    have HRP := Lib.hid (show ∀ w', Kp w6 w' → MVRow w' D (fun _ => True) P from fun w' hk => Row.keep hr hk)
    have HK6 := Lib.hid (HK2.out.trans (HK3.out.trans (HK4.out.trans (HK5.out.trans hk))))
    have HRX6 := Lib.hid (show ∀ w', Kp w6 w' → Row w' A (fun _ => True) (x.map (Value.int .i64)) from fun w' hk2 => HRX.out w' (HK3.out.trans (HK4.out.trans (HK5.out.trans (hk.trans hk2)))))
    have HRY6 := Lib.hid (show ∀ w', Kp w6 w' → Row w' B (fun _ => True) (y.map (Value.int .i64)) from fun w' hk2 => HRY.out w' (HK4.out.trans (HK5.out.trans (hk.trans hk2))))
    have hcd : cd ≤ 9223372036854775807 := by unfold maxLen at hp3; omega
    obtain ⟨hne, hall⟩ := HMORE.out P hP
    have HALL := Lib.hid hall
    have hP0 : 0 < P.length := List.length_pos_iff.2 hne
    clear hr hP hk HK2 HK3 HK4 HK5 HRX HRY HA1 HA2 hne hall HMORE
    go_wp2_with fail
    refine (ring_at S (e := 1) HT.out HK6.out (HRY6.out w6 (Keeps.refl _ _)) hd1 hd2 HY.out (by decide) (by decide)).mono ?_
    rintro e w7 ⟨r3, F3, rfl, ha1, hk⟩
    have HA3 := Lib.hid ha1
    have HK7 := Lib.hid hk
    clear ha1 hk
    go_wp2_with fail
    refine (ring_at S (e := 2) HT.out (HK6.out.trans HK7.out) (HRX6.out w7 HK7.out) hc1 hc2 HX.out (by decide) (by decide)).mono ?_
    rintro e w8 ⟨r4, F4, rfl, ha2, hk⟩
    have HA4 := Lib.hid ha2
    have HK8 := Lib.hid hk
    clear ha2 hk
    go_wp2_with fail
    refine (O.of w w8 r3 F3 1 y r4 F4 2 x HT.out (HA3.out w8 HK8.out) (HA4.out w8 (Keeps.refl _ _))).mono ?_
    rintro e w9 ⟨E, ce, P2, rfl, hr2, hP2, -, he2, he3, hk⟩
    obtain rfl : P2 = P.map swapM := PlanFrom.unique hP2 (PlanFrom.swap HP.out)
    have HK9 := Lib.hid (HK7.out.trans (HK8.out.trans hk))
    have HR2 := Lib.hid (show ∀ w', Kp w9 w' → MVRow w' E (fun _ => True) (P.map swapM) from fun w' hk => Row.keep hr2 hk)
    have HR1 := Lib.hid (show ∀ w', Kp w9 w' → MVRow w' D (fun _ => True) P from fun w' hk => HRP.out w' (HK9.out.trans hk))
    have hce : ce ≤ 9223372036854775807 := by unfold maxLen at he3; omega
    have HTO := Lib.hid (show ∀ w', Kp w9 w' → Calls Try.prog 17 #[.slice D P.length cd, .int .i64 ((j + 1 : Nat) : Int)] w' fun e w'' => (∃ B cb, e = .returned (.slice B P.length cb)) ∧ Kp w' w'' from fun w' hk => by
      have h := O.to_ w' D cd P ((j + 1 : Nat) : Int) (HR1.out w' hk) hp2 hp3 (by omega)
      rw [List.filter_eq_self.2 fun m hm => by have := (HALL.out m hm).1; simp [this]] at h
      exact h.mono fun e w'' ⟨B, cb, h1, _, _, _, h2⟩ => ⟨⟨B, cb, h1⟩, h2⟩)
    have HFR := Lib.hid (show ∀ w', Kp w9 w' → Calls Try.prog 16 #[.slice E P.length ce, .int .i64 ((j + 1 : Nat) : Int)] w' fun e w'' => (∃ B cb, e = .returned (.slice B P.length cb)) ∧ Kp w' w'' from fun w' hk => by
      have h := O.from_ w' E ce (P.map swapM) ((j + 1 : Nat) : Int) (HR2.out w' hk) he2 he3 (by rw [List.length_map]; omega)
      rw [List.filter_eq_self.2 fun m hm => by
        obtain ⟨q, hq, rfl⟩ := List.mem_map.1 hm
        have := (HALL.out q hq).1
        simp [swapM, this], List.length_map] at h
      exact h.mono fun e w'' ⟨B, cb, h1, _, _, _, h2⟩ => ⟨⟨B, cb, h1⟩, h2⟩)
    rw [List.length_map] at he2 ⊢
    have HHAS := Lib.hid (show ∀ (i : Nat) (hi : i < P.length), hasN x P[i].src = true from fun i hi => List.any_eq_true.2 ⟨_, (HALL.out _ (List.getElem_mem hi)).2, by simp⟩)
    have HRX9 := Lib.hid (show ∀ w', Kp w9 w' → Row w' A (fun _ => True) (x.map (Value.int .i64)) from fun w' hk => HRX6.out w' (HK9.out.trans hk))
    clear hr2 hP2 hk HK7 HK8 HA3 HA4 HALL HR2 HRX6 HRY6 HRP
    have v0 : ((P.length : Int) != (P.length : Int)) = false := by simp
    have v1 : ((P.length : Int) == 0) = false := beq_eq_false_iff_ne.2 (by omega)
    obtain ⟨k, hk⟩ : ∃ k : Int, ((j + 1 : Nat) : Int) = k := ⟨_, rfl⟩
    rw [hk] at HTO HFR
    have hk' : (j : Int) + 1 = k := by omega
    clear hk
    go_wp2_with fail
    refine (show Calls _ _ _ _ _ from HTO.out w9 (Keeps.refl _ _)).mono ?_
    rintro e w10 ⟨⟨B1, cb1, rfl⟩, hk⟩
    have HK10 := Lib.hid hk
    clear hk HTO
    go_wp2_with fail
    refine (show Calls _ _ _ _ _ from HFR.out w10 HK10.out).mono ?_
    rintro e w11 ⟨⟨B2, cb2, rfl⟩, hk⟩
    have HK11 := Lib.hid (HK10.out.trans hk)
    clear hk HFR HK10
    go_wp2_with fail
    go_loopw [10] (fun i wr => ∃ q : Nat, q ≤ P.length ∧ i = .int .i64 (q : Int) ∧ Hid (Kp w9 wr)) (fun i _ => P.length - (intOf i).toNat)
    case atStart => exact ⟨0, by omega, rfl, HK11⟩
    case round =>
      clear HK11
      obtain ⟨q, hq, rfl, HKb⟩ := hrel
      by_cases hq1 : q < P.length
      · have hqI : (q : Int) < (P.length : Int) := by omega
        obtain ⟨b, o, rfl, -, h4⟩ := (HR1.out wr HKb.out).at_ hq1
        have c2 := h4.c2
        have HH := Lib.hid (HHAS.out q hq1)
        generalize P[q].src = s at c2 HH
        clear h4
        go_wp2_with fail
        refine (has_any wr A c x s (HRX9.out wr HKb.out) hc1 hc2).mono ?_
        rintro e w12 ⟨rfl, hk⟩
        have HK12 := Lib.hid (HKb.out.trans hk)
        clear hk
        rw [HH.out]
        go_wp2_with fail
        go_roundw
        case rel => exact ⟨q + 1, by omega, by go_num, HK12⟩
        case measure => simp [intOf]; omega
      · obtain rfl : q = P.length := by omega
        clear hq1
        go_wp2_with fail
        go_ret
        exact ⟨rfl, (HK6.out.trans (HK9.out.trans HKb.out)).below⟩

end Go.Proofs.Ytcmblihlbmclaaa.planOne
