/-
  slices.partialInsertionSortOrdered at uint64, walked. (Written by wip/genus.py.)
-/
import Derived.Test.YtcmblihlbmclaaaUsMem
import Derived.BigRegion
namespace Go.Proofs.Ytcmblihlbmclaaa
open Go Go.RowKit Go.Sort

section
variable {lt : Int → Int → Bool} {x y s i i2 j : Nat} {D E E2 E3 R : Array Int}
theorem sorted_go (h : i < y) (hl : lt D[i]! D[i - 1]! = false) : scanSorted lt D y (i + 1) = scanSorted lt D y i := by
  rw [scanSorted.eq_def lt D y i, hl, decide_eq_true h]; rfl
theorem sorted_end (h : ¬ i < y ∨ lt D[i]! D[i - 1]! = true) : scanSorted lt D y i = i := by
  rw [scanSorted]
  rcases h with h | h
  · rw [decide_eq_false h]; rfl
  · rw [h, Bool.not_true, Bool.and_false]; rfl
theorem downw_go (h : 1 ≤ j) (hl : lt E[j]! E[j - 1]! = true) : shiftDown lt (j - 1) (swp E j (j - 1)) = shiftDown lt j E := by
  cases j with
  | zero => omega
  | succ j =>
    simp only [Nat.add_sub_cancel] at hl ⊢
    rw [shiftDown.eq_def lt (j + 1)]
    simp only [hl, Bool.not_true, Bool.false_eq_true, if_false]
theorem downw_end (h : ¬ 1 ≤ j ∨ lt E[j]! E[j - 1]! = false) : shiftDown lt j E = E := by
  cases j with
  | zero => rfl
  | succ j =>
    simp only [Nat.add_sub_cancel] at h
    rcases h with h | h
    · omega
    · rw [shiftDown]; simp only [h, Bool.not_false, if_true]
theorem upw_go (h : j < y) (hl : lt E[j]! E[j - 1]! = true) : shiftUp lt y (j + 1) (swp E j (j - 1)) = shiftUp lt y j E := by
  rw [shiftUp.eq_def lt y j, if_pos h]
  simp only [hl, Bool.not_true, Bool.false_eq_true, if_false]
theorem upw_end (h : ¬ j < y ∨ lt E[j]! E[j - 1]! = false) : shiftUp lt y j E = E := by
  rw [shiftUp]
  rcases h with h | h
  · rw [if_neg h]
  · by_cases hj : j < y
    · rw [if_pos hj]; simp only [h, Bool.not_false, if_true]
    · rw [if_neg hj]
theorem fixUp_yes (h : 2 ≤ y - i) : fixUp lt y i D = shiftUp lt y (i + 1) D := if_pos h
theorem fixUp_no (h : ¬ 2 ≤ y - i) : fixUp lt y i D = D := if_neg h
theorem fixDown_yes (h : 2 ≤ i - x) : fixDown lt x i D = shiftDown lt (i - 1) D := if_pos h
theorem fixDown_no (h : ¬ 2 ≤ i - x) : fixDown lt x i D = D := if_neg h
theorem pins_all (hs : s < 5) (h2 : scanSorted lt D y i = y) : partialIns lt x y (5 - s) i D = (D, true) := by
  rw [show 5 - s = (4 - s) + 1 from by omega, partialIns_succ, h2, if_pos rfl]
theorem pins_few (hs : s < 5) (h2 : scanSorted lt D y i = i2) (hne : i2 ≠ y) (h50 : y - x < 50) : partialIns lt x y (5 - s) i D = (D, false) := by
  rw [show 5 - s = (4 - s) + 1 from by omega, partialIns_succ, h2, if_neg hne, if_pos h50]
theorem pins_step {D1 : Array Int} (hs : s < 5) (h2 : scanSorted lt D y i = i2) (hne : i2 ≠ y) (h50 : ¬ y - x < 50) (hD : D1 = swp D i2 (i2 - 1)) (hA : fixDown lt x i2 D1 = E2) (hB : fixUp lt y i2 E2 = E3) :
    partialIns lt x y (5 - (s + 1)) i2 E3 = partialIns lt x y (5 - s) i D := by
  rw [show 5 - s = (4 - s) + 1 from by omega, partialIns_succ, h2, if_neg hne, if_neg h50, ← hD, hA, hB, show 5 - (s + 1) = 4 - s from by omega]
end

set_option maxHeartbeats 16000000 in
set_option maxRecDepth 100000 in
theorem upins_any (w : World) (b o cap x y : Nat) (d : Array Int) (hH : Holds (Value.int .u64) w b o d) (hxy : x < y) (hy : y ≤ d.size) (hsz : d.size < 1152921504606846976) :
    Calls Try.prog 52 #[.slice (some ⟨b, o, none⟩) d.size cap, .int .i64 x, .int .i64 y] w fun e w' => e = .returned (.bool (partialInsertionSort ltInt d x y).2) ∧ UAt w w' b o (partialInsertionSort ltInt d x y).1 := by
  obtain ⟨n, hn⟩ : ∃ n, d.size = n := ⟨_, rfl⟩
  have H0 := Lib.hid (UAt.refl hH)
  obtain ⟨R, hR⟩ : ∃ R, partialInsertionSort ltInt d x y = R := ⟨_, rfl⟩
  rw [hR]
  have HE := Lib.hid (show partialIns ltInt x y (5 - 0) (x + 1) d = R from hR)
  rw [hn] at hy hsz ⊢
  clear hH hR
  go_enter Try.func52, Try.ntmps52
  go_wp2_with fail
  go_loopw [7, 8] (fun vi vs wr => ∃ (i s : Nat) (D : Array Int), vi = .int .i64 i ∧ vs = .int .i64 s ∧ x < i ∧ i ≤ y ∧ s ≤ 5 ∧ D.size = n ∧ Hid (UAt w wr b o D) ∧ Hid (partialIns ltInt x y (5 - s) i D = R)) (fun _ vs _ => 5 - (intOf vs).toNat)
  case atStart => exact ⟨x + 1, 0, d, by go_num, rfl, by omega, by omega, by omega, hn, H0, HE⟩
  case round =>
    clear H0 HE
    obtain ⟨i, s, D, rfl, rfl, hi, hiy, hs, hD, HW, HO⟩ := hrel
    by_cases hs5 : s < 5
    · go_wp2_with fail
      go_loopw [7] (fun vi wr => ∃ i2 : Nat, vi = .int .i64 i2 ∧ x < i2 ∧ i2 ≤ y ∧ Hid (UAt w wr b o D) ∧ Hid (scanSorted ltInt D y i2 = scanSorted ltInt D y i)) (fun vi _ => y - (intOf vi).toNat)
      case atStart => exact ⟨i, rfl, hi, hiy, HW, Lib.hid rfl⟩
      case round =>
        clear HW
        obtain ⟨i2, rfl, hi2, hi2y, HW, HS2⟩ := hrel
        obtain ⟨G, hG⟩ := fam_of D
        have HG := Lib.hid hG
        clear hG
        obtain ⟨hc, hf⟩ := HW.out.fam HG.out hD
        by_cases hlt : i2 < y
        · have hlt' : (i2 : Int) < (y : Int) := by omega
          have hne : i2 ≠ y := by omega
          have hneb : ((i2 : Int) == (y : Int)) = false := by simp; omega
          by_cases h50 : y - x < 50
          · have h50' : (y : Int) - (x : Int) < 50 := by omega
            go_wp2_with fail
            go_quiet (first | (go_at_call 53; refine Calls.quiet_of_same (uless_any _ _ _)))
            go_wp2_with fail
            · have hl : ltInt (G i2) (G (i2 - 1)) = false := by
                have : (!ltInt (G i2) (G (i2 - 1))) = true := by assumption
                simpa using this
              go_roundw
              case rel => exact ⟨i2 + 1, by go_num, by omega, by omega, Lib.hid (HW.out.drewN _), Lib.hid (by rw [← HS2.out, sorted_go hlt (by rw [HG.out, HG.out] at hl; exact hl)])⟩
              case measure => simp [intOf] <;> omega
            · have hl : ltInt (G i2) (G (i2 - 1)) = true := by
                have : (!ltInt (G i2) (G (i2 - 1))) = false := by assumption
                simpa using this
              rw [HG.out, HG.out] at hl
              have S2 := Lib.hid (show scanSorted ltInt D y i = i2 from by rw [← HS2.out]; exact sorted_end (.inr hl))
              replace HW := Lib.hid (HW.out.drewN nq)
              clear HS2 hc hf hl
              generalize wr.drewN nq = wr1 at HW ⊢
              have HR := Lib.hid ((pins_few hs5 S2.out hne h50).symm.trans HO.out)
              go_ret
              rw [← HR.out]
              exact ⟨rfl, HW.out⟩
          · have h50' : decide ((y : Int) - (x : Int) < 50) = false := decide_eq_false (by omega)
            go_wp2_with fail
            go_quiet (first | (go_at_call 53; refine Calls.quiet_of_same (uless_any _ _ _)))
            go_wp2_with fail
            · have hl : ltInt (G i2) (G (i2 - 1)) = false := by
                have : (!ltInt (G i2) (G (i2 - 1))) = true := by assumption
                simpa using this
              go_roundw
              case rel => exact ⟨i2 + 1, by go_num, by omega, by omega, Lib.hid (HW.out.drewN _), Lib.hid (by rw [← HS2.out, sorted_go hlt (by rw [HG.out, HG.out] at hl; exact hl)])⟩
              case measure => simp [intOf] <;> omega
            · have hl : ltInt (G i2) (G (i2 - 1)) = true := by
                have : (!ltInt (G i2) (G (i2 - 1))) = false := by assumption
                simpa using this
              rw [HG.out, HG.out] at hl
              have S2 := Lib.hid (show scanSorted ltInt D y i = i2 from by rw [← HS2.out]; exact sorted_end (.inr hl))
              replace HW := Lib.hid (HW.out.drewN nq)
              clear HS2 hc hf hl
              generalize wr.drewN nq = wr1 at HW ⊢
              by_cases hd : 2 ≤ i2 - x
              · by_cases hu : 2 ≤ y - i2
                · obtain ⟨hc2, hf2⟩ := HW.out.fam HG.out hD
                  have hd' : decide (2 ≤ (i2 : Int) - (x : Int)) = true := decide_eq_true (by omega)
                  have hu' : decide (2 ≤ (y : Int) - (i2 : Int)) = true := decide_eq_true (by omega)
                  go_region
                  all_goals go_wp2_with fail
                  replace HW := Lib.hid (HW.out.swapG (i := i2) (j := i2 - 1) 1 HG.out (by omega) (by omega))
                  have hD1 : (swp D i2 (i2 - 1)).size = n := by rw [size_swp]; exact hD
                  obtain ⟨D1, hD1e⟩ : ∃ D1, D1 = swp D i2 (i2 - 1) := ⟨_, rfl⟩
                  have HD1 := Lib.hid hD1e
                  rw [← hD1e] at HW hD1
                  clear hD1e
                  clear hc2 hf2 HG
                  go_loopw [9] (fun vj wr => ∃ (j : Nat) (E : Array Int), vj = .int .i64 j ∧ j < n ∧ E.size = n ∧ Hid (UAt w wr b o E) ∧ Hid (shiftDown ltInt j E = shiftDown ltInt (i2 - 1) D1)) (fun vj _ => (intOf vj).toNat)
                  case atStart => exact ⟨i2 - 1, D1, by congr 1; omega, by omega, hD1, HW, Lib.hid rfl⟩
                  case round =>
                    clear HW
                    obtain ⟨j, E, rfl, hjn, hE, HW, HSD⟩ := hrel
                    by_cases hj0 : 1 ≤ j
                    · obtain ⟨G, hG⟩ := fam_of E
                      have HG := Lib.hid hG
                      clear hG
                      obtain ⟨hc, hf⟩ := HW.out.fam HG.out hE
                      go_wp2_with fail
                      go_quiet (first | (go_at_call 53; refine Calls.quiet_of_same (uless_any _ _ _)))
                      go_wp2_with fail
                      · have hl : ltInt (G j) (G (j - 1)) = false := by
                          have : (!ltInt (G j) (G (j - 1))) = true := by assumption
                          simpa using this
                        replace HW := Lib.hid (HW.out.drewN nq)
                        rw [HG.out, HG.out] at hl
                        clear hc hf
                        generalize wr.drewN nq = wr6 at HW ⊢
                        have HA := Lib.hid (show fixDown ltInt x i2 D1 = E from by rw [fixDown_yes (by omega), ← HSD.out]; exact downw_end (.inr hl))
                        have hE2 := hE
                        clear HSD
                        obtain ⟨E2, rfl⟩ : ∃ E2, E2 = E := ⟨_, rfl⟩
                        clear hj0
                        go_loopw [10] (fun vj wr => ∃ (j : Nat) (E : Array Int), vj = .int .i64 j ∧ i2 + 1 ≤ j ∧ j ≤ y ∧ E.size = n ∧ Hid (UAt w wr b o E) ∧ Hid (shiftUp ltInt y j E = shiftUp ltInt y (i2 + 1) E2)) (fun vj _ => y - (intOf vj).toNat)
                        case atStart => exact ⟨i2 + 1, E2, by go_num, Nat.le_refl _, by omega, hE2, HW, Lib.hid rfl⟩
                        case round =>
                          clear HW
                          obtain ⟨j, E, rfl, hj1, hj2, hE, HW, HSU⟩ := hrel
                          by_cases hjy : j < y
                          · obtain ⟨G, hG⟩ := fam_of E
                            have HG := Lib.hid hG
                            clear hG
                            obtain ⟨hc, hf⟩ := HW.out.fam HG.out hE
                            go_wp2_with fail
                            go_quiet (first | (go_at_call 53; refine Calls.quiet_of_same (uless_any _ _ _)))
                            go_wp2_with fail
                            · have hl : ltInt (G j) (G (j - 1)) = false := by
                                have : (!ltInt (G j) (G (j - 1))) = true := by assumption
                                simpa using this
                              replace HW := Lib.hid (HW.out.drewN nq)
                              rw [HG.out, HG.out] at hl
                              have HB := Lib.hid (show fixUp ltInt y i2 E2 = E from by rw [fixUp_yes (by omega), ← HSU.out]; exact upw_end (.inr hl))
                              have hE3 := hE
                              clear HSU
                              obtain ⟨E3, rfl⟩ : ∃ E3, E3 = E := ⟨_, rfl⟩
                              have HR := Lib.hid ((pins_step hs5 S2.out hne h50 HD1.out HA.out HB.out).trans HO.out)
                              clear HO S2 HA HB
                              go_wp2_with fail
                              go_roundw
                              case rel => exact ⟨i2, s + 1, E3, rfl, by go_num, by omega, by omega, by omega, hE3, HW, HR⟩
                              case measure => simp [intOf] <;> omega
                            · have hl : ltInt (G j) (G (j - 1)) = true := by
                                have : (!ltInt (G j) (G (j - 1))) = false := by assumption
                                simpa using this
                              revert nq
                              intro nq1
                              replace HW := Lib.hid (HW.out.drewN nq1)
                              obtain ⟨kc, kf⟩ := HW.out.fam HG.out hE
                              clear hc hf
                              generalize wr.drewN nq1 = wr2 at HW kc kf ⊢
                              go_region
                              all_goals go_wp2_with fail
                              go_roundw
                              case rel => exact ⟨j + 1, swp E j (j - 1), by go_num, by omega, by omega, by rw [size_swp]; exact hE, Lib.hid (HW.out.swapG _ HG.out (by omega) (by omega)), Lib.hid (by rw [← HSU.out, upw_go hjy (by rw [HG.out, HG.out] at hl; exact hl)])⟩
                              case measure => simp [intOf] <;> omega
                          · go_wp2_with fail
                            have HB := Lib.hid (show fixUp ltInt y i2 E2 = E from by rw [fixUp_yes (by omega), ← HSU.out]; exact upw_end (.inl (by omega)))
                            have hE3 := hE
                            clear HSU
                            obtain ⟨E3, rfl⟩ : ∃ E3, E3 = E := ⟨_, rfl⟩
                            have HR := Lib.hid ((pins_step hs5 S2.out hne h50 HD1.out HA.out HB.out).trans HO.out)
                            clear HO S2 HA HB
                            go_wp2_with fail
                            go_roundw
                            case rel => exact ⟨i2, s + 1, E3, rfl, by go_num, by omega, by omega, by omega, hE3, HW, HR⟩
                            case measure => simp [intOf] <;> omega
                      · have hl : ltInt (G j) (G (j - 1)) = true := by
                          have : (!ltInt (G j) (G (j - 1))) = false := by assumption
                          simpa using this
                        revert nq
                        intro nq1
                        replace HW := Lib.hid (HW.out.drewN nq1)
                        obtain ⟨kc, kf⟩ := HW.out.fam HG.out hE
                        clear hc hf
                        generalize wr.drewN nq1 = wr2 at HW kc kf ⊢
                        go_region
                        all_goals go_wp2_with fail
                        go_roundw
                        case rel => exact ⟨j - 1, swp E j (j - 1), by congr 1; omega, by omega, by rw [size_swp]; exact hE, Lib.hid (HW.out.swapG _ HG.out (by omega) (by omega)), Lib.hid (by rw [← HSD.out, downw_go hj0 (by rw [HG.out, HG.out] at hl; exact hl)])⟩
                        case measure => simp [intOf] <;> omega
                    · go_wp2_with fail
                      have HA := Lib.hid (show fixDown ltInt x i2 D1 = E from by rw [fixDown_yes (by omega), ← HSD.out]; exact downw_end (.inl (by omega)))
                      have hE2 := hE
                      clear HSD
                      obtain ⟨E2, rfl⟩ : ∃ E2, E2 = E := ⟨_, rfl⟩
                      clear hj0
                      go_loopw [10] (fun vj wr => ∃ (j : Nat) (E : Array Int), vj = .int .i64 j ∧ i2 + 1 ≤ j ∧ j ≤ y ∧ E.size = n ∧ Hid (UAt w wr b o E) ∧ Hid (shiftUp ltInt y j E = shiftUp ltInt y (i2 + 1) E2)) (fun vj _ => y - (intOf vj).toNat)
                      case atStart => exact ⟨i2 + 1, E2, by go_num, Nat.le_refl _, by omega, hE2, HW, Lib.hid rfl⟩
                      case round =>
                        clear HW
                        obtain ⟨j, E, rfl, hj1, hj2, hE, HW, HSU⟩ := hrel
                        by_cases hjy : j < y
                        · obtain ⟨G, hG⟩ := fam_of E
                          have HG := Lib.hid hG
                          clear hG
                          obtain ⟨hc, hf⟩ := HW.out.fam HG.out hE
                          go_wp2_with fail
                          go_quiet (first | (go_at_call 53; refine Calls.quiet_of_same (uless_any _ _ _)))
                          go_wp2_with fail
                          · have hl : ltInt (G j) (G (j - 1)) = false := by
                              have : (!ltInt (G j) (G (j - 1))) = true := by assumption
                              simpa using this
                            replace HW := Lib.hid (HW.out.drewN nq)
                            rw [HG.out, HG.out] at hl
                            have HB := Lib.hid (show fixUp ltInt y i2 E2 = E from by rw [fixUp_yes (by omega), ← HSU.out]; exact upw_end (.inr hl))
                            have hE3 := hE
                            clear HSU
                            obtain ⟨E3, rfl⟩ : ∃ E3, E3 = E := ⟨_, rfl⟩
                            have HR := Lib.hid ((pins_step hs5 S2.out hne h50 HD1.out HA.out HB.out).trans HO.out)
                            clear HO S2 HA HB
                            go_wp2_with fail
                            go_roundw
                            case rel => exact ⟨i2, s + 1, E3, rfl, by go_num, by omega, by omega, by omega, hE3, HW, HR⟩
                            case measure => simp [intOf] <;> omega
                          · have hl : ltInt (G j) (G (j - 1)) = true := by
                              have : (!ltInt (G j) (G (j - 1))) = false := by assumption
                              simpa using this
                            revert nq
                            intro nq1
                            replace HW := Lib.hid (HW.out.drewN nq1)
                            obtain ⟨kc, kf⟩ := HW.out.fam HG.out hE
                            clear hc hf
                            generalize wr.drewN nq1 = wr2 at HW kc kf ⊢
                            go_region
                            all_goals go_wp2_with fail
                            go_roundw
                            case rel => exact ⟨j + 1, swp E j (j - 1), by go_num, by omega, by omega, by rw [size_swp]; exact hE, Lib.hid (HW.out.swapG _ HG.out (by omega) (by omega)), Lib.hid (by rw [← HSU.out, upw_go hjy (by rw [HG.out, HG.out] at hl; exact hl)])⟩
                            case measure => simp [intOf] <;> omega
                        · go_wp2_with fail
                          have HB := Lib.hid (show fixUp ltInt y i2 E2 = E from by rw [fixUp_yes (by omega), ← HSU.out]; exact upw_end (.inl (by omega)))
                          have hE3 := hE
                          clear HSU
                          obtain ⟨E3, rfl⟩ : ∃ E3, E3 = E := ⟨_, rfl⟩
                          have HR := Lib.hid ((pins_step hs5 S2.out hne h50 HD1.out HA.out HB.out).trans HO.out)
                          clear HO S2 HA HB
                          go_wp2_with fail
                          go_roundw
                          case rel => exact ⟨i2, s + 1, E3, rfl, by go_num, by omega, by omega, by omega, hE3, HW, HR⟩
                          case measure => simp [intOf] <;> omega
                · obtain ⟨hc2, hf2⟩ := HW.out.fam HG.out hD
                  have hd' : decide (2 ≤ (i2 : Int) - (x : Int)) = true := decide_eq_true (by omega)
                  have hu' : decide (2 ≤ (y : Int) - (i2 : Int)) = false := decide_eq_false (by omega)
                  go_region
                  all_goals go_wp2_with fail
                  replace HW := Lib.hid (HW.out.swapG (i := i2) (j := i2 - 1) 1 HG.out (by omega) (by omega))
                  have hD1 : (swp D i2 (i2 - 1)).size = n := by rw [size_swp]; exact hD
                  obtain ⟨D1, hD1e⟩ : ∃ D1, D1 = swp D i2 (i2 - 1) := ⟨_, rfl⟩
                  have HD1 := Lib.hid hD1e
                  rw [← hD1e] at HW hD1
                  clear hD1e
                  clear hc2 hf2 HG
                  go_loopw [9] (fun vj wr => ∃ (j : Nat) (E : Array Int), vj = .int .i64 j ∧ j < n ∧ E.size = n ∧ Hid (UAt w wr b o E) ∧ Hid (shiftDown ltInt j E = shiftDown ltInt (i2 - 1) D1)) (fun vj _ => (intOf vj).toNat)
                  case atStart => exact ⟨i2 - 1, D1, by congr 1; omega, by omega, hD1, HW, Lib.hid rfl⟩
                  case round =>
                    clear HW
                    obtain ⟨j, E, rfl, hjn, hE, HW, HSD⟩ := hrel
                    by_cases hj0 : 1 ≤ j
                    · obtain ⟨G, hG⟩ := fam_of E
                      have HG := Lib.hid hG
                      clear hG
                      obtain ⟨hc, hf⟩ := HW.out.fam HG.out hE
                      go_wp2_with fail
                      go_quiet (first | (go_at_call 53; refine Calls.quiet_of_same (uless_any _ _ _)))
                      go_wp2_with fail
                      · have hl : ltInt (G j) (G (j - 1)) = false := by
                          have : (!ltInt (G j) (G (j - 1))) = true := by assumption
                          simpa using this
                        replace HW := Lib.hid (HW.out.drewN nq)
                        rw [HG.out, HG.out] at hl
                        clear hc hf
                        generalize wr.drewN nq = wr6 at HW ⊢
                        have HA := Lib.hid (show fixDown ltInt x i2 D1 = E from by rw [fixDown_yes (by omega), ← HSD.out]; exact downw_end (.inr hl))
                        have hE2 := hE
                        clear HSD
                        obtain ⟨E2, rfl⟩ : ∃ E2, E2 = E := ⟨_, rfl⟩
                        clear hj0
                        have HB := Lib.hid (show fixUp ltInt y i2 E2 = E2 from fixUp_no (by omega))
                        have hE3 := hE2
                        obtain ⟨E3, hE23⟩ : ∃ E3, E2 = E3 := ⟨_, rfl⟩
                        rw [hE23] at hE3 HW
                        replace HB := Lib.hid (HB.out.trans hE23)
                        clear hE23
                        have HR := Lib.hid ((pins_step hs5 S2.out hne h50 HD1.out HA.out HB.out).trans HO.out)
                        clear HO S2 HA HB
                        go_roundw
                        case rel => exact ⟨i2, s + 1, E3, rfl, by go_num, by omega, by omega, by omega, hE3, HW, HR⟩
                        case measure => simp [intOf] <;> omega
                      · have hl : ltInt (G j) (G (j - 1)) = true := by
                          have : (!ltInt (G j) (G (j - 1))) = false := by assumption
                          simpa using this
                        revert nq
                        intro nq1
                        replace HW := Lib.hid (HW.out.drewN nq1)
                        obtain ⟨kc, kf⟩ := HW.out.fam HG.out hE
                        clear hc hf
                        generalize wr.drewN nq1 = wr2 at HW kc kf ⊢
                        go_region
                        all_goals go_wp2_with fail
                        go_roundw
                        case rel => exact ⟨j - 1, swp E j (j - 1), by congr 1; omega, by omega, by rw [size_swp]; exact hE, Lib.hid (HW.out.swapG _ HG.out (by omega) (by omega)), Lib.hid (by rw [← HSD.out, downw_go hj0 (by rw [HG.out, HG.out] at hl; exact hl)])⟩
                        case measure => simp [intOf] <;> omega
                    · go_wp2_with fail
                      have HA := Lib.hid (show fixDown ltInt x i2 D1 = E from by rw [fixDown_yes (by omega), ← HSD.out]; exact downw_end (.inl (by omega)))
                      have hE2 := hE
                      clear HSD
                      obtain ⟨E2, rfl⟩ : ∃ E2, E2 = E := ⟨_, rfl⟩
                      clear hj0
                      have HB := Lib.hid (show fixUp ltInt y i2 E2 = E2 from fixUp_no (by omega))
                      have hE3 := hE2
                      obtain ⟨E3, hE23⟩ : ∃ E3, E2 = E3 := ⟨_, rfl⟩
                      rw [hE23] at hE3 HW
                      replace HB := Lib.hid (HB.out.trans hE23)
                      clear hE23
                      have HR := Lib.hid ((pins_step hs5 S2.out hne h50 HD1.out HA.out HB.out).trans HO.out)
                      clear HO S2 HA HB
                      go_roundw
                      case rel => exact ⟨i2, s + 1, E3, rfl, by go_num, by omega, by omega, by omega, hE3, HW, HR⟩
                      case measure => simp [intOf] <;> omega
              · by_cases hu : 2 ≤ y - i2
                · obtain ⟨hc2, hf2⟩ := HW.out.fam HG.out hD
                  have hd' : decide (2 ≤ (i2 : Int) - (x : Int)) = false := decide_eq_false (by omega)
                  have hu' : decide (2 ≤ (y : Int) - (i2 : Int)) = true := decide_eq_true (by omega)
                  go_region
                  all_goals go_wp2_with fail
                  replace HW := Lib.hid (HW.out.swapG (i := i2) (j := i2 - 1) 1 HG.out (by omega) (by omega))
                  have hD1 : (swp D i2 (i2 - 1)).size = n := by rw [size_swp]; exact hD
                  obtain ⟨D1, hD1e⟩ : ∃ D1, D1 = swp D i2 (i2 - 1) := ⟨_, rfl⟩
                  have HD1 := Lib.hid hD1e
                  rw [← hD1e] at HW hD1
                  clear hD1e
                  clear hc2 hf2 HG
                  have HA := Lib.hid (show fixDown ltInt x i2 D1 = D1 from fixDown_no (by omega))
                  have hE2 := hD1
                  obtain ⟨E2, hE2e⟩ : ∃ E2, D1 = E2 := ⟨_, rfl⟩
                  rw [hE2e] at hE2 HW
                  replace HA := Lib.hid (HA.out.trans hE2e)
                  clear hE2e
                  go_loopw [10] (fun vj wr => ∃ (j : Nat) (E : Array Int), vj = .int .i64 j ∧ i2 + 1 ≤ j ∧ j ≤ y ∧ E.size = n ∧ Hid (UAt w wr b o E) ∧ Hid (shiftUp ltInt y j E = shiftUp ltInt y (i2 + 1) E2)) (fun vj _ => y - (intOf vj).toNat)
                  case atStart => exact ⟨i2 + 1, E2, by go_num, Nat.le_refl _, by omega, hE2, HW, Lib.hid rfl⟩
                  case round =>
                    clear HW
                    obtain ⟨j, E, rfl, hj1, hj2, hE, HW, HSU⟩ := hrel
                    by_cases hjy : j < y
                    · obtain ⟨G, hG⟩ := fam_of E
                      have HG := Lib.hid hG
                      clear hG
                      obtain ⟨hc, hf⟩ := HW.out.fam HG.out hE
                      go_wp2_with fail
                      go_quiet (first | (go_at_call 53; refine Calls.quiet_of_same (uless_any _ _ _)))
                      go_wp2_with fail
                      · have hl : ltInt (G j) (G (j - 1)) = false := by
                          have : (!ltInt (G j) (G (j - 1))) = true := by assumption
                          simpa using this
                        replace HW := Lib.hid (HW.out.drewN nq)
                        rw [HG.out, HG.out] at hl
                        have HB := Lib.hid (show fixUp ltInt y i2 E2 = E from by rw [fixUp_yes (by omega), ← HSU.out]; exact upw_end (.inr hl))
                        have hE3 := hE
                        clear HSU
                        obtain ⟨E3, rfl⟩ : ∃ E3, E3 = E := ⟨_, rfl⟩
                        have HR := Lib.hid ((pins_step hs5 S2.out hne h50 HD1.out HA.out HB.out).trans HO.out)
                        clear HO S2 HA HB
                        go_wp2_with fail
                        go_roundw
                        case rel => exact ⟨i2, s + 1, E3, rfl, by go_num, by omega, by omega, by omega, hE3, HW, HR⟩
                        case measure => simp [intOf] <;> omega
                      · have hl : ltInt (G j) (G (j - 1)) = true := by
                          have : (!ltInt (G j) (G (j - 1))) = false := by assumption
                          simpa using this
                        revert nq
                        intro nq1
                        replace HW := Lib.hid (HW.out.drewN nq1)
                        obtain ⟨kc, kf⟩ := HW.out.fam HG.out hE
                        clear hc hf
                        generalize wr.drewN nq1 = wr2 at HW kc kf ⊢
                        go_region
                        all_goals go_wp2_with fail
                        go_roundw
                        case rel => exact ⟨j + 1, swp E j (j - 1), by go_num, by omega, by omega, by rw [size_swp]; exact hE, Lib.hid (HW.out.swapG _ HG.out (by omega) (by omega)), Lib.hid (by rw [← HSU.out, upw_go hjy (by rw [HG.out, HG.out] at hl; exact hl)])⟩
                        case measure => simp [intOf] <;> omega
                    · go_wp2_with fail
                      have HB := Lib.hid (show fixUp ltInt y i2 E2 = E from by rw [fixUp_yes (by omega), ← HSU.out]; exact upw_end (.inl (by omega)))
                      have hE3 := hE
                      clear HSU
                      obtain ⟨E3, rfl⟩ : ∃ E3, E3 = E := ⟨_, rfl⟩
                      have HR := Lib.hid ((pins_step hs5 S2.out hne h50 HD1.out HA.out HB.out).trans HO.out)
                      clear HO S2 HA HB
                      go_wp2_with fail
                      go_roundw
                      case rel => exact ⟨i2, s + 1, E3, rfl, by go_num, by omega, by omega, by omega, hE3, HW, HR⟩
                      case measure => simp [intOf] <;> omega
                · omega
        · obtain rfl : i2 = y := by omega
          have hlt' : decide ((i2 : Int) < (i2 : Int)) = false := decide_eq_false (by omega)
          have HR := Lib.hid ((pins_all (x := x) hs5 ((HS2.out.symm).trans (sorted_end (.inl (by omega))))).symm.trans HO.out)
          go_wp2_with fail
          go_quiet (first | (go_at_call 53; refine Calls.quiet_of_same (uless_any _ _ _)))
          go_wp2_with fail
          go_ret
          rw [← HR.out]
          exact ⟨rfl, HW.out.drewN _⟩
    · obtain rfl : s = 5 := by omega
      have HR := Lib.hid (show (D, false) = R from HO.out)
      go_wp2_with fail
      go_ret
      rw [← HR.out]
      exact ⟨rfl, HW.out⟩

end Go.Proofs.Ytcmblihlbmclaaa
