/-
  slices.partitionOrdered at uint64, walked. (Written by wip/genus.py.)
-/
import Derived.Test.YtcmblihlbmclaaaUsScan
namespace Go.Proofs.Ytcmblihlbmclaaa
open Go Go.RowKit Go.Sort

set_option maxHeartbeats 16000000 in
set_option maxRecDepth 100000 in
theorem upart_any (w : World) (b o cap x y p : Nat) (d : Array Int) (hH : Holds (Value.int .u64) w b o d) (hxp : x ≤ p) (hpy : p < y) (hy : y ≤ d.size) (hsz : d.size < 1152921504606846976) :
    Calls Try.prog 55 #[.slice (some ⟨b, o, none⟩) d.size cap, .int .i64 x, .int .i64 y, .int .i64 p] w fun e w' => ∃ t : Bool, e = .returned (.tuple #[.int .i64 ((partition ltInt d x y p).1 : Nat), .bool t]) ∧ UAt w w' b o (partition ltInt d x y p).2.2 := by
  rw [partition_fst, partition_arr]
  obtain ⟨n, hn⟩ : ∃ n, d.size = n := ⟨_, rfl⟩
  have H0 := Lib.hid (UAt.refl hH)
  obtain ⟨i, hi0⟩ : ∃ i, i = x + 1 := ⟨_, rfl⟩
  obtain ⟨j, hj0⟩ : ∃ j, j = y - 1 := ⟨_, rfl⟩
  rw [← hi0, ← hj0]
  obtain ⟨R, hR⟩ : ∃ R, partLoop ltInt x i j (swp d x p) = R := ⟨_, rfl⟩
  rw [hR]
  have HO := Lib.hid hR
  rw [hn] at hy hsz ⊢
  clear hH hR
  go_enter Try.func55, Try.ntmps55
  obtain ⟨G0, hG0⟩ := fam_of d
  obtain ⟨hc0, hf0⟩ := H0.out.fam hG0 hn
  have HG0 := Lib.hid hG0
  clear hG0
  obtain ⟨y1, hy1⟩ := H0.out.mid x (j := p) (by omega) (.int .u64 (G0 p))
  have hiv : (x : Int) + 1 = (i : Int) := by omega
  have hjv : (y : Int) - 1 = (j : Int) := by omega
  have hi : x < i := by omega
  have hin : i ≤ n := by omega
  have hj : j < n := by omega
  clear hi0 hj0
  go_wp2_with fail
  go_region
  all_goals go_wp2_with fail
  have HW := Lib.hid (H0.out.swapG (i := x) (j := p) 1 HG0.out (by omega) (by omega))
  have hD : (swp d x p).size = n := by rw [size_swp]; exact hn
  clear H0 hn hc0 hf0 hy1 HG0
  generalize swp d x p = D at HW hD HO
  obtain ⟨G, hG⟩ := fam_of D
  have HG := Lib.hid hG
  clear hG
  go_loopw [10] (fun vi wr => ∃ i2 : Nat, vi = .int .i64 i2 ∧ i ≤ i2 ∧ i2 ≤ n ∧ Hid (UAt w wr b o D) ∧ Hid (scanUp (fun z => ltInt z D[x]!) D j i2 = scanUp (fun z => ltInt z D[x]!) D j i)) (fun vi _ => j + 1 - (intOf vi).toNat)
  case atStart => exact ⟨i, rfl, Nat.le_refl _, hin, HW, Lib.hid rfl⟩
  case round =>
    clear HW
    obtain ⟨i2, rfl, hi2, hi2n, HW, HS2⟩ := hrel
    obtain ⟨hc, hf⟩ := HW.out.fam HG.out hD
    by_cases hle : i2 ≤ j
    · have hle' : (i2 : Int) ≤ (j : Int) := by omega
      go_wp2_with fail
      go_quiet (first | (go_at_call 53; refine Calls.quiet_of_same (uless_any _ _ _)))
      go_wp2_with fail
      · have hl : (ltInt (G i2) (G x)) = true := by assumption
        go_roundw
        case rel => exact ⟨i2 + 1, by go_num, by omega, by omega, Lib.hid (HW.out.drewN _), Lib.hid (by rw [← HS2.out, up_go hle (by rw [HG.out, HG.out] at hl; exact hl)])⟩
        case measure => simp [intOf] <;> omega
      · have hl : (ltInt (G i2) (G x)) = false := by assumption
        revert nq
        intro nq1
        replace HW := Lib.hid (HW.out.drewN nq1)
        clear hc hf
        generalize wr.drewN nq1 = wr1 at HW ⊢
        clear hle hle'
        have S2 := Lib.hid (show scanUp (fun z => ltInt z D[x]!) D j i = i2 from by rw [← HS2.out]; exact up_end (.inr (by rw [HG.out, HG.out] at hl; exact hl)))
        clear HS2
        go_loopw [11] (fun vj wr => ∃ j2 : Nat, vj = .int .i64 j2 ∧ j2 ≤ j ∧ Hid (UAt w wr b o D) ∧ Hid (scanDown (fun z => !ltInt z D[x]!) D i2 j2 = scanDown (fun z => !ltInt z D[x]!) D i2 j)) (fun vj _ => (intOf vj).toNat)
        case atStart => exact ⟨j, rfl, Nat.le_refl _, HW, Lib.hid rfl⟩
        case round =>
          clear HW
          obtain ⟨j2, rfl, hj2, HW, HS3⟩ := hrel
          obtain ⟨hc, hf⟩ := HW.out.fam HG.out hD
          by_cases hle : i2 ≤ j2
          · have hle' : (i2 : Int) ≤ (j2 : Int) := by omega
            go_wp2_with fail
            go_quiet (first | (go_at_call 53; refine Calls.quiet_of_same (uless_any _ _ _)))
            go_wp2_with fail
            · have hl : (!ltInt (G j2) (G x)) = true := by assumption
              go_roundw
              case rel => exact ⟨j2 - 1, by congr 1; omega, by omega, Lib.hid (HW.out.drewN _), Lib.hid (by rw [← HS3.out, down_go hle (by omega) (by rw [HG.out, HG.out] at hl; exact hl)])⟩
              case measure => simp [intOf] <;> omega
            · have hl : (!ltInt (G j2) (G x)) = false := by assumption
              revert nq
              intro nq1
              replace HW := Lib.hid (HW.out.drewN nq1)
              obtain ⟨hc2, hf2⟩ := HW.out.fam HG.out hD
              clear hc hf
              generalize wr.drewN nq1 = wr2 at HW hc2 hf2 ⊢
              have S3 := Lib.hid (show scanDown (fun z => !ltInt z D[x]!) D i2 j = j2 from by rw [← HS3.out]; exact down_end (.inr (by rw [HG.out, HG.out] at hl; exact hl)))
              clear HS3
              have hgt : ¬ j2 < i2 := by omega
              have hgt' : ¬ ((j2 : Int) < (i2 : Int)) := by omega
              have HE := Lib.hid ((part_go S2.out S3.out hgt).trans HO.out)
              clear HO S2 S3
              obtain ⟨y1, hy1⟩ := HW.out.mid i2 (j := j2) (by omega) (.int .u64 (G j2))
              go_wp2_with fail
              go_region
              all_goals go_wp2_with fail
              have HW5 := Lib.hid (HW.out.swapG (i := i2) (j := j2) 1 HG.out (by omega) (by omega))
              have hs5 : (swp D i2 j2).size = n := by rw [size_swp]; exact hD
              clear HW HG hc2 hf2 hy1 hD
              generalize swp D i2 j2 = D5 at HW5 hs5 HE
              go_loopw [10, 11] (fun vi vj wr => ∃ (i j : Nat) (D : Array Int), vi = .int .i64 i ∧ vj = .int .i64 j ∧ x < i ∧ i ≤ n ∧ j < n ∧ D.size = n ∧ Hid (UAt w wr b o D) ∧ Hid (partLoop ltInt x i j D = R)) (fun vi vj _ => (intOf vj).toNat + 1 - (intOf vi).toNat)
              case atStart => exact ⟨i2 + 1, j2 - 1, D5, by go_num, by congr 1; omega, by omega, by omega, by omega, hs5, HW5, HE⟩
              case round =>
                clear HW5 HE hs5
                clear hgt hgt' hi2 hi2n hj2 hiv hjv hi hin hj hl hle hle'
                obtain ⟨i, j, D, rfl, rfl, hi, hin, hj, hD, HW, HO⟩ := hrel
                obtain ⟨G, hG⟩ := fam_of D
                have HG := Lib.hid hG
                clear hG
                go_wp2_with fail
                go_loopw [10] (fun vi wr => ∃ i2 : Nat, vi = .int .i64 i2 ∧ i ≤ i2 ∧ i2 ≤ n ∧ Hid (UAt w wr b o D) ∧ Hid (scanUp (fun z => ltInt z D[x]!) D j i2 = scanUp (fun z => ltInt z D[x]!) D j i)) (fun vi _ => j + 1 - (intOf vi).toNat)
                case atStart => exact ⟨i, rfl, Nat.le_refl _, hin, HW, Lib.hid rfl⟩
                case round =>
                  clear HW
                  obtain ⟨i2, rfl, hi2, hi2n, HW, HS2⟩ := hrel
                  obtain ⟨hc, hf⟩ := HW.out.fam HG.out hD
                  by_cases hle : i2 ≤ j
                  · have hle' : (i2 : Int) ≤ (j : Int) := by omega
                    go_wp2_with fail
                    go_quiet (first | (go_at_call 53; refine Calls.quiet_of_same (uless_any _ _ _)))
                    go_wp2_with fail
                    · have hl : (ltInt (G i2) (G x)) = true := by assumption
                      go_roundw
                      case rel => exact ⟨i2 + 1, by go_num, by omega, by omega, Lib.hid (HW.out.drewN _), Lib.hid (by rw [← HS2.out, up_go hle (by rw [HG.out, HG.out] at hl; exact hl)])⟩
                      case measure => simp [intOf] <;> omega
                    · have hl : (ltInt (G i2) (G x)) = false := by assumption
                      revert nq
                      intro nq1
                      replace HW := Lib.hid (HW.out.drewN nq1)
                      clear hc hf
                      generalize wr.drewN nq1 = wr1 at HW ⊢
                      clear hle hle'
                      have S2 := Lib.hid (show scanUp (fun z => ltInt z D[x]!) D j i = i2 from by rw [← HS2.out]; exact up_end (.inr (by rw [HG.out, HG.out] at hl; exact hl)))
                      clear HS2
                      go_loopw [11] (fun vj wr => ∃ j2 : Nat, vj = .int .i64 j2 ∧ j2 ≤ j ∧ Hid (UAt w wr b o D) ∧ Hid (scanDown (fun z => !ltInt z D[x]!) D i2 j2 = scanDown (fun z => !ltInt z D[x]!) D i2 j)) (fun vj _ => (intOf vj).toNat)
                      case atStart => exact ⟨j, rfl, Nat.le_refl _, HW, Lib.hid rfl⟩
                      case round =>
                        clear HW
                        obtain ⟨j2, rfl, hj2, HW, HS3⟩ := hrel
                        obtain ⟨hc, hf⟩ := HW.out.fam HG.out hD
                        by_cases hle : i2 ≤ j2
                        · have hle' : (i2 : Int) ≤ (j2 : Int) := by omega
                          go_wp2_with fail
                          go_quiet (first | (go_at_call 53; refine Calls.quiet_of_same (uless_any _ _ _)))
                          go_wp2_with fail
                          · have hl : (!ltInt (G j2) (G x)) = true := by assumption
                            go_roundw
                            case rel => exact ⟨j2 - 1, by congr 1; omega, by omega, Lib.hid (HW.out.drewN _), Lib.hid (by rw [← HS3.out, down_go hle (by omega) (by rw [HG.out, HG.out] at hl; exact hl)])⟩
                            case measure => simp [intOf] <;> omega
                          · have hl : (!ltInt (G j2) (G x)) = false := by assumption
                            revert nq
                            intro nq1
                            replace HW := Lib.hid (HW.out.drewN nq1)
                            obtain ⟨hc2, hf2⟩ := HW.out.fam HG.out hD
                            clear hc hf
                            generalize wr.drewN nq1 = wr2 at HW hc2 hf2 ⊢
                            have S3 := Lib.hid (show scanDown (fun z => !ltInt z D[x]!) D i2 j = j2 from by rw [← HS3.out]; exact down_end (.inr (by rw [HG.out, HG.out] at hl; exact hl)))
                            clear HS3
                            have hgt : ¬ j2 < i2 := by omega
                            have hgt' : ¬ ((j2 : Int) < (i2 : Int)) := by omega
                            have HE := Lib.hid ((part_go S2.out S3.out hgt).trans HO.out)
                            clear HO S2 S3
                            obtain ⟨y1, hy1⟩ := HW.out.mid i2 (j := j2) (by omega) (.int .u64 (G j2))
                            go_wp2_with fail
                            go_region
                            all_goals go_wp2_with fail
                            go_roundw
                            case rel => exact ⟨i2 + 1, j2 - 1, swp D i2 j2, by go_num, by congr 1; omega, by omega, by omega, by omega, by rw [size_swp]; exact hD, Lib.hid (HW.out.swapG _ HG.out (by omega) (by omega)), HE⟩
                            case measure => simp [intOf] <;> omega
                        · have hle' : decide ((i2 : Int) ≤ (j2 : Int)) = false := decide_eq_false (by omega)
                          go_wp2_with fail
                          go_quiet (first | (go_at_call 53; refine Calls.quiet_of_same (uless_any _ _ _)))
                          go_wp2_with fail
                          revert nq
                          intro nq1
                          replace HW := Lib.hid (HW.out.drewN nq1)
                          obtain ⟨hc2, hf2⟩ := HW.out.fam HG.out hD
                          clear hc hf
                          generalize wr.drewN nq1 = wr2 at HW hc2 hf2 ⊢
                          have S3 := Lib.hid (show scanDown (fun z => !ltInt z D[x]!) D i2 j = j2 from by rw [← HS3.out]; exact down_end (.inl (by omega)))
                          clear HS3
                          have hgt : j2 < i2 := by omega
                          have hgt' : (j2 : Int) < (i2 : Int) := by omega
                          have HE := Lib.hid (HO.out.symm.trans (part_stop S2.out S3.out hgt))
                          clear HO S2 S3
                          obtain ⟨y1, hy1⟩ := HW.out.mid j2 (j := x) (by omega) (.int .u64 (G x))
                          go_wp2_with fail
                          go_region
                          all_goals go_wp2_with fail
                          go_ret2
                          rw [HE.out]
                          exact ⟨_, rfl, HW.out.swapG _ HG.out (by omega) (by omega)⟩
                  · have hle' : decide ((i2 : Int) ≤ (j : Int)) = false := decide_eq_false (by omega)
                    go_wp2_with fail
                    go_quiet (first | (go_at_call 53; refine Calls.quiet_of_same (uless_any _ _ _)))
                    go_wp2_with fail
                    revert nq
                    intro nq1
                    replace HW := Lib.hid (HW.out.drewN nq1)
                    clear hc hf
                    generalize wr.drewN nq1 = wr1 at HW ⊢
                    clear hle'
                    have S2 := Lib.hid (show scanUp (fun z => ltInt z D[x]!) D j i = i2 from by rw [← HS2.out]; exact up_end (.inl (by omega)))
                    clear HS2
                    go_loopw [11] (fun vj wr => ∃ j2 : Nat, vj = .int .i64 j2 ∧ j2 ≤ j ∧ Hid (UAt w wr b o D) ∧ Hid (scanDown (fun z => !ltInt z D[x]!) D i2 j2 = scanDown (fun z => !ltInt z D[x]!) D i2 j)) (fun vj _ => (intOf vj).toNat)
                    case atStart => exact ⟨j, rfl, Nat.le_refl _, HW, Lib.hid rfl⟩
                    case round =>
                      clear HW
                      obtain ⟨j2, rfl, hj2, HW, HS3⟩ := hrel
                      obtain ⟨hc, hf⟩ := HW.out.fam HG.out hD
                      by_cases hle : i2 ≤ j2
                      · omega
                      · have hle' : decide ((i2 : Int) ≤ (j2 : Int)) = false := decide_eq_false (by omega)
                        go_wp2_with fail
                        go_quiet (first | (go_at_call 53; refine Calls.quiet_of_same (uless_any _ _ _)))
                        go_wp2_with fail
                        revert nq
                        intro nq1
                        replace HW := Lib.hid (HW.out.drewN nq1)
                        obtain ⟨hc2, hf2⟩ := HW.out.fam HG.out hD
                        clear hc hf
                        generalize wr.drewN nq1 = wr2 at HW hc2 hf2 ⊢
                        have S3 := Lib.hid (show scanDown (fun z => !ltInt z D[x]!) D i2 j = j2 from by rw [← HS3.out]; exact down_end (.inl (by omega)))
                        clear HS3
                        have hgt : j2 < i2 := by omega
                        have hgt' : (j2 : Int) < (i2 : Int) := by omega
                        have HE := Lib.hid (HO.out.symm.trans (part_stop S2.out S3.out hgt))
                        clear HO S2 S3
                        obtain ⟨y1, hy1⟩ := HW.out.mid j2 (j := x) (by omega) (.int .u64 (G x))
                        go_wp2_with fail
                        go_region
                        all_goals go_wp2_with fail
                        go_ret2
                        rw [HE.out]
                        exact ⟨_, rfl, HW.out.swapG _ HG.out (by omega) (by omega)⟩
          · have hle' : decide ((i2 : Int) ≤ (j2 : Int)) = false := decide_eq_false (by omega)
            go_wp2_with fail
            go_quiet (first | (go_at_call 53; refine Calls.quiet_of_same (uless_any _ _ _)))
            go_wp2_with fail
            revert nq
            intro nq1
            replace HW := Lib.hid (HW.out.drewN nq1)
            obtain ⟨hc2, hf2⟩ := HW.out.fam HG.out hD
            clear hc hf
            generalize wr.drewN nq1 = wr2 at HW hc2 hf2 ⊢
            have S3 := Lib.hid (show scanDown (fun z => !ltInt z D[x]!) D i2 j = j2 from by rw [← HS3.out]; exact down_end (.inl (by omega)))
            clear HS3
            have hgt : j2 < i2 := by omega
            have hgt' : (j2 : Int) < (i2 : Int) := by omega
            have HE := Lib.hid (HO.out.symm.trans (part_stop S2.out S3.out hgt))
            clear HO S2 S3
            obtain ⟨y1, hy1⟩ := HW.out.mid j2 (j := x) (by omega) (.int .u64 (G x))
            go_wp2_with fail
            go_region
            all_goals go_wp2_with fail
            go_ret2
            rw [HE.out]
            exact ⟨_, rfl, HW.out.swapG _ HG.out (by omega) (by omega)⟩
    · have hle' : decide ((i2 : Int) ≤ (j : Int)) = false := decide_eq_false (by omega)
      go_wp2_with fail
      go_quiet (first | (go_at_call 53; refine Calls.quiet_of_same (uless_any _ _ _)))
      go_wp2_with fail
      revert nq
      intro nq1
      replace HW := Lib.hid (HW.out.drewN nq1)
      clear hc hf
      generalize wr.drewN nq1 = wr1 at HW ⊢
      clear hle'
      have S2 := Lib.hid (show scanUp (fun z => ltInt z D[x]!) D j i = i2 from by rw [← HS2.out]; exact up_end (.inl (by omega)))
      clear HS2
      go_loopw [11] (fun vj wr => ∃ j2 : Nat, vj = .int .i64 j2 ∧ j2 ≤ j ∧ Hid (UAt w wr b o D) ∧ Hid (scanDown (fun z => !ltInt z D[x]!) D i2 j2 = scanDown (fun z => !ltInt z D[x]!) D i2 j)) (fun vj _ => (intOf vj).toNat)
      case atStart => exact ⟨j, rfl, Nat.le_refl _, HW, Lib.hid rfl⟩
      case round =>
        clear HW
        obtain ⟨j2, rfl, hj2, HW, HS3⟩ := hrel
        obtain ⟨hc, hf⟩ := HW.out.fam HG.out hD
        by_cases hle : i2 ≤ j2
        · omega
        · have hle' : decide ((i2 : Int) ≤ (j2 : Int)) = false := decide_eq_false (by omega)
          go_wp2_with fail
          go_quiet (first | (go_at_call 53; refine Calls.quiet_of_same (uless_any _ _ _)))
          go_wp2_with fail
          revert nq
          intro nq1
          replace HW := Lib.hid (HW.out.drewN nq1)
          obtain ⟨hc2, hf2⟩ := HW.out.fam HG.out hD
          clear hc hf
          generalize wr.drewN nq1 = wr2 at HW hc2 hf2 ⊢
          have S3 := Lib.hid (show scanDown (fun z => !ltInt z D[x]!) D i2 j = j2 from by rw [← HS3.out]; exact down_end (.inl (by omega)))
          clear HS3
          have hgt : j2 < i2 := by omega
          have hgt' : (j2 : Int) < (i2 : Int) := by omega
          have HE := Lib.hid (HO.out.symm.trans (part_stop S2.out S3.out hgt))
          clear HO S2 S3
          obtain ⟨y1, hy1⟩ := HW.out.mid j2 (j := x) (by omega) (.int .u64 (G x))
          go_wp2_with fail
          go_region
          all_goals go_wp2_with fail
          go_ret2
          rw [HE.out]
          exact ⟨_, rfl, HW.out.swapG _ HG.out (by omega) (by omega)⟩

end Go.Proofs.Ytcmblihlbmclaaa
