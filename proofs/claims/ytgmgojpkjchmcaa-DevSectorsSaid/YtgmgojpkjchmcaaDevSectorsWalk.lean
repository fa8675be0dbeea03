/-
  THE WALK OF DevSectors, whatever the program's device is made of.
-/
import Derived.Test.YtgmgojpkjchmcaaDevSectorsMath
import Derived.Test.YtgmgojpkjchmcaaDevOne
import Derived.Outline
namespace Go.Proofs.Ytgmgojpkjchmcaa.devSectors
open Go Go.RowKit Go.Joins

theorem cell_begins {r : List UInt8} {a b : UInt8} (h : Begins r a b) (hl : r.length = 64) : (bcells r)[0]'(by simp [bcells, hl]) = .int .u8 (a.toNat : Int) ∧ (bcells r)[1]'(by simp [bcells, hl]) = .int .u8 (b.toNat : Int) := by
  obtain ⟨rfl, rfl⟩ := h
  unfold bcells
  rw [List.getElem_map, List.getElem_map, getD_mem _ _ _ (by omega), getD_mem _ _ _ (by omega)]
  exact ⟨rfl, rfl⟩

set_option maxRecDepth 100000 in
set_option maxHeartbeats 4000000 in
theorem walk (D : DevOK) (w : World) (n : Int) (K : Option Addr) (kc : Nat) (kl : List Bool) (h1 : kl.length ≤ kc) (h2 : kc ≤ maxLen) (hK : Row w K (fun b => b < w.heap.size) (kl.map Value.bool)) :
    Calls Try.prog 7 #[.int .i64 n, .slice K kl.length kc] w fun e w' => e = .returned (.bool true) ∧ Below w.heap.size w w' := by
  have HKR := Lib.hid hK
  unfold maxLen at h2
  clear hK
  have hcs : (decide (n < 1) = true) ∨ (decide (n < 1) = false ∧ decide (20 < n) = true) ∨ (decide (n < 1) = false ∧ decide (20 < n) = false ∧ decide (25 < (kl.length : Int)) = true) ∨ (decide (n < 1) = false ∧ decide (20 < n) = false ∧ decide (25 < (kl.length : Int)) = false) := by
    cases decide (n < 1) <;> cases decide (20 < n) <;> cases decide (25 < (kl.length : Int)) <;> simp
  go_enter Try.func7, Try.ntmps7
  go_wp2_with fail
  refine (begun_any D w).mono ?_
  rintro e w1 ⟨rfl, hk1⟩
  have HK1 := Lib.hid hk1
  clear hk1
  rcases hcs with c1 | ⟨c1, c2⟩ | ⟨c1, c2, c3⟩ | ⟨c1, c2, c3⟩
  · go_wp2_with fail
    go_ret
    exact ⟨rfl, HK1.out.below⟩
  · go_wp2_with fail
    go_ret
    exact ⟨rfl, HK1.out.below⟩
  · go_wp2_with fail
    go_ret
    exact ⟨rfl, HK1.out.below⟩
  · have b1 : 1 ≤ n := by have := of_decide_eq_false c1; omega
    have b2 : n ≤ 20 := by have := of_decide_eq_false c2; omega
    have b3 : kl.length ≤ 25 := by have := of_decide_eq_false c3; omega
    obtain ⟨N, rfl⟩ : ∃ N : Nat, n = (N : Int) := ⟨n.toNat, by omega⟩
    have b1' : 1 ≤ N := by omega
    have b2' : N ≤ 20 := by omega
    have hcl : clampN (N : Int) = N := by unfold clampN; omega
    have HCL := Lib.hid hcl
    clear b1 b2 hcl
    go_wp2_with fail
    refine (D.new _ (N : Int) (by omega) (by omega)).mono ?_
    rintro e w2 ⟨p, F, rfl, hr, hge, hk2⟩
    rw [HCL.out] at hr
    have HO := Lib.hid (show One D w w2 p F (SDev.new N) from ⟨hr, fun b hb => Nat.le_trans HK1.out.size (hge b hb), HK1.out.trans hk2⟩)
    clear hr hge hk2
    clear c1 c2 c3
    go_wp2_with fail
    go_loopw [7] (fun i wr => ∃ (j : Nat) (F : Foot) (s : SDev), j ≤ N ∧ i = .int .i64 j ∧ One D w wr p F s ∧ P1 N j s) (fun i _ => N - (intOf i).toNat)
    case atStart => exact ⟨0, F, _, Nat.zero_le _, rfl, HO.out, P1.new N⟩
    case round =>
      clear HO
      obtain ⟨j, F, s, hj, rfl, hO, hP⟩ := hrel
      have HO := Lib.hid hO
      have HP := Lib.hid hP
      clear hO hP
      by_cases hl : j < N
      · have hlt := D.lt HO.out.d
        have HL := Lib.hid hlt
        clear hlt
        go_wp2_with fail
        have hbn : (UInt8.ofNat j).toNat = j := by simp; omega
        have hw := D.write (wr.alloc (.cells #[.int .u8 1, .int .u8 (j : Int)] 5)) p F s (HO.out.keep ((Keeps.refl _ _).alloc _)).d (j : Int) (some ⟨wr.heap.size, 0, none⟩) 2 (fun b => b = wr.heap.size) [1, UInt8.ofNat j] (by omega) (by omega)
          (Row.fresh (F := fun b => b = wr.heap.size) wr #[.int .u8 1, .int .u8 (j : Int)] 5 (0, 0) _ rfl rfl (bcells [1, UInt8.ofNat j]) (by simp [bcells, bcell, hbn])) (fun b hb hF => by have := HL.out b hF; omega) (by simp) (by decide) (fun h => by cases h) (by have := HP.out.calls; omega)
        refine (show Calls _ _ _ _ _ from hw).mono ?_
        rintro e w3 ⟨rfl, F3, hr, hs⟩
        have HO3 := Lib.hid ((HO.out.keep ((Keeps.refl _ _).alloc (.cells #[.int .u8 1, .int .u8 (j : Int)] 5))).step hr hs)
        have HP3 := Lib.hid (HP.out.write hl)
        generalize (s.writeZ (j : Int) [1, UInt8.ofNat j]).2 = s3 at HO3 HP3
        generalize (s.writeZ (j : Int) [1, UInt8.ofNat j]).1 = x3
        clear hr hs hw HO HP hbn
        go_wp2_with fail
        go_roundw
        case rel => exact ⟨j + 1, F3, s3, by omega, by go_num, HO3.out, HP3.out⟩
        case measure => simp [intOf]; omega
      · obtain rfl : j = N := by omega
        have hc0 := HP.out.calls
        go_wp2_with fail
        refine (D.flush _ p F s HO.out.d (by omega)).mono ?_
        rintro e w3 ⟨rfl, F3, hr, hs⟩
        have HO3 := Lib.hid (HO.out.step hr hs)
        have HP3 := Lib.hid (P2.flush HP.out)
        generalize s.flush = s3 at HO3 HP3
        clear hr hs HO HP hc0
        go_wp2_with fail
        go_loopw [8] (fun i wr => ∃ (k : Nat) (F : Foot) (s : SDev), k ≤ j ∧ i = .int .i64 k ∧ One D w wr p F s ∧ P2 j k s) (fun i _ => j - (intOf i).toNat)
        case atStart => exact ⟨0, F3, s3, Nat.zero_le _, rfl, HO3.out, HP3.out⟩
        case round =>
          clear HO3 HP3
          obtain ⟨k, F, s, hk, rfl, hO, hP⟩ := hrel
          have HO := Lib.hid hO
          have HP := Lib.hid hP
          clear hO hP
          by_cases hl : k < j
          · have hlt := D.lt HO.out.d
            have HL := Lib.hid hlt
            clear hlt
            go_wp2_with fail
            have hbn : (UInt8.ofNat k).toNat = k := by simp; omega
            have hw := D.write (wr.alloc (.cells #[.int .u8 2] 5)) p F s (HO.out.keep ((Keeps.refl _ _).alloc _)).d (k : Int) (some ⟨wr.heap.size, 0, none⟩) 1 (fun b => b = wr.heap.size) [2] (by omega) (by omega)
              (Row.fresh (F := fun b => b = wr.heap.size) wr #[.int .u8 2] 5 (0, 0) _ rfl rfl (bcells [2]) (by simp [bcells, bcell, hbn])) (fun b hb hF => by have := HL.out b hF; omega) (by simp) (by decide) (fun h => by cases h) (by have := HP.out.calls; omega)
            refine (show Calls _ _ _ _ _ from hw).mono ?_
            rintro e w3 ⟨rfl, F3, hr, hs⟩
            have HO3 := Lib.hid ((HO.out.keep ((Keeps.refl _ _).alloc (.cells #[.int .u8 2] 5))).step hr hs)
            have HP3 := Lib.hid (HP.out.write (D.ok HO.out.d) hl)
            generalize (s.writeZ (k : Int) [2]).2 = s3 at HO3 HP3
            generalize (s.writeZ (k : Int) [2]).1 = x3
            clear hr hs hw HO HP hbn
            go_wp2_with fail
            go_roundw
            case rel => exact ⟨k + 1, F3, s3, by omega, by go_num, HO3.out, HP3.out⟩
            case measure => simp [intOf]; omega
          · obtain rfl : k = j := by omega
            have hok := D.ok HO.out.d
            have HC := Lib.hid (P3.crash HP.out hok kl)
            have HLO := Lib.hid (HP.out.loose hok)
            clear hok
            go_wp2_with fail
            refine (D.crash _ p F s HO.out.d K kc (fun b => b < w.heap.size) kl (HKR.out.keep (HO.out.kp.mono fun _ _ _ => trivial)) (by unfold maxLen; omega)).mono ?_
            rintro e w4 ⟨q, Q, rfl, hr, hm, hi, hk4⟩
            have HD4 := Lib.hid (HO.out.keep hk4)
            have HR4 := Lib.hid hr
            generalize s.crash kl = c at HC HR4
            clear hr hm hi hk4 HO
            go_wp2_with fail
            go_loopw [10] (fun i wr => ∃ (j : Nat), j ≤ k ∧ i = .int .i64 j ∧ Keeps (fun _ => True) w4 wr) (fun i _ => k - (intOf i).toNat)
            case atStart => exact ⟨0, Nat.zero_le _, rfl, Keeps.refl _ _⟩
            case round =>
              obtain ⟨j, hj, rfl, hkp⟩ := hrel
              by_cases hl : j < k
              · have hok := D.ok HR4.out
                have hjl : j < c.now.length := by rw [HC.out.len]; exact hl
                have H64 := Lib.hid (show (c.now.getD j []).length = 64 from by rw [getD_mem _ _ _ hjl]; exact hok.nrow _ (List.getElem_mem hjl))
                have E1 := Lib.hid (show c.readE (j : Int) = 0 from by unfold SDev.readE; rw [if_neg (by omega)])
                have E2 := Lib.hid (show c.readL (j : Int) = c.now.getD j [] from by unfold SDev.readL; rw [if_neg (by omega), Int.toNat_natCast])
                have HB := Lib.hid (cell_begins (HC.out.row j hl) H64.out)
                have hbn : (UInt8.ofNat j).toNat = j := by simp; omega
                have HBN := Lib.hid hbn
                have HR5 := Lib.hid (D.keep HR4.out (hkp.mono fun _ _ _ => trivial))
                have HKP := Lib.hid hkp
                have HKK := Lib.hid ((HKR.out.keep (HD4.out.kp.mono fun _ _ _ => trivial)).keep (hkp.mono fun _ _ _ => trivial))
                have hl' : (j : Int) < (k : Int) := by omega
                clear hok hjl hbn hkp
                go_wp2_with fail
                refine (D.read wr q Q c HR5.out (j : Int) (by omega) (by omega)).mono ?_
                rintro e w5 ⟨v, rfl, ho, hk5⟩
                rw [E2.out] at ho
                rw [E1.out]
                obtain ⟨A5, c5, rfl, -, r5⟩ := own_slice ho
                rw [H64.out]
                obtain ⟨b5, o5, eA, -, hc0⟩ := r5.at_ (k := 0) (by rw [bcells_len, H64.out]; decide)
                cases eA
                obtain ⟨b6, o6, eA, -, hc1⟩ := r5.at_ (k := 1) (by rw [bcells_len, H64.out]; decide)
                cases eA
                rw [HB.out.1] at hc0
                rw [HB.out.2, HBN.out] at hc1
                have hc0' : w5.cell? ⟨b5, o5, none⟩ = _ := hc0
                have HKP5 := Lib.hid (HKP.out.trans hk5)
                have HKK5 := Lib.hid (HKK.out.keep (hk5.mono fun _ _ _ => trivial))
                clear ho hk5 r5 hc0
                by_cases hjk : j < kl.length
                · obtain ⟨bk, ok, eK, -, hck⟩ := HKK5.out.at_ (k := j) (by simpa using hjk)
                  cases eK
                  rw [List.getElem_map] at hck
                  have hg : kl.getD j false = kl[j] := getD_mem _ _ _ hjk
                  have hjk' : (j : Int) < (kl.length : Int) := by omega
                  generalize kl[j] = bv at hck hg
                  rw [hg] at hc0'
                  clear hg
                  cases bv
                  all_goals
                    simp only [Bool.false_eq_true, if_false, if_true] at hc0'
                    go_wp2_with fail
                    go_roundw
                    case rel => exact ⟨j + 1, by omega, by go_num, HKP5.out⟩
                    case measure => simp [intOf]; omega
                · have hg : kl.getD j false = false := by rw [List.getD_eq_getElem?_getD, List.getElem?_eq_none (by omega)]; rfl
                  have hjk' : ¬ (j : Int) < (kl.length : Int) := by omega
                  rw [hg] at hc0'
                  clear hg
                  simp only [Bool.false_eq_true, if_false] at hc0'
                  go_wp2_with fail
                  go_roundw
                  case rel => exact ⟨j + 1, by omega, by go_num, HKP5.out⟩
                  case measure => simp [intOf]; omega
              · obtain rfl : j = k := by omega
                have HR5 := Lib.hid (D.keep HR4.out (hkp.mono fun _ _ _ => trivial))
                have HD5 := Lib.hid (HD4.out.keep hkp)
                clear hkp HR4 HD4
                go_wp2_with fail
                refine (D.loose _ q Q c HR5.out).mono ?_
                rintro e w6 ⟨v, rfl, ho, hk6⟩
                rw [HC.out.loose] at ho
                obtain ⟨A6, c6, rfl, -, -⟩ := own_slice ho
                have HR6 := Lib.hid (D.keep HR5.out (hk6.mono fun _ _ _ => trivial))
                have HD6 := Lib.hid (HD5.out.keep hk6)
                clear ho hk6 HR5 HD5
                go_wp2_with fail
                refine (D.calls _ q Q c HR6.out).mono ?_
                rintro e w' ⟨rfl, rfl⟩
                rw [HC.out.calls]
                go_wp2_with fail
                refine (D.loose _ p F s HD6.out.d).mono ?_
                rintro e w7 ⟨v, rfl, ho, hk7⟩
                rw [HLO.out] at ho
                obtain ⟨A7, c7, rfl, -, -⟩ := own_slice ho
                rw [List.length_range]
                have HD7 := Lib.hid (HD6.out.keep hk7)
                clear ho hk7 HR6 HD6
                go_wp2_with fail
                go_ret
                exact ⟨rfl, HD7.out.kp.below⟩
end Go.Proofs.Ytgmgojpkjchmcaa.devSectors
