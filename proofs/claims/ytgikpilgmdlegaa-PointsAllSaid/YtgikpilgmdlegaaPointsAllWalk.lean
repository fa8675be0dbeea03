/-
  THE WALK OF PointsAll, however the program sorts.
-/
import Derived.Test.YtgikpilgmdlegaaPtBegun
import Derived.Test.YtgikpilgmdlegaaPtAll
namespace Go.Proofs.Ytgikpilgmdlegaa.pointsAll
open Go Go.RowKit Go.Joins

def G16 : Nat → Option Bool := fun _ => none
def L16 (b o n c j : Nat) (x y : P2) : List Value := [.slice (some ⟨b, o, none⟩) n c, .int .i64 ((j + 1 : Nat) : Int), .int .i64 (j : Int), .pointer (some ⟨b, o + j * 2, none⟩), pagg x, .slice (some ⟨b, o, none⟩) n c, .int .i64 ((j + 1 : Nat) : Int), .pointer (some ⟨b, o + (j + 1) * 2, none⟩), pagg y, .bool true, .bool false]
def V16 (b o n c j : Nat) (x y : P2) : Nat → World → Value → Prop := fun i => IsV ((L16 b o n c j x y).getD i undef)
/-- How many of the first j are the k-th point of m. -/
def cnt (L : List P2) (m : Int) (k j : Nat) : Nat := (L.take j).countP fun x => (x.node == m) && (x.place == placeZ m (k : Int))
theorem cnt_next {L : List P2} {m : Int} {k j : Nat} (hj : j < L.length) : cnt L m k (j + 1) = cnt L m k j + if (L[j].node == m) && (L[j].place == placeZ m (k : Int)) then 1 else 0 := by
  unfold cnt
  rw [List.take_succ_eq_append_getElem hj, List.countP_append, List.countP_singleton]

theorem cnt_le (L : List P2) (m : Int) (k j : Nat) : cnt L m k j ≤ j := by
  unfold cnt
  exact Nat.le_trans List.countP_le_length (by rw [List.length_take]; omega)
theorem pointZ (n i : Int) (w : World) : Calls Try.prog 12 #[.int .i64 n, .int .i64 i] w fun e w' => e = .returned (.int .u64 (placeZ n i)) ∧ w = w' := rpoint_any n i w

set_option maxRecDepth 100000 in
set_option maxHeartbeats 8000000 in
theorem walk (S : PointsOK) (w : World) (hT : S.T w) (A : Option Addr) (c : Nat) (l : List Int) (h1 : l.length ≤ c) (h2 : c ≤ maxLen) (hA : A = none → c = 0) (hr : Row w A (fun b => b < w.heap.size) (l.map (Value.int .i64))) :
    Calls Try.prog 3 #[.slice A l.length c] w fun e w' => e = .returned (.bool true) ∧ Below w.heap.size w w' := by
  have HT := Lib.hid hT
  have HR := Lib.hid (show ∀ w', Kp w w' → Row w' A (fun _ => True) ((l.take 8).map (Value.int .i64)) from fun w' hk => by
    rw [List.map_take]
    exact Row.take ((hr.mono fun _ _ _ => trivial).keep hk))
  have HA := Lib.hid hA
  have hm : (l.take 8).length = min l.length 8 := by rw [List.length_take]; omega
  have h3 : (l.take 8).length ≤ c := by omega
  clear hT hr hA
  go_enter Try.func3, Try.ntmps3
  go_wp2_with fail
  refine (begun13 S w HT.out).mono ?_
  rintro e w1 ⟨rfl, hk⟩
  have HK1 := Lib.hid hk
  clear hk
  go_wp2_with fail
  refine (cut13 A l.length c w1 h1 h2 HA.out).mono ?_
  rintro e w' ⟨rfl, rfl⟩
  rw [← hm]
  have hl8 : (l.take 8).length ≤ 8 := by omega
  clear hm h1 HA
  generalize l.take 8 = l8 at HR h3 hl8 ⊢
  go_wp2_with fail
  refine (nodes_any w1 A c l8 (HR.out w1 HK1.out) h3 h2).mono ?_
  rintro e w2 ⟨rfl, hk⟩
  have HK2 := Lib.hid (HK1.out.trans hk)
  clear hk HK1
  cases hn : nodesB l8 with
  | false =>
    have HNB := Lib.hid hn
    have H8 := Lib.hid (show ofP l8 = [] from if_neg (by rw [hn]; simp))
    clear hn
    go_wp2_with fail
    refine (S.of w2 A c l8 (S.tk HT.out HK2.out) (HR.out w2 HK2.out) h3 h2).mono ?_
    rintro e w5 ⟨D, cd, rfl, hr, hd1, hd2, hk⟩
    have HK5 := Lib.hid (show Kp w w5 from HK2.out.trans hk)
    rw [H8.out]
    clear hr hd1 hd2 hk HK2
    go_wp2_with fail
    refine (S.may w5 A c l8 (S.tk HT.out HK5.out) (HR.out w5 HK5.out) h3 h2).mono ?_
    rintro e w6 ⟨rfl, hk⟩
    have HK6 := Lib.hid (show Kp w w6 from HK5.out.trans hk)
    rw [HNB.out]
    clear hk HK5
    go_wp2_with fail
    go_ret
    exact ⟨rfl, HK6.out.below⟩
  | true =>
    have HNB := Lib.hid hn
    have H8 := Lib.hid (show ofP l8 = pts l8 from if_pos hn)
    have HLS := Lib.hid (show ∀ (i : Nat) (x y : P2), (pts l8)[i]? = some x → (pts l8)[i + 1]? = some y → lessB x y = true from fun i x y hx hy => by
      obtain ⟨h1, rfl⟩ := List.getElem?_eq_some_iff.1 hx
      obtain ⟨h2, rfl⟩ := List.getElem?_eq_some_iff.1 hy
      exact pts_less hn h2)
    have HON := Lib.hid (show ∀ (m : Int) (k : Nat), m ∈ l8 → k < 8 → cnt (pts l8) m k (pts l8).length = 1 from fun m k hm hk => by
      unfold cnt
      rw [List.take_length]
      exact pts_once hn hm hk)
    have HPL := Lib.hid (pts_len l8)
    clear hn
    go_wp2_with fail
    refine (S.of w2 A c l8 (S.tk HT.out HK2.out) (HR.out w2 HK2.out) h3 h2).mono ?_
    rintro e w5 ⟨D, cd, rfl, hr, hd1, hd2, hk⟩
    rw [H8.out] at hr hd1 ⊢
    generalize pts l8 = L at hr hd1 HLS HON HPL ⊢
    have hpl := HPL.out
    have HK5 := Lib.hid (show Kp w w5 from HK2.out.trans hk)
    have HD := Lib.hid (show ∀ w', Kp w5 w' → PRow w' D (fun _ => True) L from fun w' hk => Row.keep hr hk)
    clear hk hr HK2 H8
    unfold maxLen at hd2
    go_wp2_with fail
    refine (S.may w5 A c l8 (S.tk HT.out HK5.out) (HR.out w5 HK5.out) h3 h2).mono ?_
    rintro e w6 ⟨rfl, hk⟩
    have HK56 := Lib.hid hk
    rw [HNB.out]
    clear hk
    unfold maxLen at h2
    have hne : ((L.length : Int) != 8 * (l8.length : Int)) = false := by simp; omega
    have HKW := Lib.hid (HK5.out.trans HK56.out)
    clear hpl
    go_wp2_with fail
    clear hne
    go_loopw [6] (fun i wr => ∃ k : Nat, k ≤ 8 * l8.length ∧ i = .int .i64 ((k + 1 : Nat) : Int) ∧ Hid (Kp w6 wr)) (fun i _ => 65 - (intOf i).toNat)
    case atStart => exact ⟨0, Nat.zero_le _, rfl, Lib.hid (Keeps.refl _ _)⟩
    case round =>
      obtain ⟨k, hk, rfl, hkp⟩ := hrel
      by_cases hkm' : k + 1 < 8 * l8.length
      · have hkm : k + 1 < L.length := by rw [HPL.out]; exact hkm'
        have t1 : decide ((k : Int) + 1 < 8 * (l8.length : Int)) = true := by simp; omega
        have t1' : decide (k + 1 < 8 * l8.length) = true := by simp; omega
        obtain ⟨b, o, rfl, -, c0, c1⟩ := (HD.out wr (HK56.out.trans hkp.out)).at_ (j := k) (by omega)
        obtain ⟨b2, o2, hbe, -, d0, d1⟩ := (HD.out wr (HK56.out.trans hkp.out)).at_ hkm
        injection hbe with hbe
        injection hbe with e1 e2
        subst e1 e2
        have HLT := Lib.hid (HLS.out k _ _ (List.getElem?_eq_getElem (by omega)) (List.getElem?_eq_getElem hkm))
        generalize L[k]'(by omega) = x at c0 c1 HLT
        generalize L[k + 1] = y at d0 d1 HLT
        clear hkm
        have HC := Lib.hid (And.intro c0 c1)
        have HE := Lib.hid (And.intro d0 d1)
        clear c0 c1 d0 d1
        go_wp2_with fail
        refine wp_region_guard (R := Kp) (V := V16 b o (8 * l8.length) cd k x y) (w0 := wr) G16 (by kernel_rfl) (fun w => Keeps.refl _ w) (fun _ _ _ h k => h.trans k) (fun _ _ _ _ _ h => h) (by kernel_rfl) (fun _ _ h => by cases h) (unwanted_of [] (by kernel_rfl) (fun _ h => by cases h)) ((Keeps.refl _ wr).drew) (each_of ?_) ?_
        · refine ⟨?_, ?_, ?_, ?_, ?_, ?_, ?_, ?_, ?_, ?_, ?_, trivial⟩ <;> intro hw a1 wx L
          · exact kp_move rfl (L.old 5 (by kernel_rfl))
          · exact kp_move rfl (L.old 6 (by kernel_rfl))
          · exact kp_predZ (by omega) rfl (L.val 1 48 (by kernel_rfl) (by kernel_rfl)) rfl
          · exact kp_ixP (by omega) rfl (L.val 0 47 (by kernel_rfl) (by kernel_rfl)) (L.val 2 49 (by kernel_rfl) (by kernel_rfl))
          · exact kp_ldPt (L.rel.cell HC.out.1 trivial) (L.rel.cell HC.out.2 trivial) rfl (L.val 3 50 (by kernel_rfl) (by kernel_rfl))
          · exact kp_move rfl (L.old 5 (by kernel_rfl))
          · exact kp_move rfl (L.old 6 (by kernel_rfl))
          · exact kp_ixP (by omega) rfl (L.val 5 52 (by kernel_rfl) (by kernel_rfl)) (L.val 6 53 (by kernel_rfl) (by kernel_rfl))
          · exact kp_ldPt (L.rel.cell HE.out.1 trivial) (L.rel.cell HE.out.2 trivial) rfl (L.val 7 54 (by kernel_rfl) (by kernel_rfl))
          · exact kp_lessP S HLT.out rfl (L.val 4 51 (by kernel_rfl) (by kernel_rfl)) (L.val 8 55 (by kernel_rfl) (by kernel_rfl))
          · exact kp_notP rfl rfl (L.val 9 56 (by kernel_rfl) (by kernel_rfl))
        · intro vs wz hwz hlen hv
          match vs, hlen with
          | [v0, v1, v2, v3, v4, v5, v6, v7, v8, v9, v10], _ =>
            have e10 : v10 = .bool false := hv 10 57 (by kernel_rfl)
            clear hv
            subst e10
            have HZ := Lib.hid (hkp.out.trans hwz)
            clear hwz HC HE HLT
            simp only [putAll, List.map, Act.put, List.setIfInBounds_toArray, List.set_cons_succ, List.set_cons_zero, Exit.then]
            go_wp2_with fail
            go_roundw
            case rel => exact ⟨k + 1, by omega, by go_num, HZ⟩
            case measure => simp [intOf]; omega
      · have t1 : decide ((k : Int) + 1 < 8 * (l8.length : Int)) = false := by simp; omega
        have t1' : decide (k + 1 < 8 * l8.length) = false := by simp; omega
        have HK6 := Lib.hid (HK56.out.trans hkp.out)
        have HKR := Lib.hid (HKW.out.trans hkp.out)
        clear hkp
        go_wp2_with fail
        clear t1 t1' hkm' hk HLS HK56 HK5 HKW HT
        go_loopw [7] (fun i wx => ∃ a : Nat, a ≤ l8.length ∧ i = .int .i64 (a : Int) ∧ Hid (Kp wr wx)) (fun i _ => l8.length - (intOf i).toNat)
        case atStart => exact ⟨0, Nat.zero_le _, rfl, Lib.hid (Keeps.refl _ _)⟩
        case round =>
          obtain ⟨a, ha, rfl, hka⟩ := hrel
          have HK7 := Lib.hid (HK6.out.trans hka.out)
          have HKS := Lib.hid (HKR.out.trans hka.out)
          have hka0 := hka
          clear hka HK6 HKR
          by_cases ham : a < l8.length
          · have t1 : decide ((a : Int) < (l8.length : Int)) = true := by simp; omega
            have t1' : decide (a < l8.length) = true := by simp; omega
            go_wp2_with fail
            go_loopw [8] (fun i wx => ∃ k : Nat, k ≤ 8 ∧ i = .int .i64 (k : Int) ∧ Hid (Kp wr wx)) (fun i _ => 8 - (intOf i).toNat)
            case atStart => exact ⟨0, Nat.zero_le _, rfl, Lib.hid (Keeps.refl _ _)⟩
            case round =>
              obtain ⟨k2, hk2, rfl, hkb⟩ := hrel
              by_cases hk8 : k2 < 8
              · have t2 : decide ((k2 : Int) < 8) = true := by simp; omega
                have t2' : decide (k2 < 8) = true := by simp; omega
                have HK8 := Lib.hid (HK7.out.trans hkb.out)
                have HKT := Lib.hid (HKS.out.trans hkb.out)
                obtain ⟨m, hm⟩ : ∃ m, m = l8[a] := ⟨_, rfl⟩
                have HM := Lib.hid hm
                have HON2 := Lib.hid (HON.out m k2 (by rw [hm]; exact List.getElem_mem ham) hk8)
                clear hm
                go_wp2_with fail
                go_loopw [9, 10] (fun q i wx => ∃ j : Nat, j ≤ 8 * l8.length ∧ i = .int .i64 (j : Int) ∧ q = .int .i64 ((cnt L m k2 j : Nat) : Int) ∧ Hid (Kp wr wx)) (fun _ i _ => 8 * l8.length - (intOf i).toNat)
                case atStart => exact ⟨0, Nat.zero_le _, rfl, rfl, Lib.hid (Keeps.refl _ _)⟩
                case round =>
                  obtain ⟨j, hj, rfl, rfl, hkc⟩ := hrel
                  have hcl := cnt_le L m k2 j
                  by_cases hjm : j < 8 * l8.length
                  · have t3 : decide ((j : Int) < 8 * (l8.length : Int)) = true := by simp; omega
                    have t3' : decide (j < 8 * l8.length) = true := by simp; omega
                    have hjl : j < L.length := by rw [HPL.out]; exact hjm
                    obtain ⟨b, o, rfl, -, c0, c1⟩ := (HD.out wr (HK8.out.trans hkc.out)).at_ (j := j) hjl
                    obtain ⟨b2, o2, rfl, -, e0⟩ := (HR.out wr (HKT.out.trans hkc.out)).at_ (k := a) (by simpa using ham)
                    rw [List.getElem_map, ← HM.out] at e0
                    have HCN := Lib.hid (cnt_next (m := m) (k := k2) hjl)
                    generalize L[j]'hjl = x at c0 c1 HCN
                    clear hjl
                    generalize cnt L m k2 j = q at hcl HCN ⊢
                    cases hx1 : (x.node == m) with
                    | false =>
                      have HC2 := Lib.hid (show cnt L m k2 (j + 1) = q from by rw [HCN.out, hx1]; rfl)
                      clear HCN
                      go_wp2_with fail
                      go_quiet ((first | (go_at_call 12; exact Calls.quiet_of_same ((pointZ _ _ _).mono fun _ _ h => ⟨h.1, h.2.symm⟩))))
                      go_wp2_with fail
                      go_roundw
                      case rel => exact ⟨j + 1, by omega, by go_num, by rw [HC2.out], Lib.hid (hkc.out.drewN _)⟩
                      case measure => simp [intOf]; omega
                    | true =>
                      cases hx2 : (x.place == placeZ m (k2 : Int)) with
                      | false =>
                        have HC2 := Lib.hid (show cnt L m k2 (j + 1) = q from by rw [HCN.out, hx1, hx2]; rfl)
                        clear HCN
                        go_wp2_with fail
                        go_quiet ((first | (go_at_call 12; exact Calls.quiet_of_same ((pointZ _ _ _).mono fun _ _ h => ⟨h.1, h.2.symm⟩))))
                        go_wp2_with fail
                        go_roundw
                        case rel => exact ⟨j + 1, by omega, by go_num, by rw [HC2.out], Lib.hid (hkc.out.drewN _)⟩
                        case measure => simp [intOf]; omega
                      | true =>
                        have HC2 := Lib.hid (show cnt L m k2 (j + 1) = q + 1 from by rw [HCN.out, hx1, hx2]; rfl)
                        clear HCN
                        go_wp2_with fail
                        go_quiet ((first | (go_at_call 12; exact Calls.quiet_of_same ((pointZ _ _ _).mono fun _ _ h => ⟨h.1, h.2.symm⟩))))
                        go_wp2_with fail
                        go_roundw
                        case rel => exact ⟨j + 1, by omega, by go_num, by rw [HC2.out]; go_num, Lib.hid (hkc.out.drewN _)⟩
                        case measure => simp [intOf]; omega
                  · have t3 : decide ((j : Int) < 8 * (l8.length : Int)) = false := by simp; omega
                    have t3' : decide (j < 8 * l8.length) = false := by simp; omega
                    have hc1 : cnt L m k2 j = 1 := by
                      have h := HON2.out
                      rw [HPL.out] at h
                      rw [show j = 8 * l8.length by omega]; exact h
                    rw [hc1]
                    clear hc1 hcl
                    go_wp2_with fail
                    go_roundw
                    case rel => exact ⟨k2 + 1, by omega, by go_num, Lib.hid (hkb.out.trans hkc.out)⟩
                    case measure => simp [intOf]; omega
              · have t2 : decide ((k2 : Int) < 8) = false := by simp; omega
                have t2' : decide (k2 < 8) = false := by simp; omega
                go_wp2_with fail
                go_roundw
                case rel => exact ⟨a + 1, by omega, by go_num, Lib.hid (hka0.out.trans hkb.out)⟩
                case measure => simp [intOf]; omega
          · have t1 : decide ((a : Int) < (l8.length : Int)) = false := by simp; omega
            have t1' : decide (a < l8.length) = false := by simp; omega
            go_wp2_with fail
            go_ret
            exact ⟨rfl, HKS.out.below⟩
end Go.Proofs.Ytgikpilgmdlegaa.pointsAll
