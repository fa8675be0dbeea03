/-
  THE WALK OF RingOwner, however the program's rings find an owner.
-/
import Derived.Test.YtonalhjhokkcmaaRgSmall
import Derived.Test.YtonalhjhokkcmaaRgRef
import Derived.Test.YtonalhjhokkcmaaTextCut
namespace Go.Proofs.Ytonalhjhokkcmaa.ringOwner
open Go Go.RowKit Go.Joins

set_option maxRecDepth 100000 in
set_option maxHeartbeats 4000000 in
theorem walk (S : RingOK) (w : World) (hT : S.T w) (a z h : Int) (s : ByteArray) (hh1 : 0 ≤ h) (hh2 : h < 18446744073709551616) (hs : s.size ≤ maxLen) :
    Calls Try.prog 3 #[.int .i64 a, .int .i64 z, .int .u64 h, .string s] w fun e w' => e = .returned (.bool true) ∧ Below w.heap.size w w' := by
  have HT := Lib.hid hT
  have HS := Lib.hid hs
  have HH := Lib.hid (And.intro hh1 hh2)
  clear hT hs hh1 hh2
  go_enter Try.func3, Try.ntmps3
  go_wp2_with fail
  refine (begun14 S w HT.out).mono ?_
  rintro e w1 ⟨rfl, hk⟩
  have HK1 := Lib.hid hk
  clear hk
  go_wp2_with fail
  refine (rgnodes_any w1 z).mono ?_
  rintro e w2 ⟨A, c, rfl, hr, hc1, hc2, hk⟩
  have HK2 := Lib.hid (HK1.out.trans hk)
  have HR := Lib.hid (show ∀ w', Kp w2 w' → Row w' A (fun _ => True) ((nodes5 (bitB z) 5).map (Value.int .i64)) from fun w' hk => (hr.mono fun _ _ _ => trivial).keep hk)
  have HMAY := Lib.hid (nodes5_may (bitB z))
  have hl5 := nodes5_len (bitB z) 5
  generalize nodes5 (bitB z) 5 = l at HR HMAY hc1 hl5 ⊢
  clear hk hr HK1
  go_wp2_with fail
  refine (tcut_any s 60 HS.out (by decide) w2).mono ?_
  rintro e w2' ⟨rfl, rfl⟩
  have HKS := Lib.hid (cutZ_size s 60)
  generalize cutZ s 60 = key at HKS ⊢
  have hcs : decide (a < 1) = true ∨ decide (a < 1) = false ∧ (decide (1099511627776 < a) = true ∨ decide (1099511627776 < a) = false ∧ (((l.length : Int) == 0) = true ∨ ((l.length : Int) == 0) = false)) := by
    cases ((l.length : Int) == 0) <;> cases decide (a < 1) <;> cases decide (1099511627776 < a) <;> simp
  rcases hcs with t0 | ⟨t0, t1 | ⟨t1, t2 | t2⟩⟩
  rotate_right 1
  · have hm : nodesB l = true := by
      rw [HMAY.out]
      cases l with
      | nil => simp at t2
      | cons x l => rfl
    have HRA := Lib.hid (ringB_of (e := a) (by simp at t0; omega) (by simp at t1; omega) hm)
    have HNEW := Lib.hid (S.new w w2 A c l a HT.out HK2.out (HR.out w2 (Keeps.refl _ _)) hc1 hc2 HRA.out)
    clear hm HMAY
    go_wp2_with fail
    refine (show Calls _ _ _ _ _ from HNEW.out).mono ?_
    rintro e w3 ⟨r, F, rfl, hat, -, hk⟩
    have HA1 := Lib.hid (show ∀ w', Kp w3 w' → S.At w w' r F a l from fun w' hk => S.atK hat hk)
    have HR3 := Lib.hid (show ∀ w', Kp w3 w' → Row w' A (fun _ => True) (l.map (Value.int .i64)) from fun w' hk2 => HR.out w' (hk.trans hk2))
    have HK3 := Lib.hid (HK2.out.trans hk)
    clear hat hk HNEW HR HK2
    have t3 : (a != a) = false := by simp
    go_wp2_with fail
    refine (S.epoch w w3 r F a l HT.out (HA1.out w3 (Keeps.refl _ _))).mono ?_
    rintro e w4 ⟨rfl, hk⟩
    have HK4 := Lib.hid hk
    clear hk
    go_wp2_with fail
    refine (S.nodes w w4 r F a l HT.out (HA1.out w4 HK4.out)).mono ?_
    rintro e w5 ⟨B, cb, rfl, hb, -, hcb1, hcb2, hk⟩
    have HK5 := Lib.hid (HK4.out.trans hk)
    have HRB := Lib.hid (show Row w5 B (fun _ => True) (l.map (Value.int .i64)) from hb.mono fun _ _ _ => trivial)
    clear hk hb HK4
    go_wp2_with fail
    refine (eqints_same w5 B A cb c l HRB.out (HR3.out w5 HK5.out) (by omega)).mono ?_
    rintro e w6 ⟨rfl, hk⟩
    have HK6 := Lib.hid (HK5.out.trans hk)
    clear hk HRB HK5
    go_wp2_with fail
    go_loopw [12] (fun i wr => ∃ k : Nat, k ≤ 7 ∧ i = .int .i64 (k : Int) ∧ Hid (Kp w3 wr)) (fun i _ => 7 - (intOf i).toNat)
    case atStart => exact ⟨0, Nat.zero_le _, rfl, HK6⟩
    case round =>
      clear HK6
      obtain ⟨k, hk, rfl, HK⟩ := hrel
      by_cases hk7 : k < 7
      · have u1 : decide ((k : Int) ≤ 6) = true := by simp; omega
        go_wp2_with fail
        refine (S.has w wr r F a l (k : Int) HT.out (HA1.out wr HK.out)).mono ?_
        rintro e w7 ⟨rfl, hk⟩
        have HK7 := Lib.hid (HK.out.trans hk)
        clear hk
        go_wp2_with fail
        refine (has_any w7 A c l (k : Int) (HR3.out w7 HK7.out) hc1 hc2).mono ?_
        rintro e w8 ⟨rfl, hk⟩
        have HK8 := Lib.hid (HK7.out.trans hk)
        clear hk HK7
        generalize hasN l (k : Int) = y
        have u2 : (y != y) = false := by simp
        go_wp2_with fail
        go_roundw
        case rel => exact ⟨k + 1, by omega, by go_num, HK8⟩
        case measure => simp [intOf]; omega
      · obtain rfl : k = 7 := by omega
        have u1 : decide (((7 : Nat) : Int) ≤ 6) = false := by decide
        have HU := Lib.hid (parts_u64 key)
        have HONE := Lib.hid (rof_one (s := key) · (by have := HKS.out; unfold maxLen; omega))
        have HOF := Lib.hid (show ∀ w', Kp w3 w' → Calls Try.prog 21 #[.pointer (some ⟨r, 0, none⟩), .string key] w' fun x w'' => x = .returned (.int .i64 (ownerL l (partsZ [key]))) ∧ Kp w' w'' from fun w' hk => S.of w w' r F a l key HT.out (HA1.out w' hk) (by have := HKS.out; omega))
        have HREF := Lib.hid (show ∀ (w' : World) (h : Int), Kp w3 w' → Calls Try.prog 20 #[.slice A l.length c, .int .u64 h] w' fun e w3 => e = .returned (.int .i64 (ownerL l h)) ∧ Kp w' w3 from fun w' h hk => rowner_any w' A c l h (HR3.out w' hk) hc1 hc2)
        generalize partsZ [key] = p at HONE HOF
        have t6 : ∀ y : Int, (y == y) = true := by simp
        clear hk7
        go_wp2_with fail
        refine (S.owner w wr r F a l h HT.out (HA1.out wr HK.out) HH.out.1 HH.out.2).mono ?_
        rintro e w7 ⟨rfl, hk⟩
        have HK7 := Lib.hid (HK.out.trans hk)
        clear hk
        go_wp2_with fail
        refine (show Calls _ _ _ _ _ from HREF.out w7 h HK7.out).mono ?_
        rintro e w8 ⟨rfl, hk⟩
        have HK8 := Lib.hid (HK7.out.trans hk)
        clear hk HK7
        generalize ownerL l h = y
        have t7 : (y == y) = true := by simp
        go_wp2_with fail
        refine (show Calls _ _ _ _ _ from HOF.out w8 HK8.out).mono ?_
        rintro e w9 ⟨rfl, hk⟩
        have HK9 := Lib.hid (HK8.out.trans hk)
        clear hk HK8
        have HRF := Lib.hid (fun w' hk => HREF.out w' p hk)
        clear HREF
        generalize ownerL l p = y2 at HRF ⊢
        have t8 : (y2 == y2) = true := by simp
        go_wp2_with fail
        refine (show Calls _ _ _ _ _ from HONE.out w9).mono ?_
        rintro e w10 ⟨rfl, hk⟩
        have HK10 := Lib.hid (HK9.out.trans hk)
        clear hk HK9
        go_wp2_with fail
        refine (show Calls _ _ _ _ _ from HRF.out w10 HK10.out).mono ?_
        rintro e w11 ⟨rfl, hk⟩
        have HK11 := Lib.hid (HK3.out.trans (HK10.out.trans hk))
        clear hk HK10
        go_wp2_with fail
        go_ret
        exact ⟨rfl, HK11.out.below⟩
  all_goals (
    have hm : ringB a l = false := by
      cases hb : ringB a l with
      | false => rfl
      | true =>
        have h3 := ring_nodes hb
        unfold ringB at hb
        simp only [Bool.and_eq_true, decide_eq_true_eq] at hb
        first
          | (simp at t0; omega)
          | (simp at t1; omega)
          | (rw [HMAY.out] at h3
             cases l with
             | nil => cases h3
             | cons x l => simp at t2; omega)
    have HNEW := Lib.hid (S.newNo w w2 A c l a HT.out HK2.out (HR.out w2 (Keeps.refl _ _)) hc1 hc2 hm)
    clear hm HMAY
    go_wp2_with fail
    refine (show Calls _ _ _ _ _ from HNEW.out).mono ?_
    rintro e w3 ⟨rfl, hk⟩
    have HK3 := Lib.hid (HK2.out.trans hk)
    clear hk HNEW
    go_wp2_with fail
    go_ret
    exact ⟨rfl, HK3.out.below⟩)

end Go.Proofs.Ytonalhjhokkcmaa.ringOwner
