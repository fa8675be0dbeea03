/-
  THE WALK OF RingEpoch, however the program's rings find an owner.
-/
import Derived.Test.YtonalhjhokkcmaaRgSmall
namespace Go.Proofs.Ytonalhjhokkcmaa.ringEpoch
open Go Go.RowKit Go.Joins

set_option maxRecDepth 100000 in
set_option maxHeartbeats 4000000 in
theorem walk (S : RingOK) (w : World) (hT : S.T w) (z a b : Int) (s : ByteArray) (hs : s.size ≤ maxLen) :
    Calls Try.prog 8 #[.int .i64 z, .int .i64 a, .int .i64 b, .string s] w fun e w' => e = .returned (.bool true) ∧ Below w.heap.size w w' := by
  have HT := Lib.hid hT
  have HS := Lib.hid hs
  unfold maxLen at hs
  clear hT
  go_enter Try.func8, Try.ntmps8
  go_wp2_with fail
  refine (begun14 S w HT.out).mono ?_
  rintro e w1 ⟨rfl, hk⟩
  have HK1 := Lib.hid hk
  clear hk
  go_wp2_with fail
  refine (rgnodes_any w1 z).mono ?_
  rintro e w2 ⟨A, c, rfl, hr, hc1, hc2, hk⟩
  have HK2 := Lib.hid (HK1.out.trans hk)
  have HR := Lib.hid (show ∀ w', Kp w2 w' → Row w' A (fun _ => True) ((nodes5 (bitB z) 5).map (Value.int .i64)) from fun w' hk => (hr.mono fun _ _ _ => trivial).keep hk)
  have HMAY := Lib.hid (nodes5_may (bitB z))
  have hl5 := nodes5_len (bitB z) 5
  generalize nodes5 (bitB z) 5 = l at HR HMAY hc1 hl5 ⊢
  clear hk hr HK1
  have hcs : ((l.length : Int) == 0) = true ∨ ((l.length : Int) == 0) = false ∧ (decide (a < 1) = true ∨ decide (a < 1) = false ∧ (decide (b < 1) = true ∨ decide (b < 1) = false ∧ (decide (1099511627776 < a) = true ∨ decide (1099511627776 < a) = false ∧ (decide (1099511627776 < b) = true ∨ decide (1099511627776 < b) = false ∧ (decide ((60 : Int) < (s.size : Int)) = true ∨ decide ((60 : Int) < (s.size : Int)) = false))))) := by
    cases ((l.length : Int) == 0) <;> cases decide (a < 1) <;> cases decide (b < 1) <;> cases decide (1099511627776 < a) <;> cases decide (1099511627776 < b) <;> cases decide ((60 : Int) < (s.size : Int)) <;> simp
  rcases hcs with t0 | ⟨t0, t1 | ⟨t1, t2 | ⟨t2, t3 | ⟨t3, t4 | ⟨t4, t5 | t5⟩⟩⟩⟩⟩
  rotate_right 1
  · have hm : nodesB l = true := by
      rw [HMAY.out]
      cases l with
      | nil => simp at t0
      | cons x l => rfl
    have hs2 : s.size ≤ 1000000 := by simp at t5; omega
    have HRA := Lib.hid (ringB_of (e := a) (by simp at t1; omega) (by simp at t3; omega) hm)
    have HRB := Lib.hid (ringB_of (e := b) (by simp at t2; omega) (by simp at t4; omega) hm)
    have HNEW := Lib.hid (S.new w w2 A c l a HT.out HK2.out (HR.out w2 (Keeps.refl _ _)) hc1 hc2 HRA.out)
    have HS2 := Lib.hid hs2
    clear hm HMAY hs2
    go_wp2_with fail
    refine (show Calls _ _ _ _ _ from HNEW.out).mono ?_
    rintro e w3 ⟨r, F, rfl, hat, -, hk⟩
    have HA1 := Lib.hid (show ∀ w', Kp w3 w' → S.At w w' r F a l from fun w' hk => S.atK hat hk)
    have HK3 := Lib.hid hk
    clear hat hk HNEW
    go_wp2_with fail
    refine (S.new w w3 A c l b HT.out (HK2.out.trans HK3.out) (HR.out w3 HK3.out) hc1 hc2 HRB.out).mono ?_
    rintro e w4 ⟨r2, F2, rfl, hat, -, hk⟩
    have HA2 := Lib.hid (show ∀ w', Kp w4 w' → S.At w w' r2 F2 b l from fun w' hk => S.atK hat hk)
    have HK4 := Lib.hid hk
    clear hat hk
    go_wp2_with fail
    refine (S.of w w4 r F a l s HT.out (HA1.out w4 HK4.out) HS2.out).mono ?_
    rintro e w5 ⟨rfl, hk⟩
    have HK5 := Lib.hid hk
    have HU := Lib.hid (parts_u64 s)
    have HONE := Lib.hid (rof_one (s := s) · HS.out)
    have HOF := Lib.hid (show ∀ w', Kp w4 w' → Calls Try.prog 21 #[.pointer (some ⟨r, 0, none⟩), .string s] w' fun x w'' => x = .returned (.int .i64 (ownerL l (partsZ [s]))) ∧ Kp w' w'' from fun w' hk => S.of w w' r F a l s HT.out (HA1.out w' (HK4.out.trans hk)) HS2.out)
    have HOF2 := Lib.hid (show ∀ w', Kp w4 w' → Calls Try.prog 21 #[.pointer (some ⟨r2, 0, none⟩), .string s] w' fun x w'' => x = .returned (.int .i64 (ownerL l (partsZ [s]))) ∧ Kp w' w'' from fun w' hk => S.of w w' r2 F2 b l s HT.out (HA2.out w' hk) HS2.out)
    have HOWN := Lib.hid (show ∀ w', Kp w4 w' → Calls Try.prog 19 #[.pointer (some ⟨r, 0, none⟩), .int .u64 (partsZ [s])] w' fun x w'' => x = .returned (.int .i64 (ownerL l (partsZ [s]))) ∧ Kp w' w'' from fun w' hk => S.owner w w' r F a l _ HT.out (HA1.out w' (HK4.out.trans hk)) HU.out.1 HU.out.2)
    clear hk
    generalize partsZ [s] = p at HONE HOF HOF2 HOWN ⊢
    generalize ownerL l p = y at HOF HOF2 HOWN ⊢
    have t6 : (y == y) = true := by simp
    have t7 : (a == a) = true := by simp
    have t8 : (b == b) = true := by simp
    go_wp2_with fail
    refine (show Calls _ _ _ _ _ from HOF2.out w5 HK5.out).mono ?_
    rintro e w6 ⟨rfl, hk⟩
    have HK6 := Lib.hid (HK5.out.trans hk)
    clear hk
    go_wp2_with fail
    refine (S.epoch w w6 r F a l HT.out (HA1.out w6 (HK4.out.trans HK6.out))).mono ?_
    rintro e w7 ⟨rfl, hk⟩
    have HK7 := Lib.hid (HK6.out.trans hk)
    clear hk
    go_wp2_with fail
    refine (S.epoch w w7 r2 F2 b l HT.out (HA2.out w7 HK7.out)).mono ?_
    rintro e w8 ⟨rfl, hk⟩
    have HK8 := Lib.hid (HK7.out.trans hk)
    clear hk
    go_wp2_with fail
    refine (show Calls _ _ _ _ _ from HOF.out w8 HK8.out).mono ?_
    rintro e w9 ⟨rfl, hk⟩
    have HK9 := Lib.hid (HK8.out.trans hk)
    clear hk
    go_wp2_with fail
    refine (show Calls _ _ _ _ _ from HONE.out w9).mono ?_
    rintro e w10 ⟨rfl, hk⟩
    have HK10 := Lib.hid (HK9.out.trans hk)
    clear hk
    go_wp2_with fail
    refine (show Calls _ _ _ _ _ from HOWN.out w10 HK10.out).mono ?_
    rintro e w11 ⟨rfl, hk⟩
    have HK11 := Lib.hid (HK2.out.trans (HK3.out.trans (HK4.out.trans (HK10.out.trans hk))))
    clear hk
    go_wp2_with fail
    go_ret
    exact ⟨rfl, HK11.out.below⟩
  all_goals (
    go_wp2_with fail
    go_ret
    exact ⟨rfl, HK2.out.below⟩)

end Go.Proofs.Ytonalhjhokkcmaa.ringEpoch
