/-
  THE WALK OF RingAlone, however the program's rings find an owner.
-/
import Derived.Test.YtonalhjhokkcmaaRgNodes
import Derived.Deep.CutRange
namespace Go.Proofs.Ytonalhjhokkcmaa.ringAlone
open Go Go.RowKit Go.Joins

set_option maxRecDepth 100000 in
set_option maxHeartbeats 4000000 in
theorem walk (S : RingOK) (w : World) (hT : S.T w) (n z h : Int) (hh1 : 0 ≤ h) (hh2 : h < 18446744073709551616) :
    Calls Try.prog 7 #[.int .i64 n, .int .i64 z, .int .u64 h] w fun e w' => e = .returned (.bool true) ∧ Below w.heap.size w w' := by
  have HT := Lib.hid hT
  clear hT
  obtain ⟨j, hj, hjn⟩ := node_of n
  have HH := Lib.hid (And.intro hh1 hh2)
  have HJN := Lib.hid hjn
  clear hh1 hh2 hjn
  go_enter Try.func7, Try.ntmps7
  go_wp2_with fail
  refine (begun14 S w HT.out).mono ?_
  rintro e w1 ⟨rfl, hk⟩
  have HK1 := Lib.hid hk
  clear hk
  go_upto_region 5 with fail
  rw [HJN.out]
  clear HJN
  obtain ⟨p, hp⟩ : ∃ p : Int, ((j + 1 : Nat) : Int) = p := ⟨_, rfl⟩
  have hm1 : nodesB [p] = true := by
    rw [← hp]
    have hh : j = 0 ∨ j = 1 ∨ j = 2 ∨ j = 3 ∨ j = 4 := by omega
    rcases hh with rfl | rfl | rfl | rfl | rfl <;> rfl
  rw [hp]
  have HO1 := Lib.hid (owner_one hm1 h)
  have HRB1 := Lib.hid (ringB_of (e := 1) (by decide) (by decide) hm1)
  clear hp hj hm1
  go_wp2_with fail
  refine (rgnodes_any w1 z).mono ?_
  rintro e w2 ⟨A, c, rfl, hr, hc1, hc2, hk⟩
  have HK2 := Lib.hid (HK1.out.trans hk)
  have HR := Lib.hid (show ∀ w', Kp w2 w' → Row w' A (fun _ => True) ((nodes5 (bitB z) 5).map (Value.int .i64)) from fun w' hk => (hr.mono fun _ _ _ => trivial).keep hk)
  have HMAY := Lib.hid (nodes5_may (bitB z))
  have hl5 := nodes5_len (bitB z) 5
  generalize nodes5 (bitB z) 5 = l at HR HMAY hc1 hl5 ⊢
  have HNEW := Lib.hid (show Calls Try.prog 13 #[.int .i64 1, .slice (some ⟨w2.heap.size, 0, none⟩) 1 1] (w2.alloc (.cells #[.int .i64 p] 3)) fun x w' => ∃ r F, x = .returned (.pointer (some ⟨r, 0, none⟩)) ∧ S.At w w' r F 1 [p] ∧ Kp w2 w' from
    (S.new w _ _ 1 [p] 1 HT.out (HK2.out.alloc _) (ints_new w2 [p] _ rfl) (Nat.le_refl _) (by decide) HRB1.out).mono fun x w' ⟨r, F, h1, h2, _, h4⟩ => ⟨r, F, h1, h2, ((Keeps.refl _ w2).alloc _).trans h4⟩)
  clear hk hr HK1
  go_wp2_with fail
  refine (show Calls _ _ _ _ _ from HNEW.out).mono ?_
  rintro e w3 ⟨r, F, rfl, hat, hk⟩
  have HK3 := Lib.hid hk
  have HAT := Lib.hid hat
  clear hk hat HNEW
  go_wp2_with fail
  refine (S.owner w w3 r F 1 [p] h HT.out HAT.out HH.out.1 HH.out.2).mono ?_
  rintro e w4 ⟨rfl, hk⟩
  have HK4 := Lib.hid (HK3.out.trans hk)
  clear hk HAT HK3
  rw [HO1.out]
  have t1 : (p != p) = false := by simp
  have hcs : ((l.length : Int) == 0) = true ∨ ((l.length : Int) == 0) = false := by cases ((l.length : Int) == 0) <;> simp
  rcases hcs with t0 | t0
  · go_wp2_with fail
    go_ret
    exact ⟨rfl, (HK2.out.trans HK4.out).below⟩
  · have hml : nodesB l = true := by
      rw [HMAY.out]
      cases l with
      | nil => simp at t0
      | cons x l => rfl
    have HRB := Lib.hid (ringB_of (e := 1) (by decide) (by decide) hml)
    have HHAS := Lib.hid (owner_has hml h)
    clear hml HMAY
    go_wp2_with fail
    refine (S.new w w4 A c l 1 HT.out (HK2.out.trans HK4.out) (HR.out w4 HK4.out) hc1 hc2 HRB.out).mono ?_
    rintro e w5 ⟨r2, F2, rfl, hat, -, hk⟩
    have HK5 := Lib.hid hk
    have HAT := Lib.hid (show ∀ w', Kp w5 w' → S.At w w' r2 F2 1 l from fun w' hk => S.atK hat hk)
    clear hk hat
    go_wp2_with fail
    refine (S.owner w w5 r2 F2 1 l h HT.out (HAT.out w5 (Keeps.refl _ _)) HH.out.1 HH.out.2).mono ?_
    rintro e w6 ⟨rfl, hk⟩
    have HK6 := Lib.hid hk
    clear hk
    generalize ownerL l h = y at HHAS ⊢
    go_wp2_with fail
    refine (S.has w w6 r2 F2 1 l y HT.out (HAT.out w6 HK6.out)).mono ?_
    rintro e w7 ⟨rfl, hk⟩
    have HK7 := Lib.hid (HK2.out.trans (HK4.out.trans (HK5.out.trans (HK6.out.trans hk))))
    clear hk
    rw [HHAS.out]
    go_wp2_with fail
    go_ret
    exact ⟨rfl, HK7.out.below⟩

end Go.Proofs.Ytonalhjhokkcmaa.ringAlone
