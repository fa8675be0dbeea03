/-
  THE WALK OF RingJoin, however the program's rings find an owner.
-/
import Derived.Test.YtonalhjhokkcmaaRgNodes
import Derived.Deep.CutRange
namespace Go.Proofs.Ytonalhjhokkcmaa.ringJoin
open Go Go.RowKit Go.Joins

set_option maxRecDepth 100000 in
set_option maxHeartbeats 4000000 in
theorem walk (S : RingOK) (w : World) (hT : S.T w) (z n h : Int) (hh1 : 0 ≤ h) (hh2 : h < 18446744073709551616) :
    Calls Try.prog 5 #[.int .i64 z, .int .i64 n, .int .u64 h] w fun e w' => e = .returned (.bool true) ∧ Below w.heap.size w w' := by
  have HT := Lib.hid hT
  clear hT
  obtain ⟨j, hj, hjn⟩ := node_of n
  have HH := Lib.hid (And.intro hh1 hh2)
  have HJN := Lib.hid hjn
  clear hh1 hh2 hjn
  go_enter Try.func5, Try.ntmps5
  go_wp2_with fail
  refine (begun14 S w HT.out).mono ?_
  rintro e w1 ⟨rfl, hk⟩
  have HK1 := Lib.hid hk
  clear hk
  go_upto_region 5 with fail
  rw [HJN.out]
  have hj1 : (j : Int) < 5 := by omega
  have HPW := Lib.hid (pow_of j hj)
  clear HJN
  go_wp2_with fail
  rw [HPW.out]
  have HLB := Lib.hid (nodes5_len (bitB (bits .andNot .i64 z ((2 ^ j : Nat) : Int))) 5)
  have HMB := Lib.hid (nodes5_len (bitB (bits .or .i64 z ((2 ^ j : Nat) : Int))) 5)
  have HLM := Lib.hid (nodes5_may (bitB (bits .andNot .i64 z ((2 ^ j : Nat) : Int))))
  have HMM := Lib.hid (nodes5_may (bitB (bits .or .i64 z ((2 ^ j : Nat) : Int))))
  have HSUB := Lib.hid (sub_of z j hj)
  have HNOT := Lib.hid (not_of z j hj)
  have HC1 := Lib.hid (show ∀ w', Kp w w' → Calls Try.prog 11 #[.int .i64 (bits .andNot .i64 z ((2 ^ j : Nat) : Int))] w' _ from fun w' _ => rgnodes_any w' _)
  have HC2 := Lib.hid (show ∀ w', Kp w w' → Calls Try.prog 11 #[.int .i64 (bits .or .i64 z ((2 ^ j : Nat) : Int))] w' _ from fun w' _ => rgnodes_any w' _)
  generalize nodes5 (bitB (bits .andNot .i64 z ((2 ^ j : Nat) : Int))) 5 = l at HLB HLM HSUB HNOT HC1
  generalize nodes5 (bitB (bits .or .i64 z ((2 ^ j : Nat) : Int))) 5 = m at HMB HMM HSUB HC2
  generalize bits .andNot .i64 z ((2 ^ j : Nat) : Int) = z1 at HC1 ⊢
  refine (show Calls _ _ _ _ _ from HC1.out w1 HK1.out).mono ?_
  rintro e w2 ⟨A, c, rfl, hr, hc1, hc2, hk⟩
  have HK2 := Lib.hid (HK1.out.trans hk)
  have HR := Lib.hid (show ∀ w', Kp w2 w' → Row w' A (fun _ => True) (l.map (Value.int .i64)) from fun w' hk => (hr.mono fun _ _ _ => trivial).keep hk)
  clear hk hr HK1 HC1
  go_wp2_with fail
  rw [HPW.out]
  generalize bits .or .i64 z ((2 ^ j : Nat) : Int) = z2 at HC2 ⊢
  refine (show Calls _ _ _ _ _ from HC2.out w2 HK2.out).mono ?_
  rintro e w3 ⟨B, d, rfl, hr, hd1, hd2, hk⟩
  have HK3 := Lib.hid hk
  have HR2 := Lib.hid (show ∀ w', Kp w3 w' → Row w' B (fun _ => True) (m.map (Value.int .i64)) from fun w' hk => (hr.mono fun _ _ _ => trivial).keep hk)
  clear hk hr HC2 HPW
  have hl5 := HLB.out
  have hm5 := HMB.out
  have hcs : ((l.length : Int) == 0) = true ∨ ((l.length : Int) == 0) = false := by cases ((l.length : Int) == 0) <;> simp
  rcases hcs with t0 | t0
  · go_wp2_with fail
    go_ret
    exact ⟨rfl, (HK2.out.trans HK3.out).below⟩
  · have hml : nodesB l = true := by
      rw [HLM.out]
      cases l with
      | nil => simp at t0
      | cons x l => rfl
    have hmm : nodesB m = true := by
      rw [HMM.out]
      have hin : ((j + 1 : Nat) : Int) ∈ m := (HSUB.out _).2 (.inr rfl)
      cases m with
      | nil => cases hin
      | cons x m => rfl
    have HRB := Lib.hid (ringB_of (e := 1) (by decide) (by decide) hml)
    have HRB2 := Lib.hid (ringB_of (e := 2) (by decide) (by decide) hmm)
    have HJ := Lib.hid (owner_join hml hmm HSUB.out h)
    have HX := Lib.hid (show ownerL l h ≠ ((j + 1 : Nat) : Int) from fun e => HNOT.out (by rw [← e]; exact owner_mem hml h))
    clear hml hmm HLM HMM HSUB HNOT HLB HMB
    go_wp2_with fail
    refine (S.new w w3 A c l 1 HT.out (HK2.out.trans HK3.out) (HR.out w3 HK3.out) hc1 hc2 HRB.out).mono ?_
    rintro e w4 ⟨r, F, rfl, hat, -, hk⟩
    have HK4 := Lib.hid hk
    have HA1 := Lib.hid (show ∀ w', Kp w4 w' → S.At w w' r F 1 l from fun w' hk => S.atK hat hk)
    clear hk hat
    go_wp2_with fail
    refine (S.new w w4 B d m 2 HT.out (HK2.out.trans (HK3.out.trans HK4.out)) (HR2.out w4 HK4.out) hd1 hd2 HRB2.out).mono ?_
    rintro e w5 ⟨r2, F2, rfl, hat, -, hk⟩
    have HK5 := Lib.hid hk
    have HA2 := Lib.hid (show ∀ w', Kp w5 w' → S.At w w' r2 F2 2 m from fun w' hk => S.atK hat hk)
    clear hk hat
    go_wp2_with fail
    refine (S.owner w w5 r F 1 l h HT.out (HA1.out w5 HK5.out) HH.out.1 HH.out.2).mono ?_
    rintro e w6 ⟨rfl, hk⟩
    have HK6 := Lib.hid hk
    clear hk
    generalize ownerL l h = x at HJ HX ⊢
    go_wp2_with fail
    refine (S.owner w w6 r2 F2 2 m h HT.out (HA2.out w6 HK6.out) HH.out.1 HH.out.2).mono ?_
    rintro e w7 ⟨rfl, hk⟩
    have HK7 := Lib.hid (HK2.out.trans (HK3.out.trans (HK4.out.trans (HK5.out.trans (HK6.out.trans hk)))))
    clear hk
    generalize ownerL m h = y at HJ ⊢
    have t1 : (x != (j : Int) + 1) = true := by simpa using HX.out
    have hcs : (y == x) = true ∨ (y == x) = false ∧ (y == (j : Int) + 1) = true := by
      rcases HJ.out with e | e
      · exact .inl (by simp [e])
      · cases hb : (y == x) with
        | true => exact .inl rfl
        | false => exact .inr ⟨rfl, by simp [e]⟩
    clear HJ HX
    rcases hcs with t2 | ⟨t2, t3⟩
    · go_wp2_with fail
      go_ret
      exact ⟨rfl, HK7.out.below⟩
    · go_wp2_with fail
      go_ret
      exact ⟨rfl, HK7.out.below⟩

end Go.Proofs.Ytonalhjhokkcmaa.ringJoin
