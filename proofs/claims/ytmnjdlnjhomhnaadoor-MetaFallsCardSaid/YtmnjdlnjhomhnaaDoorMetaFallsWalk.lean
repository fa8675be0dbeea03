/-
  THE WALK OF MetaFalls, whatever lies on a keeper's sectors.
-/
import Derived.Test.YtmnjdlnjhomhnaaDoorMtBegun
namespace Go.Proofs.YtmnjdlnjhomhnaaDoor.metaFalls
open Go Go.RowKit Go.Joins
theorem may_be {b e : Int} (h : 0 ≤ b ∧ b ≤ 100 ∧ 0 ≤ e ∧ e ≤ 100) : mayB ⟨b, e, 0, false⟩ = true := by
  have h1 : decide (0 ≤ b) = true := by simp; omega
  have h2 : decide (b ≤ 1099511627776) = true := by simp; omega
  have h3 : decide (0 ≤ e) = true := by simp; omega
  have h4 : decide (e ≤ 1099511627776) = true := by simp; omega
  simp [mayB, small12, h1, h2, h3, h4]
theorem fits_ {b e : Int} (h : 0 ≤ b ∧ b ≤ 100 ∧ 0 ≤ e ∧ e ≤ 100) : (⟨b, e, 0, false⟩ : M4).Fits := ⟨by simp only; omega, by simp only; omega, by simp only; omega, by simp only; omega, by simp only; omega, by simp only; omega⟩
set_option maxRecDepth 100000 in
set_option maxHeartbeats 4000000 in
theorem walk (S : MetaOK) (w : World) (hT : S.T w) (b e c d : Int) : Calls Tryd.prog 5 #[.int .i64 b, .int .i64 e, .int .i64 c, .int .i64 d] w fun e w' => e = .returned (.bool true) ∧ Below w.heap.size w w' := by
  have HT := Lib.hid hT
  clear hT
  have hcs : decide (b < 0) = true ∨ decide (b < 0) = false ∧ (decide (100 < b) = true ∨ decide (100 < b) = false ∧ (decide (e < 0) = true ∨ decide (e < 0) = false ∧ (decide (100 < e) = true ∨ decide (100 < e) = false ∧ (decide (c < 0) = true ∨ decide (c < 0) = false ∧ (decide (d < 0) = true ∨ decide (d < 0) = false ∧ (decide (100 < c) = true ∨ decide (100 < c) = false ∧ (decide (100 < d) = true ∨ decide (100 < d) = false ∧ (decide (c < b) = true ∨ decide (c < b) = false ∧ (decide (d < e) = true ∨ decide (d < e) = false))))))))) := by
    cases decide (b < 0) <;> cases decide (100 < b) <;> cases decide (e < 0) <;> cases decide (100 < e) <;> cases decide (c < 0) <;> cases decide (d < 0) <;> cases decide (100 < c) <;> cases decide (100 < d) <;> cases decide (c < b) <;> cases decide (d < e) <;> simp
  go_enter Tryd.func5, Tryd.ntmps5
  go_wp2_with fail
  refine (begun12 S w HT.out).mono ?_
  rintro e1 w1 ⟨rfl, hk⟩
  have HK1 := Lib.hid hk
  clear hk
  rcases hcs with t1 | ⟨t1, t2 | ⟨t2, t3 | ⟨t3, t4 | ⟨t4, t5 | ⟨t5, t6 | ⟨t6, t7 | ⟨t7, t8 | ⟨t8, hf⟩⟩⟩⟩⟩⟩⟩⟩
  all_goals (try (go_wp2_with fail; go_ret; exact ⟨rfl, HK1.out.below⟩))
  have hb : 0 ≤ b ∧ b ≤ 100 ∧ 0 ≤ e ∧ e ≤ 100 := by
    have := of_decide_eq_false t1; have := of_decide_eq_false t2; have := of_decide_eq_false t3; have := of_decide_eq_false t4; omega
  have hc : 0 ≤ c ∧ c ≤ 100 ∧ 0 ≤ d ∧ d ≤ 100 := by
    have := of_decide_eq_false t5; have := of_decide_eq_false t6; have := of_decide_eq_false t7; have := of_decide_eq_false t8; omega
  have HB := Lib.hid hb
  have HC := Lib.hid hc
  have HM := Lib.hid (may_be hb)
  have HN := Lib.hid (may_be hc)
  have HO := Lib.hid (show overB m0 ⟨b, e, 0, false⟩ = true by
    have h1 : decide (0 ≤ b) = true := by simp; omega
    have h2 : decide (0 ≤ e) = true := by simp; omega
    show (decide (0 ≤ b) && decide (0 ≤ e)) = true
    rw [h1, h2]; rfl)
  clear hb hc
  go_wp2_with fail
  refine (show Calls _ _ _ _ _ from S.new w w1 2 HT.out HK1.out (by decide) (by decide)).mono ?_
  rintro e1 w2 ⟨p, F, rfl, hd, -, -⟩
  have HD := Lib.hid hd
  clear hd HK1
  go_wp2_with fail
  refine (S.make w w2 p F 2 HT.out HD.out (by decide)).mono ?_
  rintro e1 w3 ⟨k, F3, rfl, ha, -, -⟩
  have HA := Lib.hid ha
  clear ha HD
  go_wp2_with fail
  refine (show Calls _ _ _ _ _ from S.save w w3 p k F3 0 m0 ⟨b, e, 0, false⟩ HT.out HA.out (by decide) (fits_ HB.out) (by rw [HM.out, HO.out]; rfl)).mono ?_
  rintro e1 w4 ⟨rfl, F4, ha, -, -⟩
  have HA4 := Lib.hid ha
  clear ha HA
  rcases hf with f1 | ⟨f1, f2 | f2⟩
  · have HS := Lib.hid (show overB ⟨b, e, 0, false⟩ ⟨c, d, 0, false⟩ = false by
      have := of_decide_eq_true f1
      have h1 : decide (b ≤ c) = false := by simp; omega
      simp [overB, h1])
    go_wp2_with fail
    refine (show Calls _ _ _ _ _ from S.saveNo w w4 p k F4 _ _ ⟨c, d, 0, false⟩ HT.out HA4.out (fits_ HC.out) (by rw [HN.out, HS.out]; rfl)).mono ?_
    rintro e1 w5 ⟨rfl, hk⟩
    have HA5 := Lib.hid (S.atK HA4.out hk)
    clear hk HA4
    go_wp2_with fail
    refine (show Calls _ _ _ _ (fun e1 w' => e1 = .returned (.agg #[.int .i64 b, .int .i64 e, .int .i64 0, .bool false]) ∧ Kp w5 w') from S.get w w5 p k F4 _ _ HT.out HA5.out).mono ?_
    rintro e1 w6 ⟨rfl, hk⟩
    have HK := Lib.hid ((S.atIn HA5.out).1.trans hk)
    clear hk HA5
    go_wp2_with fail
    go_ret
    exact ⟨rfl, (HK.out.alloc _).below⟩
  · have HS := Lib.hid (show overB ⟨b, e, 0, false⟩ ⟨c, d, 0, false⟩ = false by
      have := of_decide_eq_true f2
      have h1 : decide (e ≤ d) = false := by simp; omega
      simp [overB, h1])
    go_wp2_with fail
    refine (show Calls _ _ _ _ _ from S.saveNo w w4 p k F4 _ _ ⟨c, d, 0, false⟩ HT.out HA4.out (fits_ HC.out) (by rw [HN.out, HS.out]; rfl)).mono ?_
    rintro e1 w5 ⟨rfl, hk⟩
    have HA5 := Lib.hid (S.atK HA4.out hk)
    clear hk HA4
    go_wp2_with fail
    refine (show Calls _ _ _ _ (fun e1 w' => e1 = .returned (.agg #[.int .i64 b, .int .i64 e, .int .i64 0, .bool false]) ∧ Kp w5 w') from S.get w w5 p k F4 _ _ HT.out HA5.out).mono ?_
    rintro e1 w6 ⟨rfl, hk⟩
    have HK := Lib.hid ((S.atIn HA5.out).1.trans hk)
    clear hk HA5
    go_wp2_with fail
    go_ret
    exact ⟨rfl, (HK.out.alloc _).below⟩
  · have HS := Lib.hid (show overB ⟨b, e, 0, false⟩ ⟨c, d, 0, false⟩ = true by
      have := of_decide_eq_false f1
      have := of_decide_eq_false f2
      have h1 : decide (b ≤ c) = true := by simp; omega
      have h2 : decide (e ≤ d) = true := by simp; omega
      simp [overB, h1, h2])
    go_wp2_with fail
    refine (show Calls _ _ _ _ _ from S.save w w4 p k F4 _ _ ⟨c, d, 0, false⟩ HT.out HA4.out (by decide) (fits_ HC.out) (by rw [HN.out, HS.out]; rfl)).mono ?_
    rintro e1 w5 ⟨rfl, F5, ha, -, -⟩
    have HA5 := Lib.hid ha
    clear ha HA4
    go_wp2_with fail
    refine (show Calls _ _ _ _ (fun e1 w' => e1 = .returned (.agg #[.int .i64 c, .int .i64 d, .int .i64 0, .bool false]) ∧ Kp w5 w') from S.get w w5 p k F5 _ _ HT.out HA5.out).mono ?_
    rintro e1 w6 ⟨rfl, hk⟩
    have HK := Lib.hid ((S.atIn HA5.out).1.trans hk)
    clear hk HA5
    go_wp2_with fail
    go_ret
    exact ⟨rfl, (HK.out.alloc _).below⟩
end Go.Proofs.YtmnjdlnjhomhnaaDoor.metaFalls
