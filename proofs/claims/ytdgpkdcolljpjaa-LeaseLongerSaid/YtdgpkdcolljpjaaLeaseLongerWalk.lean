/-
  THE WALK OF LeaseLonger, however the program's leases are kept.
-/
import Derived.Test.YtdgpkdcolljpjaaLsBegun
import Derived.Lib.MinMax
namespace Go.Proofs.Ytdgpkdcolljpjaa.leaseLonger
open Go Go.RowKit Go.Joins

theorem first_at {a : Int} (h0 : 0 ≤ a) (h1 : a ≤ 15) : takeB 15 ls0 a 3 = true ∧ takeS 15 ls0 a 3 = ⟨a + 20, 3, 3⟩ := by
  have e : takeB 15 ls0 a 3 = true := by
    unfold takeB ls0
    rw [decide_eq_true h0, decide_eq_true h1, decide_eq_true (by omega : (15 : Int) < a + 20)]
    rfl
  exact ⟨e, by unfold takeS; rw [e]; rfl⟩
theorem again_at {a b : Int} (h0 : 0 ≤ b) (h1 : b ≤ 15) : takeS 15 ⟨a + 20, 3, 3⟩ b 3 = ⟨max a b + 20, 3, 3⟩ := by
  have e : takeB 15 ⟨a + 20, 3, 3⟩ b 3 = !decide (b ≤ a) := by
    unfold takeB
    rw [decide_eq_true h0, decide_eq_true h1, decide_eq_true (by omega : (15 : Int) < b + 20)]
    have e2 : decide (b + 20 ≤ a + 20) = decide (b ≤ a) := by rw [decide_eq_decide]; omega
    show (true && (true && (true && (true && (true && !(true && decide (b + 20 ≤ a + 20))))))) = _
    rw [e2]
    simp
  unfold takeS
  rw [e]
  by_cases h : b ≤ a
  · rw [decide_eq_true h, show max a b = a from by omega]; rfl
  · rw [decide_eq_false h, show max a b = b from by omega]; rfl
set_option maxRecDepth 100000 in
set_option maxHeartbeats 4000000 in
theorem walk {S : ClockOK} (L : LeaseOK S) (w : World) (a b x : Int) : Calls Try.prog 7 #[.int .i64 a, .int .i64 b, .int .i64 x] w fun e w' => e = .returned (.bool true) ∧ Below w.heap.size w w' := by
  go_enter Try.func7, Try.ntmps7
  go_wp2_with fail
  refine (begun17 L w).mono ?_
  rintro e w1 ⟨rfl, hk⟩
  have HK1 := Lib.hid hk
  clear hk
  have hcs : decide (a < 0) = true ∨ decide (a < 0) = false ∧ (decide ((15 : Int) < a) = true ∨ decide ((15 : Int) < a) = false ∧ (decide (b < 0) = true ∨ decide (b < 0) = false ∧ (decide ((15 : Int) < b) = true ∨ decide ((15 : Int) < b) = false ∧ (decide (x < 0) = true ∨ decide (x < 0) = false ∧ (decide ((40 : Int) < x) = true ∨ decide ((40 : Int) < x) = false))))) := by
    cases decide (a < 0) <;> cases decide ((15 : Int) < a) <;> cases decide (b < 0) <;> cases decide ((15 : Int) < b) <;> cases decide (x < 0) <;> cases decide ((40 : Int) < x) <;> simp
  rcases hcs with t0 | ⟨t0, t1 | ⟨t1, t2 | ⟨t2, t3 | ⟨t3, t4 | ⟨t4, t5 | t5⟩⟩⟩⟩⟩
  rotate_right 1
  · have ha0 : 0 ≤ a := by simpa using t0
    have ha1 : a ≤ 15 := by simpa using t1
    have hb0 : 0 ≤ b := by simpa using t2
    have hb1 : b ≤ 15 := by simpa using t3
    have hx0 : 0 ≤ x := by simpa using t4
    have hx1 : x ≤ 40 := by simpa using t5
    have HS1 := Lib.hid (first_at ha0 ha1)
    have HS2 := Lib.hid (again_at (a := a) hb0 hb1)
    obtain ⟨m, hm⟩ : ∃ m, max a b = m := ⟨_, rfl⟩
    have hm0 : 0 ≤ m ∧ m ≤ 15 := by omega
    rw [hm] at HS2
    go_wp2_with fail
    refine (lz_nil L HK1.out).mono ?_
    rintro e w2 ⟨l, c, F, Fc, rfl, hl⟩
    have HT := Lib.hid (lz_tick hl 15)
    rw [show tickZ 0 15 = 15 from by decide] at HT
    have c2 := hl.ptr
    clear hl HK1
    go_wp2_with fail
    refine (show Calls _ _ _ _ _ from HT.out).mono ?_
    rintro e w3 ⟨rfl, Fc3, hl3, -, -⟩
    have HTK := Lib.hid (lz_take hl3 a 3)
    rw [HS1.out.1, HS1.out.2] at HTK
    clear c2 hl3 HT HS1
    go_wp2_with fail
    refine (show Calls _ _ _ _ _ from HTK.out).mono ?_
    rintro e w4 ⟨rfl, F4, hl4, -, -⟩
    have HTK2 := Lib.hid (lz_take hl4 b 3)
    rw [HS2.out] at HTK2
    clear hl4 HTK HS2
    go_wp2_with fail
    refine (show Calls _ _ _ _ _ from HTK2.out).mono ?_
    rintro e w5 ⟨rfl, F5, hl5, -, -⟩
    have HL5 := Lib.hid hl5
    clear hl5 HTK2
    go_wp2_with fail
    refine (L.left w w5 l F5 c Fc3 15 ⟨m + 20, 3, 3⟩ HL5.out.at_ HL5.out.ck).mono ?_
    rw [show leftZ 15 ⟨m + 20, 3, 3⟩ = m + 5 from by unfold leftZ; show max 0 (m + 20 - 15) = m + 5; omega]
    rintro e w6 ⟨rfl, hk⟩
    have hl6 := HL5.out.keep hk
    have HT := Lib.hid (lz_tick hl6 x)
    rw [tick_by hx0 (by omega)] at HT
    have c6 := hl6.ptr
    clear hl6 hk HL5
    go_wp2_with fail
    refine (show Calls _ _ _ _ _ from HT.out).mono ?_
    rintro e w7 ⟨rfl, Fc7, hl7, -, -⟩
    have HL7 := Lib.hid hl7
    clear c6 hl7 HT
    obtain ⟨g, hg⟩ : ∃ g, decide (15 + x < m + 20) = g := ⟨_, rfl⟩
    have HG := Lib.hid (show goodB (15 + x) ⟨m + 20, 3, 3⟩ 3 = g from hg)
    have v1 : (g == g) = true := by simp
    have v2 : (m + 5 == m + 20 - 15) = true := by simp; omega
    go_wp2_with fail
    refine (L.good w w7 l F5 c Fc7 _ _ 3 HL7.out.at_ HL7.out.ck).mono ?_
    rw [HG.out]
    rintro e w8 ⟨rfl, hk⟩
    have HK8 := Lib.hid (HL7.out.kp.trans hk)
    clear hk
    go_wp2_with fail
    go_ret
    exact ⟨rfl, HK8.out.below⟩
  all_goals (
    go_wp2_with fail
    go_ret
    exact ⟨rfl, HK1.out.below⟩)

end Go.Proofs.Ytdgpkdcolljpjaa.leaseLonger
