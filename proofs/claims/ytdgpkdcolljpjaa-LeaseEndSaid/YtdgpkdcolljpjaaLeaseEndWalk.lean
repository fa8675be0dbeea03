/-
  THE WALK OF LeaseEnd, however the program's leases are kept.
-/
import Derived.Test.YtdgpkdcolljpjaaLsBegun
import Derived.Lib.MinMax
namespace Go.Proofs.Ytdgpkdcolljpjaa.leaseEnd
open Go Go.RowKit Go.Joins

theorem bit_any (w : World) (b : Bool) : Calls Try.prog 23 #[.bool b] w fun e w' => e = .returned (.int .i64 (if b then 1 else 0)) ∧ w = w' := by
  cases b with
  | true =>
    go_enter Try.func23, Try.ntmps23
    go_wp2_with fail
    go_ret
    exact ⟨rfl, rfl⟩
  | false =>
    go_enter Try.func23, Try.ntmps23
    go_wp2_with fail
    go_ret
    exact ⟨rfl, rfl⟩
theorem take_at {a b : Int} (ha : 0 ≤ a) (hb : 0 ≤ b) : takeB (a + b) ls0 a 7 = decide (b < 20) := by
  unfold takeB ls0
  rw [decide_eq_true ha, decide_eq_true (by omega : a ≤ a + b)]
  have e : decide (a + b < a + 20) = decide (b < 20) := by rw [decide_eq_decide]; omega
  rw [e]
  cases decide (b < 20) <;> rfl
set_option maxRecDepth 100000 in
set_option maxHeartbeats 4000000 in
theorem walk {S : ClockOK} (L : LeaseOK S) (w : World) (x y z : Int) : Calls Try.prog 4 #[.int .i64 x, .int .i64 y, .int .i64 z] w fun e w' => e = .returned (.bool true) ∧ Below w.heap.size w w' := by
  go_enter Try.func4, Try.ntmps4
  go_wp2_with fail
  refine (begun17 L w).mono ?_
  rintro e w1 ⟨rfl, hk⟩
  have HK1 := Lib.hid hk
  clear hk
  have hcs : decide (x < 0) = true ∨ decide (x < 0) = false ∧ (decide ((1000 : Int) < x) = true ∨ decide ((1000 : Int) < x) = false ∧ (decide (y < 0) = true ∨ decide (y < 0) = false ∧ (decide ((100 : Int) < y) = true ∨ decide ((100 : Int) < y) = false ∧ (decide (z < 0) = true ∨ decide (z < 0) = false ∧ (decide ((100 : Int) < z) = true ∨ decide ((100 : Int) < z) = false))))) := by
    cases decide (x < 0) <;> cases decide ((1000 : Int) < x) <;> cases decide (y < 0) <;> cases decide ((100 : Int) < y) <;> cases decide (z < 0) <;> cases decide ((100 : Int) < z) <;> simp
  rcases hcs with t0 | ⟨t0, t1 | ⟨t1, t2 | ⟨t2, t3 | ⟨t3, t4 | ⟨t4, t5 | t5⟩⟩⟩⟩⟩
  rotate_right 1
  · have hx0 : 0 ≤ x := by simpa using t0
    have hx1 : x ≤ 1000 := by simpa using t1
    have hy0 : 0 ≤ y := by simpa using t2
    have hy1 : y ≤ 100 := by simpa using t3
    have hz0 : 0 ≤ z := by simpa using t4
    have hz1 : z ≤ 100 := by simpa using t5
    go_wp2_with fail
    refine (lz_nil L HK1.out).mono ?_
    rintro e w2 ⟨l, c, F, Fc, rfl, hl⟩
    have HT := Lib.hid (lz_tick hl x)
    rw [tick_by hx0 (by omega), Int.zero_add] at HT
    have c2 := hl.ptr
    clear hl HK1
    go_wp2_with fail
    refine (show Calls _ _ _ _ _ from HT.out).mono ?_
    rintro e w3 ⟨rfl, Fc3, hl3, -, -⟩
    have HL3 := Lib.hid hl3
    clear c2 hl3 HT
    go_wp2_with fail
    refine (L.ask w w3 l F c Fc3 x ls0 HL3.out.at_ HL3.out.ck).mono ?_
    rintro e w4 ⟨rfl, hk⟩
    have hl4 := HL3.out.keep hk
    have HT := Lib.hid (lz_tick hl4 y)
    rw [tick_by hy0 (by omega)] at HT
    have c4 := hl4.ptr
    clear hl4 hk HL3
    go_wp2_with fail
    refine (show Calls _ _ _ _ _ from HT.out).mono ?_
    rintro e w5 ⟨rfl, Fc5, hl5, -, -⟩
    have HTK := Lib.hid (lz_take hl5 x 7)
    have HTB := Lib.hid (take_at hx0 hy0)
    clear c4 hl5 HT
    obtain ⟨f, hf⟩ : ∃ f, decide (y < 20) = f := ⟨_, rfl⟩
    have HY := Lib.hid hf
    rw [HTB.out, hf] at HTK
    have v1 : (f != f) = false := by simp
    clear hf
    go_wp2_with fail
    refine (show Calls _ _ _ _ _ from HTK.out).mono ?_
    rintro e w6 ⟨rfl, F6, hl6, -, -⟩
    have HT := Lib.hid (lz_tick hl6 z)
    rw [tick_by hz0 (by omega)] at HT
    have c6 := hl6.ptr
    have hy := HY.out
    clear hl6 HTK
    go_wp2_with fail
    refine (show Calls _ _ _ _ _ from HT.out).mono ?_
    rintro e w7 ⟨rfl, Fc7, hl7, -, -⟩
    clear c6 HT
    cases f with
    | true =>
      have hS : takeS (x + y) ls0 x 7 = ⟨x + 20, 7, 7⟩ := by unfold takeS; rw [HTB.out, hy]; rfl
      rw [hS] at hl7
      have HL7 := Lib.hid (show ∀ w', Kp w7 w' → Lz L w w' l c (x + y + z) ⟨x + 20, 7, 7⟩ F6 Fc7 from fun w' hk => hl7.keep hk)
      clear hl7 hS HTB HY
      obtain ⟨g, hg⟩ : ∃ g, decide (y + z < 20) = g := ⟨_, rfl⟩
      have hg2 : goodB (x + y + z) ⟨x + 20, 7, 7⟩ 7 = g := by
        rw [← hg]
        unfold goodB
        have e : decide (x + y + z < x + 20) = decide (y + z < 20) := by rw [decide_eq_decide]; omega
        rw [e]
        cases decide (y + z < 20) <;> rfl
      have hl2 : leftZ (x + y + z) ⟨x + 20, 7, 7⟩ = max 0 (20 - y - z) := by unfold leftZ; congr 1; show x + 20 - (x + y + z) = _; omega
      obtain ⟨m, hm⟩ : ∃ m, max 0 (20 - y - z) = m := ⟨_, rfl⟩
      have hm2 : 0 ≤ m ∧ m ≤ 20 := by omega
      have HG2 := Lib.hid hg2
      have HL2 := Lib.hid (hl2.trans hm)
      have v2 : (g == g) = true := by simp
      have v3 : (m == m) = true := by simp
      clear hg2 hl2
      go_wp2_with fail
      refine (L.good w w7 l F6 c Fc7 _ _ 7 (HL7.out w7 (Keeps.refl _ _)).at_ (HL7.out w7 (Keeps.refl _ _)).ck).mono ?_
      rw [HG2.out]
      rintro e w8 ⟨rfl, hk⟩
      have HK8 := Lib.hid hk
      clear hk
      go_wp2_with fail
      refine (L.left w w8 l F6 c Fc7 _ _ (HL7.out w8 HK8.out).at_ (HL7.out w8 HK8.out).ck).mono ?_
      rw [HL2.out]
      rintro e w9 ⟨rfl, hk⟩
      have HK9 := Lib.hid (HK8.out.trans hk)
      clear hk
      go_wp2_with fail
      refine (bit_any w9 _).mono ?_
      rintro e w10 ⟨rfl, rfl⟩
      go_wp2_with fail
      go_ret
      exact ⟨rfl, (HL7.out w9 HK9.out).kp.below⟩
    | false =>
      have hS : takeS (x + y) ls0 x 7 = ls0 := by unfold takeS; rw [HTB.out, hy]; rfl
      rw [hS] at hl7
      have HL7 := Lib.hid (show ∀ w', Kp w7 w' → Lz L w w' l c (x + y + z) ls0 F6 Fc7 from fun w' hk => hl7.keep hk)
      clear hl7 hS HTB HY
      have HL2 := Lib.hid (show leftZ (x + y + z) ls0 = 0 from by unfold leftZ ls0; show max 0 (0 - (x + y + z)) = 0; omega)
      have hm2 : 0 ≤ max 0 (20 - y - z) ∧ max 0 (20 - y - z) ≤ 20 := by omega
      go_wp2_with fail
      refine (L.good w w7 l F6 c Fc7 _ _ 7 (HL7.out w7 (Keeps.refl _ _)).at_ (HL7.out w7 (Keeps.refl _ _)).ck).mono ?_
      rw [show goodB (x + y + z) ls0 7 = false from rfl]
      rintro e w8 ⟨rfl, hk⟩
      have HK8 := Lib.hid hk
      clear hk
      go_wp2_with fail
      refine (L.left w w8 l F6 c Fc7 _ _ (HL7.out w8 HK8.out).at_ (HL7.out w8 HK8.out).ck).mono ?_
      rw [HL2.out]
      rintro e w9 ⟨rfl, hk⟩
      have HK9 := Lib.hid (HK8.out.trans hk)
      clear hk
      go_wp2_with fail
      refine (bit_any w9 _).mono ?_
      rintro e w10 ⟨rfl, rfl⟩
      go_wp2_with fail
      go_ret
      exact ⟨rfl, (HL7.out w9 HK9.out).kp.below⟩
  all_goals (
    go_wp2_with fail
    go_ret
    exact ⟨rfl, HK1.out.below⟩)

end Go.Proofs.Ytdgpkdcolljpjaa.leaseEnd
