/-
  THE WALK OF LeaseElder, however the program's leases are kept.
-/
import Derived.Test.YtdgpkdcolljpjaaLsBegun
namespace Go.Proofs.Ytdgpkdcolljpjaa.leaseElder
open Go Go.RowKit Go.Joins

set_option maxRecDepth 100000 in
set_option maxHeartbeats 4000000 in
theorem walk {S : ClockOK} (L : LeaseOK S) (w : World) (x : Int) (d : Bool) : Calls Try.prog 8 #[.int .i64 x, .bool d] w fun e w' => e = .returned (.bool true) ∧ Below w.heap.size w w' := by
  go_enter Try.func8, Try.ntmps8
  go_wp2_with fail
  refine (begun17 L w).mono ?_
  rintro e w1 ⟨rfl, hk⟩
  have HK1 := Lib.hid hk
  clear hk
  have hcs : decide (x < 0) = true ∨ decide (x < 0) = false ∧ (decide ((50 : Int) < x) = true ∨ decide ((50 : Int) < x) = false) := by
    cases decide (x < 0) <;> cases decide ((50 : Int) < x) <;> simp
  rcases hcs with t0 | ⟨t0, t1 | t1⟩
  · go_wp2_with fail
    go_ret
    exact ⟨rfl, HK1.out.below⟩
  · go_wp2_with fail
    go_ret
    exact ⟨rfl, HK1.out.below⟩
  · have hx0 : 0 ≤ x := by simpa using t0
    have hx1 : x ≤ 50 := by simpa using t1
    go_wp2_with fail
    refine (lz_nil L HK1.out).mono ?_
    rintro e w2 ⟨l, c, F, Fc, rfl, hl⟩
    have HTK := Lib.hid (lz_take hl 0 5)
    rw [show takeB 0 ls0 0 5 = true from by decide, show takeS 0 ls0 0 5 = ⟨20, 5, 5⟩ from by decide] at HTK
    clear hl HK1
    go_wp2_with fail
    refine (show Calls _ _ _ _ _ from HTK.out).mono ?_
    rintro e w3 ⟨rfl, F3, hl3, -, -⟩
    have HT := Lib.hid (lz_tick hl3 x)
    rw [tick_by hx0 (by omega), Int.zero_add] at HT
    have c3 := hl3.ptr
    clear hl3 HTK
    go_wp2_with fail
    refine (show Calls _ _ _ _ _ from HT.out).mono ?_
    rintro e w4 ⟨rfl, Fc4, hl4, -, -⟩
    have HL4 := Lib.hid hl4
    clear c3 hl4 HT
    cases d with
    | true =>
      have HD := Lib.hid (lz_drop HL4.out)
      clear HL4
      go_wp2_with fail
      refine (show Calls _ _ _ _ _ from HD.out).mono ?_
      rintro e w5 ⟨rfl, F5, hl5, -, -⟩
      have HL5 := Lib.hid hl5
      clear hl5 HD
      go_wp2_with fail
      refine (L.ask w w5 l F5 c Fc4 x ls0 HL5.out.at_ HL5.out.ck).mono ?_
      rintro e w6 ⟨rfl, hk⟩
      have HTK := Lib.hid (lz_take (HL5.out.keep hk) x 4)
      have e1 : takeB x ls0 x 4 = true := by
        unfold takeB ls0
        rw [decide_eq_true hx0, decide_eq_true (Int.le_refl x), decide_eq_true (by omega : x < x + 20)]
        rfl
      rw [e1, show takeS x ls0 x 4 = ⟨x + 20, 4, 4⟩ from by unfold takeS; rw [e1]; rfl] at HTK
      clear hk HL5 e1
      go_wp2_with fail
      refine (show Calls _ _ _ _ _ from HTK.out).mono ?_
      rintro e w7 ⟨rfl, F7, hl7, -, -⟩
      have HL7 := Lib.hid (show ∀ w', Kp w7 w' → Lz L w w' l c x ⟨x + 20, 4, 4⟩ F7 Fc4 from fun w' hk => hl7.keep hk)
      clear hl7 HTK
      go_wp2_with fail
      refine (L.good w w7 l F7 c Fc4 x ⟨x + 20, 4, 4⟩ 4 (HL7.out w7 (Keeps.refl _ _)).at_ (HL7.out w7 (Keeps.refl _ _)).ck).mono ?_
      rw [show goodB x ⟨x + 20, 4, 4⟩ 4 = true from by unfold goodB; rw [decide_eq_true (by omega : x < x + 20)]; rfl]
      rintro e w8 ⟨rfl, hk⟩
      have HK8 := Lib.hid hk
      clear hk
      go_wp2_with fail
      refine (L.good w w8 l F7 c Fc4 x ⟨x + 20, 4, 4⟩ 5 (HL7.out w8 HK8.out).at_ (HL7.out w8 HK8.out).ck).mono ?_
      rw [show goodB x ⟨x + 20, 4, 4⟩ 5 = false from rfl]
      rintro e w9 ⟨rfl, hk⟩
      have HK9 := Lib.hid ((HL7.out w8 HK8.out).kp.trans hk)
      clear hk
      go_wp2_with fail
      go_ret
      exact ⟨rfl, HK9.out.below⟩
    | false =>
      go_wp2_with fail
      refine (L.ask w w4 l F3 c Fc4 x ⟨20, 5, 5⟩ HL4.out.at_ HL4.out.ck).mono ?_
      rintro e w6 ⟨rfl, hk⟩
      have HTK := Lib.hid (lz_take (HL4.out.keep hk) x 4)
      have e1 : takeB x ⟨20, 5, 5⟩ x 4 = false := by
        unfold takeB
        cases decide (0 ≤ x) <;> cases decide (x ≤ x) <;> cases decide (x < x + 20) <;> rfl
      rw [e1, show takeS x ⟨20, 5, 5⟩ x 4 = ⟨20, 5, 5⟩ from by unfold takeS; rw [e1]; rfl] at HTK
      clear hk HL4 e1
      go_wp2_with fail
      refine (show Calls _ _ _ _ _ from HTK.out).mono ?_
      rintro e w7 ⟨rfl, F7, hl7, -, -⟩
      have HL7 := Lib.hid (show ∀ w', Kp w7 w' → Lz L w w' l c x ⟨20, 5, 5⟩ F7 Fc4 from fun w' hk => hl7.keep hk)
      clear hl7 HTK
      go_wp2_with fail
      refine (L.good w w7 l F7 c Fc4 x ⟨20, 5, 5⟩ 4 (HL7.out w7 (Keeps.refl _ _)).at_ (HL7.out w7 (Keeps.refl _ _)).ck).mono ?_
      rw [show goodB x ⟨20, 5, 5⟩ 4 = false from rfl]
      rintro e w8 ⟨rfl, hk⟩
      have HK8 := Lib.hid hk
      clear hk
      go_wp2_with fail
      refine (L.good w w8 l F7 c Fc4 x ⟨20, 5, 5⟩ 5 (HL7.out w8 HK8.out).at_ (HL7.out w8 HK8.out).ck).mono ?_
      rw [show goodB x ⟨20, 5, 5⟩ 5 = decide (x < 20) from rfl]
      rintro e w9 ⟨rfl, hk⟩
      have HK9 := Lib.hid ((HL7.out w8 HK8.out).kp.trans hk)
      clear hk
      obtain ⟨b, hb⟩ : ∃ b, decide (x < 20) = b := ⟨_, rfl⟩
      rw [hb]
      have v1 : (b == b) = true := by simp
      go_wp2_with fail
      go_ret
      exact ⟨rfl, HK9.out.below⟩

end Go.Proofs.Ytdgpkdcolljpjaa.leaseElder
