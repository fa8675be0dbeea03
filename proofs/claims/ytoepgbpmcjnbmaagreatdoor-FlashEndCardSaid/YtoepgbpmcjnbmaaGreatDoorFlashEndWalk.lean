/-
  FlashEnd, walked over what a cache keeps.
-/
import Derived.Test.YtoepgbpmcjnbmaaGreatDoorFlashBegun
namespace Go.Proofs.YtoepgbpmcjnbmaaGreatDoor.flashEnd
open Go Go.RowKit Go.Joins
def iE (t : Int) : It := ⟨⟨#[107]⟩, ⟨#[118]⟩, t, false⟩
theorem iE_may (t : Int) (h0 : 0 ≤ t) (h1 : t ≤ 1099511627776) : (iE t).may = true := by
  have a1 : (⟨#[107]⟩ : ByteArray).size = 1 := by decide
  have a2 : (⟨#[118]⟩ : ByteArray).size = 1 := by decide
  simp [It.may, iE, a1, a2, h0, h1]
theorem fcost_iE (t : Int) : fcosts [⟨iE t, 0⟩] = 82 := by
  have : fcosts [⟨iE t, 0⟩] = (iE t).key.size + (iE t).val.size + 80 + 400 * 0 := by simp [fcosts, FEnt.cost]
  rw [this]
  have a1 : (iE t).key.size = 1 := rfl
  have a2 : (iE t).val.size = 1 := rfl
  omega
def stE (t : Int) (a : Nat) : FSt := ⟨0, 10, [⟨iE t, 0⟩], 0, a⟩
theorem getE_E (t now : Int) (a : Nat) (h0 : 0 ≤ t) (h1 : t ≤ 1099511627776) : getE (stE t a) ⟨#[107]⟩ now = if (decide (t = 0) || decide (now < t)) = true then .returned (.tuple #[.agg #[.string ⟨#[107]⟩, .string ⟨#[118]⟩, .int .i64 t, .bool false], .bool true]) else .returned (.tuple #[.agg #[.string ⟨#[]⟩, .string ⟨#[]⟩, .int .i64 0, .bool false], .bool false]) := by
  have e : (stE t a).at_ ⟨#[107]⟩ = some (iE t) := rfl
  have hl : (iE t).live now = (decide (t = 0) || decide (now < t)) := by
    unfold It.live
    rw [iE_may t h0 h1]
    show (true && !false && (decide (t = 0) || decide (now < t))) = _
    simp
  unfold getE
  rw [e]
  show (if (iE t).live now = true then _ else _) = _
  rw [hl]
  rfl
theorem keys_E (t : Int) (a : Nat) {ks : List ByteArray} (hm : ∀ k, k ∈ ks ↔ ((stE t a).at_ k).isSome = true) (k : ByteArray) : k ∈ ks ↔ k = ⟨#[107]⟩ := by
  rw [hm k]
  constructor
  · intro h
    refine Classical.byContradiction fun hne => ?_
    have h2 : isKF k ⟨iE t, 0⟩ = false := by
      cases h3 : isKF k ⟨iE t, 0⟩ with
      | false => rfl
      | true => exact absurd (isKF_iff.1 h3).symm hne
    unfold FSt.at_ fLast at h
    simp [stE, List.find?, h2] at h
  · rintro rfl
    rfl
set_option maxRecDepth 100000 in
set_option maxHeartbeats 1000000 in
theorem walk (S : FlashOK) (w : World) (hT : S.T w) (t now : Int) (h8 : -9223372036854775808 ≤ now) (h9 : now < 9223372036854775808) : Calls Tryz.prog 7 #[.int .i64 t, .int .i64 now] w fun e w' => e = .returned (.bool true) ∧ Below w.heap.size w w' := by
  have HT := Lib.hid hT
  clear hT
  have hcs : (decide (t < 0) = true) ∨ (decide (t < 0) = false ∧ decide (1099511627776 < t) = true) ∨ (decide (t < 0) = false ∧ decide (1099511627776 < t) = false) := by
    cases decide (t < 0) <;> cases decide (1099511627776 < t) <;> simp
  go_enter Tryz.func7, Tryz.ntmps7
  go_wp2_with fail
  refine (show Calls _ _ _ _ _ from begun9 S w HT.out).mono ?_
  rintro e w1 ⟨rfl, hk⟩
  have K1 := Lib.hid hk
  clear hk
  rcases hcs with c1 | ⟨c1, c2⟩ | ⟨c1, c2⟩
  · go_wp2_with fail
    go_ret
    exact ⟨rfl, K1.out.below⟩
  · go_wp2_with fail
    go_ret
    exact ⟨rfl, K1.out.below⟩
  · have t0 : 0 ≤ t := by have := of_decide_eq_false c1; omega
    have t1 : t ≤ 1099511627776 := by have := of_decide_eq_false c2; omega
    go_wp2_with fail
    refine (show Calls _ _ _ _ _ from fo_dev (X := fun _ => False) K1.out (fun _ h => h.elim) 80 (by decide) (by decide) 80 rfl).mono ?_
    rintro e w2 ⟨p, rfl, hB, -⟩
    have HB := Lib.hid hB
    clear hB K1
    go_wp2_with fail
    refine (show Calls _ _ _ _ _ from fo_open HT.out HB.out 0 10 0 10 rfl rfl (by decide) (by decide) (by decide)).mono ?_
    rintro e w3 ⟨q, rfl, hF, -⟩
    have HF := Lib.hid hF
    clear hF HB
    go_wp2_with fail
    refine (show Calls _ _ _ _ _ from fo_put HT.out HF.out (by decide) (iE t) (iE_may t t0 t1) rfl).mono ?_
    rintro e w4 ⟨rfl, g, -, hF, -⟩
    have hF : Fo S w w4 p q ⟨0, 10, [⟨iE t, 0⟩], g, 2⟩ false (fun _ => False) := hF
    have hg : g = 0 := hF.wf.whole (by show fcosts [⟨iE t, 0⟩] ≤ 200 * (10 - 2); rw [fcost_iE]; decide)
    subst hg
    have HF4 := Lib.hid (show Fo S w w4 p q (stE t 2) false (fun _ => False) from hF)
    clear hF HF
    have hc2 : (decide (t = 0) = true) ∨ (decide (t = 0) = false ∧ decide (now < t) = true) ∨ (decide (t = 0) = false ∧ decide (now < t) = false) := by
      cases decide (t = 0) <;> cases decide (now < t) <;> simp
    rcases hc2 with e1 | ⟨e1, e2⟩ | ⟨e1, e2⟩
    · have hc : (decide (t = 0) || decide (now < t)) = true := by rw [e1]; rfl
      have tz : t = 0 := of_decide_eq_true e1
      have tb : (t == 0) = true := by rw [beq_iff_eq]; exact tz
      clear e1 c1 c2
      go_wp2_with fail
      refine (show Calls _ _ _ _ _ from fo_get HT.out HF4.out ⟨#[107]⟩ now (by decide) h8 h9 _ (by rw [getE_E t now 2 t0 t1, if_pos hc])).mono ?_
      rintro e w5 ⟨rfl, -, hF⟩
      have HF5 := Lib.hid hF
      clear hF HF4
      go_wp2_with fail
      refine (show Calls _ _ _ _ _ from fo_keys HT.out (HF5.out.keep ((Keeps.refl (fun _ => True) w5).alloc _))).mono ?_
      rintro e w6 ⟨A, c, ks, rfl, hr, hm, -, -, hF⟩
      have hks := rising_single hr (keys_E t 2 hm)
      subst hks
      have HK := Lib.hid hF.kp
      clear hF HF5 hr hm
      go_wp2_with fail
      go_ret
      exact ⟨rfl, HK.out.below⟩
    · have hc : (decide (t = 0) || decide (now < t)) = true := by rw [e1, e2]; rfl
      have tb : (t == 0) = false := by rw [beq_eq_false_iff_ne]; exact of_decide_eq_false e1
      have tn := of_decide_eq_true e2
      clear e1 c1 c2
      go_wp2_with fail
      refine (show Calls _ _ _ _ _ from fo_get HT.out HF4.out ⟨#[107]⟩ now (by decide) h8 h9 _ (by rw [getE_E t now 2 t0 t1, if_pos hc])).mono ?_
      rintro e w5 ⟨rfl, -, hF⟩
      have HF5 := Lib.hid hF
      clear hF HF4
      go_wp2_with fail
      refine (show Calls _ _ _ _ _ from fo_keys HT.out (HF5.out.keep ((Keeps.refl (fun _ => True) w5).alloc _))).mono ?_
      rintro e w6 ⟨A, c, ks, rfl, hr, hm, -, -, hF⟩
      have hks := rising_single hr (keys_E t 2 hm)
      subst hks
      have HK := Lib.hid hF.kp
      clear hF HF5 hr hm
      go_wp2_with fail
      go_ret
      exact ⟨rfl, HK.out.below⟩
    · have hc : ¬ (decide (t = 0) || decide (now < t)) = true := by rw [e1, e2]; decide
      have tb : (t == 0) = false := by rw [beq_eq_false_iff_ne]; exact of_decide_eq_false e1
      have tn := of_decide_eq_false e2
      clear e1 c1 c2
      go_wp2_with fail
      refine (show Calls _ _ _ _ _ from fo_get HT.out HF4.out ⟨#[107]⟩ now (by decide) h8 h9 _ (by rw [getE_E t now 2 t0 t1, if_neg hc])).mono ?_
      rintro e w5 ⟨rfl, -, hF⟩
      have HF5 := Lib.hid hF
      clear hF HF4
      go_wp2_with fail
      refine (show Calls _ _ _ _ _ from fo_keys HT.out (HF5.out.keep ((Keeps.refl (fun _ => True) w5).alloc _))).mono ?_
      rintro e w6 ⟨A, c, ks, rfl, hr, hm, -, -, hF⟩
      have hks := rising_single hr (keys_E t 2 hm)
      subst hks
      have HK := Lib.hid hF.kp
      clear hF HF5 hr hm
      go_wp2_with fail
      go_ret
      exact ⟨rfl, HK.out.below⟩
end Go.Proofs.YtoepgbpmcjnbmaaGreatDoor.flashEnd
