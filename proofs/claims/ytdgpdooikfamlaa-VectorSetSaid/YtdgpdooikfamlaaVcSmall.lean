/-
  THE PROGRAM's VECTORS, the small functions: isNode, fits, Get, Set, Has (layer 11).
-/
import Derived.Test.YtdgpdooikfamlaaVcBegun
namespace Go.Proofs.Ytdgpdooikfamlaa
open Go Go.RowKit Go.Joins

theorem isnode_any (w : World) (z : Int) : Calls Try.prog 25 #[.int .i64 z] w fun e w' => e = .returned (.bool (isNode z)) ∧ Kp w w' := by
  have hcase : (decide ((1 : Int) ≤ z) = true ∧ decide (z ≤ (5 : Int)) = true) ∨ (decide ((1 : Int) ≤ z) = true ∧ decide (z ≤ (5 : Int)) = false) ∨ decide ((1 : Int) ≤ z) = false := by
    cases h1 : decide ((1 : Int) ≤ z) <;> cases h2 : decide (z ≤ (5 : Int)) <;> simp
  rcases hcase with ⟨t1, t2⟩ | ⟨t1, t2⟩ | t1
  · have HE := Lib.hid (show isNode z = true from by unfold isNode; rw [t1, t2]; rfl)
    go_enter Try.func25, Try.ntmps25
    go_wp2_with fail
    go_ret
    exact ⟨by rw [HE.out]; rfl, Keeps.refl _ _⟩
  · have HE := Lib.hid (show isNode z = false from by unfold isNode; rw [t1, t2]; rfl)
    go_enter Try.func25, Try.ntmps25
    go_wp2_with fail
    go_ret
    exact ⟨by rw [HE.out]; rfl, Keeps.refl _ _⟩
  · have HE := Lib.hid (show isNode z = false from by unfold isNode; rw [t1]; rfl)
    go_enter Try.func25, Try.ntmps25
    go_wp2_with fail
    go_ret
    exact ⟨by rw [HE.out]; rfl, Keeps.refl _ _⟩

/-- Are a vector's five numbers all from 0 to 2^40? -/
def fitsB (f : Nat → Int) : Bool := (List.range 5).all fun i => decide (0 ≤ f (i + 1)) && decide (f (i + 1) ≤ 1099511627776)
theorem fitsB_iff {f : Nat → Int} : fitsB f = true ↔ ∀ i, i < 5 → 0 ≤ f (i + 1) ∧ f (i + 1) ≤ 1099511627776 := by simp [fitsB]
theorem fits_small {f : Nat → Int} (hf : VOk f) : fitsB f = smallB f := by
  have h : fitsB f = true ↔ smallB f = true := by
    rw [fitsB_iff, smallB_iff]
    constructor
    · intro h i hi
      cases i with
      | zero => rw [hf.zero]; decide
      | succ i => exact (h i (by omega)).2
    · intro h i hi
      exact ⟨hf.low _, h _ (by omega)⟩
  cases h1 : fitsB f <;> cases h2 : smallB f <;> simp_all
set_option maxHeartbeats 1000000 in
theorem fits_any (w : World) (f : Nat → Int) : Calls Try.prog 26 #[vagg f] w fun e w' => e = .returned (.bool (fitsB f)) ∧ Kp w w' := by
  have HW := Lib.hid (show ∀ w2, w2 = w.alloc (.cells (vcells f) 26) → VBlk w2 w.heap.size 26 f ∧ Kp w w2 from by
    rintro w2 rfl
    exact ⟨heap_alloc_new w _, (Keeps.refl _ _).alloc _⟩)
  unfold vagg
  unfold vcells at HW
  unfold vcells
  go_enter Try.func26, Try.ntmps26
  go_wp2_with fail
  obtain ⟨a1, a2⟩ := HW.out _ rfl
  have H0 := Lib.hid a1
  have HK := Lib.hid a2
  clear a1 a2 HW
  obtain ⟨q, hq⟩ : ∃ q, w.heap.size = q := ⟨_, rfl⟩
  rw [hq] at H0 ⊢
  clear hq
  go_loopw [7] (fun i wr => ∃ k : Nat, k ≤ 5 ∧ i = .int .i64 (k : Int) ∧ Hid (∀ j, j < k → 0 ≤ f (j + 1) ∧ f (j + 1) ≤ 1099511627776) ∧ Hid (VBlk wr q 26 f) ∧ Hid (Kp w wr)) (fun i _ => 5 - (intOf i).toNat)
  case atStart => exact ⟨0, by omega, rfl, Lib.hid (fun j hj => absurd hj (Nat.not_lt_zero _)), H0, HK⟩
  case round =>
    clear H0 HK
    obtain ⟨k, hk, rfl, HALL, H0, HK⟩ := hrel
    by_cases hk5 : k < 5
    · have hkI : (k : Int) < 5 := by omega
      have c0 := H0.out.at_ (1 + k) (by omega)
      have hcase : (decide (f (1 + k) < 0) = true) ∨ (decide (f (1 + k) < 0) = false ∧ decide ((1099511627776 : Int) < f (1 + k)) = true) ∨ (decide (f (1 + k) < 0) = false ∧ decide ((1099511627776 : Int) < f (1 + k)) = false) := by
        cases h1 : decide (f (1 + k) < 0) <;> cases h2 : decide ((1099511627776 : Int) < f (1 + k)) <;> simp
      have HNO := Lib.hid (show ¬ (0 ≤ f (1 + k) ∧ f (1 + k) ≤ 1099511627776) → fitsB f = false from fun hn => by
        rw [Bool.eq_false_iff]
        intro h
        have := fitsB_iff.1 h k hk5
        rw [Nat.add_comm k 1] at this
        exact hn this)
      have HYES := Lib.hid (show (0 ≤ f (1 + k) ∧ f (1 + k) ≤ 1099511627776) → ∀ j, j < k + 1 → 0 ≤ f (j + 1) ∧ f (j + 1) ≤ 1099511627776 from fun hy j hj => by
        rcases Nat.lt_or_ge j k with h | h
        · exact HALL.out j h
        · obtain rfl : j = k := by omega
          rw [Nat.add_comm j 1]
          exact hy)
      rcases hcase with t1 | ⟨t1, t2⟩ | ⟨t1, t2⟩
      · have HE := Lib.hid (HNO.out (by simp at t1; omega))
        generalize f (1 + k) = x at c0 t1
        clear HNO HYES
        go_wp2_with fail
        go_ret
        exact ⟨by rw [HE.out]; rfl, HK.out⟩
      · have HE := Lib.hid (HNO.out (by simp at t2; omega))
        generalize f (1 + k) = x at c0 t1 t2
        clear HNO HYES
        go_wp2_with fail
        go_ret
        exact ⟨by rw [HE.out]; rfl, HK.out⟩
      · have HE := Lib.hid (HYES.out (by simp at t1 t2; omega))
        clear HNO HYES
        generalize f (1 + k) = x at c0 t1 t2
        go_wp2_with fail
        go_roundw
        case rel => exact ⟨k + 1, by omega, by go_num, HE, H0, HK⟩
        case measure => simp [intOf]; omega
    · obtain rfl : k = 5 := by omega
      have HE := Lib.hid (show fitsB f = true from fitsB_iff.2 HALL.out)
      clear hk5
      go_wp2_with fail
      go_ret
      exact ⟨by rw [HE.out]; rfl, HK.out⟩

set_option maxHeartbeats 1000000 in
theorem vget_any (w : World) (f : Nat → Int) (z : Int) : Calls Try.prog 21 #[vagg f, .int .i64 z] w fun e w' => e = .returned (.int .i64 (getF f z)) ∧ Kp w w' := by
  have HW := Lib.hid (show ∀ w2, w2 = w.alloc (.cells (vcells f) 26) → VBlk w2 w.heap.size 26 f ∧ Kp w w2 from by
    rintro w2 rfl
    exact ⟨heap_alloc_new w _, (Keeps.refl _ _).alloc _⟩)
  unfold vagg
  unfold vcells at HW
  unfold vcells
  go_enter Try.func21, Try.ntmps21
  go_wp2_with fail
  obtain ⟨a1, a2⟩ := HW.out _ rfl
  have H0 := Lib.hid a1
  have HK := Lib.hid a2
  clear a1 a2 HW
  obtain ⟨q, hq⟩ : ∃ q, w.heap.size = q := ⟨_, rfl⟩
  rw [hq] at H0 ⊢
  clear hq
  refine (show Calls _ _ _ _ _ from isnode_any _ z).mono ?_
  rintro e w1 ⟨rfl, hk1⟩
  have HK1 := Lib.hid (HK.out.trans hk1)
  replace H0 := Lib.hid (H0.out.keep hk1 trivial)
  clear hk1 HK
  cases hz : isNode z with
  | false =>
    have HE := Lib.hid (show getF f z = 0 from by unfold getF; rw [hz]; rfl)
    clear hz
    go_wp2_with fail
    go_ret
    exact ⟨by rw [HE.out]; rfl, HK1.out⟩
  | true =>
    have HE := Lib.hid (show getF f z = f z.toNat from by unfold getF; rw [hz]; rfl)
    unfold isNode at hz
    simp only [Bool.and_eq_true, decide_eq_true_eq] at hz
    obtain ⟨k, rfl⟩ : ∃ k : Nat, z = (k : Int) := ⟨z.toNat, by omega⟩
    have hk6 : k < 6 := by omega
    have c0 := H0.out.at_ k hk6
    rw [Int.toNat_natCast] at HE
    generalize f k = x at c0 HE
    clear hz
    go_wp2_with fail
    go_ret
    exact ⟨by rw [HE.out]; rfl, HK1.out⟩

end Go.Proofs.Ytdgpdooikfamlaa
