/-
  THE PROGRAM's VECTORS: Has (layer 11).
-/
import Derived.Test.YtdgpdooikfamlaaVcSets
namespace Go.Proofs.Ytdgpdooikfamlaa
open Go Go.RowKit Go.Joins

set_option maxRecDepth 100000 in
set_option maxHeartbeats 1000000 in
theorem vhas_any (w : World) (f g : Nat → Int) (hf : VOk f) (hg : VOk g) : Calls Try.prog 15 #[vagg f, vagg g] w fun e w' => e = .returned (.bool (hasB f g)) ∧ Kp w w' := by
  have HZ := Lib.hid (show g 0 ≤ f 0 from by rw [hf.zero, hg.zero]; exact Int.le_refl _)
  clear hf hg
  have HW := Lib.hid (show ∀ w2, w2 = (w.alloc (.cells (vcells f) 26)).alloc (.cells (vcells g) 26) → VBlk w2 w.heap.size 26 f ∧ VBlk w2 (w.heap.size + 1) 26 g ∧ Kp w w2 from by
    rintro w2 rfl
    have h1 : VBlk (w.alloc (.cells (vcells f) 26)) w.heap.size 26 f := heap_alloc_new w _
    have h2 := heap_alloc_new (w.alloc (.cells (vcells f) 26)) (.cells (vcells g) 26)
    refine ⟨h1.keep (G := fun _ => True) ((Keeps.refl _ _).alloc _) trivial, ?_, ((Keeps.refl _ _).alloc _).alloc _⟩
    have hs : (w.alloc (.cells (vcells f) 26)).heap.size = w.heap.size + 1 := by simp
    rw [hs] at h2
    exact h2)
  unfold vagg
  unfold vcells at HW
  unfold vcells
  go_enter Try.func15, Try.ntmps15
  go_wp2_with fail
  obtain ⟨a1, a2, a3⟩ := HW.out _ rfl
  have H0 := Lib.hid a1
  have H1 := Lib.hid a2
  have HK := Lib.hid a3
  clear a1 a2 a3 HW
  obtain ⟨q, hq⟩ : ∃ q, w.heap.size = q := ⟨_, rfl⟩
  rw [hq] at H0 H1 ⊢
  clear hq
  go_loopw [5] (fun i wr => ∃ k : Nat, 1 ≤ k ∧ k ≤ 6 ∧ i = .int .i64 (k : Int) ∧ Hid (∀ j, j < k → g j ≤ f j) ∧ Hid (VBlk wr q 26 f) ∧ Hid (VBlk wr (q + 1) 26 g) ∧ Hid (Kp w wr)) (fun i _ => 6 - (intOf i).toNat)
  case atStart => exact ⟨1, by omega, by omega, rfl, Lib.hid (fun j hj => by obtain rfl : j = 0 := by omega
                                                                             exact HZ.out), H0, H1, HK⟩
  case round =>
    clear H0 H1 HK HZ
    obtain ⟨k, hk1, hk, rfl, HALL, H0, H1, HK⟩ := hrel
    by_cases hk6 : k < 6
    · have hkI : (k : Int) < 6 := by omega
      have c0 := H0.out.at_ k (by omega)
      have c1 := H1.out.at_ k (by omega)
      have hcase : decide (f k < g k) = true ∨ decide (f k < g k) = false := by cases decide (f k < g k) <;> simp
      rcases hcase with t1 | t1
      · have HE := Lib.hid (show hasB f g = false from by
          rw [Bool.eq_false_iff]
          intro h
          have := hasB_iff.1 h k hk6
          simp at t1
          omega)
        generalize f k = x at c0 t1
        generalize g k = y at c1 t1
        go_wp2_with fail
        go_region
        go_wp2_with fail
        go_ret
        exact ⟨by rw [HE.out]; rfl, HK.out.drew⟩
      · have HE := Lib.hid (show ∀ j, j < k + 1 → g j ≤ f j from fun j hj => by
          rcases Nat.lt_or_ge j k with h | h
          · exact HALL.out j h
          · obtain rfl : j = k := by omega
            simp at t1
            exact t1)
        have HK2 := Lib.hid (HK.out.drew)
        have H02 := Lib.hid (H0.out.keep (Keeps.refl (fun _ => True) wr).drew trivial)
        have H12 := Lib.hid (H1.out.keep (Keeps.refl (fun _ => True) wr).drew trivial)
        generalize f k = x at c0 t1
        generalize g k = y at c1 t1
        go_wp2_with fail
        go_region
        go_wp2_with fail
        go_roundw
        case rel => exact ⟨k + 1, by omega, by omega, by go_num, HE, H02, H12, HK2⟩
        case measure => simp [intOf]; omega
    · obtain rfl : k = 6 := by omega
      have HE := Lib.hid (show hasB f g = true from hasB_iff.2 HALL.out)
      clear hk6
      go_wp2_with fail
      go_ret
      exact ⟨by rw [HE.out]; rfl, HK.out⟩

end Go.Proofs.Ytdgpdooikfamlaa
