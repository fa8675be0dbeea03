/- Texts of one proof, behind one another: each says above its part what it proves and on which conditions. -/
import Derived.Test.YtcmblihlbmclaaaUsMem
import Derived.BigRegion
/-
  slices.siftDownOrdered at uint64, walked. (Written by wip/genus.py.)
-/
section
namespace Go.Proofs.Ytcmblihlbmclaaa
open Go Go.RowKit Go.Sort

section
variable {lt : Int → Int → Bool} {hi p r c : Nat} {d : Array Int}
/-- Which child is the greater one. -/
def Kid (lt : Int → Int → Bool) (hi p r : Nat) (d : Array Int) (c : Nat) : Prop :=
  (c = 2 * r + 2 ∧ 2 * r + 2 < hi ∧ lt d[p + (2 * r + 1)]! d[p + (2 * r + 1) + 1]! = true) ∨ (c = 2 * r + 1 ∧ (2 * r + 2 < hi → lt d[p + (2 * r + 1)]! d[p + (2 * r + 1) + 1]! = false))
theorem sift_end (h : 2 * r + 1 ≥ hi) : siftDown lt hi p r d = d := by rw [siftDown, dif_pos h]
theorem kid_cond (h : Kid lt hi p r d c) : (c = 2 * r + 2 ∧ 2 * r + 2 < hi ∧ (decide (2 * r + 1 + 1 < hi) && lt d[p + (2 * r + 1)]! d[p + (2 * r + 1) + 1]!) = true) ∨ (c = 2 * r + 1 ∧ (decide (2 * r + 1 + 1 < hi) && lt d[p + (2 * r + 1)]! d[p + (2 * r + 1) + 1]!) = false) := by
  rcases h with ⟨h1, h2, h3⟩ | ⟨h1, h2⟩
  · exact .inl ⟨h1, h2, by rw [h3, decide_eq_true (by omega)]; rfl⟩
  · refine .inr ⟨h1, ?_⟩
    by_cases h : 2 * r + 2 < hi
    · rw [h2 h, Bool.and_false]
    · rw [decide_eq_false (by omega)]; rfl
theorem sift_stop (h : ¬ 2 * r + 1 ≥ hi) (hc : Kid lt hi p r d c) (hl : lt d[p + r]! d[p + c]! = false) : siftDown lt hi p r d = d := by
  rw [siftDown, dif_neg h]
  rcases kid_cond hc with ⟨rfl, h2, h3⟩ | ⟨rfl, h3⟩
  · rw [if_pos h3, hl]; rfl
  · rw [if_neg (by rw [h3]; exact Bool.false_ne_true), hl]; rfl
theorem sift_go (h : ¬ 2 * r + 1 ≥ hi) (hc : Kid lt hi p r d c) (hl : lt d[p + r]! d[p + c]! = true) : siftDown lt hi p r d = siftDown lt hi p c (swp d (p + r) (p + c)) := by
  rw [siftDown, dif_neg h]
  rcases kid_cond hc with ⟨rfl, h2, h3⟩ | ⟨rfl, h3⟩
  · rw [if_pos h3, hl, if_neg (by simp), dif_pos h2]
  · rw [if_neg (by rw [h3]; exact Bool.false_ne_true), hl, if_neg (by simp)]
end

set_option maxHeartbeats 4000000 in
set_option maxRecDepth 100000 in
theorem usift_any (w : World) (b o cap lo hi p : Nat) (d : Array Int) (hH : Holds (Value.int .u64) w b o d) (hp : p + hi ≤ d.size) (hlo : lo ≤ d.size) (hsz : d.size < 1152921504606846976) :
    Calls Try.prog 68 #[.slice (some ⟨b, o, none⟩) d.size cap, .int .i64 lo, .int .i64 hi, .int .i64 p] w fun e w' => e = .returned (.tuple #[]) ∧ UAt w w' b o (siftDown ltInt hi p lo d) := by
  obtain ⟨n, hn⟩ : ∃ n, d.size = n := ⟨_, rfl⟩
  have H0 := Lib.hid (UAt.refl hH)
  rw [hn] at hp hlo hsz ⊢
  clear hH
  go_enter Try.func68, Try.ntmps68
  go_wp2_with fail
  go_loopw [8] (fun vr wr => ∃ (r : Nat) (D : Array Int), vr = .int .i64 r ∧ r ≤ n ∧ D.size = n ∧ Hid (UAt w wr b o D) ∧ Hid (siftDown ltInt hi p r D = siftDown ltInt hi p lo d)) (fun vr _ => hi - (intOf vr).toNat)
  case atStart => exact ⟨lo, d, rfl, hlo, hn, H0, Lib.hid rfl⟩
  case round =>
    clear H0 hlo
    obtain ⟨r, D, rfl, hr, hD, HW, HO⟩ := hrel
    by_cases hge : 2 * r + 1 ≥ hi
    · have h0z : (hi : Int) ≤ 2 * (r : Int) + 1 := by omega
      go_wp2_with fail
      go_end0
      exact ⟨rfl, by rw [← HO.out, sift_end hge]; exact HW.out⟩
    · have h0z : ¬ ((hi : Int) ≤ 2 * (r : Int) + 1) := by omega
      obtain ⟨G, hG⟩ := fam_of D
      obtain ⟨hc, hf⟩ := HW.out.fam hG hD
      have HG := Lib.hid hG
      clear hG
      by_cases h2 : 2 * r + 2 < hi
      · have h1z : 2 * (r : Int) + 1 + 1 < (hi : Int) := by omega
        go_wp2_with fail
        go_big_quiet (first | (go_at_call 53; refine Calls.quiet_of_same (uless_any _ _ _)))
        go_wp2_with fail
        · have hk : ltInt (G (p + 2 * r + 1)) (G (p + 2 * r + 2)) = true := by assumption
          have KID := Lib.hid (show Kid ltInt hi p r D (2 * r + 2) from .inl ⟨rfl, h2, by rw [← HG.out, ← HG.out]; exact hk⟩)
          clear hk
          revert nq
          intro nq1
          replace HW := Lib.hid (HW.out.drewN nq1)
          obtain ⟨hc2, hf2⟩ := HW.out.fam HG.out hD
          clear hc hf
          generalize wr.drewN nq1 = wr2 at HW hc2 hf2 ⊢
          go_big_quiet (first | (go_at_call 53; refine Calls.quiet_of_same (uless_any _ _ _)))
          go_wp2_with fail
          · have hl : ltInt (G (p + r)) (G (p + 2 * r + 2)) = false := by
              have : (!ltInt (G (p + r)) (G (p + 2 * r + 2))) = true := by assumption
              simpa using this
            (try simp only [Exit.inBlock, Exit.then])
            refine bodyPost_ret (results_none rfl _ _ _) rfl ?_
            exact ⟨rfl, by rw [← HO.out, sift_stop hge KID.out (by rw [← HG.out, ← HG.out]; exact hl)]; exact HW.out.drewN _⟩
          · have hl : ltInt (G (p + r)) (G (p + 2 * r + 2)) = true := by
              have : (!ltInt (G (p + r)) (G (p + 2 * r + 2))) = false := by assumption
              simpa using this
            revert nq
            intro nq2
            replace HW := Lib.hid (HW.out.drewN nq2)
            obtain ⟨hc3, hf3⟩ := HW.out.fam HG.out hD
            clear hc2 hf2
            generalize wr2.drewN nq2 = wr3 at HW hc3 hf3 ⊢
            go_region
            all_goals go_wp2_with fail
            go_roundw
            case rel => exact ⟨2 * r + 2, swp D (p + r) (p + (2 * r + 2)), by congr 1 <;> omega, by omega, by rw [size_swp]; exact hD, Lib.hid (HW.out.swapG _ HG.out (by omega) (by omega)), Lib.hid (by rw [← HO.out, sift_go hge KID.out (by rw [← HG.out, ← HG.out]; exact hl)])⟩
            case measure => simp [intOf]; omega
        · have hk : ltInt (G (p + 2 * r + 1)) (G (p + 2 * r + 2)) = false := by assumption
          have KID := Lib.hid (show Kid ltInt hi p r D (2 * r + 1) from .inr ⟨rfl, fun _ => by rw [← HG.out, ← HG.out]; exact hk⟩)
          clear hk
          revert nq
          intro nq1
          replace HW := Lib.hid (HW.out.drewN nq1)
          obtain ⟨hc2, hf2⟩ := HW.out.fam HG.out hD
          clear hc hf
          generalize wr.drewN nq1 = wr2 at HW hc2 hf2 ⊢
          go_big_quiet (first | (go_at_call 53; refine Calls.quiet_of_same (uless_any _ _ _)))
          go_wp2_with fail
          · have hl : ltInt (G (p + r)) (G (p + 2 * r + 1)) = false := by
              have : (!ltInt (G (p + r)) (G (p + 2 * r + 1))) = true := by assumption
              simpa using this
            (try simp only [Exit.inBlock, Exit.then])
            refine bodyPost_ret (results_none rfl _ _ _) rfl ?_
            exact ⟨rfl, by rw [← HO.out, sift_stop hge KID.out (by rw [← HG.out, ← HG.out]; exact hl)]; exact HW.out.drewN _⟩
          · have hl : ltInt (G (p + r)) (G (p + 2 * r + 1)) = true := by
              have : (!ltInt (G (p + r)) (G (p + 2 * r + 1))) = false := by assumption
              simpa using this
            revert nq
            intro nq2
            replace HW := Lib.hid (HW.out.drewN nq2)
            obtain ⟨hc3, hf3⟩ := HW.out.fam HG.out hD
            clear hc2 hf2
            generalize wr2.drewN nq2 = wr3 at HW hc3 hf3 ⊢
            go_region
            all_goals go_wp2_with fail
            go_roundw
            case rel => exact ⟨2 * r + 1, swp D (p + r) (p + (2 * r + 1)), by congr 1 <;> omega, by omega, by rw [size_swp]; exact hD, Lib.hid (HW.out.swapG _ HG.out (by omega) (by omega)), Lib.hid (by rw [← HO.out, sift_go hge KID.out (by rw [← HG.out, ← HG.out]; exact hl)])⟩
            case measure => simp [intOf]; omega
      · have h1z : decide (2 * (r : Int) + 1 + 1 < (hi : Int)) = false := decide_eq_false (by omega)
        have KID := Lib.hid (show Kid ltInt hi p r D (2 * r + 1) from .inr ⟨rfl, fun h => absurd h h2⟩)
        go_wp2_with fail
        go_big_quiet (first | (go_at_call 53; refine Calls.quiet_of_same (uless_any _ _ _)))
        go_wp2_with fail
        revert nq
        intro nq1
        replace HW := Lib.hid (HW.out.drewN nq1)
        obtain ⟨hc2, hf2⟩ := HW.out.fam HG.out hD
        clear hc hf
        generalize wr.drewN nq1 = wr2 at HW hc2 hf2 ⊢
        go_big_quiet (first | (go_at_call 53; refine Calls.quiet_of_same (uless_any _ _ _)))
        go_wp2_with fail
        · have hl : ltInt (G (p + r)) (G (p + 2 * r + 1)) = false := by
            have : (!ltInt (G (p + r)) (G (p + 2 * r + 1))) = true := by assumption
            simpa using this
          (try simp only [Exit.inBlock, Exit.then])
          refine bodyPost_ret (results_none rfl _ _ _) rfl ?_
          exact ⟨rfl, by rw [← HO.out, sift_stop hge KID.out (by rw [← HG.out, ← HG.out]; exact hl)]; exact HW.out.drewN _⟩
        · have hl : ltInt (G (p + r)) (G (p + 2 * r + 1)) = true := by
            have : (!ltInt (G (p + r)) (G (p + 2 * r + 1))) = false := by assumption
            simpa using this
          revert nq
          intro nq2
          replace HW := Lib.hid (HW.out.drewN nq2)
          obtain ⟨hc3, hf3⟩ := HW.out.fam HG.out hD
          clear hc2 hf2
          generalize wr2.drewN nq2 = wr3 at HW hc3 hf3 ⊢
          go_region
          all_goals go_wp2_with fail
          go_roundw
          case rel => exact ⟨2 * r + 1, swp D (p + r) (p + (2 * r + 1)), by congr 1 <;> omega, by omega, by rw [size_swp]; exact hD, Lib.hid (HW.out.swapG _ HG.out (by omega) (by omega)), Lib.hid (by rw [← HO.out, sift_go hge KID.out (by rw [← HG.out, ← HG.out]; exact hl)])⟩
          case measure => simp [intOf]; omega

end Go.Proofs.Ytcmblihlbmclaaa
end

/-
  slices.heapSortOrdered at uint64, walked.
-/
section
namespace Go.Proofs.Ytcmblihlbmclaaa
open Go Go.RowKit Go.Sort

theorem sift_size {lt : Int → Int → Bool} (hi p : Nat) : ∀ (m r : Nat) (d : Array Int), hi - r ≤ m → (siftDown lt hi p r d).size = d.size := by
  intro m
  induction m with
  | zero => intro r d h; rw [siftDown, dif_pos (by omega)]
  | succ m ih =>
    intro r d h
    by_cases h0 : 2 * r + 1 ≥ hi
    · rw [sift_end h0]
    · have hk : ∃ c, Kid lt hi p r d c ∧ r < c ∧ c < hi := by
        cases hl : lt d[p + (2 * r + 1)]! d[p + (2 * r + 1) + 1]! with
        | true =>
          by_cases h2 : 2 * r + 2 < hi
          · exact ⟨_, .inl ⟨rfl, h2, hl⟩, by omega, h2⟩
          · exact ⟨_, .inr ⟨rfl, fun h => absurd h h2⟩, by omega, by omega⟩
        | false => exact ⟨_, .inr ⟨rfl, fun _ => hl⟩, by omega, by omega⟩
      obtain ⟨c, hc, h1, h2⟩ := hk
      cases hl : lt d[p + r]! d[p + c]! with
      | true => rw [sift_go h0 hc hl, ih c _ (by omega), size_swp]
      | false => rw [sift_stop h0 hc hl]

set_option maxHeartbeats 4000000 in
set_option maxRecDepth 100000 in
theorem uheap_any (w : World) (b o cap x y : Nat) (d : Array Int) (hH : Holds (Value.int .u64) w b o d) (hxy : x < y) (hy : y ≤ d.size) (hsz : d.size < 1152921504606846976) :
    Calls Try.prog 48 #[.slice (some ⟨b, o, none⟩) d.size cap, .int .i64 x, .int .i64 y] w fun e w' => e = .returned (.tuple #[]) ∧ UAt w w' b o (heapSort ltInt d x y) := by
  obtain ⟨n, hn⟩ : ∃ n, d.size = n := ⟨_, rfl⟩
  have H0 := Lib.hid (UAt.refl hH)
  have SIFT := fun (wr : World) (lo hi : Nat) (D : Array Int) (hD : D.size = n) (hw : Hid (UAt w wr b o D)) (h1 : x + hi ≤ n) (h2 : lo ≤ n) => Lib.hid (show Calls Try.prog 68 #[.slice (some ⟨b, o, none⟩) n cap, .int .i64 lo, .int .i64 hi, .int .i64 x] wr fun e w' => e = .returned (.tuple #[]) ∧ UAt w w' b o (siftDown ltInt hi x lo D) from by
    have hsz' : D.size < 1152921504606846976 := by omega
    rw [← hD] at h1 h2 ⊢
    exact (usift_any wr b o cap lo hi x D hw.out.row h1 h2 hsz').mono fun e w' ⟨e1, e2⟩ => ⟨e1, hw.out.trans e2⟩)
  obtain ⟨m, hm⟩ : ∃ m, y - x = m := ⟨_, rfl⟩
  have HE := Lib.hid (show heapPop ltInt x m (heapBuild ltInt m x ((m - 1) / 2 + 1) d) = heapSort ltInt d x y from by rw [heapSort, hm])
  rw [hn] at hy hsz ⊢
  have hyx : (y : Int) - (x : Int) = (m : Int) := by omega
  clear hH
  go_enter Try.func48, Try.ntmps48
  go_wp2_with fail
  have hm0 : 0 < m := by omega
  go_loopw [9] (fun vk wr => ∃ (k : Int) (D : Array Int), vk = .int .i64 k ∧ -1 ≤ k ∧ k < (m : Int) ∧ D.size = n ∧ Hid (UAt w wr b o D) ∧ Hid (heapPop ltInt x m (heapBuild ltInt m x (k + 1).toNat D) = heapSort ltInt d x y)) (fun vk _ => (intOf vk + 1).toNat)
  case atStart => exact ⟨_, d, rfl, by omega, by omega, hn, H0, Lib.hid (by rw [← HE.out]; congr 2; omega)⟩
  case round =>
    clear H0 HE
    obtain ⟨z, D, rfl, hz1, hz2, hD, HW, HO⟩ := hrel
    by_cases hz : 0 ≤ z
    · obtain ⟨k, rfl⟩ : ∃ k : Nat, z = (k : Int) := ⟨z.toNat, by omega⟩
      have HS := SIFT _ k m D hD HW (by omega) (by omega)
      have HN := Lib.hid (show heapPop ltInt x m (heapBuild ltInt m x ((k : Int) - 1 + 1).toNat (siftDown ltInt m x k D)) = heapSort ltInt d x y from by
        rw [← HO.out, show ((k : Int) + 1).toNat = k + 1 from by omega, show ((k : Int) - 1 + 1).toNat = k from by omega, heapBuild])
      have hs := sift_size (lt := ltInt) m x _ k D (Nat.le_refl _)
      clear HO
      go_wp2_with fail
      refine (show Calls _ _ _ _ _ from HS.out).mono ?_
      rintro e w2 ⟨rfl, hw⟩
      have HW2 := Lib.hid hw
      clear hw HS HW
      generalize siftDown ltInt m x k D = E at hs HN HW2
      go_wp2_with fail
      go_roundw
      case rel => exact ⟨_, E, rfl, by omega, by omega, by omega, HW2, HN⟩
      case measure => simp [intOf] <;> omega
    · obtain rfl : z = -1 := by omega
      rw [show ((-1 : Int) + 1).toNat = 0 from rfl, heapBuild] at HO
      clear hz hz1 hz2
      go_wp2_with fail
      go_loopw [10] (fun vk wr => ∃ (k : Int) (D : Array Int), vk = .int .i64 k ∧ -1 ≤ k ∧ k < (m : Int) ∧ D.size = n ∧ Hid (UAt w wr b o D) ∧ Hid (heapPop ltInt x (k + 1).toNat D = heapSort ltInt d x y)) (fun vk _ => (intOf vk + 1).toNat)
      case atStart => exact ⟨_, D, rfl, by omega, by omega, hD, HW, Lib.hid (by rw [← HO.out]; congr 1; omega)⟩
      case round =>
        clear HO HW hD
        obtain ⟨z, E, rfl, hz1, hz2, hE, HW, HO⟩ := hrel
        by_cases hz : 0 ≤ z
        · obtain ⟨k, rfl⟩ : ∃ k : Nat, z = (k : Int) := ⟨z.toNat, by omega⟩
          have HN := Lib.hid (show heapPop ltInt x ((k : Int) - 1 + 1).toNat (siftDown ltInt k x 0 (swp E x (x + k))) = heapSort ltInt d x y from by
            rw [← HO.out, show ((k : Int) + 1).toNat = k + 1 from by omega, show ((k : Int) - 1 + 1).toNat = k from by omega, heapPop])
          clear HO
          obtain ⟨G, hG⟩ := fam_of E
          obtain ⟨hc, hf⟩ := HW.out.fam hG hE
          have HG := Lib.hid hG
          clear hG
          obtain ⟨y1, hy1⟩ := HW.out.mid x (j := x + k) (by omega) (.int .u64 (G (x + k)))
          go_wp2_with fail
          go_region
          all_goals go_wp2_with fail
          have HW1 := Lib.hid (HW.out.swapG (i := x) (j := x + k) 1 HG.out (by omega) (by omega))
          have hs1 : (swp E x (x + k)).size = n := by rw [size_swp]; exact hE
          clear HW hE hc hf
          generalize swp E x (x + k) = E1 at HW1 hs1 HN
          have HS := SIFT _ 0 k E1 hs1 HW1 (by omega) (by omega)
          have hs := sift_size (lt := ltInt) k x _ 0 E1 (Nat.le_refl _)
          refine (show Calls _ _ _ _ _ from HS.out).mono ?_
          rintro e w2 ⟨rfl, hw⟩
          have HW2 := Lib.hid hw
          clear hw HS HW1
          generalize siftDown ltInt k x 0 E1 = E2 at hs HN HW2
          go_wp2_with fail
          go_roundw
          case rel => exact ⟨_, E2, rfl, by omega, by omega, by omega, HW2, HN⟩
          case measure => simp [intOf] <;> omega
        · obtain rfl : z = -1 := by omega
          rw [show ((-1 : Int) + 1).toNat = 0 from rfl, heapPop] at HO
          go_wp2_with fail
          go_end0
          exact ⟨rfl, by rw [← HO.out]; exact HW.out⟩

end Go.Proofs.Ytcmblihlbmclaaa
end
