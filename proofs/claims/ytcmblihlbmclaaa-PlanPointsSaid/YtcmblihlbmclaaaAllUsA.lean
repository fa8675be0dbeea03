/- Texts of one proof, behind one another: each says above its part what it proves and on which conditions. -/
import Derived.Test.YtcmblihlbmclaaaUsMem
/-
  slices.insertionSortOrdered at uint64, walked.
-/
section
namespace Go.Proofs.Ytcmblihlbmclaaa
open Go Go.RowKit Go.Sort

section
variable {lt : Int → Int → Bool}
theorem ins_go {a j : Nat} {d : Array Int} (h : a < j) (hl : lt d[j]! d[j - 1]! = true) : insInner lt a j d = insInner lt a (j - 1) (swp d j (j - 1)) := by
  cases j with
  | zero => omega
  | succ k =>
    simp only [Nat.add_sub_cancel] at hl ⊢
    rw [insInner, hl, decide_eq_true h]
    rfl
theorem ins_end {a j : Nat} {d : Array Int} (h : j ≤ a ∨ lt d[j]! d[j - 1]! = false) : insInner lt a j d = d := by
  cases j with
  | zero => rfl
  | succ k =>
    simp only [Nat.add_sub_cancel] at h
    rw [insInner]
    rcases h with h | h
    · rw [decide_eq_false (by omega : ¬ k + 1 > a)]; rfl
    · rw [h, Bool.and_false]; rfl
end

set_option maxHeartbeats 2000000 in
set_option maxRecDepth 100000 in
theorem uins_any (w : World) (b o cap x y : Nat) (d : Array Int) (hH : Holds (Value.int .u64) w b o d) (hxy : x ≤ y) (hy : y ≤ d.size) (hsz : d.size < 4611686018427387904) :
    Calls Try.prog 47 #[.slice (some ⟨b, o, none⟩) d.size cap, .int .i64 x, .int .i64 y] w fun e w' => e = .returned (.tuple #[]) ∧ UAt w w' b o (insertionSort ltInt d x y) := by
  obtain ⟨n, hn⟩ : ∃ n, d.size = n := ⟨_, rfl⟩
  have H0 := Lib.hid (UAt.refl hH)
  have HE := Lib.hid (show insOuter ltInt x y (x + 1) d = insertionSort ltInt d x y from rfl)
  rw [hn] at hy hsz ⊢
  clear hH
  go_enter Try.func47, Try.ntmps47
  go_wp2_with fail
  go_loopw [6] (fun vi wr => ∃ (i : Nat) (D : Array Int), vi = .int .i64 i ∧ x < i ∧ i ≤ y + 1 ∧ D.size = n ∧ Hid (UAt w wr b o D) ∧ Hid (insOuter ltInt x y i D = insertionSort ltInt d x y)) (fun vi _ => y + 1 - (intOf vi).toNat)
  case atStart => exact ⟨x + 1, d, by go_num, by omega, by omega, hn, H0, HE⟩
  case round =>
    clear H0 HE
    obtain ⟨i, D, rfl, hi1, hi2, hD, HW, HO⟩ := hrel
    by_cases hlt : i < y
    · go_wp2_with fail
      go_loopw [7] (fun vj wr => ∃ (j : Nat) (E : Array Int), vj = .int .i64 j ∧ x ≤ j ∧ j ≤ i ∧ E.size = n ∧ Hid (UAt w wr b o E) ∧ Hid (insInner ltInt x j E = insInner ltInt x i D)) (fun vj _ => (intOf vj).toNat)
      case atStart => exact ⟨i, D, rfl, by omega, Nat.le_refl _, hD, HW, Lib.hid rfl⟩
      case round =>
        clear HW hD
        obtain ⟨j, E, rfl, hj1, hj2, hE, HW, HI⟩ := hrel
        have HX := Lib.hid (show (j ≤ x ∨ ltInt E[j]! E[j - 1]! = false) → insOuter ltInt x y (i + 1) E = insertionSort ltInt d x y from fun hs => by
          rw [← HO.out, insOuter.eq_def ltInt x y i D, if_pos hlt, ← HI.out, ins_end hs])
        have HN := Lib.hid (show x < j → ltInt E[j]! E[j - 1]! = true → insInner ltInt x (j - 1) (swp E j (j - 1)) = insInner ltInt x i D from fun h1 h2 => by rw [← HI.out, ins_go h1 h2])
        obtain ⟨G, hG⟩ := fam_of E
        obtain ⟨hc, hf⟩ := HW.out.fam hG hE
        have HG := Lib.hid hG
        rw [← hG, ← hG] at HX HN
        clear hG HO HI
        go_wp2_with fail
        by_cases hj : x < j
        · go_quiet (first | (go_at_call 53; refine Calls.quiet_of_same (uless_any _ _ _)))
          go_wp2_with fail
          · have hl : ltInt (G j) (G (j - 1)) = true := by assumption
            go_region
            all_goals go_wp2_with fail
            go_roundw
            case rel => exact ⟨j - 1, swp E j (j - 1), by congr 1; omega, by omega, by omega, by rw [size_swp]; exact hE, Lib.hid (HW.out.swapG _ HG.out (by omega) (by omega)), Lib.hid (HN.out hj hl)⟩
            case measure => simp [intOf]; omega
          · have hl : ltInt (G j) (G (j - 1)) = false := by assumption
            go_roundw
            case rel => exact ⟨i + 1, E, by go_num, by omega, by omega, hE, Lib.hid (HW.out.drewN _), Lib.hid (HX.out (.inr hl))⟩
            case measure => simp [intOf]; omega
        · go_quiet (first | (go_at_call 53; refine Calls.quiet_of_same (uless_any _ _ _)))
          go_wp2_with fail
          go_roundw
          case rel => exact ⟨i + 1, E, by go_num, by omega, by omega, hE, Lib.hid (HW.out.drewN _), Lib.hid (HX.out (.inl (by omega)))⟩
          case measure => simp [intOf]; omega
    · go_wp2_with fail
      go_end0
      have h := HO.out
      rw [insOuter.eq_def, if_neg hlt] at h
      subst h
      exact ⟨rfl, HW.out⟩

end Go.Proofs.Ytcmblihlbmclaaa
end

/-
  slices.reverseRangeOrdered at uint64, walked.
-/
section
namespace Go.Proofs.Ytcmblihlbmclaaa
open Go Go.RowKit Go.Sort

set_option maxHeartbeats 2000000 in
set_option maxRecDepth 100000 in
theorem urev_any (w : World) (b o cap x y : Nat) (d : Array Int) (hH : Holds (Value.int .u64) w b o d) (hxy : x < y) (hy : y ≤ d.size) (hsz : d.size < 1152921504606846976) :
    Calls Try.prog 51 #[.slice (some ⟨b, o, none⟩) d.size cap, .int .i64 x, .int .i64 y] w fun e w' => e = .returned (.tuple #[]) ∧ UAt w w' b o (reverseRange d x y) := by
  obtain ⟨n, hn⟩ : ∃ n, d.size = n := ⟨_, rfl⟩
  have H0 := Lib.hid (UAt.refl hH)
  have HE := Lib.hid (show reverseLoop x (y - 1) d = reverseRange d x y from rfl)
  rw [hn] at hy hsz ⊢
  clear hH
  go_enter Try.func51, Try.ntmps51
  go_wp2_with fail
  go_loopw [6, 7] (fun vi vj wr => ∃ (i j : Nat) (D : Array Int), vi = .int .i64 i ∧ vj = .int .i64 j ∧ x ≤ i ∧ i ≤ n ∧ j < n ∧ D.size = n ∧ Hid (UAt w wr b o D) ∧ Hid (reverseLoop i j D = reverseRange d x y)) (fun _ vj _ => (intOf vj).toNat)
  case atStart => exact ⟨x, y - 1, d, rfl, by congr 1; omega, Nat.le_refl _, by omega, by omega, hn, H0, HE⟩
  case round =>
    clear H0 HE
    obtain ⟨i, j, D, rfl, rfl, hi, hin, hj, hD, HW, HO⟩ := hrel
    by_cases hlt : i < j
    · obtain ⟨G, hG⟩ := fam_of D
      obtain ⟨hc, hf⟩ := HW.out.fam hG hD
      have HG := Lib.hid hG
      clear hG
      go_wp2_with fail
      go_region
      all_goals go_wp2_with fail
      go_roundw
      case rel => exact ⟨i + 1, j - 1, swp D i j, by go_num, by congr 1; omega, by omega, by omega, by omega, by rw [size_swp]; exact hD, Lib.hid (HW.out.swapG _ HG.out (by omega) (by omega)), Lib.hid (by rw [← HO.out, reverseLoop.eq_def i j, if_pos hlt])⟩
      case measure => simp [intOf]; omega
    · go_wp2_with fail
      go_end0
      have h := HO.out
      rw [reverseLoop, if_neg hlt] at h
      subst h
      exact ⟨rfl, HW.out⟩

end Go.Proofs.Ytcmblihlbmclaaa
end
