/-
  slices.breakPatternsOrdered at uint64: whatever the generator draws, the row's part is permuted.
-/
import Derived.Test.YtcmblihlbmclaaaUsMed
import Derived.Test.YtcmblihlbmclaaaUsLay
import Derived.Shelf.SortM.Walk7aIn
import Derived.Sort.EveryDepth
import Derived.Sort.LotD5
import Derived.Sort.LotD1
import Derived.Laws.Bits64b
import Derived.BigRegion
namespace Go.Proofs.Ytcmblihlbmclaaa
open Go Go.RowKit Go.Sort Go.Joins

theorem unpot_any (w : World) (l : Nat) (hl : l < 4611686018427387904) (h0 : 0 < l) : Calls Try.prog 69 #[.int .i64 l] w fun e w' => (∃ M : Nat, e = .returned (.int .u64 M) ∧ 0 < M ∧ M ≤ 2 * l) ∧ w' = w := by
  refine (show Calls Try.prog 69 _ _ _ from calls_of_every_depth fun D => AnySM.nextPowerOfTwoIn Try.npotU D l hl w).mono ?_
  rintro e w' ⟨rfl, rfl⟩
  refine ⟨⟨1 <<< bitsLen l, rfl, ?_, ?_⟩, rfl⟩
  · rw [Nat.one_shiftLeft]; exact Nat.pow_pos (by decide)
  · rw [Nat.one_shiftLeft]; exact two_pow_bitsLen_le h0
theorem unext_any (w : World) (g X : Nat) (hX : X < 18446744073709551616) (hc : w.cell? ⟨g, 0, none⟩ = some (.int .u64 X)) (hf : w.frozen? ⟨g, 0, none⟩ = false) :
    Calls Try.prog 70 #[.pointer (some ⟨g, 0, none⟩)] w fun e w' => ∃ Y : Nat, Y < 18446744073709551616 ∧ e = .returned (.int .u64 Y) ∧ w'.cell? ⟨g, 0, none⟩ = some (.int .u64 Y) ∧ w'.frozen? ⟨g, 0, none⟩ = false ∧ Keeps (fun i => i ≠ g) w w' := by
  refine (show Calls Try.prog 70 _ _ _ from calls_of_every_depth fun D => AnySM.xorshift_NextIn Try.xorU D g 0 X hX w hc hf).mono ?_
  rintro e w' ⟨rfl, rfl⟩
  refine ⟨xorNextN X, xorNextN_lt X hX, rfl, ?_, by simpa using hf, ((Keeps.refl _ w).setCell (.inr fun e => e rfl) _).drewN 3⟩
  have hH : Holds (Value.int .u64) w g 0 #[(X : Int)] := fun j hj => by
    obtain rfl : j = 0 := by simpa using hj
    exact ⟨hc, hf⟩
  have e := putRow_set (Value.int .u64) w g 0 #[(X : Int)] 0 (xorNextN X : Nat) (by simp)
  rw [putRow_self _ _ _ _ _ hH] at e
  have h2 := holds_putRow (Value.int .u64) w g 0 #[(X : Int)] (#[(X : Int)].setIfInBounds 0 (xorNextN X : Nat)) hH (by simp)
  rw [← e] at h2
  exact (h2 0 (by simp)).1

/-- A change in a block that is newer than the start leaves the start's blocks. -/
theorem keeps_but {w v u : World} {b g : Nat} (h : Keeps (fun i => i ≠ b) w v) (k : Keeps (fun i => i ≠ g) v u) (hg : w.heap.size ≤ g) : Keeps (fun i => i ≠ b) w u :=
  ⟨k.os.trans h.os, k.tape.trans h.tape, k.output.trans h.output, Nat.le_trans h.size k.size, fun i hb hi => (k.block i (by omega) (Nat.lt_of_lt_of_le hi h.size)).trans (h.block i hb hi)⟩
/-- The generator's cell. -/
structure GenAt (w : World) (g X : Nat) : Prop where
  lt : X < 18446744073709551616
  cell : w.cell? ⟨g, 0, none⟩ = some (.int .u64 X)
  fr : w.frozen? ⟨g, 0, none⟩ = false
theorem GenAt.swap {w : World} {g b o i j X : Nat} {u v : Value} (h : GenAt w g X) (hb : b ≠ g) (n : Nat) : GenAt (((w.drewN n).setCell ⟨b, o + i, none⟩ u).setCell ⟨b, o + j, none⟩ v) g X := by
  have k : Keeps (fun i => i ≠ b) w (((w.drewN n).setCell ⟨b, o + i, none⟩ u).setCell ⟨b, o + j, none⟩ v) := (((Keeps.refl _ w).drewN n).setCell (.inr fun e => e rfl) _).setCell (.inr fun e => e rfl) _
  exact ⟨h.lt, k.cell h.cell hb.symm, by rw [k.frozen (World.block_lt_of_cell? w _ h.cell) hb.symm]; exact h.fr⟩
theorem and_small (Y M : Nat) (hY : Y < 18446744073709551616) (h0 : 0 < M) (hM : M < 18446744073709551616) : ∃ z : Nat, bits .and .u64 (Y : Int) ((M : Int) - 1) = (z : Int) ∧ z < M := by
  refine ⟨Y &&& (M - 1), ?_, ?_⟩
  · rw [show ((M : Int) - 1) = ((M - 1 : Nat) : Int) by omega, bits_and_u64_nat _ _ hY (by omega)]
  · have : Y &&& (M - 1) ≤ M - 1 := Nat.and_le_right
    omega

set_option maxHeartbeats 8000000 in
set_option maxRecDepth 100000 in
theorem ubreak_any (w : World) (b o cap x y : Nat) (d : Array Int) (hH : Holds (Value.int .u64) w b o d) (hblk : b < w.heap.size) (hxy : x + 12 < y) (hy : y ≤ d.size) (hsz : d.size < 1152921504606846976) :
    Calls Try.prog 49 #[.slice (some ⟨b, o, none⟩) d.size cap, .int .i64 x, .int .i64 y] w fun e w' => e = .returned (.tuple #[]) ∧ ∃ D, PermIn x y d D ∧ UAt w w' b o D := by
  obtain ⟨n, hn⟩ : ∃ n, d.size = n := ⟨_, rfl⟩
  obtain ⟨l, hl⟩ : ∃ l, y = x + l := ⟨y - x, by omega⟩
  obtain ⟨q, hq⟩ : ∃ q, l / 4 = q := ⟨_, rfl⟩
  obtain ⟨g, hg⟩ : ∃ g, w.heap.size = g := ⟨_, rfl⟩
  have hne : b ≠ g := by omega
  have H0 := Lib.hid hH
  have HN := Lib.hid hn
  have HP := Lib.hid (unpot_any · l (by omega) (by omega))
  rw [hn] at hy hsz ⊢
  have hyx : (y : Int) - (x : Int) = (l : Int) := by omega
  have hx1 : x + l ≤ n := by omega
  have hl13 : 12 < l := by omega
  have hq1 : (l : Int) / 4 = (q : Int) := by omega
  have hq4 : 4 * q ≤ l := by omega
  have hq5 : l < 4 * q + 4 := by omega
  have h8' : (8 : Int) ≤ (l : Int) := by omega
  have HY := Lib.hid hl
  clear hq hl hxy hH hn
  go_enter Try.func49, Try.ntmps49
  go_wp2_with fail
  refine (show Calls _ _ _ _ _ from HP.out _).mono ?_
  rintro e w1 ⟨⟨M, rfl, hM0, hM⟩, rfl⟩
  clear HP
  obtain ⟨i0, hi0⟩ : ∃ i0, i0 = x + q * 2 - 1 := ⟨_, rfl⟩
  have hi1 : i0 + 1 = x + q * 2 := by omega
  have hi2 : (x : Int) + (q : Int) * 2 - 1 = (i0 : Int) := by omega
  clear hi0
  have HW0 := Lib.hid (show UAt w (w.alloc (.cells #[.int .u64 l] 90)) b o d from ⟨Holds.keep H0.out ((Keeps.refl _ w).alloc _) hne, (Keeps.refl _ w).alloc _⟩)
  have HX0 := Lib.hid (show GenAt (w.alloc (.cells #[.int .u64 l] 90)) g l from ⟨by omega, by rw [← hg]; exact (cell_of_block (heap_alloc_new w _) 0).trans rfl, by rw [← hg]; unfold World.frozen?; rw [heap_alloc_new]; rfl⟩)
  have HG0 := Lib.hid hg
  clear hg
  go_wp2_with fail
  go_loopw [9] (fun vi wr => ∃ (e : Nat) (D : Array Int) (X : Nat), vi = .int .i64 e ∧ i0 ≤ e ∧ e ≤ i0 + 3 ∧ D.size = n ∧ Hid (PermIn x y d D) ∧ Hid (UAt w wr b o D) ∧ Hid (GenAt wr g X)) (fun vi _ => i0 + 3 - (intOf vi).toNat)
  case atStart => exact ⟨i0, d, l, rfl, Nat.le_refl _, by omega, HN.out, Lib.hid (permIn_refl _ _ _), HW0, HX0⟩
  case round =>
    clear HW0 HX0 H0
    obtain ⟨e, D, X, rfl, he1, he2, hD, HPM, HW, HX⟩ := hrel
    by_cases hr : e < i0 + 3
    · have hr' : (e : Int) ≤ (x : Int) + (q : Int) * 2 + 1 := by omega
      have HC := Lib.hid (unext_any · g X HX.out.lt)
      go_wp2_with fail
      refine (show Calls _ _ _ _ _ from HC.out _ HX.out.cell HX.out.fr).mono ?_
      rintro e w2 ⟨Y, hY, rfl, hyc, hyf, hk⟩
      obtain ⟨z, hz, hzM⟩ := and_small Y M hY hM0 (by omega)
      have HX2 := Lib.hid (show GenAt w2 g Y from ⟨hY, hyc, hyf⟩)
      replace HW := Lib.hid (show UAt w w2 b o D from ⟨Holds.keep HW.out.row hk hne, keeps_but HW.out.kp hk (by rw [HG0.out]; exact Nat.le_refl _)⟩)
      clear hY hyc hyf hk HC
      by_cases hzl : l ≤ z
      · obtain ⟨z1, hz1⟩ : ∃ z1, z = l + z1 := ⟨z - l, by omega⟩
        have hzl' : (l : Int) ≤ (z : Int) := by omega
        have hzi : (z : Int) - (l : Int) = (z1 : Int) := by omega
        have hz1l : z1 < l := by omega
        clear hz1
        obtain ⟨G, hG⟩ := fam_of D
        obtain ⟨hc, hf⟩ := HW.out.fam hG hD
        have HG := Lib.hid hG
        clear hG
        obtain ⟨y1, hy1⟩ := HW.out.mid e (j := x + z1) (by omega) (.int .u64 (G (x + z1)))
        clear HX
        go_wp2_with fail
        go_region
        all_goals go_wp2_with fail
        go_roundw
        case rel => exact ⟨e + 1, swp D e (x + z1), Y, by go_num, by omega, by omega, by rw [size_swp]; exact hD, Lib.hid (permIn_trans _ _ _ x y HPM.out (swp_permIn D x y e (x + z1) (by omega) (by have := HY.out; omega) (by omega) (by have := HY.out; omega) (by omega))), Lib.hid (HW.out.swapG _ HG.out (by omega) (by omega)), Lib.hid (HX2.out.swap hne _)⟩
        case measure => simp [intOf] <;> omega
      · have hzl' : decide ((l : Int) ≤ (z : Int)) = false := decide_eq_false (by omega)
        obtain ⟨z1, hz1⟩ : ∃ z1, z = z1 := ⟨z, rfl⟩
        subst hz1
        obtain ⟨G, hG⟩ := fam_of D
        obtain ⟨hc, hf⟩ := HW.out.fam hG hD
        have HG := Lib.hid hG
        clear hG
        obtain ⟨y1, hy1⟩ := HW.out.mid e (j := x + z) (by omega) (.int .u64 (G (x + z)))
        clear HX
        go_wp2_with fail
        go_region
        all_goals go_wp2_with fail
        go_roundw
        case rel => exact ⟨e + 1, swp D e (x + z), Y, by go_num, by omega, by omega, by rw [size_swp]; exact hD, Lib.hid (permIn_trans _ _ _ x y HPM.out (swp_permIn D x y e (x + z) (by omega) (by have := HY.out; omega) (by omega) (by have := HY.out; omega) (by omega))), Lib.hid (HW.out.swapG _ HG.out (by omega) (by omega)), Lib.hid (HX2.out.swap hne _)⟩
        case measure => simp [intOf] <;> omega
    · have hr' : ¬ ((e : Int) ≤ (x : Int) + (q : Int) * 2 + 1) := by omega
      go_wp2_with fail
      go_end0
      exact ⟨rfl, D, HPM.out, HW.out⟩

end Go.Proofs.Ytcmblihlbmclaaa
