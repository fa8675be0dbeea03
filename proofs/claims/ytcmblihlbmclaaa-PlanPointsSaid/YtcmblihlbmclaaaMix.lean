/-
  THE CONTRACTS OF LAYER 1 (mix) AND OF ITS REFERENCE: Stir, for every number below 2^64.
-/
import Derived.Test.YtcmblihlbmclaaaMath
import Derived.Test.YtcmblihlbmclaaaRows
import Derived.WalkKit
import Derived.Laws.Bits64
namespace Go.Proofs.Ytcmblihlbmclaaa
open Go.RowKit

theorem fo_shift (k n : Nat) (h : n < 18446744073709551616) : bits .xor .u64 (n : Int) ((n : Int) / ((2 ^ k : Nat) : Int)) = ((foN k n : Nat) : Int) :=
  xorShift_u64 n (2 ^ k) h
theorem fo_step (k n C : Nat) (h : n < 18446744073709551616) :
    IntKind.u64.wrap (bits .xor .u64 (n : Int) ((n : Int) / ((2 ^ k : Nat) : Int)) * (C : Int)) = ((foN k n * C % 18446744073709551616 : Nat) : Int) :=
  mixStep_u64 n (2 ^ k) C h
theorem quo_wrap (n s : Nat) (h : n < 18446744073709551616) : IntKind.u64.wrap ((n : Int).tdiv (s : Int)) = (n : Int) / (s : Int) := by
  have h1 : (n : Int).tdiv (s : Int) = ((n / s : Nat) : Int) := rfl
  have h2 : (n : Int) / (s : Int) = ((n / s : Nat) : Int) := rfl
  rw [h1, h2, IntKind.wrap_u64]
  have hq := Nat.lt_of_le_of_lt (Nat.div_le_self n s) h
  generalize n / s = q at hq
  omega

/-- What both Stirs reckon, in the shifts' spelling. -/
theorem st_shift (x : Nat) (h : x < 18446744073709551616) (A B : Int)
    (hA : A = IntKind.u64.wrap (bits .xor .u64 (x : Int) ((x : Int) / 1073741824) * 13787848793156543929))
    (hB : B = IntKind.u64.wrap (bits .xor .u64 A (A / 134217728) * 10723151780598845931)) :
    bits .xor .u64 B (B / 2147483648) = ((stN x : Nat) : Int) := by
  have e1 : A = ((foN 30 x * 13787848793156543929 % 18446744073709551616 : Nat) : Int) := hA.trans (fo_step 30 x 13787848793156543929 h)
  have e2 : B = ((foN 27 (foN 30 x * 13787848793156543929 % 18446744073709551616) * 10723151780598845931 % 18446744073709551616 : Nat) : Int) := by
    rw [hB, e1]; exact fo_step 27 _ 10723151780598845931 (Nat.mod_lt _ (by decide))
  rw [e2]
  exact fo_shift 31 _ (Nat.mod_lt _ (by decide))

/-- A number that is wrapped is a natural one below 2^64. -/
theorem wrap_nat (z : Int) : ∃ n : Nat, n < 18446744073709551616 ∧ IntKind.u64.wrap z = (n : Int) := by
  refine ⟨(z % 18446744073709551616).toNat, ?_, ?_⟩
  · omega
  · rw [IntKind.wrap_u64]; omega

/-- What both Stirs reckon, in the quotients' spelling. -/
theorem st_quo (x : Nat) (h : x < 18446744073709551616) (A B : Int)
    (hA : A = IntKind.u64.wrap (bits .xor .u64 (x : Int) ((x : Int) / 1073741824) * 13787848793156543929))
    (hB : B = IntKind.u64.wrap (bits .xor .u64 A (IntKind.u64.wrap (A.tdiv 134217728)) * 10723151780598845931)) :
    bits .xor .u64 B (IntKind.u64.wrap (B.tdiv 2147483648)) = ((stN x : Nat) : Int) := by
  obtain ⟨a, la, ea⟩ := wrap_nat (bits .xor .u64 (x : Int) ((x : Int) / 1073741824) * 13787848793156543929)
  rw [ea] at hA
  have qa : IntKind.u64.wrap (A.tdiv 134217728) = A / 134217728 := by rw [hA]; exact quo_wrap a 134217728 la
  rw [qa] at hB
  obtain ⟨b, lb, eb⟩ := wrap_nat (bits .xor .u64 A (A / 134217728) * 10723151780598845931)
  have qb : IntKind.u64.wrap (B.tdiv 2147483648) = B / 2147483648 := by rw [hB, eb]; exact quo_wrap b 2147483648 lb
  rw [qb]
  exact st_shift x h A B (by rw [hA, ea]) hB

theorem ret_u64 {a b : Int} (h : a = b) : Ending.returned (.int .u64 a) = .returned (.int .u64 b) := by rw [h]

theorem stir_nat (x : Nat) (hx : x < 18446744073709551616) (w : World) :
    Calls Try.prog 42 #[.int .u64 (x : Int)] w fun e w' => e = .returned (.int .u64 ((stN x : Nat) : Int)) ∧ w = w' := by
  go_enter Try.func42, Try.ntmps42
  go_wp2
  go_ret
  exact ⟨ret_u64 (st_shift x hx _ _ rfl rfl), rfl⟩

theorem rstir_nat (x : Nat) (hx : x < 18446744073709551616) (w : World) :
    Calls Try.prog 27 #[.int .u64 (x : Int)] w fun e w' => e = .returned (.int .u64 ((stN x : Nat) : Int)) ∧ w = w' := by
  go_enter Try.func27, Try.ntmps27
  go_wp2
  go_ret
  exact ⟨ret_u64 (st_quo x hx _ _ rfl rfl), rfl⟩

/-! ### The same over integers: how a caller's operands stand. -/
/-- Stir on an integer from 0 on. -/
def stZ (x : Int) : Int := ((stN x.toNat : Nat) : Int)
theorem stZ_nonneg (x : Int) : 0 ≤ stZ x := Int.natCast_nonneg _
theorem stZ_lt (x : Int) : stZ x < 18446744073709551616 := by have := stN_lt x.toNat; unfold stZ; omega
theorem stZ_inj (x y : Int) (hx : 0 ≤ x) (lx : x < 18446744073709551616) (hy : 0 ≤ y) (ly : y < 18446744073709551616) (h : stZ x = stZ y) : x = y := by
  have := stN_inj x.toNat y.toNat (by omega) (by omega) (by unfold stZ at h; omega)
  omega
theorem stir_any (x : Int) (hx : 0 ≤ x) (lx : x < 18446744073709551616) (w : World) :
    Calls Try.prog 42 #[.int .u64 x] w fun e w' => e = .returned (.int .u64 (stZ x)) ∧ w = w' := by
  have h := stir_nat x.toNat (by omega) w
  rw [Int.toNat_of_nonneg hx] at h
  exact h
theorem rstir_any (x : Int) (hx : 0 ≤ x) (lx : x < 18446744073709551616) (w : World) :
    Calls Try.prog 27 #[.int .u64 x] w fun e w' => e = .returned (.int .u64 (stZ x)) ∧ w = w' := by
  have h := rstir_nat x.toNat (by omega) w
  rw [Int.toNat_of_nonneg hx] at h
  exact h
theorem xor_nonneg (a b : Int) : 0 ≤ bits .xor .u64 a b := by
  show 0 ≤ IntKind.u64.wrap _
  rw [IntKind.wrap_u64]; omega
theorem xor_lt (a b : Int) : bits .xor .u64 a b < 18446744073709551616 := by
  show IntKind.u64.wrap _ < _
  rw [IntKind.wrap_u64]; omega
theorem wrap_nonneg (a : Int) : 0 ≤ IntKind.u64.wrap a := by rw [IntKind.wrap_u64]; omega
theorem wrap_lt (a : Int) : IntKind.u64.wrap a < 18446744073709551616 := by rw [IntKind.wrap_u64]; omega

end Go.Proofs.Ytcmblihlbmclaaa
