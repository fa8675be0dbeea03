/-
  THE CONTRACTS OF THE REFERENCE OF LAYER 2: Put, PutText.
-/
import Derived.Test.YtpijhpfcigjkeaaDoorAllNums
import Derived.WalkSpells
namespace Go.Proofs.YtpijhpfcigjkeaaDoor
open Go Go.RowKit

theorem u64_compl (x : Nat) (h : x < 18446744073709551616) : bits .xor .u64 18446744073709551615 (x : Int) = ((18446744073709551615 - x : Nat) : Int) := by
  have e := u64_xor_nat 18446744073709551615 x (by decide) h
  have e2 : (18446744073709551615 : Nat) ^^^ x = 18446744073709551615 - x := by
    apply Nat.eq_of_testBit_eq
    intro i
    rw [show (18446744073709551615 - x : Nat) = 2 ^ 64 - (x + 1) by omega, Nat.testBit_two_pow_sub_succ (by omega), Nat.testBit_xor,
      show (18446744073709551615 : Nat) = 2 ^ 64 - 1 from by decide, Nat.testBit_two_pow_sub_one]
    by_cases hi : i < 64
    · simp [hi]
    · have := Nat.testBit_lt_two_pow (Nat.lt_of_lt_of_le (show x < 2 ^ 64 from h) (Nat.pow_le_pow_right (by decide) (show 64 ≤ i by omega)))
      simp [hi, this]
  rw [← e2, ← e]; rfl


end Go.Proofs.YtpijhpfcigjkeaaDoor
