/-
  THE PLAIN MATHEMATICS OF LAYER 1 (mix): 'stN', what Stir answers, on natural numbers below 2^64; that it stays below 2^64; that no two numbers below 2^64 have one. It imports nothing of the program.
-/
namespace Go.Proofs.Ytcmblihlbmclaaa

/-- One fold to the right: x with x shifted by k places (a division by 2^k) laid over it. -/
def foN (k x : Nat) : Nat := x ^^^ x / 2 ^ k
/-- Stir, on numbers below 2^64. -/
def stN (x : Nat) : Nat :=
  foN 31 (foN 27 (foN 30 x * 13787848793156543929 % 18446744073709551616) * 10723151780598845931 % 18446744073709551616)

theorem foN_lt (k x : Nat) (h : x < 18446744073709551616) : foN k x < 18446744073709551616 :=
  Nat.xor_lt_two_pow (n := 64) h (Nat.lt_of_le_of_lt (Nat.div_le_self _ _) h)

theorem stN_lt (x : Nat) : stN x < 18446744073709551616 := foN_lt 31 _ (Nat.mod_lt _ (by decide))

theorem foN_bit (k x i : Nat) : (foN k x).testBit i = (x.testBit i ^^ x.testBit (i + k)) := by
  unfold foN
  rw [Nat.testBit_xor, Nat.testBit_div_two_pow]

/-- No two numbers are folded to one: the bits are told apart from the highest down. -/
theorem foN_inj (k x y : Nat) (hk : 0 < k) (hx : x < 18446744073709551616) (hy : y < 18446744073709551616) (h : foN k x = foN k y) : x = y := by
  have top : ∀ z : Nat, z < 18446744073709551616 → ∀ i, 64 ≤ i → z.testBit i = false := fun z hz i hi =>
    Nat.testBit_lt_two_pow (Nat.lt_of_lt_of_le (show z < 2 ^ 64 from hz) (Nat.pow_le_pow_right (by decide) hi))
  have down : ∀ n i, 64 ≤ i + n → x.testBit i = y.testBit i := by
    intro n
    induction n with
    | zero => intro i hi; rw [top x hx i (by omega), top y hy i (by omega)]
    | succ n ih =>
      intro i hi
      have e : (foN k x).testBit i = (foN k y).testBit i := by rw [h]
      rw [foN_bit, foN_bit, ih (i + k) (by omega)] at e
      cases hA : x.testBit i <;> cases hB : y.testBit i <;> cases hC : y.testBit (i + k) <;> simp_all
  exact Nat.eq_of_testBit_eq fun i => down 64 i (by omega)

/-- A product by a number that has an inverse tells numbers below 2^64 apart. -/
theorem mul_inj (c d x y : Nat) (hcd : c * d % 18446744073709551616 = 1) (hx : x < 18446744073709551616) (hy : y < 18446744073709551616)
    (h : x * c % 18446744073709551616 = y * c % 18446744073709551616) : x = y := by
  have back : ∀ z : Nat, z < 18446744073709551616 → (z * c % 18446744073709551616) * d % 18446744073709551616 = z := by
    intro z hz
    rw [Nat.mul_mod, Nat.mod_mod, ← Nat.mul_mod, Nat.mul_assoc, Nat.mul_mod, hcd, Nat.mul_one, Nat.mod_mod]
    exact Nat.mod_eq_of_lt hz
  rw [← back x hx, ← back y hy, h]

theorem stN_inj (x y : Nat) (hx : x < 18446744073709551616) (hy : y < 18446744073709551616) (h : stN x = stN y) : x = y := by
  unfold stN at h
  have h1 := foN_inj 31 _ _ (by decide) (Nat.mod_lt _ (by decide)) (Nat.mod_lt _ (by decide)) h
  have h2 := mul_inj 10723151780598845931 3573116690164977347 _ _ (by decide) (foN_lt _ _ (Nat.mod_lt _ (by decide))) (foN_lt _ _ (Nat.mod_lt _ (by decide))) h1
  have h3 := foN_inj 27 _ _ (by decide) (Nat.mod_lt _ (by decide)) (Nat.mod_lt _ (by decide)) h2
  have h4 := mul_inj 13787848793156543929 10871156337175269513 _ _ (by decide) (foN_lt _ _ hx) (foN_lt _ _ hy) h3
  exact foN_inj 30 _ _ (by decide) hx hy h4

end Go.Proofs.Ytcmblihlbmclaaa
