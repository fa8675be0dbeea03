/-
  NumMath: texts of mine, joined.
-/
namespace Go.Proofs.YtemkjodkmehffaaGreatDoor
def zig (n : Int) : Nat := if n < 0 then (-2 * n - 1).toNat else (2 * n).toNat
def zag (u : Nat) : Int := if u % 2 = 1 then -((u / 2 : Nat) : Int) - 1 else ((u / 2 : Nat) : Int)
theorem zag_zig (n : Int) : zag (zig n) = n := by
 unfold zag zig; split <;> split <;> omega
theorem zig_lt (n : Int) (h1 : -9223372036854775808 ≤ n) (h2 : n < 9223372036854775808) : zig n < 18446744073709551616 := by
 unfold zig; split <;> omega
theorem zag_bd (u : Nat) (h : u < 18446744073709551616) : -9223372036854775808 ≤ zag u ∧ zag u < 9223372036854775808 := by
 unfold zag; split <;> omega
def vin (n : Nat) : List UInt8 :=
 if n < 128 then [UInt8.ofNat n] else UInt8.ofNat (n % 128 + 128) :: vin (n / 128)
 termination_by n
 decreasing_by omega
theorem vin_small (n : Nat) (h : n < 128) : vin n = [UInt8.ofNat n] := by rw [vin, if_pos h]
theorem vin_big (n : Nat) (h : ¬ n < 128) : vin n = UInt8.ofNat (n % 128 + 128) :: vin (n / 128) := by rw [vin, if_neg h]
theorem vin_pos (n : Nat) : 0 < (vin n).length := by rw [vin]; split <;> simp
theorem vin_len (k n : Nat) (h : n < 128 ^ (k + 1)) : (vin n).length ≤ k + 1 := by
 induction k generalizing n with
 | zero => rw [vin_small n (by simpa using h)]; simp
 | succ k ih =>
  by_cases hs : n < 128
  ·rw [vin_small n hs]; simp
  ·rw [vin_big n hs, List.length_cons]
   have := ih (n / 128) (by rw [Nat.div_lt_iff_lt_mul (by decide)]; rw [Nat.pow_succ] at h; exact h)
   omega
theorem vin_len10 (n : Nat) (h : n < 18446744073709551616) : (vin n).length ≤ 10 := vin_len 9 n (Nat.lt_trans h (by decide))
inductive Got where
 | ok (u k : Nat)
 | form
 | more
 deriving DecidableEq
def vget : Nat → Nat → List UInt8 → Got
 | _, _, [] => .more
 | i, u, c :: l =>
  if i = 9 ∧ 1 < c.toNat then .form
  else if 128 ≤ c.toNat then vget (i + 1) (u + c.toNat % 128 * 128 ^ i) l
  else if c.toNat = 0 ∧ 0 < i then .form
  else .ok (u + c.toNat % 128 * 128 ^ i) (i + 1)
theorem vget_ok (i u : Nat) (l : List UInt8) (v k : Nat) (h : vget i u l = .ok v k) : i < k ∧ k ≤ i + l.length := by
 induction l generalizing i u with
 | nil => simp [vget] at h
 | cons c l ih =>
  rw [vget] at h
  split at h
  ·cases h
  ·split at h
   ·have := ih _ _ h; simp; omega
   ·split at h
    ·cases h
    ·injection h with h1 h2; simp; omega
theorem vget_bd (i u : Nat) (l : List UInt8) (v k : Nat) (hi : i ≤ 9) (hu : u < 128 ^ i) (h : vget i u l = .ok v k) : v < 18446744073709551616 ∧ k ≤ 10 := by
 induction l generalizing i u with
 | nil => simp [vget] at h
 | cons c l ih =>
  have hc := c.toNat_lt
  rw [vget] at h
  have hp : u + c.toNat % 128 * 128 ^ i < 128 ^ (i + 1) := by
   have h1 : c.toNat % 128 ≤ 127 := by omega
   have h2 := Nat.mul_le_mul_right (128 ^ i) h1
   rw [Nat.pow_succ]; omega
  by_cases h9 : i = 9
  ·subst h9
   split at h
   ·cases h
   ·split at h
    ·omega
    ·split at h
     ·cases h
     ·injection h with h1 h2
      simp at hu hp h1 ⊢
      omega
  ·have hlt : u + c.toNat % 128 * 128 ^ i < 18446744073709551616 :=
    Nat.lt_of_lt_of_le hp (Nat.le_trans (Nat.pow_le_pow_right (by decide) (show i + 1 ≤ 9 by omega)) (by decide))
   split at h
   ·cases h
   ·split at h
    ·exact ih _ _ (by omega) hp h
    ·split at h
     ·cases h
     ·injection h with h1 h2
      omega
theorem vget_vin_at (n : Nat) : ∀ (i u : Nat) (r : List UInt8), (n * 128 ^ i < 18446744073709551616) → (0 < i → 0 < n) → vget i u (vin n ++ r) = .ok (u + n * 128 ^ i) (i + (vin n).length) := by
 induction n using Nat.strongRecOn with
 | _ n ih =>
  intro i u r hb hn
  have h9 : i ≤ 9 ∨ n = 0 := by
   rcases Nat.lt_or_ge 9 i with h | h
   ·right
    have h1 : 128 ^ 10 ≤ 128 ^ i := Nat.pow_le_pow_right (by decide) h
    have h2 : (128 : Nat) ^ 10 = 1180591620717411303424 := by decide
    rcases Nat.eq_zero_or_pos n with h0 | h0
    ·exact h0
    ·have := Nat.mul_le_mul h0 h1; omega
   ·exact .inl h
  have hi9 : i = 9 → n ≤ 1 := by
   rintro rfl
   have h2 : (128 : Nat) ^ 9 = 9223372036854775808 := by decide
   rw [h2] at hb; omega
  by_cases hs : n < 128
  ·have hc : (UInt8.ofNat n).toNat = n := by rw [UInt8.toNat_ofNat']; omega
   rw [vin_small n hs]
   simp only [List.cons_append, List.nil_append, vget, hc, List.length_singleton]
   rw [if_neg (by omega), if_neg (by omega), if_neg (by omega), Nat.mod_eq_of_lt hs]
  ·have hc : (UInt8.ofNat (n % 128 + 128)).toNat = n % 128 + 128 := by rw [UInt8.toNat_ofNat']; omega
   have hq : n / 128 * 128 ^ (i + 1) ≤ n * 128 ^ i := by
    rw [Nat.pow_succ, Nat.mul_comm (128 ^ i) 128, ← Nat.mul_assoc]
    exact Nat.mul_le_mul_right _ (Nat.div_mul_le_self n 128)
   rw [vin_big n hs]
   simp only [List.cons_append, vget, hc, List.length_cons]
   rw [if_neg (by omega), if_pos (by omega), ih (n / 128) (by omega) (i + 1) _ r (by omega) (by omega)]
   have e : (n % 128 + 128) % 128 = n % 128 := by omega
   have e2 : n % 128 * 128 ^ i + n / 128 * 128 ^ (i + 1) = n * 128 ^ i := by
    rw [Nat.pow_succ, Nat.mul_comm (128 ^ i) 128, ← Nat.mul_assoc, ← Nat.add_mul]
    congr 1; omega
   rw [e, Nat.add_assoc, e2, Nat.add_assoc, Nat.add_comm 1]
theorem vget_vin (n : Nat) (r : List UInt8) (h : n < 18446744073709551616) : vget 0 0 (vin n ++ r) = .ok n (vin n).length := by
 have := vget_vin_at n 0 0 r (by simpa using h) (fun h => absurd h (by decide))
 simpa using this
def putZ (n : Int) : List UInt8 := vin (zig n)
def putT (s : List UInt8) : List UInt8 := putZ s.length ++ s
theorem putZ_len (n : Int) (h1 : -9223372036854775808 ≤ n) (h2 : n < 9223372036854775808) : (putZ n).length ≤ 10 := vin_len10 _ (zig_lt n h1 h2)
def getZ (l : List UInt8) : Int × Nat × Nat :=
 match vget 0 0 l with
 | .ok u k => (zag u, k, 0)
 | .form => (0, 0, 1)
 | .more => (0, 0, 2)
theorem getZ_put (n : Int) (r : List UInt8) (h1 : -9223372036854775808 ≤ n) (h2 : n < 9223372036854775808) : getZ (putZ n ++ r) = (n, (putZ n).length, 0) := by
 unfold getZ putZ; rw [vget_vin _ _ (zig_lt n h1 h2)]; simp only [zag_zig]
theorem getZ_cases (l : List UInt8) : (∃ n k, getZ l = (n, k, 0) ∧ 0 < k ∧ k ≤ 10 ∧ k ≤ l.length ∧ -9223372036854775808 ≤ n ∧ n < 9223372036854775808) ∨ getZ l = (0, 0, 1) ∨ getZ l = (0, 0, 2) := by
 unfold getZ
 split
 ·rename_i u k hv
  have h1 := vget_ok 0 0 l u k hv
  have h2 := vget_bd 0 0 l u k (by decide) (by decide) hv
  have h3 := zag_bd u h2.1
  exact .inl ⟨_, _, rfl, by omega, by omega, by omega, h3.1, h3.2⟩
 ·exact .inr (.inl rfl)
 ·exact .inr (.inr rfl)
def getT (l : List UInt8) : List UInt8 × Nat × Nat :=
 match getZ l with
 | (n, k, 0) => if n < 0 ∨ 65536 < n then ([], 0, 1) else if (l.length : Int) < k + n then ([], 0, 2) else ((l.drop k).take n.toNat, k + n.toNat, 0)
 | (_, _, e + 1) => ([], 0, e + 1)
theorem getT_put (s r : List UInt8) (h : s.length ≤ 65536) : getT (putT s ++ r) = (s, (putT s).length, 0) := by
 unfold getT putT
 rw [List.append_assoc, getZ_put _ _ (by omega) (by omega)]
 simp only
 rw [if_neg (by omega), if_neg (by simp; omega)]
 simp
end Go.Proofs.YtemkjodkmehffaaGreatDoor
