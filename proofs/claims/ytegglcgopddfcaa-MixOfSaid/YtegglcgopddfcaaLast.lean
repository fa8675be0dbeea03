/-
  THE LAST BYTE OF A TEXT TELLS TWO HASHES APART: plain mathematics over what Of answers.
-/
import Derived.Test.YtegglcgopddfcaaOf
import Derived.Laws.BytesArg
namespace Go.Proofs.Ytegglcgopddfcaa
open Go.RowKit

theorem xor_cancel (h x y : Int) (h0 : 0 ≤ h) (h1 : h < 18446744073709551616) (x0 : 0 ≤ x) (x1 : x < 18446744073709551616) (y0 : 0 ≤ y) (y1 : y < 18446744073709551616)
    (e : bits .xor .u64 h x = bits .xor .u64 h y) : x = y := by
  obtain ⟨n, rfl⟩ := Int.eq_ofNat_of_zero_le h0
  obtain ⟨p, rfl⟩ := Int.eq_ofNat_of_zero_le x0
  obtain ⟨q, rfl⟩ := Int.eq_ofNat_of_zero_le y0
  rw [bits_xor_u64_nat n p (by omega) (by omega), bits_xor_u64_nat n q (by omega) (by omega)] at e
  have e' : n ^^^ p = n ^^^ q := Int.ofNat.inj e
  have : n ^^^ (n ^^^ p) = n ^^^ (n ^^^ q) := by rw [e']
  rw [← Nat.xor_assoc, ← Nat.xor_assoc, Nat.xor_self, Nat.zero_xor, Nat.zero_xor] at this
  rw [this]
theorem xor_cancel_left (h g x : Int) (h0 : 0 ≤ h) (h1 : h < 18446744073709551616) (g0 : 0 ≤ g) (g1 : g < 18446744073709551616) (x0 : 0 ≤ x) (x1 : x < 18446744073709551616)
    (e : bits .xor .u64 h x = bits .xor .u64 g x) : h = g := by
  obtain ⟨n, rfl⟩ := Int.eq_ofNat_of_zero_le h0
  obtain ⟨p, rfl⟩ := Int.eq_ofNat_of_zero_le g0
  obtain ⟨q, rfl⟩ := Int.eq_ofNat_of_zero_le x0
  rw [bits_xor_u64_nat n q (by omega) (by omega), bits_xor_u64_nat p q (by omega) (by omega)] at e
  have e' : n ^^^ q = p ^^^ q := Int.ofNat.inj e
  have : (n ^^^ q) ^^^ q = (p ^^^ q) ^^^ q := by rw [e']
  rw [Nat.xor_assoc, Nat.xor_assoc, Nat.xor_self, Nat.xor_zero, Nat.xor_zero] at this
  rw [this]

theorem stepZ_range (h c : Int) : 0 ≤ stepZ h c ∧ stepZ h c < 18446744073709551616 := ⟨wrap_nonneg _, wrap_lt _⟩
theorem stepZ_inj (h : Int) (c d : UInt8) (h0 : 0 ≤ h) (h1 : h < 18446744073709551616) (e : stepZ h (c.toNat : Int) = stepZ h (d.toNat : Int)) : c = d := by
  unfold stepZ at e
  have hc := c.toNat_lt
  have hd := d.toNat_lt
  have wc : IntKind.u64.wrap (c.toNat : Int) = (c.toNat : Int) := by rw [IntKind.wrap_u64]; omega
  have wd : IntKind.u64.wrap (d.toNat : Int) = (d.toNat : Int) := by rw [IntKind.wrap_u64]; omega
  rw [wc, wd] at e
  have a0 := stZ_nonneg (bits .xor .u64 h (c.toNat : Int))
  have a1 := stZ_lt (bits .xor .u64 h (c.toNat : Int))
  have b0 := stZ_nonneg (bits .xor .u64 h (d.toNat : Int))
  have b1 := stZ_lt (bits .xor .u64 h (d.toNat : Int))
  have e1 : stZ (bits .xor .u64 h (c.toNat : Int)) = stZ (bits .xor .u64 h (d.toNat : Int)) := by
    rw [IntKind.wrap_u64, IntKind.wrap_u64] at e
    generalize stZ (bits .xor .u64 h (c.toNat : Int)) = x at *
    generalize stZ (bits .xor .u64 h (d.toNat : Int)) = y at *
    omega
  have e2 := stZ_inj _ _ (xor_nonneg _ _) (xor_lt _ _) (xor_nonneg _ _) (xor_lt _ _) e1
  have e3 := xor_cancel h _ _ h0 h1 (by omega) (by omega) (by omega) (by omega) e2
  exact UInt8.toNat_inj.1 (by omega)

theorem bytesZ_range (l : List UInt8) : ∀ h : Int, 0 ≤ h → h < 18446744073709551616 → 0 ≤ bytesZ h l ∧ bytesZ h l < 18446744073709551616 := by
  induction l with
  | nil => intro h h0 h1; exact ⟨h0, h1⟩
  | cons c l ih => intro h _ _; exact ih (stepZ h (c.toNat : Int)) (stepZ_range _ _).1 (stepZ_range _ _).2

theorem last_inj (h : Int) (l : List UInt8) (c d : UInt8) (n : Nat) (h0 : 0 ≤ h) (h1 : h < 18446744073709551616) (hn : n ≤ maxLen)
    (e : endZ (bytesZ h (l ++ [c])) n = endZ (bytesZ h (l ++ [d])) n) : c = d := by
  unfold maxLen at hn
  unfold endZ at e
  have e1 := stZ_inj _ _ (xor_nonneg _ _) (xor_lt _ _) (xor_nonneg _ _) (xor_lt _ _) e
  rw [bytesZ_snoc, bytesZ_snoc] at e1
  have e2 := xor_cancel_left _ _ _ (stepZ_range _ _).1 (stepZ_range _ _).2 (stepZ_range _ _).1 (stepZ_range _ _).2 (by omega) (by omega) e1
  have hr := bytesZ_range l h h0 h1
  exact stepZ_inj _ c d hr.1 hr.2 e2

/-- A byte as a number from 0 to 255. -/
theorem byte_inj (a b : Int) (ha : 0 ≤ a ∧ a ≤ 255) (hb : 0 ≤ b ∧ b ≤ 255) (e : UInt8.ofNat a.toNat = UInt8.ofNat b.toNat) : a = b := by
  have e1 : (UInt8.ofNat a.toNat).toNat = (UInt8.ofNat b.toNat).toNat := by rw [e]
  rw [UInt8.toNat_ofNat', UInt8.toNat_ofNat'] at e1
  omega

/-- A text with one byte more. -/
def more (s : ByteArray) (a : Int) : ByteArray := s ++ strOfNums [a]
theorem more_list (s : ByteArray) (a : Int) : (more s a).data.toList = s.data.toList ++ [UInt8.ofNat a.toNat] := by
  unfold more strOfNums
  simp
theorem more_size (s : ByteArray) (a : Int) : (more s a).size = s.size + 1 := by
  have : (more s a).data.toList.length = s.size + 1 := by rw [more_list]; simp
  simpa using this
theorem more_inj (s : ByteArray) (a b : Int) (hs : s.size + 1 ≤ maxLen) (ha : 0 ≤ a ∧ a ≤ 255) (hb : 0 ≤ b ∧ b ≤ 255) (e : partsZ [more s a] = partsZ [more s b]) : a = b := by
  have e1 : partZ 11400714819323198485 (more s a) = partZ 11400714819323198485 (more s b) := e
  unfold partZ at e1
  rw [more_list, more_list, more_size, more_size] at e1
  exact byte_inj a b ha hb (last_inj _ _ _ _ _ (by decide) (by decide) hs e1)
theorem more_test (s : ByteArray) (a b : Int) (hs : s.size + 1 ≤ maxLen) (ha : 0 ≤ a ∧ a ≤ 255) (hb : 0 ≤ b ∧ b ≤ 255) :
    ((partsZ [more s a] == partsZ [more s b]) == (a == b)) = true := by
  by_cases e : a = b
  · subst e; simp
  · have n1 : (a == b) = false := by simpa using e
    have n2 : (partsZ [more s a] == partsZ [more s b]) = false := by
      simp only [beq_eq_false_iff_ne, ne_eq]
      exact fun h => e (more_inj s a b hs ha hb h)
    rw [n1, n2]; rfl
/-- A text of one byte. -/
def one (a : Int) : ByteArray := strOfNums [a]
theorem one_more (a : Int) : one a = more ByteArray.empty a := by unfold one more; simp
end Go.Proofs.Ytegglcgopddfcaa
