/-
  NODES BY THE BITS OF A NUMBER, as mathematics (layers 14, 15).
-/
import Derived.Test.YtcmblihlbmclaaaPtMath
import Derived.Laws.BitsLemmas
namespace Go.Proofs.Ytcmblihlbmclaaa
open Go Go.RowKit Go.Joins

/-- The bit at k. -/
def bitB (z : Int) (k : Nat) : Bool := decide (z / ((2 ^ k : Nat) : Int) % 2 = 1)
/-- Nodes by bits: of the first k. -/
def nodes5 (q : Nat → Bool) (k : Nat) : List Int := (List.range k).flatMap fun i => if q i then [(i : Int) + 1] else []
theorem nodes5_next (q : Nat → Bool) (k : Nat) : nodes5 q (k + 1) = nodes5 q k ++ if q k then [(k : Int) + 1] else [] := by
  unfold nodes5
  rw [List.range_succ, List.flatMap_append]
  simp
theorem nodes5_len (q : Nat → Bool) (k : Nat) : (nodes5 q k).length ≤ k := by
  induction k with
  | zero => exact Nat.le_refl _
  | succ k ih =>
    rw [nodes5_next, List.length_append]
    split <;> simp <;> omega
theorem nodes5_may (q : Nat → Bool) : nodesB (nodes5 q 5) = !(nodes5 q 5).isEmpty := by
  have e : nodes5 q 5 = (if q 0 then [1] else []) ++ ((if q 1 then [2] else []) ++ ((if q 2 then [3] else []) ++ ((if q 3 then [4] else []) ++ (if q 4 then [5] else [])))) := by
    unfold nodes5
    simp [List.range, List.range.loop]
  rw [e]
  cases q 0 <;> cases q 1 <;> cases q 2 <;> cases q 3 <;> cases q 4 <;> rfl
theorem nodes5_mem (q : Nat → Bool) (k : Nat) (x : Int) : x ∈ nodes5 q k ↔ ∃ i, i < k ∧ q i = true ∧ x = (i : Int) + 1 := by
  unfold nodes5
  rw [List.mem_flatMap]
  constructor
  · rintro ⟨i, hi, hx⟩
    cases hq : q i with
    | false => rw [hq] at hx; simp at hx
    | true =>
      rw [hq] at hx
      simp at hx
      exact ⟨i, List.mem_range.1 hi, hq, hx⟩
  · rintro ⟨i, hi, hq, rfl⟩
    exact ⟨i, List.mem_range.2 hi, by rw [hq]; simp⟩
theorem bit_test (z : Int) (k : Nat) : ((z / 2 ^ k).tmod 2 != 0) = bitB z k := by
  have e : (2 : Int) ^ k = ((2 ^ k : Nat) : Int) := by simp
  unfold bitB
  rw [e, Bool.eq_iff_iff]
  generalize z / ((2 ^ k : Nat) : Int) = y
  simp only [bne_iff_ne, ne_eq, decide_eq_true_eq]
  have := Int.tmod_eq_emod (a := y) (b := 2)
  split at this <;> omega
theorem bit_nat (z : Int) (k : Nat) (hk : k < 5) : bitB z k = (BitVec.ofInt 64 z).getLsbD k := by
  rw [← BitVec.testBit_toNat, BitVec.toNat_ofInt, Nat.testBit_eq_decide_div_mod_eq]
  unfold bitB
  have h : k = 0 ∨ k = 1 ∨ k = 2 ∨ k = 3 ∨ k = 4 := by omega
  rw [decide_eq_decide]
  rcases h with rfl | rfl | rfl | rfl | rfl <;> simp only [Nat.reducePow] <;> omega
theorem bit_wrap (n k : Nat) (hk : k < 5) : bitB (IntKind.i64.wrap (n : Int)) k = n.testBit k := by
  rw [IntKind.wrap_i64, Nat.testBit_eq_decide_div_mod_eq]
  unfold bitB
  have h : k = 0 ∨ k = 1 ∨ k = 2 ∨ k = 3 ∨ k = 4 := by omega
  rw [decide_eq_decide]
  rcases h with rfl | rfl | rfl | rfl | rfl <;> simp only [Nat.reducePow] <;> omega
theorem bit_or (a b : Int) (k : Nat) (hk : k < 5) : bitB (bits .or .i64 a b) k = (bitB a k || bitB b k) := by
  have e : bits .or .i64 a b = IntKind.i64.wrap (((BitVec.ofInt 64 a ||| BitVec.ofInt 64 b).toNat : Nat) : Int) := rfl
  rw [e, bit_wrap _ k hk, BitVec.testBit_toNat, BitVec.getLsbD_or, bit_nat a k hk, bit_nat b k hk]
theorem bit_andNot (a b : Int) (k : Nat) (hk : k < 5) : bitB (bits .andNot .i64 a b) k = (bitB a k && !bitB b k) := by
  have e : bits .andNot .i64 a b = IntKind.i64.wrap (((BitVec.ofInt 64 a &&& ~~~BitVec.ofInt 64 b).toNat : Nat) : Int) := rfl
  rw [e, bit_wrap _ k hk, BitVec.testBit_toNat, BitVec.getLsbD_and, BitVec.getLsbD_not, bit_nat a k hk, bit_nat b k hk]
  have : decide (k < 64) = true := by simp; omega
  rw [this, Bool.true_and]

/-- A node off any number. -/
theorem node_of (z : Int) : ∃ j : Nat, j < 5 ∧ wrap64 (1 + (wrap64 (z.tmod 5 + 5)).tmod 5) = ((j + 1 : Nat) : Int) := by
  have h1 := Int.tmod_eq_emod (a := z) (b := 5)
  have ht : -5 < z.tmod 5 ∧ z.tmod 5 < 5 := by split at h1 <;> omega
  generalize z.tmod 5 = t at ht
  have hw : wrap64 (t + 5) = t + 5 := by simp only [wrap64]; omega
  rw [hw]
  have h2 := Int.tmod_eq_emod (a := t + 5) (b := 5)
  have hs : 0 ≤ (t + 5).tmod 5 ∧ (t + 5).tmod 5 < 5 := by split at h2 <;> omega
  generalize (t + 5).tmod 5 = s at hs
  refine ⟨s.toNat, by omega, ?_⟩
  have hv : wrap64 (1 + s) = 1 + s := by simp only [wrap64]; omega
  rw [hv]
  omega

/-- The bits without and with one. -/
theorem bit_one (j k : Nat) (hj : j < 5) (hk : k < 5) : bitB ((2 ^ j : Nat) : Int) k = decide (k = j) := by
  have h : j = 0 ∨ j = 1 ∨ j = 2 ∨ j = 3 ∨ j = 4 := by omega
  have h2 : k = 0 ∨ k = 1 ∨ k = 2 ∨ k = 3 ∨ k = 4 := by omega
  rcases h with rfl | rfl | rfl | rfl | rfl <;> rcases h2 with rfl | rfl | rfl | rfl | rfl <;> rfl
theorem sub_of (z : Int) (j : Nat) (hj : j < 5) (x : Int) : x ∈ nodes5 (bitB (bits .or .i64 z ((2 ^ j : Nat) : Int))) 5 ↔ x ∈ nodes5 (bitB (bits .andNot .i64 z ((2 ^ j : Nat) : Int))) 5 ∨ x = ((j + 1 : Nat) : Int) := by
  rw [nodes5_mem, nodes5_mem]
  constructor
  · rintro ⟨i, hi, hq, rfl⟩
    rw [bit_or _ _ i hi, bit_one j i hj hi] at hq
    by_cases e : i = j
    · subst e; exact .inr (by omega)
    · refine .inl ⟨i, hi, ?_, rfl⟩
      rw [bit_andNot _ _ i hi, bit_one j i hj hi]
      simpa [e] using hq
  · rintro (⟨i, hi, hq, rfl⟩ | rfl)
    · refine ⟨i, hi, ?_, rfl⟩
      rw [bit_andNot _ _ i hi, bit_one j i hj hi] at hq
      rw [bit_or _ _ i hi, bit_one j i hj hi]
      simp at hq
      simp [hq.1]
    · exact ⟨j, hj, by rw [bit_or _ _ j hj, bit_one j j hj hj]; simp, by omega⟩
theorem not_of (z : Int) (j : Nat) (hj : j < 5) : ((j + 1 : Nat) : Int) ∉ nodes5 (bitB (bits .andNot .i64 z ((2 ^ j : Nat) : Int))) 5 := by
  rw [nodes5_mem]
  rintro ⟨i, hi, hq, e⟩
  obtain rfl : i = j := by omega
  rw [bit_andNot _ _ i hi, bit_one i i hj hi] at hq
  simp at hq
theorem pow_of (j : Nat) (hj : j < 5) : wrap64 (2 ^ j) = ((2 ^ j : Nat) : Int) := by
  have h : j = 0 ∨ j = 1 ∨ j = 2 ∨ j = 3 ∨ j = 4 := by omega
  rcases h with rfl | rfl | rfl | rfl | rfl <;> simp [wrap64]

end Go.Proofs.Ytcmblihlbmclaaa
