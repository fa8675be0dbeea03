/-
  Layer 15: counts of parts, by whom they leave and reach.
-/
import Derived.Test.YtcmblihlbmclaaaPnBegun
namespace Go.Proofs.Ytcmblihlbmclaaa
open Go Go.RowKit Go.Joins

def cntS (P : List Mv) (n : Int) : Nat := (P.filter fun m => decide (m.src < n)).length
def cntD (P : List Mv) (n : Int) : Nat := (P.filter fun m => decide (m.dst < n)).length
theorem cntS_next (P : List Mv) (n : Int) : cntS P (n + 1) = cntS P n + (P.filter fun m => m.src == n).length := by
  unfold cntS
  induction P with
  | nil => rfl
  | cons p P ih =>
    simp only [List.filter_cons]
    by_cases h1 : p.src < n
    · have h2 : p.src < n + 1 := by omega
      have h3 : (p.src == n) = false := by simp; omega
      rw [decide_eq_true h1, decide_eq_true h2, h3]
      simp only [if_true, Bool.false_eq_true, if_false, List.length_cons]
      omega
    · by_cases h2 : p.src = n
      · have h3 : p.src < n + 1 := by omega
        have h4 : (p.src == n) = true := by simp [h2]
        rw [decide_eq_false h1, decide_eq_true h3, h4]
        simp only [if_true, Bool.false_eq_true, if_false, List.length_cons]
        omega
      · have h3 : ¬ p.src < n + 1 := by omega
        have h4 : (p.src == n) = false := by simp [h2]
        rw [decide_eq_false h1, decide_eq_false h3, h4]
        simp only [Bool.false_eq_true, if_false]
        omega
theorem cntD_next (P : List Mv) (n : Int) : cntD P (n + 1) = cntD P n + (P.filter fun m => m.dst == n).length := by
  unfold cntD
  induction P with
  | nil => rfl
  | cons p P ih =>
    simp only [List.filter_cons]
    by_cases h1 : p.dst < n
    · have h2 : p.dst < n + 1 := by omega
      have h3 : (p.dst == n) = false := by simp; omega
      rw [decide_eq_true h1, decide_eq_true h2, h3]
      simp only [if_true, Bool.false_eq_true, if_false, List.length_cons]
      omega
    · by_cases h2 : p.dst = n
      · have h3 : p.dst < n + 1 := by omega
        have h4 : (p.dst == n) = true := by simp [h2]
        rw [decide_eq_false h1, decide_eq_true h3, h4]
        simp only [if_true, Bool.false_eq_true, if_false, List.length_cons]
        omega
      · have h3 : ¬ p.dst < n + 1 := by omega
        have h4 : (p.dst == n) = false := by simp [h2]
        rw [decide_eq_false h1, decide_eq_false h3, h4]
        simp only [Bool.false_eq_true, if_false]
        omega
theorem plan_nodes {x y : List Int} {P : List Mv} (hx : nodesB x = true) (hy : nodesB y = true) (hP : PlanIs (ownerL x) (ownerL y) P) (m : Mv) (hm : m ∈ P) : (1 ≤ m.src ∧ m.src ≤ 5) ∧ 1 ≤ m.dst ∧ m.dst ≤ 5 := by
  have h1 := hP.rng m hm
  obtain ⟨h2, h3⟩ := hP.own m hm m.frm (Int.le_refl _) h1.1
  refine ⟨?_, ?_⟩
  · rw [← h2]; exact node_in hx (owner_mem hx _)
  · rw [← h3]; exact node_in hy (owner_mem hy _)
theorem cntS_first {P : List Mv} (h : ∀ m ∈ P, 1 ≤ m.src) : cntS P 0 = 0 := by
  unfold cntS
  rw [List.filter_eq_nil_iff.2]
  · rfl
  · intro m hm; have := h m hm; simp; omega
theorem cntD_first {P : List Mv} (h : ∀ m ∈ P, 1 ≤ m.dst) : cntD P 0 = 0 := by
  unfold cntD
  rw [List.filter_eq_nil_iff.2]
  · rfl
  · intro m hm; have := h m hm; simp; omega
theorem cntS_last {P : List Mv} (h : ∀ m ∈ P, m.src ≤ 5) : cntS P 7 = P.length := by
  unfold cntS
  rw [List.filter_eq_self.2]
  intro m hm; have := h m hm; simp; omega
theorem cntD_last {P : List Mv} (h : ∀ m ∈ P, m.dst ≤ 5) : cntD P 7 = P.length := by
  unfold cntD
  rw [List.filter_eq_self.2]
  intro m hm; have := h m hm; simp; omega
theorem cntS_le (P : List Mv) (n : Int) : cntS P n ≤ P.length := List.length_filter_le _ _
theorem cntD_le (P : List Mv) (n : Int) : cntD P n ≤ P.length := List.length_filter_le _ _

end Go.Proofs.Ytcmblihlbmclaaa
