/-
  The two scans of the partitions, and their loops' equations, in the walks' words. (Written by wip/genus.py.)
-/
import Derived.Test.YtcmblihlbmclaaaUsMem
import Derived.BigRegion
namespace Go.Proofs.Ytcmblihlbmclaaa
open Go Go.RowKit Go.Sort

section
variable {p : Int → Bool} {d : Array Int} {i j : Nat}
theorem up_go (h : i ≤ j) (hp : p d[i]! = true) : scanUp p d j (i + 1) = scanUp p d j i := by
  rw [scanUp.eq_def p d j i, hp, decide_eq_true h]; rfl
theorem up_end (h : j < i ∨ p d[i]! = false) : scanUp p d j i = i := by
  rw [scanUp]
  rcases h with h | h
  · rw [decide_eq_false (by omega)]; rfl
  · rw [h, Bool.and_false]; rfl
theorem down_go (h : i ≤ j) (h0 : 1 ≤ j) (hp : p d[j]! = true) : scanDown p d i (j - 1) = scanDown p d i j := by
  cases j with
  | zero => omega
  | succ j =>
    rw [scanDown.eq_def p d i (j + 1)]
    simp only [hp, decide_eq_true h, Bool.and_true, if_pos, Nat.add_sub_cancel]
theorem down_end (h : j < i ∨ p d[j]! = false) : scanDown p d i j = j := by
  cases j with
  | zero => rfl
  | succ j =>
    rw [scanDown]
    rcases h with h | h
    · rw [decide_eq_false (by omega)]; rfl
    · rw [h, Bool.and_false]; rfl
end
section
variable {lt : Int → Int → Bool} {a i j i2 j2 : Nat} {d : Array Int}
theorem peq_stop (h2 : scanUp (fun x => !lt d[a]! x) d j i = i2) (h3 : scanDown (fun x => lt d[a]! x) d i2 j = j2) (h : j2 < i2) : partEqLoop lt a i j d = (i2, d) := by rw [partEqLoop_eq, h2, h3, if_pos h]
theorem peq_go (h2 : scanUp (fun x => !lt d[a]! x) d j i = i2) (h3 : scanDown (fun x => lt d[a]! x) d i2 j = j2) (h : ¬ j2 < i2) : partEqLoop lt a (i2 + 1) (j2 - 1) (swp d i2 j2) = partEqLoop lt a i j d := by rw [partEqLoop_eq lt a i j, h2, h3, if_neg h]
theorem part_stop (h2 : scanUp (fun x => lt x d[a]!) d j i = i2) (h3 : scanDown (fun x => !lt x d[a]!) d i2 j = j2) (h : j2 < i2) : partLoop lt a i j d = (j2, d) := by rw [partLoop_eq, h2, h3, if_pos h]
theorem part_go (h2 : scanUp (fun x => lt x d[a]!) d j i = i2) (h3 : scanDown (fun x => !lt x d[a]!) d i2 j = j2) (h : ¬ j2 < i2) : partLoop lt a (i2 + 1) (j2 - 1) (swp d i2 j2) = partLoop lt a i j d := by rw [partLoop_eq lt a i j, h2, h3, if_neg h]
end

end Go.Proofs.Ytcmblihlbmclaaa
