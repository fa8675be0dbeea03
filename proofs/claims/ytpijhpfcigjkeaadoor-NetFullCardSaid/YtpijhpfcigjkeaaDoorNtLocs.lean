/-
  SINGLE OPERATIONS OF LAYER 20's REGIONS.
-/
import Derived.Test.YtpijhpfcigjkeaaDoorNtBegun
namespace Go.Proofs.YtpijhpfcigjkeaaDoor
open Go Go.RowKit Go.Joins

section
variable {o : Oper} {a : Act} {w : World} {Q : Exit → Act → World → Prop} {x y : Operand}
theorem kp_lenNt (S : NetOK) {W : World} {n : Nat} {F : Nat → Prop} {l : List Ms} {N : Nat} (hN : l.length = N) (hT : S.T W) (h : S.At W w n F l) (ho : o.op = .call { callee := .value (.func 17), args := #[x], argTypes := #[24] }) (hx : a.eval x = .pointer (some ⟨n, 0, none⟩)) :
    o.wp Tryd.prog a w (fun a' w' => ∃ v, a' = a.put o.dst v ∧ Kp w w' ∧ IsV (.int .i64 (N : Int)) w' v) Q := by
  subst hN
  refine kp_enter (f := 17) (args := #[.pointer (some ⟨n, 0, none⟩)]) ?_ (S.len W w n F l hT h) (fun e w' h => ⟨_, h.1, h.2, rfl⟩)
  have hf : a.eval (.func 17) = .func (.func 17) #[] #[] := rfl
  generalize a.eval = ρ at hx hf ⊢
  unfold execOp
  rw [ho]
  go_simp
theorem kp_ixI {b off n c j : Nat} (hj : j < n) (ho : o.op = .indexAddr 34 x y) (hx : a.eval x = .slice (some ⟨b, off, none⟩) n c) (hy : a.eval y = .int .i64 (j : Int)) :
    o.wp Tryd.prog a w (fun a' w' => ∃ v, a' = a.put o.dst v ∧ Kp w w' ∧ IsV (.pointer (some ⟨b, off + j, none⟩)) w' v) Q := by
  refine kp_yield (v := .pointer (some ⟨b, off + j, none⟩)) (w' := w) ?_ (Keeps.refl _ _) rfl
  generalize a.eval = ρ at hx hy ⊢
  unfold execOp
  rw [ho]
  go_simp
theorem kp_ldI {b q : Nat} {z : Int} (h : w.cell? ⟨b, q, none⟩ = some (.int .i64 z)) (ho : o.op = .load 3 x) (hx : a.eval x = .pointer (some ⟨b, q, none⟩)) :
    o.wp Tryd.prog a w (fun a' w' => ∃ v, a' = a.put o.dst v ∧ Kp w w' ∧ IsV (.int .i64 z) w' v) Q := by
  refine kp_yield (v := .int .i64 z) (w' := w) ?_ (Keeps.refl _ _) rfl
  generalize a.eval = ρ at hx ⊢
  unfold execOp
  rw [ho]
  go_simp
theorem kp_remI {z t N : Int} (h0 : 0 < N) (h1 : z.tmod N = t) (h2 : -1000000 ≤ t) (h3 : t ≤ 1000000) (ho : o.op = .binOp .rem 3 x y 3) (hx : a.eval x = .int .i64 z) (hy : a.eval y = .int .i64 N) :
    o.wp Tryd.prog a w (fun a' w' => ∃ v, a' = a.put o.dst v ∧ Kp w w' ∧ IsV (.int .i64 t) w' v) Q := by
  have hn : N ≠ 0 := by omega
  have hw : IntKind.i64.wrap t = t := by rw [IntKind.wrap_i64]; omega
  refine kp_yield (v := .int .i64 t) (w' := w) ?_ (Keeps.refl _ _) rfl
  generalize a.eval = ρ at hx hy ⊢
  unfold execOp
  rw [ho]
  subst h1
  go_simp
theorem kp_addI {z t : Int} (h2 : -9223372036854775808 ≤ z + t) (h3 : z + t < 9223372036854775808) (ho : o.op = .binOp .add 3 x y 3) (hx : a.eval x = .int .i64 z) (hy : a.eval y = .int .i64 t) :
    o.wp Tryd.prog a w (fun a' w' => ∃ v, a' = a.put o.dst v ∧ Kp w w' ∧ IsV (.int .i64 (z + t)) w' v) Q := by
  refine kp_yield (v := .int .i64 (z + t)) (w' := w) ?_ (Keeps.refl _ _) rfl
  generalize a.eval = ρ at hx hy ⊢
  unfold execOp
  rw [ho]
  go_simp
  rw [IntKind.wrap_i64]
  omega
end
/-- Go's (z % n + n) % n. -/
theorem turn_nt (z : Int) (N : Nat) (hN : 0 < N) : ∃ (r : Int) (k : Nat), z.tmod (N : Int) = r ∧ -(N : Int) < r ∧ r < (N : Int) ∧ (r + (N : Int)).tmod (N : Int) = (k : Int) ∧ k < N := by
  have h1 := Int.tmod_lt_of_pos z (show (0 : Int) < (N : Int) by omega)
  have h2 : -(N : Int) < z.tmod (N : Int) := by
    rcases Int.le_total 0 z with h | h
    · have := Int.tmod_nonneg (N : Int) h; omega
    · have h3 := Int.tmod_lt_of_pos (-z) (show (0 : Int) < (N : Int) by omega)
      rw [Int.neg_tmod] at h3
      omega
  generalize z.tmod (N : Int) = r at h1 h2
  have h4 := Int.emod_nonneg (r + (N : Int)) (show (N : Int) ≠ 0 by omega)
  have h5 := Int.emod_lt_of_pos (r + (N : Int)) (show (0 : Int) < (N : Int) by omega)
  refine ⟨r, ((r + (N : Int)) % (N : Int)).toNat, rfl, h2, h1, ?_, by omega⟩
  rw [Int.tmod_eq_emod_of_nonneg (by omega)]
  omega
theorem sent_one {l : List Ms} {m : Ms} (h : mayM m = true) (hl : l.length < 300) : sent l [m] = (l ++ [m], 1) := by
  simp [sent, h, hl]
theorem sent_full {l : List Ms} {m : Ms} (hl : ¬ l.length < 300) : sent l [m] = (l, 0) := by
  simp [sent, hl]
theorem sent_not {l : List Ms} {m : Ms} (h : mayM m = false) : sent l [m] = (l, 0) := by
  simp [sent, h]

end Go.Proofs.YtpijhpfcigjkeaaDoor
