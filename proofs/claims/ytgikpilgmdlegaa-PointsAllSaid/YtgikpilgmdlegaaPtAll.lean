/-
  POINTS OF MANY NODES: told apart, each once; single operations of PointsAll's regions.
-/
import Derived.Test.YtgikpilgmdlegaaPtRow
import Derived.Test.YtgikpilgmdlegaaPtNodes
namespace Go.Proofs.Ytgikpilgmdlegaa
open Go Go.RowKit Go.Joins

section
variable {o : Oper} {a : Act} {w : World} {Q : Exit → Act → World → Prop} {x y : Operand}
theorem kp_ixP {b off n c j : Nat} (hj : j < n) (ho : o.op = .indexAddr 26 x y) (hx : a.eval x = .slice (some ⟨b, off, none⟩) n c) (hy : a.eval y = .int .i64 (j : Int)) :
    o.wp Try.prog a w (fun a' w' => ∃ v, a' = a.put o.dst v ∧ Kp w w' ∧ IsV (.pointer (some ⟨b, off + j * 2, none⟩)) w' v) Q := by
  refine kp_yield (v := .pointer (some ⟨b, off + j * 2, none⟩)) (w' := w) ?_ (Keeps.refl _ _) rfl
  generalize a.eval = ρ at hx hy ⊢
  unfold execOp
  rw [ho]
  go_simp
theorem kp_ldPt {b q : Nat} {m : P2} (h0 : w.cell? ⟨b, q, none⟩ = some (.int .u64 m.place)) (h1 : w.cell? ⟨b, q + 1, none⟩ = some (.int .i64 m.node)) (ho : o.op = .load 31 x) (hx : a.eval x = .pointer (some ⟨b, q, none⟩)) :
    o.wp Try.prog a w (fun a' w' => ∃ v, a' = a.put o.dst v ∧ Kp w w' ∧ IsV (pagg m) w' v) Q := by
  refine kp_yield (v := pagg m) (w' := w) ?_ (Keeps.refl _ _) rfl
  generalize a.eval = ρ at hx ⊢
  unfold execOp pagg
  rw [ho]
  go_simp
theorem kp_predZ {j : Nat} (hj : j ≤ 1000000) (ho : o.op = .binOp .sub 3 x y 3) (hx : a.eval x = .int .i64 ((j + 1 : Nat) : Int)) (hy : a.eval y = .int .i64 1) : o.wp Try.prog a w (fun a' w' => ∃ v, a' = a.put o.dst v ∧ Kp w w' ∧ IsV (.int .i64 (j : Int)) w' v) Q := by
  refine kp_yield (v := .int .i64 (j : Int)) (w' := w) ?_ (Keeps.refl _ _) rfl
  generalize a.eval = ρ at hx hy ⊢
  unfold execOp
  rw [ho]
  go_simp
  rw [IntKind.wrap_i64]
  omega
theorem kp_lessP (S : PointsOK) {m n : P2} {b : Bool} (hb : lessB m n = b) (ho : o.op = .call { callee := .value (.func 11), args := #[x, y], argTypes := #[31, 31] }) (hx : a.eval x = pagg m) (hy : a.eval y = pagg n) :
    o.wp Try.prog a w (fun a' w' => ∃ v, a' = a.put o.dst v ∧ Kp w w' ∧ IsV (.bool b) w' v) Q := by
  subst hb
  have hg : a.eval (.func 11) = .func (.func 11) #[] #[] := rfl
  refine kp_enter (f := 11) (args := #[pagg m, pagg n]) ?_ (S.less w m n) ?_
  · generalize a.eval = ρ at hx hy hg ⊢
    unfold execOp
    rw [ho]
    go_simp
  · rintro e w' ⟨rfl, hk⟩
    exact ⟨_, rfl, hk, rfl⟩
theorem kp_notP {b c : Bool} (hc : (!b) = c) (ho : o.op = .unOp .not 4 x) (hx : a.eval x = .bool b) : o.wp Try.prog a w (fun a' w' => ∃ v, a' = a.put o.dst v ∧ Kp w w' ∧ IsV (.bool c) w' v) Q := by
  subst hc
  refine kp_yield (v := .bool (!b)) (w' := w) ?_ (Keeps.refl _ _) rfl
  generalize a.eval = ρ at hx ⊢
  unfold execOp
  rw [ho]
  go_simp
end

end Go.Proofs.Ytgikpilgmdlegaa
