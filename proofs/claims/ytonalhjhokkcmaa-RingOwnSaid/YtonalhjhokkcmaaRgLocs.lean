/-
  LAYER 14's drawn region: each operation by itself.
-/
import Derived.Test.YtonalhjhokkcmaaRgSmall
import Derived.Test.YtonalhjhokkcmaaInvG
namespace Go.Proofs.Ytonalhjhokkcmaa
open Go Go.RowKit Go.Joins

/-- A slice of these numbers, wherever it lies. -/
def ISl (l : List Int) (w : World) (v : Value) : Prop := ∃ B cb, v = .slice B l.length cb ∧ Row w B (fun _ => True) (l.map (Value.int .i64))
theorem ISl.keep {l : List Int} {w w' : World} {v : Value} (h : ISl l w v) (hk : Kp w w') : ISl l w' v := by
  obtain ⟨B, cb, e, hr⟩ := h
  exact ⟨B, cb, e, hr.keep hk⟩
/-- A pointer to a number. -/
def IPt (z : Int) (w : World) (v : Value) : Prop := ∃ p, v = .pointer (some p) ∧ w.cell? p = some (.int .i64 z)
theorem IPt.keep {z : Int} {w w' : World} {v : Value} (h : IPt z w v) (hk : Kp w w') : IPt z w' v := by
  obtain ⟨p, e, hc⟩ := h
  exact ⟨p, e, hk.cell hc trivial⟩
section
variable {o : Oper} {a : Act} {w : World} {Q : Exit → Act → World → Prop} {x y z : Operand}
theorem kp_moveV {V : World → Value → Prop} (ho : o.op = .move x) (hx : V w (a.eval x)) : o.wp Try.prog a w (fun a' w' => ∃ v', a' = a.put o.dst v' ∧ Kp w w' ∧ V w' v') Q := by
  refine kp_yield (v := a.eval x) ?_ (Keeps.refl _ _) hx
  unfold execOp; rw [ho]; rfl
theorem kp_lenI {l : List Int} {N : Nat} (hN : l.length = N) (ho : o.op = .call { callee := .builtin .len, args := #[x], argTypes := #[24] }) (hx : ISl l w (a.eval x)) : o.wp Try.prog a w (fun a' w' => ∃ v, a' = a.put o.dst v ∧ Kp w w' ∧ IsV (.int .i64 (N : Int)) w' v) Q := by
  subst hN
  obtain ⟨B, cb, e, -⟩ := hx
  refine kp_yield (v := .int .i64 (l.length : Int)) (w' := w) ?_ (Keeps.refl _ _) rfl
  generalize a.eval = ρ at e ⊢
  unfold execOp
  rw [ho]
  go_simp
theorem kp_ix0 {n : Int} {l : List Int} (ho : o.op = .indexAddr 24 x y) (hx : ISl (n :: l) w (a.eval x)) (hy : a.eval y = .int .i64 0) : o.wp Try.prog a w (fun a' w' => ∃ v, a' = a.put o.dst v ∧ Kp w w' ∧ IPt n w' v) Q := by
  obtain ⟨B, cb, e, hr⟩ := hx
  obtain ⟨b, q, rfl, -, hc⟩ := hr.at_ (k := 0) (by simp)
  have hl : 0 < (n :: l).length := by simp
  have hl' : ((0 : Int) < ((n :: l).length : Int)) := by omega
  generalize (n :: l).length = N at e hl hl'
  refine kp_yield (v := .pointer (some ⟨b, q, none⟩)) (w' := w) ?_ (Keeps.refl _ _) ⟨_, rfl, by simpa using hc⟩
  generalize a.eval = ρ at e hy ⊢
  unfold execOp
  rw [ho]
  go_simp
theorem kp_ldI {n : Int} (ho : o.op = .load 3 x) (hx : IPt n w (a.eval x)) : o.wp Try.prog a w (fun a' w' => ∃ v, a' = a.put o.dst v ∧ Kp w w' ∧ IsV (.int .i64 n) w' v) Q := by
  obtain ⟨p, e, hc⟩ := hx
  refine kp_yield (v := .int .i64 n) (w' := w) ?_ (Keeps.refl _ _) rfl
  generalize a.eval = ρ at e ⊢
  unfold execOp
  rw [ho]
  go_simp
theorem kp_eqZ14 {m n : Int} {b : Bool} (hb : (m == n) = b) (ho : o.op = .binOp .eql 3 x y 3) (hx : a.eval x = .int .i64 m) (hy : a.eval y = .int .i64 n) : o.wp Try.prog a w (fun a' w' => ∃ v, a' = a.put o.dst v ∧ Kp w w' ∧ IsV (.bool b) w' v) Q := by
  subst hb
  refine kp_yield (v := .bool (m == n)) (w' := w) ?_ (Keeps.refl _ _) rfl
  generalize a.eval = ρ at hx hy ⊢
  unfold execOp
  rw [ho]
  go_simp
theorem kp_owner (S : RingOK) {W : World} {r : Nat} {F : Nat → Prop} {e h m : Int} {l : List Int} (hT : S.T W) (hat : S.At W w r F e l) (h1 : 0 ≤ h) (h2 : h < 18446744073709551616) (hm : ownerL l h = m)
    (ho : o.op = .call { callee := .value (.func 19), args := #[x, y], argTypes := #[27, 22] }) (hx : a.eval x = .pointer (some ⟨r, 0, none⟩)) (hy : a.eval y = .int .u64 h) :
    o.wp Try.prog a w (fun a' w' => ∃ v', a' = a.put o.dst v' ∧ Kp w w' ∧ IsV (.int .i64 m) w' v') Q := by
  subst hm
  have hg : a.eval (.func 19) = .func (.func 19) #[] #[] := rfl
  refine kp_enter (f := 19) (args := #[.pointer (some ⟨r, 0, none⟩), .int .u64 h]) ?_ (S.owner W w r F e l h hT hat h1 h2) ?_
  · generalize a.eval = ρ at hx hy hg ⊢
    unfold execOp
    rw [ho]
    go_simp
  · rintro e w' ⟨rfl, hk⟩
    exact ⟨_, rfl, hk, rfl⟩
theorem kp_nodes (S : RingOK) {W : World} {r : Nat} {F : Nat → Prop} {e : Int} {l : List Int} (hT : S.T W) (hat : S.At W w r F e l)
    (ho : o.op = .call { callee := .value (.func 16), args := #[x], argTypes := #[27] }) (hx : a.eval x = .pointer (some ⟨r, 0, none⟩)) :
    o.wp Try.prog a w (fun a' w' => ∃ v', a' = a.put o.dst v' ∧ Kp w w' ∧ ISl l w' v') Q := by
  have hg : a.eval (.func 16) = .func (.func 16) #[] #[] := rfl
  refine kp_enter (f := 16) (args := #[.pointer (some ⟨r, 0, none⟩)]) ?_ (S.nodes W w r F e l hT hat) ?_
  · generalize a.eval = ρ at hx hg ⊢
    unfold execOp
    rw [ho]
    go_simp
  · rintro e w' ⟨B, cb, rfl, hr, -, -, -, hk⟩
    exact ⟨_, rfl, hk, B, cb, rfl, hr.mono fun _ _ _ => trivial⟩
end

end Go.Proofs.Ytonalhjhokkcmaa
