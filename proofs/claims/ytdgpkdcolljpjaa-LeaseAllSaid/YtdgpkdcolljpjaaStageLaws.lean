/-
  SINGLE OPERATIONS OF A REGION BY STAGES: the laws (my own text; it knows no program's types).
-/
import Derived.Test.YtdgpkdcolljpjaaStage
import Derived.Test.YtdgpkdcolljpjaaWords
import Derived.Test.YtdgpkdcolljpjaaProg
import Derived.WalkKit
namespace Go.Proofs.Ytdgpkdcolljpjaa
open Go Go.RowKit

section
variable {P : Program} {V : Nat → Value → Value → Value → Prop} {S : Bool → Bool → Value → Value → World → Prop} {A B i : Nat} {la lb : Bool} {va vb : Value} {o : Oper} {a : Act} {w : World} {Q : Exit → Act → World → Prop} {x y : Operand}
theorem does_read {v : Value} (h1 : i ≠ A) (h2 : i ≠ B) (hv : V i va vb v) (hs : S la lb va vb w) : Does V S A B i la lb va vb w v w := by
  unfold Does; rw [if_neg h1, if_neg h2]; exact ⟨hv, hs⟩
theorem does_a {w' : World} {v : Value} (h1 : i = A) (hs : S true lb v vb w') : Does V S A B i la lb va vb w v w' := by unfold Does; rw [if_pos h1]; exact hs
theorem does_b {w' : World} {v : Value} (h1 : i ≠ A) (h2 : i = B) (hs : S la true va v w') : Does V S A B i la lb va vb w v w' := by unfold Does; rw [if_neg h1, if_pos h2]; exact hs
theorem st_move {v : Value} (ho : o.op = .move x) (hx : a.eval x = v) (h1 : i ≠ A) (h2 : i ≠ B) (hv : V i va vb v) (hs : S la lb va vb w) :
    o.wp P a w (fun a' w' => ∃ v, a' = a.put o.dst v ∧ Does V S A B i la lb va vb w v w') Q := by
  unfold Oper.wp execOp
  rw [ho]
  exact ⟨a.eval x, rfl, does_read h1 h2 (by rw [hx]; exact hv) hs⟩
theorem st_assign {v : Value} (ho : o.op = .assign x) (hx : a.eval x = v) (h1 : i ≠ A) (h2 : i ≠ B) (hv : V i va vb v) (hs : S la lb va vb w) :
    o.wp P a w (fun a' w' => ∃ v, a' = a.put o.dst v ∧ Does V S A B i la lb va vb w v w') Q := by
  unfold Oper.wp execOp
  rw [ho]
  exact ⟨a.eval x, rfl, does_read h1 h2 (by rw [hx]; exact hv) hs⟩
theorem st_read {v : Value} (e : (execOp a.eval o).run P w = .ok (.value v) w) (h1 : i ≠ A) (h2 : i ≠ B) (hv : V i va vb v) (hs : S la lb va vb w) :
    o.wp P a w (fun a' w' => ∃ v, a' = a.put o.dst v ∧ Does V S A B i la lb va vb w v w') Q := by
  unfold Oper.wp
  rw [e]
  exact ⟨v, rfl, does_read h1 h2 hv hs⟩
theorem st_call {f : FuncId} {args : Array Value} {C : Ending → World → Prop} (e : (execOp a.eval o).run P w = .ok (.enter f args) w) (hc : Calls P f args w C)
    (hC : ∀ e w', C e w' → ∃ v, e = .returned v ∧ Does V S A B i la lb va vb w v w') :
    o.wp P a w (fun a' w' => ∃ v, a' = a.put o.dst v ∧ Does V S A B i la lb va vb w v w') Q := by
  unfold Oper.wp
  rw [e]
  refine hc.mono fun e w' h => ?_
  obtain ⟨v, rfl, hd⟩ := hC e w' h
  exact ⟨v, rfl, hd⟩
end

section
variable {o : Oper} {a : Act} {w : World} {x y z : Operand}
theorem run_call3 {f : FuncId} {v0 v1 v2 : Value} {ts : Array TypeId} (ho : o.op = .call { callee := .value (.func f), args := #[x, y, z], argTypes := ts }) (hcf : ∀ vs W, (callFunc f vs).run Try.prog W = .ok (.enter f vs) W) (hx : a.eval x = v0) (hy : a.eval y = v1) (hz : a.eval z = v2) :
    (execOp a.eval o).run Try.prog w = .ok (.enter f #[v0, v1, v2]) w := by
  have hf : a.eval (.func f) = .func (.func f) #[] #[] := rfl
  generalize a.eval = ρ at hx hy hz hf ⊢
  unfold execOp
  rw [ho]
  have h := hcf
  clear hcf
  go_simp
theorem run_call2 {f : FuncId} {v0 v1 : Value} {ts : Array TypeId} (ho : o.op = .call { callee := .value (.func f), args := #[x, y], argTypes := ts }) (hcf : ∀ vs W, (callFunc f vs).run Try.prog W = .ok (.enter f vs) W) (hx : a.eval x = v0) (hy : a.eval y = v1) :
    (execOp a.eval o).run Try.prog w = .ok (.enter f #[v0, v1]) w := by
  have hf : a.eval (.func f) = .func (.func f) #[] #[] := rfl
  generalize a.eval = ρ at hx hy hf ⊢
  unfold execOp
  rw [ho]
  have h := hcf
  clear hcf
  go_simp
end

end Go.Proofs.Ytdgpkdcolljpjaa
