/-
  SINGLE OPERATIONS OF A DRAWN REGION, each by itself (my own text; it knows no program): what each leaves.
-/
import Derived.Test.YtfcbiaedhidibaaDoorInv
import Derived.Test.YtfcbiaedhidibaaDoorWords
import Derived.WalkKit
import Derived.Maps.AppendAt
namespace Go.Proofs.YtfcbiaedhidibaaDoor
open Go Go.RowKit

theorem cell_new (w : World) (x : Value) (t : TypeId) (b : Nat) (hb : b = w.heap.size) : (w.alloc (.cells #[x] t)).cell? ⟨b, 0, none⟩ = some x := by
  subst hb
  exact cell_one_new w x t 0 x rfl
/-- This value. -/
def Is (x : Value) : World → Value → Prop := fun _ v => v = x
/-- A slice of one cell that holds this value. -/
def Box1 (x : Value) : World → Value → Prop := fun w v => ∃ b, v = .slice (some ⟨b, 0, none⟩) 1 1 ∧ w.cell? ⟨b, 0, none⟩ = some x
theorem Is.mono {x : Value} {w w' : World} {v : Value} (_ : Adds w w') (hv : Is x w v) : Is x w' v := hv
theorem Box1.mono {x : Value} {w w' : World} {v : Value} (h : Adds w w') (hv : Box1 x w v) : Box1 x w' v :=
  let ⟨b, hb, hc⟩ := hv; ⟨b, hb, h.cell hc⟩

section
variable {P : Program} {o : Oper} {a : Act} {w : World} {Q : Exit → Act → World → Prop} {x : Operand}

theorem loc_move {v : Value} (ho : o.op = .move x) (hx : a.eval x = v) : o.wp P a w (fun a' w' => ∃ v', a' = a.put o.dst v' ∧ Adds w w' ∧ Is v w' v') Q := by
  unfold Oper.wp execOp
  rw [ho]
  exact ⟨a.eval x, rfl, Adds.refl _, hx⟩
theorem loc_assign {v : Value} (ho : o.op = .assign x) (hx : a.eval x = v) : o.wp P a w (fun a' w' => ∃ v', a' = a.put o.dst v' ∧ Adds w w' ∧ Is v w' v') Q := by
  unfold Oper.wp execOp
  rw [ho]
  exact ⟨a.eval x, rfl, Adds.refl _, hx⟩
/-- An operation that yields a value. -/
theorem loc_yield {V : World → Value → Prop} {v : Value} {w' : World} (e : (execOp a.eval o).run P w = .ok (.value v) w') (hw : Adds w w') (hv : V w' v) :
    o.wp P a w (fun a' w' => ∃ v, a' = a.put o.dst v ∧ Adds w w' ∧ V w' v) Q := by
  unfold Oper.wp
  rw [e]
  exact ⟨v, rfl, hw, hv⟩
/-- A call. -/
theorem loc_enter {V : World → Value → Prop} {f : FuncId} {args : Array Value} {C : Ending → World → Prop} (e : (execOp a.eval o).run P w = .ok (.enter f args) w) (hc : Calls P f args w C)
    (hC : ∀ e w', C e w' → ∃ v, e = .returned v ∧ Adds w w' ∧ V w' v) :
    o.wp P a w (fun a' w' => ∃ v, a' = a.put o.dst v ∧ Adds w w' ∧ V w' v) Q := by
  unfold Oper.wp
  rw [e]
  refine hc.mono fun e w' h => ?_
  obtain ⟨v, rfl, hw, hv⟩ := hC e w' h
  exact ⟨v, rfl, hw, hv⟩


end
end Go.Proofs.YtfcbiaedhidibaaDoor
