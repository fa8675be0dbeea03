/-
  THE OPERATIONS THAT STAND IN THE DRAWN REGIONS OF LAYER 1's LAWS, each by itself: a copy, a slice of one, bytes to a text, Of of one text.
-/
import Derived.Test.YtegglcgopddfcaaBegun
import Derived.Laws.BytesArg
namespace Go.Proofs.Ytegglcgopddfcaa
open Go.RowKit

/-- This value. -/
def Is (x : Value) : World → Value → Prop := fun _ v => v = x
/-- A slice of one cell that holds this value. -/
def Box1 (x : Value) : World → Value → Prop := fun w v => ∃ b, v = .slice (some ⟨b, 0, none⟩) 1 1 ∧ w.cell? ⟨b, 0, none⟩ = some x
theorem Is.mono {x : Value} {w w' : World} {v : Value} (_ : Adds w w') (hv : Is x w v) : Is x w' v := hv
theorem Box1.mono {x : Value} {w w' : World} {v : Value} (h : Adds w w') (hv : Box1 x w v) : Box1 x w' v :=
  let ⟨b, hb, hc⟩ := hv; ⟨b, hb, h.cell hc⟩

section
variable {o : Oper} {a : Act} {w : World} {Q : Exit → Act → World → Prop} {x : Operand}

theorem loc_move {v : Value} (ho : o.op = .move x) (hx : a.eval x = v) : o.wp Try.prog a w (fun a' w' => ∃ v', a' = a.put o.dst v' ∧ Adds w w' ∧ Is v w' v') Q := by
  unfold Oper.wp execOp
  rw [ho]
  exact ⟨a.eval x, rfl, Adds.refl _, hx⟩
theorem loc_assign {v : Value} (ho : o.op = .assign x) (hx : a.eval x = v) : o.wp Try.prog a w (fun a' w' => ∃ v', a' = a.put o.dst v' ∧ Adds w w' ∧ Is v w' v') Q := by
  unfold Oper.wp execOp
  rw [ho]
  exact ⟨a.eval x, rfl, Adds.refl _, hx⟩
/-- An operation that yields a value. -/
theorem loc_yield {V : World → Value → Prop} {v : Value} {w' : World} (e : (execOp a.eval o).run Try.prog w = .ok (.value v) w') (hw : Adds w w') (hv : V w' v) :
    o.wp Try.prog a w (fun a' w' => ∃ v, a' = a.put o.dst v ∧ Adds w w' ∧ V w' v) Q := by
  unfold Oper.wp
  rw [e]
  exact ⟨v, rfl, hw, hv⟩
/-- A call. -/
theorem loc_enter {V : World → Value → Prop} {f : FuncId} {args : Array Value} {C : Ending → World → Prop} (e : (execOp a.eval o).run Try.prog w = .ok (.enter f args) w) (hc : Calls Try.prog f args w C)
    (hC : ∀ e w', C e w' → ∃ v, e = .returned v ∧ Adds w w' ∧ V w' v) :
    o.wp Try.prog a w (fun a' w' => ∃ v, a' = a.put o.dst v ∧ Adds w w' ∧ V w' v) Q := by
  unfold Oper.wp
  rw [e]
  refine hc.mono fun e w' h => ?_
  obtain ⟨v, rfl, hw, hv⟩ := hC e w' h
  exact ⟨v, rfl, hw, hv⟩

theorem loc_str {s : ByteArray} (ho : o.op = .buildSlice 22 1 #[(0, x)]) (hx : a.eval x = .string s) :
    o.wp Try.prog a w (fun a' w' => ∃ v, a' = a.put o.dst v ∧ Adds w w' ∧ Box1 (.string s) w' v) Q := by
  refine loc_yield (v := .slice (some ⟨w.heap.size, 0, none⟩) 1 1) (w' := w.alloc (.cells #[.string s] 9)) ?_ ((Adds.refl w).alloc _ _) ⟨_, rfl, cell_new _ _ _ _ rfl⟩
  generalize a.eval = ρ at hx ⊢
  unfold execOp
  rw [ho]
  go_simp
theorem loc_byte {n : Int} (ho : o.op = .buildSlice 32 1 #[(0, x)]) (hx : a.eval x = .int .u8 n) :
    o.wp Try.prog a w (fun a' w' => ∃ v, a' = a.put o.dst v ∧ Adds w w' ∧ Box1 (.int .u8 n) w' v) Q := by
  refine loc_yield (v := .slice (some ⟨w.heap.size, 0, none⟩) 1 1) (w' := w.alloc (.cells #[.int .u8 n] 5)) ?_ ((Adds.refl w).alloc _ _) ⟨_, rfl, cell_new _ _ _ _ rfl⟩
  generalize a.eval = ρ at hx ⊢
  unfold execOp
  rw [ho]
  go_simp
theorem conv_one (w : World) (b : Nat) (x : Int) (h : w.cell? ⟨b, 0, none⟩ = some (.int .u8 x)) : (convert 32 9 (.slice (some { block := b, off := 0 }) 1 1)).run Try.prog w = .ok (.string (strOfNums [x])) w :=
  run_convert_bytes_arg w 32 5 Try.underlying32 Try.underlying5 b 0 1 1 [x] rfl (fun i hi => by
    have h0 : i = 0 := by omega
    subst h0
    exact h) 9 Try.underlying9
theorem conv_new (w : World) (x : Int) : (convert 32 9 (.slice (some { block := w.heap.size, off := 0 }) 1 1)).run Try.prog (w.alloc (.cells #[.int .u8 x] 5)) = .ok (.string (strOfNums [x])) (w.alloc (.cells #[.int .u8 x] 5)) :=
  conv_one _ _ _ (cell_new _ _ _ _ rfl)
theorem loc_conv {n : Int} (ho : o.op = .convert 32 9 x) (hx : Box1 (.int .u8 n) w (a.eval x)) :
    o.wp Try.prog a w (fun a' w' => ∃ v, a' = a.put o.dst v ∧ Adds w w' ∧ Is (.string (strOfNums [n])) w' v) Q := by
  obtain ⟨b, hb, hc⟩ := hx
  have hk := conv_one w b n hc
  refine loc_yield (v := .string (strOfNums [n])) (w' := w) ?_ (Adds.refl w) rfl
  generalize a.eval = ρ at hb ⊢
  unfold execOp
  rw [ho]
  go_simp
theorem loc_of {s : ByteArray} (ho : o.op = .call { callee := .value (.func 9), args := #[x], argTypes := #[22] }) (hs : s.size ≤ maxLen) (hx : Box1 (.string s) w (a.eval x)) :
    o.wp Try.prog a w (fun a' w' => ∃ v, a' = a.put o.dst v ∧ Adds w w' ∧ Is (.int .u64 (partsZ [s])) w' v) Q := by
  obtain ⟨b, hb, hc⟩ := hx
  have hf : a.eval (.func 9) = .func (.func 9) #[] #[] := rfl
  refine loc_enter (f := 9) (args := #[.slice (some ⟨b, 0, none⟩) 1 1]) ?_ (of_one s b 0 w hs hc) ?_
  · generalize a.eval = ρ at hb hf ⊢
    unfold execOp
    rw [ho]
    go_simp
  · rintro e w' ⟨rfl, rfl⟩
    exact ⟨_, rfl, Adds.refl _, rfl⟩
end
end Go.Proofs.Ytegglcgopddfcaa
