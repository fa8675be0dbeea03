/-
  WHAT THE LAWS OF LAYER 19 LEAN ON: a message that was cut and put over itself; calls as single operations.
-/
import Derived.Test.YtfhhobinpmbgmaaDoorMsBegun
import Derived.Test.YtfhhobinpmbgmaaDoorAllCutG
import Derived.Test.YtfhhobinpmbgmaaDoorAllRefG
namespace Go.Proofs.YtfhhobinpmbgmaaDoor
open Go Go.RowKit Go.Joins
theorem cf_mmay (v : Value) (w : World) : (callFunc 11 #[v]).run Tryd.prog w = .ok (.enter 11 #[v]) w := by go_simp
theorem cf_rmsg (v : Value) (w : World) : (callFunc 12 #[v]).run Tryd.prog w = .ok (.enter 12 #[v]) w := by go_simp
theorem cf_meq (v u : Value) (w : World) : (callFunc 17 #[v, u]).run Tryd.prog w = .ok (.enter 17 #[v, u]) w := by go_simp
theorem cf_rmeq (v u : Value) (w : World) : (callFunc 15 #[v, u]).run Tryd.prog w = .ok (.enter 15 #[v, u]) w := by go_simp
theorem kp_eq19B {o : Oper} {a : Act} {w : World} {Q : Exit → Act → World → Prop} {x y : Operand} {m n c : Bool} (hc : (m == n) = c) (ho : o.op = .binOp .eql 4 x y 4) (hx : a.eval x = .bool m) (hy : a.eval y = .bool n) : o.wp Tryd.prog a w (fun a' w' => ∃ v, a' = a.put o.dst v ∧ Kp w w' ∧ IsV (.bool c) w' v) Q := by
  subst hc
  refine kp_yield (v := .bool (m == n)) (w' := w) ?_ (Keeps.refl _ _) rfl
  generalize a.eval = ρ at hx hy ⊢
  unfold execOp
  rw [ho]
  go_simp
theorem cf_menc (v : Value) (w : World) : (callFunc 13 #[v]).run Tryd.prog w = .ok (.enter 13 #[v]) w := by go_simp
theorem kp_eq19T {o : Oper} {a : Act} {w : World} {Q : Exit → Act → World → Prop} {x y : Operand} {m n : ByteArray} {c : Bool} (hc : (m.toList == n.toList) = c) (ho : o.op = .binOp .eql 9 x y 9) (hx : a.eval x = .string m) (hy : a.eval y = .string n) : o.wp Tryd.prog a w (fun a' w' => ∃ v, a' = a.put o.dst v ∧ Kp w w' ∧ IsV (.bool c) w' v) Q := by
  subst hc
  refine kp_yield (v := .bool (m.toList == n.toList)) (w' := w) ?_ (Keeps.refl _ _) rfl
  generalize a.eval = ρ at hx hy ⊢
  unfold execOp
  rw [ho]
  go_simp
/-- A call whose result has a property. -/
theorem kp_c19V {o : Oper} {a : Act} {w : World} {Q : Exit → Act → World → Prop} {x : Operand} {f : FuncId} {ty : TypeId} {v : Value} {V : World → Value → Prop} {C : Ending → World → Prop} (hcf : (callFunc f #[v]).run Tryd.prog w = .ok (.enter f #[v]) w) (hc : Calls Tryd.prog f #[v] w C) (hC : ∀ e w', C e w' → ∃ v, e = .returned v ∧ Kp w w' ∧ V w' v) (ho : o.op = .call { callee := .value (.func f), args := #[x], argTypes := #[ty] }) (hx : a.eval x = v) : o.wp Tryd.prog a w (fun a' w' => ∃ v, a' = a.put o.dst v ∧ Kp w w' ∧ V w' v) Q := by
  refine kp_enter (f := f) (args := #[v]) ?_ hc hC
  have hf : a.eval (.func f) = .func (.func f) #[] #[] := rfl
  generalize a.eval = ρ at hx hf ⊢
  unfold execOp
  rw [ho]
  go_simp
theorem kp_mv19 {o : Oper} {a : Act} {w : World} {Q : Exit → Act → World → Prop} {x : Operand} {V : World → Value → Prop} (ho : o.op = .move x) (hx : V w (a.eval x)) : o.wp Tryd.prog a w (fun a' w' => ∃ v', a' = a.put o.dst v' ∧ Kp w w' ∧ V w' v') Q := by
  refine kp_yield (v := a.eval x) ?_ (Keeps.refl _ _) hx
  unfold execOp; rw [ho]; rfl
/-- What Encode gives of a message that may be. -/
theorem enc_text {m : Ms} {L : List UInt8} {w : World} (hmay : mayM m = true) : ∀ (e : Ending) (w' : World), ((mayM m = true → ∃ A c, e = .returned (.slice A L.length c) ∧ L.length ≤ c ∧ c ≤ maxLen ∧ Row w' A (fun b => w.heap.size ≤ b ∧ b < w'.heap.size) (bcells L)) ∧ (mayM m = false → ∃ A c, e = .returned (.slice A 0 c)) ∧ Kp w w') → ∃ v, e = .returned v ∧ Kp w w' ∧ TextV L w' v := by
  rintro e w' ⟨h1, -, hk⟩
  obtain ⟨A, c, rfl, -, -, hr⟩ := h1 hmay
  exact ⟨_, rfl, hk, A, c, rfl, hr.mono fun _ _ _ => trivial⟩
theorem MsAt.over {w3 w4 : World} {g n0 : Nat} {m : Ms} {a a2 : MsA} (hm4 : MsAt w4 m a) (hat : MsAt w3 (cutM m) a2) (eba : a2.ba = a.ba) (eoa : a2.oa = a.oa) (hit : ItsAt w3 a2.ia (fun b => n0 ≤ b) (cutM m).items) (hmk : MksAt w3 a2.ma (fun b => n0 ≤ b) (cutM m).marks) (hk : Keeps (fun b => b ≠ g) w3 w4) (hg : g < n0) : MsAt w4 (cutM m) a2 :=
  ⟨(hit.keep (hk.mono fun b _ (hb : n0 ≤ b) => show b ≠ g by omega)).mono fun _ _ _ => trivial, hat.il, (hmk.keep (hk.mono fun b _ (hb : n0 ≤ b) => show b ≠ g by omega)).mono fun _ _ _ => trivial, hat.ml,
   by rw [eba]; show Row w4 a.ba _ ((m.mem.take 7).map _); rw [List.map_take]; exact hm4.mem.take, hat.bl,
   by rw [eoa]; show Row w4 a.oa _ ((m.old.take 7).map _); rw [List.map_take]; exact hm4.old.take, hat.ol⟩
end Go.Proofs.YtfhhobinpmbgmaaDoor
