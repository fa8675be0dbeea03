/-
  SINGLE OPERATIONS OF LAYER 12's DRAWN REGIONS: a meta is loaded, May, may, eq, Meta are called, answers are compared.
-/
import Derived.Test.YtmnjdlnjhomhnaaDoorMtIf
namespace Go.Proofs.YtmnjdlnjhomhnaaDoor
open Go Go.RowKit Go.Joins
def Four (w : World) (g : Nat) (m : M4) : Prop := w.cell? ⟨g, 0, none⟩ = some (.int .i64 m.boot) ∧ w.cell? ⟨g, 1, none⟩ = some (.int .i64 m.epoch) ∧ w.cell? ⟨g, 2, none⟩ = some (.int .i64 m.ready) ∧ w.cell? ⟨g, 3, none⟩ = some (.bool m.frozen)
theorem Four.keep {F : Nat → Prop} {w w' : World} {g : Nat} {m : M4} (h : Four w g m) (hk : Keeps F w w') (hF : F g) : Four w' g m :=
  ⟨hk.cell h.1 hF, hk.cell h.2.1 hF, hk.cell h.2.2.1 hF, hk.cell h.2.2.2 hF⟩
theorem Four.new (w : World) (m : M4) (t : TypeId) (g : Nat) (hg : g = w.heap.size) : Four (w.alloc (.cells (mcells m) t)) g m := by
  subst hg
  have hb := heap_alloc_new w (.cells (mcells m) t)
  exact ⟨by rw [World.cell?, hb]; rfl, by rw [World.cell?, hb]; rfl, by rw [World.cell?, hb]; rfl, by rw [World.cell?, hb]; rfl⟩
def MBlk (w : World) (g : Nat) (m : M4) : Prop := w.heap[g]? = some (.cells (mcells m) 32 (0, 0))
section
variable {w w' : World} {g : Nat} {m : M4} {F : Nat → Prop}
theorem MBlk.lt (h : MBlk w g m) : g < w.heap.size := (Array.getElem?_eq_some_iff.1 h).1
theorem MBlk.keep (h : MBlk w g m) (hk : Keeps F w w') (hq : F g) : MBlk w' g m := (hk.block g hq h.lt).trans h
theorem MBlk.fz (h : MBlk w g m) (i : Nat) : w.frozen? ⟨g, i, none⟩ = false := unfrozen_of_block h i
theorem MBlk.four (h : MBlk w g m) : Four w g m := ⟨cell_of_block h 0, cell_of_block h 1, cell_of_block h 2, cell_of_block h 3⟩
theorem MBlk.new (w : World) (m : M4) (g : Nat) (hg : g = w.heap.size) : MBlk (w.alloc (.cells (mcells m) 32)) g m := by subst hg; exact heap_alloc_new w _
theorem MBlk.set4 (h : MBlk w g m) (x : M4) : MBlk ((((w.setCell ⟨g, 0, none⟩ (.int .i64 x.boot)).setCell ⟨g, 1, none⟩ (.int .i64 x.epoch)).setCell ⟨g, 2, none⟩ (.int .i64 x.ready)).setCell ⟨g, 3, none⟩ (.bool x.frozen)) g x :=
  (block_setCell (block_setCell (block_setCell (block_setCell h _) _) _) _).trans rfl
end
section
variable {o : Oper} {a : Act} {w : World} {Q : Exit → Act → World → Prop} {x y z : Operand}
theorem kp_ldM {g : Nat} {m : M4} (h : Four w g m) (ho : o.op = .load 32 x) (hx : a.eval x = .pointer (some ⟨g, 0, none⟩)) : o.wp Tryd.prog a w (fun a' w' => ∃ v, a' = a.put o.dst v ∧ Kp w w' ∧ IsV (magg m) w' v) Q := by
  obtain ⟨c0, c1, c2, c3⟩ := h
  refine kp_yield (v := magg m) (w' := w) ?_ (Keeps.refl _ _) rfl
  generalize a.eval = ρ at hx ⊢
  unfold execOp magg
  rw [ho]
  go_simp
theorem kp_call12 {F : FuncId} {args : Array Value} {v : Value} (e : (execOp a.eval o).run Tryd.prog w = .ok (.enter F args) w) (hc : Calls Tryd.prog F args w fun e w' => e = .returned v ∧ Kp w w') :
    o.wp Tryd.prog a w (fun a' w' => ∃ v', a' = a.put o.dst v' ∧ Kp w w' ∧ IsV v w' v') Q := by
  refine kp_enter e hc ?_
  rintro e w' ⟨rfl, hk⟩
  exact ⟨_, rfl, hk, rfl⟩
theorem kp_mayP (S : MetaOK) {m : M4} {b : Bool} (hm : m.Fits) (hb : mayB m = b) (ho : o.op = .call { callee := .value (.func 11), args := #[x], argTypes := #[32] }) (hx : a.eval x = magg m) : o.wp Tryd.prog a w (fun a' w' => ∃ v, a' = a.put o.dst v ∧ Kp w w' ∧ IsV (.bool b) w' v) Q := by
  subst hb
  have hg : a.eval (.func 11) = .func (.func 11) #[] #[] := rfl
  refine kp_call12 (F := 11) (args := #[magg m]) ?_ (S.may w m hm)
  generalize a.eval = ρ at hx hg ⊢
  unfold execOp
  rw [ho]
  go_simp
theorem kp_mayL {m : M4} {b : Bool} (hb : mayB m = b) (ho : o.op = .call { callee := .value (.func 10), args := #[x], argTypes := #[32] }) (hx : a.eval x = magg m) : o.wp Tryd.prog a w (fun a' w' => ∃ v, a' = a.put o.dst v ∧ Kp w w' ∧ IsV (.bool b) w' v) Q := by
  subst hb
  have hg : a.eval (.func 10) = .func (.func 10) #[] #[] := rfl
  refine kp_call12 (F := 10) (args := #[magg m]) ?_ (may_any w m)
  generalize a.eval = ρ at hx hg ⊢
  unfold execOp
  rw [ho]
  go_simp
theorem kp_eqM {m n : M4} {b : Bool} (hb : eqM m n = b) (ho : o.op = .call { callee := .value (.func 15), args := #[x, y], argTypes := #[32, 32] }) (hx : a.eval x = magg m) (hy : a.eval y = magg n) : o.wp Tryd.prog a w (fun a' w' => ∃ v, a' = a.put o.dst v ∧ Kp w w' ∧ IsV (.bool b) w' v) Q := by
  subst hb
  have hg : a.eval (.func 15) = .func (.func 15) #[] #[] := rfl
  refine kp_call12 (F := 15) (args := #[magg m, magg n]) ?_ (eq_any w m n)
  generalize a.eval = ρ at hx hy hg ⊢
  unfold execOp
  rw [ho]
  go_simp
theorem kp_getM (S : MetaOK) {W : World} {p k n : Nat} {F : Nat → Prop} {m : M4} (hT : S.T W) (h : S.At W w p k F n m) (ho : o.op = .call { callee := .value (.func 16), args := #[x], argTypes := #[27] }) (hx : a.eval x = .pointer (some ⟨k, 0, none⟩)) : o.wp Tryd.prog a w (fun a' w' => ∃ v, a' = a.put o.dst v ∧ Kp w w' ∧ IsV (magg m) w' v) Q := by
  have hg : a.eval (.func 16) = .func (.func 16) #[] #[] := rfl
  refine kp_call12 (F := 16) (args := #[.pointer (some ⟨k, 0, none⟩)]) ?_ (S.get W w p k F n m hT h)
  generalize a.eval = ρ at hx hg ⊢
  unfold execOp
  rw [ho]
  go_simp
theorem kp_eqB12 {m n b : Bool} (hb : (m == n) = b) (ho : o.op = .binOp .eql 4 x y 4) (hx : a.eval x = .bool m) (hy : a.eval y = .bool n) : o.wp Tryd.prog a w (fun a' w' => ∃ v, a' = a.put o.dst v ∧ Kp w w' ∧ IsV (.bool b) w' v) Q := by
  subst hb
  refine kp_yield (v := .bool (m == n)) (w' := w) ?_ (Keeps.refl _ _) rfl
  generalize a.eval = ρ at hx hy ⊢
  unfold execOp
  rw [ho]
  go_simp
theorem kp_neB12 {m n b : Bool} (hb : (m != n) = b) (ho : o.op = .binOp .neq 4 x y 4) (hx : a.eval x = .bool m) (hy : a.eval y = .bool n) : o.wp Tryd.prog a w (fun a' w' => ∃ v, a' = a.put o.dst v ∧ Kp w w' ∧ IsV (.bool b) w' v) Q := by
  subst hb
  refine kp_yield (v := .bool (m != n)) (w' := w) ?_ (Keeps.refl _ _) rfl
  generalize a.eval = ρ at hx hy ⊢
  unfold execOp
  rw [ho]
  go_simp
  cases m <;> cases n <;> rfl
theorem kp_neE12 {m n : Int} {b : Bool} (hb : (m != n) = b) (ho : o.op = .binOp .neq 28 x y 28) (hx : a.eval x = .int .i64 m) (hy : a.eval y = .int .i64 n) : o.wp Tryd.prog a w (fun a' w' => ∃ v, a' = a.put o.dst v ∧ Kp w w' ∧ IsV (.bool b) w' v) Q := by
  subst hb
  refine kp_yield (v := .bool (m != n)) (w' := w) ?_ (Keeps.refl _ _) rfl
  generalize a.eval = ρ at hx hy ⊢
  unfold execOp
  rw [ho]
  go_simp
theorem kp_not12 {b c : Bool} (hc : (!b) = c) (ho : o.op = .unOp .not 4 x) (hx : a.eval x = .bool b) : o.wp Tryd.prog a w (fun a' w' => ∃ v, a' = a.put o.dst v ∧ Kp w w' ∧ IsV (.bool c) w' v) Q := by
  subst hc
  refine kp_yield (v := .bool (!b)) (w' := w) ?_ (Keeps.refl _ _) rfl
  generalize a.eval = ρ at hx ⊢
  unfold execOp
  rw [ho]
  go_simp
theorem one_enter12 {P : Program} {X : World → Value → Prop} {f : FuncId} {args : Array Value} {C : Ending → World → Prop} (e : (execOp a.eval o).run P w = .ok (.enter f args) w) (hc : Calls P f args w C)
    (hC : ∀ e w', C e w' → ∃ v, e = .returned v ∧ X w' v) : o.wp P a w (fun a' w' => ∃ v, a' = a.put o.dst v ∧ X w' v) Q := by
  unfold Oper.wp
  rw [e]
  refine hc.mono fun e w' h => ?_
  obtain ⟨v, rfl, hv⟩ := hC e w' h
  exact ⟨v, rfl, hv⟩
end
end Go.Proofs.YtmnjdlnjhomhnaaDoor
