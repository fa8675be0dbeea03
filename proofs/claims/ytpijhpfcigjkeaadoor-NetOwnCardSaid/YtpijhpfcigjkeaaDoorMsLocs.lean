/-
  A MESSAGE IN A BLOCK OF ITS OWN, written and read as a whole, under a name: the walk never opens its 21 cells.
-/
import Derived.Test.YtpijhpfcigjkeaaDoorMsIf
import Derived.Test.YtpijhpfcigjkeaaDoorAllBase
import Derived.Deep.CutRange
namespace Go.Proofs.YtpijhpfcigjkeaaDoor
open Go Go.RowKit Go.Joins

def MB (w : World) (g : Nat) (m : Ms) (a : MsA) : Prop := w.heap[g]? = some (.cells (msC m a) 36 (0, 0))
section
variable {w w' : World} {g : Nat} {m : Ms} {a : MsA} {F : Nat → Prop}
theorem MB.lt (h : MB w g m a) : g < w.heap.size := (Array.getElem?_eq_some_iff.1 h).1
theorem MB.keep (h : MB w g m a) (hk : Keeps F w w') (hF : F g) : MB w' g m a := (hk.block g hF h.lt).trans h
theorem MB.kp (h : MB w g m a) (hk : Kp w w') : MB w' g m a := h.keep hk trivial
theorem MB.cell (h : MB w g m a) (i : Nat) (v : Value) (hv : (msC m a)[i]? = some v) : w.cell? ⟨g, i, none⟩ = some v := (cell_of_block h i).trans hv
theorem MB.fz (h : MB w g m a) (i : Nat) : w.frozen? ⟨g, i, none⟩ = false := unfrozen_of_block h i
end
/-- A block was made and written as a whole. -/
theorem kp_made {w w1 w2 : World} (h1 : Kp w w1) (h2 : Keeps (fun b => b ≠ w.heap.size) w1 w2) : Kp w w2 :=
  ⟨h2.os.trans h1.os, h2.tape.trans h1.tape, h2.output.trans h1.output, Nat.le_trans h1.size h2.size, fun b _ hb => (h2.block b (by omega) (Nat.lt_of_lt_of_le hb h1.size)).trans (h1.block b trivial hb)⟩
theorem kp_behind {w w1 w2 : World} {g : Nat} (h : Kp w w1) (k : Keeps (fun b => b ≠ g) w1 w2) (hg : w.heap.size ≤ g) : Kp w w2 :=
  ((h.mono fun _ _ _ => trivial : Keeps (fun b => b ≠ g) w w1).trans k).mono fun b hb _ => by omega
theorem msC_len (m : Ms) (a : MsA) : (msC m a).toList.length = 21 := rfl
theorem msC_one (m : Ms) (a : MsA) : ∀ v ∈ (msC m a).toList, v.oneCell' = true := fun v hv => by
  simp only [msC, List.mem_cons, List.not_mem_nil, or_false] at hv
  rcases hv with rfl | rfl | rfl | rfl | rfl | rfl | rfl | rfl | rfl | rfl | rfl | rfl | rfl | rfl | rfl | rfl | rfl | rfl | rfl | rfl | rfl <;> rfl
theorem ms_info : (Tryd.prog.info? 36).map (·.size) = some 21 := by kernel_rfl
theorem ms_zero (w : World) : (zeroValue 36).run Tryd.prog w = .ok (msV ms0 msA0) w := by kernel_rfl
theorem run_loadM {w : World} {g : Nat} {m : Ms} {a : MsA} (h : MB w g m a) : (loadVar 36 ⟨g, 0, none⟩).run Tryd.prog w = .ok (msV m a) w := by
  have := run_load_part (P := Tryd.prog) (w := w) 36 g 0 (msC m a).toList Tryd.underlying36 rfl (by rw [msC_len]; exact ms_info) (fun i v hv => by rw [Nat.zero_add]; exact h.cell i v (by rw [← Array.getElem?_toList]; exact hv))
  rw [Array.toArray_toList] at this
  exact this
theorem run_storeM {w : World} {g : Nat} {m m' : Ms} {a a' : MsA} (h : MB w g m a) : ∃ w', (storeVar 36 ⟨g, 0, none⟩ (msV m' a')).run Tryd.prog w = .ok () w' ∧ MB w' g m' a' ∧ Keeps (fun b => b ≠ g) w w' ∧ w'.heap.size = w.heap.size := by
  have := run_store_part (P := Tryd.prog) (w := w) 36 g 0 36 (msC m a) (msC m' a').toList h (by rw [msC_len]; exact ms_info) (by rw [msC_len]; exact Nat.le_refl 21) (msC_one m' a')
  rw [Array.toArray_toList] at this
  refine ⟨_, this, ?_, ⟨rfl, rfl, rfl, by simp, fun b hb _ => setRow_other w g b _ hb⟩, by simp⟩
  unfold MB
  rw [setRow_heap w g (msC m a) _ 36 _ h]
  rfl
section
variable {w : World} {ops : Array Oper} {rest : List Oper} {o : Oper} {a : Act} {Q : Exit → Act → World → Prop}
theorem wpList_wanted {P : Program} (hw : Region.wanted o (yielded ops a.tmps) = true) (h : ∀ K : Act → World → Prop, (∀ a w, wpList P ops Q rest a w → K a w) → o.wp P a w K Q) : wpList P ops Q (o :: rest) a w :=
  wpList_step fun K hK => by simp only [hw, if_true]; exact h K hK
theorem list_allocM (hgd : o.guard = none) (ho : o.op = .alloc 36) (hK : ∀ w', MB w' w.heap.size ms0 msA0 → Kp w w' → w'.heap.size = w.heap.size + 1 → wpList Tryd.prog ops Q rest (a.put o.dst (.pointer (some ⟨w.heap.size, 0, none⟩))) w') : wpList Tryd.prog ops Q (o :: rest) a w :=
  list_alloc hgd 36 ho (msV ms0 msA0) (ms_zero w) (msC ms0 msA0) rfl (hK _ (heap_alloc_new w _) ((Keeps.refl _ w).alloc _) (by simp))
theorem list_boxM (hgd : Region.wanted o (yielded ops a.tmps) = true) (x : Operand) (ho : o.op = .box 36 x) (m : Ms) (b : MsA) (hx : a.eval x = msV m b) (hK : ∀ w', MB w' w.heap.size m b → Kp w w' → w'.heap.size = w.heap.size + 1 → wpList Tryd.prog ops Q rest (a.put o.dst (.pointer (some ⟨w.heap.size, 0, none⟩))) w') : wpList Tryd.prog ops Q (o :: rest) a w := by
  refine wpList_wanted hgd fun K hh => ?_
  unfold Oper.wp execOp
  simp only [ho, hx, Instr.box, Sem.run_bind, Sem.run_pure, Result.andThen_ok, newVar, newRow, run_newObj]
  exact hh _ _ (hK _ (heap_alloc_new w _) ((Keeps.refl _ w).alloc _) (by simp))
theorem list_storeM (hgd : Region.wanted o (yielded ops a.tmps) = true) (x y : Operand) (ho : o.op = .store 36 x y) (g : Nat) (m m' : Ms) (b b' : MsA) (h : MB w g m b) (hx : a.eval x = .pointer (some ⟨g, 0, none⟩)) (hy : a.eval y = msV m' b')
    (hK : ∀ w', MB w' g m' b' → Keeps (fun b => b ≠ g) w w' → w'.heap.size = w.heap.size → wpList Tryd.prog ops Q rest (a.put o.dst undef) w') : wpList Tryd.prog ops Q (o :: rest) a w := by
  obtain ⟨w', e, h1, h2, h3⟩ := run_storeM (m' := m') (a' := b') h
  refine wpList_wanted hgd fun K hh => ?_
  unfold Oper.wp execOp
  simp only [ho, hx, hy, Instr.storeAt, Instr.sureAddr, Sem.run_bind, Sem.run_pure, Result.andThen_ok, e]
  exact hh _ _ (hK _ h1 h2 h3)
theorem list_loadM (hgd : Region.wanted o (yielded ops a.tmps) = true) (x : Operand) (ho : o.op = .load 36 x) (g : Nat) (m : Ms) (b : MsA) (h : MB w g m b) (hx : a.eval x = .pointer (some ⟨g, 0, none⟩)) (u : Value) (hu : msV m b = u) (hK : wpList Tryd.prog ops Q rest (a.put o.dst u) w) : wpList Tryd.prog ops Q (o :: rest) a w := by
  subst hu
  refine wpList_wanted hgd fun K hh => ?_
  unfold Oper.wp execOp
  simp only [ho, hx, Instr.loadAt, Instr.sureAddr, Sem.run_bind, Sem.run_pure, Result.andThen_ok, run_loadM h]
  exact hh _ _ hK
theorem list_buildM (hgd : Region.wanted o (yielded ops a.tmps) = true) (parts : Array (Nat × Operand)) (ho : o.op = .build 36 parts) (u : Value) (e : (Instr.build 36 (parts.map fun (i, x) => (i, a.eval x))).run Tryd.prog w = .ok u w) (hK : wpList Tryd.prog ops Q rest (a.put o.dst u) w) : wpList Tryd.prog ops Q (o :: rest) a w := by
  refine wpList_wanted hgd fun K hh => ?_
  unfold Oper.wp execOp
  simp only [ho, Sem.run_bind, Sem.run_pure, Result.andThen_ok, e]
  exact hh _ _ hK
/-- An operation by the equation of its run. -/
theorem list_run (hgd : o.guard = none) (u : Value) (w' : World) (e : (execOp a.eval o).run Tryd.prog w = .ok (.value u) w') (hK : wpList Tryd.prog ops Q rest (a.put o.dst u) w') : wpList Tryd.prog ops Q (o :: rest) a w := by
  refine wpList_plain hgd fun K hh => ?_
  unfold Oper.wp
  rw [e]
  exact hh _ _ hK
theorem kp_loadM {g : Nat} {m : Ms} {b : MsA} {x : Operand} {u : Value} (hu : msV m b = u) (h : MB w g m b) (ho : o.op = .load 36 x) (hx : a.eval x = .pointer (some ⟨g, 0, none⟩)) : o.wp Tryd.prog a w (fun a' w' => ∃ v, a' = a.put o.dst v ∧ Kp w w' ∧ IsV u w' v) Q := by
  subst hu
  refine kp_yield (v := msV m b) (w' := w) ?_ (Keeps.refl _ _) rfl
  unfold execOp
  simp only [ho, hx, Instr.loadAt, Instr.sureAddr, Sem.run_bind, Sem.run_pure, Result.andThen_ok, run_loadM h]
end

theorem results_cell {P : Program} {fn : Func} {t : Tmp} {ty : TypeId} {v : Value} {tmps : Array Value} {w : World} {g : Nat} (h : fn.results = #[.cell t ty]) (hp : tmps.getD t undef = .pointer (some ⟨g, 0, none⟩)) (hl : (loadVar ty ⟨g, 0, none⟩).run P w = .ok v w) : (results fn tmps).run P w = .ok v w := by
  have hp2 : tmps[t]?.getD undef = .pointer (some ⟨g, 0, none⟩) := by simpa [Array.getD_eq_getD_getElem?] using hp
  simp [results, h, hp2, asAddr, hl]

end Go.Proofs.YtpijhpfcigjkeaaDoor
