/-
  MsLocs, MsIn, MsRow, MadeRead: texts of mine, joined.
-/
import Derived.Test.YtemkjodkmehffaaGreatDoorAllM06
import Derived.Test.YtemkjodkmehffaaGreatDoorAllM11
import Derived.Deep.CutRange
import Derived.Test.YtemkjodkmehffaaGreatDoorAllM05
import Derived.Test.YtemkjodkmehffaaGreatDoorAllM14
import Derived.Test.YtemkjodkmehffaaGreatDoorAllM07
namespace Go.Proofs.YtemkjodkmehffaaGreatDoor
open Go Go.RowKit Go.Joins
def MB (w : World) (g : Nat) (m : Ms) (a : MsA) : Prop := w.heap[g]? = some (.cells (msC m a) 50 (0, 0))
section
variable {w w' : World} {g : Nat} {m : Ms} {a : MsA} {F : Nat → Prop}
theorem MB.lt (h : MB w g m a) : g < w.heap.size := (Array.getElem?_eq_some_iff.1 h).1
theorem MB.keep (h : MB w g m a) (hk : Keeps F w w') (hF : F g) : MB w' g m a := (hk.block g hF h.lt).trans h
theorem MB.kp (h : MB w g m a) (hk : Kp w w') : MB w' g m a := h.keep hk trivial
theorem MB.cell (h : MB w g m a) (i : Nat) (v : Value) (hv : (msC m a)[i]? = some v) : w.cell? ⟨g, i, none⟩ = some v := (cell_of_block h i).trans hv
theorem MB.fz (h : MB w g m a) (i : Nat) : w.frozen? ⟨g, i, none⟩ = false := unfrozen_of_block h i
end
theorem kp_behind {w w1 w2 : World} {g : Nat} (h : Kp w w1) (k : Keeps (fun b => b ≠ g) w1 w2) (hg : w.heap.size ≤ g) : Kp w w2 :=
 ((h.mono fun _ _ _ => trivial : Keeps (fun b => b ≠ g) w w1).trans k).mono fun b hb _ => by omega
theorem msC_len (m : Ms) (a : MsA) : (msC m a).toList.length = 21 := rfl
theorem msC_one (m : Ms) (a : MsA) : ∀ v ∈ (msC m a).toList, v.oneCell' = true := fun v hv => by
 simp only [msC, List.mem_cons, List.not_mem_nil, or_false] at hv
 rcases hv with rfl | rfl | rfl | rfl | rfl | rfl | rfl | rfl | rfl | rfl | rfl | rfl | rfl | rfl | rfl | rfl | rfl | rfl | rfl | rfl | rfl <;> rfl
theorem ms_info : (Tryz.prog.info? 50).map (·.size) = some 21 := by kernel_rfl
theorem ms_zero (w : World) : (zeroValue 50).run Tryz.prog w = .ok (msV ms0 msA0) w := by kernel_rfl
theorem run_loadM {w : World} {g : Nat} {m : Ms} {a : MsA} (h : MB w g m a) : (loadVar 50 ⟨g, 0, none⟩).run Tryz.prog w = .ok (msV m a) w := by
 have := run_load_part (P := Tryz.prog) (w := w) 50 g 0 (msC m a).toList Tryz.underlying50 rfl (by rw [msC_len]; exact ms_info) (fun i v hv => by rw [Nat.zero_add]; exact h.cell i v (by rw [← Array.getElem?_toList]; exact hv))
 rw [Array.toArray_toList] at this
 exact this
theorem run_storeM {w : World} {g : Nat} {m m' : Ms} {a a' : MsA} (h : MB w g m a) : ∃ w', (storeVar 50 ⟨g, 0, none⟩ (msV m' a')).run Tryz.prog w = .ok () w' ∧ MB w' g m' a' ∧ Keeps (fun b => b ≠ g) w w' ∧ w'.heap.size = w.heap.size := by
 have := run_store_part (P := Tryz.prog) (w := w) 50 g 0 50 (msC m a) (msC m' a').toList h (by rw [msC_len]; exact ms_info) (by rw [msC_len]; exact Nat.le_refl 21) (msC_one m' a')
 rw [Array.toArray_toList] at this
 refine ⟨_, this, ?_, ⟨rfl, rfl, rfl, by simp, fun b hb _ => setRow_other w g b _ hb⟩, by simp⟩
 unfold MB
 rw [setRow_heap w g (msC m a) _ 50 _ h]
 rfl
section
variable {w : World} {ops : Array Oper} {rest : List Oper} {o : Oper} {a : Act} {Q : Exit → Act → World → Prop}
theorem wpList_wanted {P : Program} (hw : Region.wanted o (yielded ops a.tmps) = true) (h : ∀ K : Act → World → Prop, (∀ a w, wpList P ops Q rest a w → K a w) → o.wp P a w K Q) : wpList P ops Q (o :: rest) a w :=
 wpList_step fun K hK => by simp only [hw, if_true]; exact h K hK
theorem list_allocM (hgd : o.guard = none) (ho : o.op = .alloc 50) (hK : ∀ w', MB w' w.heap.size ms0 msA0 → Kp w w' → w'.heap.size = w.heap.size + 1 → wpList Tryz.prog ops Q rest (a.put o.dst (.pointer (some ⟨w.heap.size, 0, none⟩))) w') : wpList Tryz.prog ops Q (o :: rest) a w :=
 list_alloc hgd 50 ho (msV ms0 msA0) (ms_zero w) (msC ms0 msA0) rfl (hK _ (heap_alloc_new w _) ((Keeps.refl _ w).alloc _) (by simp))
theorem list_boxM (hgd : Region.wanted o (yielded ops a.tmps) = true) (x : Operand) (ho : o.op = .box 50 x) (m : Ms) (b : MsA) (hx : a.eval x = msV m b) (hK : ∀ w', MB w' w.heap.size m b → Kp w w' → w'.heap.size = w.heap.size + 1 → wpList Tryz.prog ops Q rest (a.put o.dst (.pointer (some ⟨w.heap.size, 0, none⟩))) w') : wpList Tryz.prog ops Q (o :: rest) a w := by
 refine wpList_wanted hgd fun K hh => ?_
 unfold Oper.wp execOp
 simp only [ho, hx, Instr.box, Sem.run_bind, Sem.run_pure, Result.andThen_ok, newVar, newRow, run_newObj]
 exact hh _ _ (hK _ (heap_alloc_new w _) ((Keeps.refl _ w).alloc _) (by simp))
theorem list_storeM (hgd : Region.wanted o (yielded ops a.tmps) = true) (x y : Operand) (ho : o.op = .store 50 x y) (g : Nat) (m m' : Ms) (b b' : MsA) (h : MB w g m b) (hx : a.eval x = .pointer (some ⟨g, 0, none⟩)) (hy : a.eval y = msV m' b')
  (hK : ∀ w', MB w' g m' b' → Keeps (fun b => b ≠ g) w w' → w'.heap.size = w.heap.size → wpList Tryz.prog ops Q rest (a.put o.dst undef) w') : wpList Tryz.prog ops Q (o :: rest) a w := by
 obtain ⟨w', e, h1, h2, h3⟩ := run_storeM (m' := m') (a' := b') h
 refine wpList_wanted hgd fun K hh => ?_
 unfold Oper.wp execOp
 simp only [ho, hx, hy, Instr.storeAt, Instr.sureAddr, Sem.run_bind, Sem.run_pure, Result.andThen_ok, e]
 exact hh _ _ (hK _ h1 h2 h3)
theorem list_loadM (hgd : Region.wanted o (yielded ops a.tmps) = true) (x : Operand) (ho : o.op = .load 50 x) (g : Nat) (m : Ms) (b : MsA) (h : MB w g m b) (hx : a.eval x = .pointer (some ⟨g, 0, none⟩)) (u : Value) (hu : msV m b = u) (hK : wpList Tryz.prog ops Q rest (a.put o.dst u) w) : wpList Tryz.prog ops Q (o :: rest) a w := by
 subst hu
 refine wpList_wanted hgd fun K hh => ?_
 unfold Oper.wp execOp
 simp only [ho, hx, Instr.loadAt, Instr.sureAddr, Sem.run_bind, Sem.run_pure, Result.andThen_ok, run_loadM h]
 exact hh _ _ hK
theorem list_buildM (hgd : Region.wanted o (yielded ops a.tmps) = true) (parts : Array (Nat × Operand)) (ho : o.op = .build 50 parts) (u : Value) (e : (Instr.build 50 (parts.map fun (i, x) => (i, a.eval x))).run Tryz.prog w = .ok u w) (hK : wpList Tryz.prog ops Q rest (a.put o.dst u) w) : wpList Tryz.prog ops Q (o :: rest) a w := by
 refine wpList_wanted hgd fun K hh => ?_
 unfold Oper.wp execOp
 simp only [ho, Sem.run_bind, Sem.run_pure, Result.andThen_ok, e]
 exact hh _ _ hK
theorem kp_loadM {g : Nat} {m : Ms} {b : MsA} {x : Operand} {u : Value} (hu : msV m b = u) (h : MB w g m b) (ho : o.op = .load 50 x) (hx : a.eval x = .pointer (some ⟨g, 0, none⟩)) : o.wp Tryz.prog a w (fun a' w' => ∃ v, a' = a.put o.dst v ∧ Kp w w' ∧ IsV u w' v) Q := by
 subst hu
 refine kp_yield (v := msV m b) (w' := w) ?_ (Keeps.refl _ _) rfl
 unfold execOp
 simp only [ho, hx, Instr.loadAt, Instr.sureAddr, Sem.run_bind, Sem.run_pure, Result.andThen_ok, run_loadM h]
end
theorem results_cell {P : Program} {fn : Func} {t : Tmp} {ty : TypeId} {v : Value} {tmps : Array Value} {w : World} {g : Nat} (h : fn.results = #[.cell t ty]) (hp : tmps.getD t undef = .pointer (some ⟨g, 0, none⟩)) (hl : (loadVar ty ⟨g, 0, none⟩).run P w = .ok v w) : (results fn tmps).run P w = .ok v w := by
 have hp2 : tmps[t]?.getD undef = .pointer (some ⟨g, 0, none⟩) := by simpa [Array.getD_eq_getD_getElem?] using hp
 simp [results, h, hp2, asAddr, hl]
structure MsIn (w : World) (m : Ms) (a : MsA) (G : Nat → Prop) : Prop where
 its : ItsAt w a.ia G m.items
 mks : MksAt w a.ma G m.marks
 mem : Row w a.ba G (m.mem.map (Value.int .i64))
 old : Row w a.oa G (m.old.map (Value.int .i64))
 il : m.items.length ≤ a.ic ∧ a.ic ≤ maxLen
 ml : m.marks.length ≤ a.mc ∧ a.mc ≤ maxLen
 bl : m.mem.length ≤ a.bc ∧ a.bc ≤ maxLen ∧ (a.ba = none → a.bc = 0)
 ol : m.old.length ≤ a.oc ∧ a.oc ≤ maxLen ∧ (a.oa = none → a.oc = 0)
section
variable {w w' : World} {m : Ms} {a : MsA} {G H : Nat → Prop}
theorem MsIn.at_ (h : MsIn w m a G) : MsAt w m a := ⟨h.its.mono fun _ _ _ => trivial, h.il, h.mks.mono fun _ _ _ => trivial, h.ml, h.mem.mono fun _ _ _ => trivial, h.bl, h.old.mono fun _ _ _ => trivial, h.ol⟩
theorem MsIn.keep (h : MsIn w m a G) (hk : Keeps G w w') : MsIn w' m a G := ⟨h.its.keep hk, h.mks.keep hk, h.mem.keep hk, h.old.keep hk, h.il, h.ml, h.bl, h.ol⟩
theorem MsIn.mono (h : MsIn w m a G) (hF : ∀ b, b < w.heap.size → G b → H b) : MsIn w m a H := ⟨h.its.mono hF, h.mks.mono hF, h.mem.mono hF, h.old.mono hF, h.il, h.ml, h.bl, h.ol⟩
theorem MsIn.zero (w : World) (G : Nat → Prop) (m : Ms) (h1 : m.items = []) (h2 : m.marks = []) (h3 : m.mem = []) (h4 : m.old = []) : MsIn w m msA0 G :=
 ⟨by rw [h1]; exact ItsAt.nil _ _ _, by rw [h2]; exact MksAt.nil _ _ _, by rw [h3]; exact Row.nil _ _ _, by rw [h4]; exact Row.nil _ _ _, by rw [h1]; exact ⟨Nat.le_refl _, Nat.zero_le _⟩, by rw [h2]; exact ⟨Nat.le_refl _, Nat.zero_le _⟩, by rw [h3]; exact ⟨Nat.le_refl _, Nat.zero_le _, fun _ => rfl⟩, by rw [h4]; exact ⟨Nat.le_refl _, Nat.zero_le _, fun _ => rfl⟩⟩
end
abbrev MP := Ms × MsA
def mcs (p : MP) : List Value := (msC p.1 p.2).toList
theorem mcs_len (p : MP) : (mcs p).length = 21 := rfl
theorem mcs_one (p : MP) : ∀ v ∈ mcs p, v.oneCell' = true := msC_one p.1 p.2
def msRow (l : List MP) : List Value := l.flatMap mcs
theorem msRow_len (l : List MP) : (msRow l).length = l.length * 21 := by
 induction l with
 | nil => rfl
 | cons r l ih =>
  have e : msRow (r :: l) = mcs r ++ msRow l := by simp [msRow]
  rw [e, List.length_append, ih, List.length_cons, mcs_len]
  omega
theorem msRow_at (l : List MP) (j i : Nat) (hj : j < l.length) (hi : i < 21) : (msRow l)[j * 21 + i]? = (mcs l[j])[i]? := by
 induction l generalizing j with
 | nil => simp at hj
 | cons r l ih =>
  have e : msRow (r :: l) = mcs r ++ msRow l := by simp [msRow]
  rw [e]
  cases j with
  | zero =>
   rw [Nat.zero_mul, Nat.zero_add, List.getElem?_append_left (by rw [mcs_len]; exact hi)]
   rfl
  | succ j =>
   rw [List.getElem?_append_right (by rw [mcs_len]; omega), show (j + 1) * 21 + i - (mcs r).length = j * 21 + i by rw [mcs_len]; omega, ih j (by simpa using hj)]
   rfl
theorem msRow_append (l r : List MP) : msRow (l ++ r) = msRow l ++ msRow r := by simp [msRow]
theorem msRow_one (l : List MP) : ∀ v ∈ msRow l, v.oneCell' = true := fun v hv => by
 unfold msRow at hv
 obtain ⟨x, -, hx⟩ := List.mem_flatMap.1 hv
 exact mcs_one x v hx
structure MsgsAt (w : World) (A : Option Addr) (F G : Nat → Prop) (l : List MP) : Prop where
 row : Row w A F (msRow l)
 lists : ∀ p ∈ l, MsIn w p.1 p.2 G
section
variable {w w' : World} {A : Option Addr} {F G : Nat → Prop} {l : List MP}
theorem msRow_cells (h : Row w A F (msRow l)) {j : Nat} (hj : j < l.length) : ∃ b o, A = some ⟨b, o, none⟩ ∧ F b ∧ ∀ i v, (mcs l[j])[i]? = some v → w.cell? ⟨b, o + j * 21 + i, none⟩ = some v := by
 have hl := msRow_len l
 obtain ⟨b, o, e, hF, hc⟩ := h (by intro h0; rw [h0] at hl; simp at hl; omega)
 refine ⟨b, o, e, hF, fun i v hv => ?_⟩
 have hi : i < 21 := by
  have := (List.getElem?_eq_some_iff.1 hv).1
  rwa [mcs_len] at this
 rw [Nat.add_assoc]
 exact hc _ v (by rw [msRow_at l j i hj hi]; exact hv)
end
theorem msg_elem : Elem Tryz.prog 42 50 (msV ms0 msA0) 21 256 := ⟨Tryz.underlying42, by kernel_rfl, rfl, by decide⟩
theorem msRow_src {w : World} {A : Option Addr} {F : Nat → Prop} {l : List MP} {c : Nat} (h : Row w A F (msRow l)) : Src Tryz.prog 21 42 (.slice A l.length c) l.length (msRow l) w := by
 have hl := msRow_len l
 rcases A with _ | ad
 ·have hx : msRow l = [] := Classical.byContradiction fun hx => by
   obtain ⟨b, o, e, _⟩ := h hx
   cases e
  rw [hx] at hl ⊢
  have h0 : l.length = 0 := by simp at hl; omega
  rw [h0]
  exact Src.ofNil w Tryz.underlying42 c
 ·refine Src.ofSlice w Tryz.underlying42 ad l.length c (msRow l) hl (fun j u hu => ?_) (msRow_one l)
  obtain ⟨b, o, e, _, hc⟩ := h (by intro h0; rw [h0] at hu; simp at hu)
  injection e with e
  subst e
  rw [WideShapes.add_plain]
  exact hc j u hu
section
variable {w : World} {ops : Array Oper} {rest : List Oper} {o : Oper} {a : Act} {Q : Exit → Act → World → Prop}
theorem run_slice1 (w : World) (m : Ms) (b : MsA) : (Instr.buildSlice 42 1 #[(0, msV m b)]).run Tryz.prog w = .ok (.slice (some ⟨w.heap.size, 0, none⟩) 1 1) (w.alloc (.cells (msC m b) 50)) := by kernel_rfl
theorem list_slice1 (hgd : Region.wanted o (yielded ops a.tmps) = true) (x : Operand) (ho : o.op = .buildSlice 42 1 #[(0, x)]) (m : Ms) (b : MsA) (hx : a.eval x = msV m b)
  (hK : ∀ w', MB w' w.heap.size m b → Kp w w' → w'.heap.size = w.heap.size + 1 → wpList Tryz.prog ops Q rest (a.put o.dst (.slice (some ⟨w.heap.size, 0, none⟩) 1 1)) w') : wpList Tryz.prog ops Q (o :: rest) a w := by
 refine wpList_wanted hgd fun K hh => ?_
 have hr := run_slice1 w m b
 rw [← hx] at hr
 unfold Oper.wp execOp
 simp only [ho, Sem.run_bind, Sem.run_pure, Result.andThen_ok, List.map_toArray, List.map_cons, List.map_nil, hr]
 exact hh _ _ (hK _ (heap_alloc_new w _) ((Keeps.refl _ w).alloc _) (by simp))
end
theorem MB.row {w : World} {g : Nat} {m : Ms} {a : MsA} (h : MB w g m a) : Row w (some ⟨g, 0, none⟩) (fun b => b = g) (msRow [(m, a)]) := fun _ =>
 ⟨g, 0, rfl, rfl, fun i v hv => by
  rw [Nat.zero_add]
  exact h.cell i v (by
   have e : msRow [(m, a)] = (msC m a).toList := by simp [msRow, mcs]
   rw [e, Array.getElem?_toList] at hv
   exact hv)⟩
set_option maxHeartbeats 400000 in
theorem dread_any (w : World) (p : Nat) (F : Foot) (s : SDev) (h : DAt w p F s) (i : Int) (hi1 : -9223372036854775808 ≤ i) (hi2 : i < 9223372036854775808) :
  Calls Tryz.prog 89 #[.pointer (some ⟨p, 0, none⟩), .int .i64 i] w fun e w' => ∃ v, e = .returned (.tuple #[v, .int .i64 (s.readE i)]) ∧ OwnB w' w.heap.size v (s.readL i) ∧ Keeps (fun _ => True) w w' := by
 have hch := dcheck_any w p F s h i
 by_cases hi : i < 0 ∨ (s.now.length : Int) ≤ i
 ·have hr : s.readE i = 4 := if_pos hi
  have hl : s.readL i = [] := if_pos hi
  rw [hr] at hch ⊢
  rw [hl]
  have H := Lib.hid (show ∃ v, Ending.returned (.tuple #[.slice none 0 0, .int .i64 4]) = .returned (.tuple #[v, .int .i64 4]) ∧ OwnB w w.heap.size v [] ∧ Keeps (fun _ => True) w w from ⟨_, rfl, World.ownsRow_nil _ _ _ _, Keeps.refl _ _⟩)
  have HC := Lib.hid hch
  clear hr hl hch h hi hi1 hi2
  go_enter Tryz.func89, Tryz.ntmps89
  go_wp2_with fail
  refine HC.out.mono ?_
  rintro e w' ⟨rfl, rfl⟩
  go_wp2_with fail
  go_ret2
  exact H.out
 ·have hr : s.readE i = 0 := if_neg hi
  obtain ⟨k, rfl⟩ : ∃ k : Nat, i = (k : Int) := ⟨i.toNat, by omega⟩
  have hk : k < s.now.length := by omega
  have hl : s.readL (k : Int) = s.now[k] := (if_neg hi).trans (by rw [Int.toNat_natCast, getD_mem _ _ _ hk])
  rw [hr] at hch ⊢
  rw [hl]
  obtain ⟨g, c, m, h1, h2, h3, h4, m1, m2, m3⟩ := h.ex
  have c0 : w.cell? ⟨p, 0, none⟩ = some (.slice (some ⟨g, 0, none⟩) s.now.length c) := (cell_of_block h1 0).trans rfl
  have hlen : s.now[k].length = 64 := h.ok.nrow _ (List.getElem_mem hk)
  have hcl := clone_any (some ⟨g, k * 64, none⟩) 64 (fun _ => True) s.now[k] w (fun _ => ⟨g, k * 64, rfl, trivial, DAt.row h2 h.ok.nrow k hk⟩) (by omega)
  rw [hlen] at hcl
  have hsm := h.ok.small
  have HC := Lib.hid hch
  have HL := Lib.hid hcl
  clear hr hl hch h hi hi1 hi2 h1 h2 h3 h4 hcl hlen m1 m2 m3
  go_enter Tryz.func89, Tryz.ntmps89
  go_wp2_with fail
  refine HC.out.mono ?_
  rintro e w' ⟨rfl, rfl⟩
  go_wp2_with fail
  refine HL.out.mono ?_
  rintro e w' ⟨v, rfl, ho, hk'⟩
  have H1 := Lib.hid ho
  have H2 := Lib.hid hk'
  clear ho hk'
  go_wp2_with fail
  go_ret2
  exact ⟨_, rfl, H1.out, H2.out⟩
end Go.Proofs.YtemkjodkmehffaaGreatDoor
