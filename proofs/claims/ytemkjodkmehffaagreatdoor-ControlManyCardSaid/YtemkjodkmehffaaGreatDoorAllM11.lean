/-
  Arr: texts of mine, joined.
-/
import Derived.Test.YtemkjodkmehffaaGreatDoorWords
import Derived.Laws.Rows
import Derived.Laws.CopyRow
import Derived.Laws.Cells
import Derived.Still
import Derived.Laws.CopyOwn
namespace Go.Proofs.YtemkjodkmehffaaGreatDoor
open Go Go.RowKit
section
variable {P : Program} {w : World}
theorem run_load_part (ty : TypeId) {d : TypeDesc} (g j : Nat) (cs : List Value) (hu : P.underlying ty = some d) (hd : (match d with | .struct _ | .array _ _ => true | _ => false) = true) (hi : (P.info? ty).map (·.size) = some cs.length)
  (h : ∀ i v, cs[i]? = some v → w.cell? ⟨g, j + i, none⟩ = some v) : (loadVar ty ⟨g, j, none⟩).run P w = .ok (.agg cs.toArray) w := by
 have hl : (loadCells ⟨g, j, none⟩ cs.length).run P w = .ok cs.toArray w := run_loadCells_list (P := P) w ⟨g, j, none⟩ cs (fun i v hv => by rw [WideShapes.add_plain]; exact h i v hv)
 cases hq : P.info? ty with
 | none => simp [hq] at hi
 | some i =>
  have hs : i.size = cs.length := by simpa [hq] using hi
  have hagg : (isAgg ty).run P w = .ok true w := by
   unfold isAgg
   rw [Sem.run_bind, run_underlying hu w]
   cases d <;> simp_all
  simp [loadVar, Sem.run_bind, hagg, sizeOf, typeInfo, hq, hs, hl]
theorem run_store_part (ty : TypeId) (g j : Nat) (t : TypeId) (cur : Array Value) (cs : List Value) (hg : w.heap[g]? = some (.cells cur t (0, 0))) (hi : (P.info? ty).map (·.size) = some cs.length) (hfit : j + cs.length ≤ cur.size) (h1 : ∀ v ∈ cs, v.oneCell' = true) :
  (storeVar ty ⟨g, j, none⟩ (.agg cs.toArray)).run P w = .ok () (w.setRow g (cur.toList.take j ++ cs ++ cur.toList.drop (j + cs.length)).toArray) := by
 have hst := run_storeCells_at P g j t cs 0 cur w hg (by simpa using hfit) h1
 simp only [Nat.add_zero] at hst
 cases hq : P.info? ty with
 | none => simp [hq] at hi
 | some i =>
  have hs : cs.length = i.size := by simp [hq] at hi; omega
  simp [storeVar, sizeOf, typeInfo, hq, Value.cells, hs]
  rw [← hs]
  simpa using hst
end
section
variable {P : Program} {w : World} {ops : Array Oper} {rest : List Oper} {o : Oper} {a : Act} {Q : Exit → Act → World → Prop}
theorem list_store_part (hgd : o.guard = none) (ty : TypeId) (x y : Operand) (ho : o.op = .store ty x y) (g j : Nat) (hx : a.eval x = .pointer (some ⟨g, j, none⟩)) (cs : List Value) (hy : a.eval y = .agg cs.toArray)
  (t : TypeId) (cur : Array Value) (hg : w.heap[g]? = some (.cells cur t (0, 0))) (hi : (P.info? ty).map (·.size) = some cs.length) (hfit : j + cs.length ≤ cur.size) (h1 : ∀ v ∈ cs, v.oneCell' = true)
  (hK : ∀ w', w'.heap[g]? = some (.cells (cur.toList.take j ++ cs ++ cur.toList.drop (j + cs.length)).toArray t (0, 0)) → w.grownBy w' (some g) → wpList P ops Q rest (a.put o.dst undef) w') : wpList P ops Q (o :: rest) a w := by
 refine wpList_plain hgd fun K hh => ?_
 unfold Oper.wp execOp
 simp only [ho, hx, hy, Instr.storeAt, Instr.sureAddr, Sem.run_bind, Sem.run_pure, Result.andThen_ok, run_store_part ty g j t cur cs hg hi hfit h1]
 exact hh _ _ (hK _ (setRow_heap w g cur _ t _ hg) ⟨rfl, rfl, rfl, by simp, fun k _ hk => setRow_other w g k _ (fun e => hk (by rw [e]))⟩)
theorem still_load_part {K : Act → Prop} (hgd : o.guard = none) (ty : TypeId) (x : Operand) (ho : o.op = .load ty x) {d : TypeDesc} (g j : Nat) (hx : a.eval x = .pointer (some ⟨g, j, none⟩)) (cs : List Value) (hu : P.underlying ty = some d)
  (hd : (match d with | .struct _ | .array _ _ => true | _ => false) = true) (hi : (P.info? ty).map (·.size) = some cs.length) (h : ∀ i v, cs[i]? = some v → w.cell? ⟨g, j + i, none⟩ = some v)
  (u : Value) (hV : Value.agg cs.toArray = u) (hK : K (a.put o.dst u)) : if Region.wanted o (yielded ops a.tmps) then o.still P a w K else K (a.put o.dst undef) := by
 subst hV
 have hw : Region.wanted o (yielded ops a.tmps) = true := by simp [Region.wanted, hgd]
 rw [if_pos hw]
 unfold Oper.still
 simp only [execOp, ho, hx, Instr.loadAt, Instr.sureAddr, Sem.run_bind, Sem.run_pure, Result.andThen_ok, run_load_part ty g j cs hu hd hi h]
 rw [Oper.stillUpon_value]
 exact hK
theorem list_alloc (hgd : o.guard = none) (t : TypeId) (ho : o.op = .alloc t) (z : Value) (hz : (zeroValue t).run P w = .ok z w) (Z : Array Value) (hZ : z.cells = Z) (hK : wpList P ops Q rest (a.put o.dst (.pointer (some ⟨w.heap.size, 0, none⟩))) (w.alloc (.cells Z t))) : wpList P ops Q (o :: rest) a w := by
 subst hZ
 refine wpList_plain hgd fun K hh => ?_
 unfold Oper.wp execOp
 simp only [ho, Instr.alloc, Sem.run_bind, Sem.run_pure, Result.andThen_ok, hz, newVar, newRow, run_newObj]
 exact hh _ _ hK
end
theorem own_splice {w : World} {base n c g size : Nat} {e : TypeId} {xs : List Value} (h : w.ownsRow base e size (.slice (some ⟨g, 0, none⟩) n c) n xs) (off : Nat) (cs : List Value) (hfit : off + cs.length ≤ xs.length) :
  ∃ cur : Array Value, w.heap[g]? = some (.cells cur e (0, 0)) ∧ off + cs.length ≤ cur.size ∧
   (w.setRow g (cur.toList.take off ++ cs ++ cur.toList.drop (off + cs.length)).toArray).ownsRow base e size (.slice (some ⟨g, 0, none⟩) n c) n (xs.take off ++ cs ++ xs.drop (off + cs.length)) ∧
   w.grownBy (w.setRow g (cur.toList.take off ++ cs ++ cur.toList.drop (off + cs.length)).toArray) (some g) := by
 rcases h.2 with ⟨h', _⟩ | ⟨g', c', cur, h', hb, hg, hnc, hcm, hcs, htake⟩
 ·cases h'
 ·injection h' with h1' _ h2'
  injection h1' with h1'
  injection h1' with h1'
  subst h1' h2'
  have hxl := h.1
  have hle : n * size ≤ cur.toList.length := by rw [Array.length_toList, hcs]; exact Nat.mul_le_mul_right _ hnc
  have hcl : off + cs.length ≤ cur.toList.length := by omega
  have hlen : (cur.toList.take off ++ cs ++ cur.toList.drop (off + cs.length)).length = cur.toList.length := by
   simp only [List.length_append, List.length_take, List.length_drop]; omega
  refine ⟨cur, hg, by simpa using hcl, ⟨?_, .inr ⟨g, c, _, rfl, hb, setRow_heap w g cur _ e _ hg, hnc, hcm, ?_, ?_⟩⟩, ⟨rfl, rfl, rfl, by simp, fun k _ hk => setRow_other w g k _ (fun e => hk (by rw [e]))⟩⟩
  ·simp only [List.length_append, List.length_take, List.length_drop]; omega
  ·simp only [List.size_toArray, hlen, Array.length_toList, hcs]
  ·rw [← htake] at hxl ⊢
   have hl2 : n * size = (cur.toList.take (n * size)).length := by rw [List.length_take]; omega
   apply List.ext_getElem?
   intro i
   simp only [List.getElem?_take, List.getElem?_append, List.length_append, List.length_take, List.getElem?_drop]
   rw [← htake, List.length_take] at hfit
   have m1 : min off cur.toList.length = off := by omega
   have m2 : min off (min (n * size) cur.toList.length) = off := by omega
   rw [m1, m2]
   by_cases hi : i < n * size
   ·rw [if_pos hi]
    by_cases h1 : i < off + cs.length
    ·rw [if_pos h1, if_pos h1]
     by_cases h2 : i < off
     ·rw [if_pos h2, if_pos h2, if_pos h2, if_pos h2, if_pos hi]
     ·rw [if_neg h2, if_neg h2]
    ·rw [if_neg h1, if_neg h1, if_pos (by omega)]
   ·rw [if_neg hi, if_neg (by omega), if_neg (by omega)]
section
variable {P : Program} {w : World} {ops : Array Oper} {rest : List Oper} {o : Oper} {a : Act} {Q : Exit → Act → World → Prop} {base n c g size : Nat} {e : TypeId} {xs : List Value}
theorem list_store_own (hgd : o.guard = none) (ty : TypeId) (x y : Operand) (ho : o.op = .store ty x y) (hown : w.ownsRow base e size (.slice (some ⟨g, 0, none⟩) n c) n xs) (j : Nat) (hx : a.eval x = .pointer (some ⟨g, j, none⟩)) (cs : List Value) (u : Value) (hu : Value.agg cs.toArray = u) (hy : a.eval y = u)
  (hi : (P.info? ty).map (·.size) = some cs.length) (hfit : j + cs.length ≤ xs.length) (h1 : ∀ v ∈ cs, v.oneCell' = true)
  (hK : ∀ w', w'.ownsRow base e size (.slice (some ⟨g, 0, none⟩) n c) n (xs.take j ++ cs ++ xs.drop (j + cs.length)) → w.grownBy w' (some g) → wpList P ops Q rest (a.put o.dst undef) w') : wpList P ops Q (o :: rest) a w := by
 subst hu
 obtain ⟨cur, hg, hl, h2, h3⟩ := own_splice hown j cs hfit
 refine wpList_plain hgd fun K hh => ?_
 unfold Oper.wp execOp
 simp only [ho, hx, hy, Instr.storeAt, Instr.sureAddr, Sem.run_bind, Sem.run_pure, Result.andThen_ok, run_store_part ty g j e cur cs hg hi hl h1]
 exact hh _ _ (hK _ h2 h3)
theorem list_copy_part {G : Nat → Prop} (hgd : o.guard = none) (d s : Operand) (dT sT : TypeId) (ho : o.op = .call { callee := .builtin .copy, args := #[d, s], argTypes := #[dT, sT] }) (el : TypeId) (hu : P.underlying dT = some (.slice el)) (hsz : (P.info? el).map (·.size) = some 1)
  (hown : w.ownsRow base e size (.slice (some ⟨g, 0, none⟩) n c) n xs) (off dLen dCap : Nat) (hd : a.eval d = .slice (some ⟨g, off, none⟩) dLen dCap) (A : Option Addr) (m sc : Nat) (hs : a.eval s = .slice A m sc) (cs : List Value) (hm : m = cs.length) (hle : cs.length ≤ dLen)
  (hrow : Row w A G cs) (h1 : ∀ v ∈ cs, v.oneCell' = true) (hfit : off + cs.length ≤ xs.length)
  (hK : ∀ w', w'.ownsRow base e size (.slice (some ⟨g, 0, none⟩) n c) n (xs.take off ++ cs ++ xs.drop (off + cs.length)) → w.grownBy w' (some g) → wpList P ops Q rest (a.put o.dst (goInt cs.length)) w') : wpList P ops Q (o :: rest) a w := by
 subst hm
 by_cases h0 : cs = []
 ·subst h0
  refine wpList_copy_nothing hgd d s dT sT ho el hu hsz _ _ dLen dCap _ sc hd hs (by simp) ?_
  exact hK w (by simpa using hown) ⟨rfl, rfl, rfl, Nat.le_refl _, fun _ _ _ => rfl⟩
 ·obtain ⟨b, o', rfl, _, hc⟩ := hrow h0
  obtain ⟨cur, hg, hl, h2, h3⟩ := own_splice hown off cs hfit
  refine wpList_copy_own hgd d s dT sT ho el hu hsz g off dLen dCap ⟨b, o', none⟩ _ sc hd hs cur e hg cs (Nat.min_eq_left hle).symm (fun j v hv => by rw [WideShapes.add_plain]; exact hc j v hv) hl h1 ?_
  rw [← List.append_assoc]
  exact hK _ h2 h3
end
theorem list_make {P : Program} {w : World} {ops : Array Oper} {rest : List Oper} {o : Oper} {a : Act} {Q : Exit → Act → World → Prop} (hg : o.guard = none) (l c : Operand) (t : TypeId) (hop : o.op = Op.makeSlice t l c)
  {e : TypeId} {z : Value} {size bytes : Nat} (E : Elem P t e z size bytes) (kl kc : IntKind) (n : Nat) (hl : a.eval l = .int kl (n : Int)) (hc : a.eval c = .int kc (n : Int)) (b2 : bytes * n ≤ 281474976710656) (b3 : n ≤ maxLen) (xs : List Value) (hxs : (madeCells z.cells (n * size)).toList = xs)
  (hK : ∀ w', w'.ownsRow w.heap.size e size (.slice (some ⟨w.heap.size, 0, none⟩) n n) n xs → w.grownBy w' none → wpList P ops Q rest (a.put o.dst (.slice (some ⟨w.heap.size, 0, none⟩) n n)) w') : wpList P ops Q (o :: rest) a w := by
 obtain ⟨i, hi, hz0, hz1, hz2⟩ := info_parts E.info
 subst hxs
 subst hz2
 exact wpList_make_full w hg l c t hop w.heap.size e i z size E.und hi hz0 hz1 kl kc _ _ n hl hc rfl rfl b2 b3 (Nat.le_refl _) hK
def flat (rows : List (List UInt8)) : List Value := rows.flatMap bcells
theorem flat_append (a b : List (List UInt8)) : flat (a ++ b) = flat a ++ flat b := by simp [flat]
theorem flat_len (rows : List (List UInt8)) (h : ∀ r ∈ rows, r.length = 64) : (flat rows).length = rows.length * 64 := by
 induction rows with
 | nil => rfl
 | cons r rows ih =>
  have := ih fun x hx => h x (by simp [hx])
  have hr := h r (by simp)
  have e : flat (r :: rows) = bcells r ++ flat rows := by simp [flat]
  rw [e, List.length_append, this, bcells_len, hr, List.length_cons]; omega
theorem flat_parts (rows : List (List UInt8)) (i : Nat) (hi : i < rows.length) : flat rows = flat (rows.take i) ++ (bcells rows[i] ++ flat (rows.drop (i + 1))) := by
 have e : rows = rows.take i ++ (rows[i] :: rows.drop (i + 1)) := by rw [← List.drop_eq_getElem_cons hi, List.take_append_drop]
 calc flat rows = flat (rows.take i ++ (rows[i] :: rows.drop (i + 1))) := by rw [← e]
  _ = _ := by rw [flat_append]; rfl
theorem flat_one (rows : List (List UInt8)) : ∀ u ∈ flat rows, u.oneCell' = true := by
 intro u hu
 obtain ⟨r, _, hr⟩ := List.mem_flatMap.1 hu
 exact bcells_one r u hr
theorem flat_at (rows : List (List UInt8)) (h : ∀ r ∈ rows, r.length = 64) (i : Nat) (hi : i < rows.length) (j : Nat) (v : Value) (hv : (bcells rows[i])[j]? = some v) : (flat rows)[i * 64 + j]? = some v := by
 have hj : j < (bcells rows[i]).length := (List.getElem?_eq_some_iff.1 hv).1
 have ht : (flat (rows.take i)).length = i * 64 := by
  rw [flat_len _ fun r hr => h r (List.mem_of_mem_take hr), List.length_take]; congr 1; omega
 rw [flat_parts rows i hi, List.getElem?_append_right (by omega), ht, List.getElem?_append_left (by omega), ← hv]
 congr 1; omega
theorem flat_splice (rows : List (List UInt8)) (h : ∀ r ∈ rows, r.length = 64) (i : Nat) (hi : i < rows.length) (l : List UInt8) (hl : l.length ≤ 64) :
  (flat rows).take (i * 64) ++ bcells l ++ (flat rows).drop (i * 64 + (bcells l).length) = flat (rows.set i (l ++ rows[i].drop l.length)) := by
 have ht : (flat (rows.take i)).length = i * 64 := by
  rw [flat_len _ fun r hr => h r (List.mem_of_mem_take hr), List.length_take]; congr 1; omega
 have hr : (bcells rows[i]).length = 64 := by rw [bcells_len]; exact h _ (List.getElem_mem hi)
 have e := flat_parts (rows.set i (l ++ rows[i].drop l.length)) i (by simpa using hi)
 rw [e, flat_parts rows i hi]
 rw [List.take_append_of_le_length (by omega), List.take_of_length_le (by omega), List.append_assoc]
 congr 1
 ·rw [List.take_set_of_le (Nat.le_refl i)]
 ·rw [← ht, List.drop_append, List.drop_of_length_le (by omega), List.nil_append]
  rw [show (flat (rows.take i)).length + (bcells l).length - (flat (rows.take i)).length = (bcells l).length by omega]
  rw [List.drop_append_of_le_length (by rw [bcells_len, hr]; exact hl), ← List.append_assoc]
  congr 1
  ·simp [bcells]
  ·rw [List.drop_set_of_lt (by omega)]
end Go.Proofs.YtemkjodkmehffaaGreatDoor
