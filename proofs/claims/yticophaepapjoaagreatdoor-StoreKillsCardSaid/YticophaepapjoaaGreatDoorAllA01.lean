/-
  Arr, MadeAt, MadeWrite: texts of mine, joined.
-/
import Derived.Test.YticophaepapjoaaGreatDoorWords
import Derived.Laws.Rows
import Derived.Laws.CopyRow
import Derived.Laws.Cells
import Derived.Still
import Derived.Laws.CopyOwn
import Derived.Test.YticophaepapjoaaGreatDoorAllA00
import Derived.Test.YticophaepapjoaaGreatDoorMap
import Derived.WalkKit
import Derived.Lib.Hide
import Derived.Lib.SmallJoins
import Derived.Lib.SlBytesConst
import Derived.StillTailTactics
import Derived.Outline
namespace Go.Proofs.YticophaepapjoaaGreatDoor
open Go Go.RowKit
section
variable {P : Program} {w : World}
theorem run_load_part (ty : TypeId) {d : TypeDesc} (g j : Nat) (cs : List Value) (hu : P.underlying ty = some d) (hd : (match d with | .struct _ | .array _ _ => true | _ => false) = true) (hi : (P.info? ty).map (·.size) = some cs.length)
  (h : ∀ i v, cs[i]? = some v → w.cell? ⟨g, j + i, none⟩ = some v) : (loadVar ty ⟨g, j, none⟩).run P w = .ok (.agg cs.toArray) w := by
 have hl : (loadCells ⟨g, j, none⟩ cs.length).run P w = .ok cs.toArray w := run_loadCells_list (P := P) w ⟨g, j, none⟩ cs (fun i v hv => by rw [WideShapes.add_plain]; exact h i v hv)
 cases hq : P.info? ty with
 | none => simp [hq] at hi
 | some i =>
  have hs : i.size = cs.length := by simpa [hq] using hi
  have hagg : (isAgg ty).run P w = .ok true w := by
   unfold isAgg
   rw [Sem.run_bind, run_underlying hu w]
   cases d <;> simp_all
  simp [loadVar, Sem.run_bind, hagg, sizeOf, typeInfo, hq, hs, hl]
theorem run_store_part (ty : TypeId) (g j : Nat) (t : TypeId) (cur : Array Value) (cs : List Value) (hg : w.heap[g]? = some (.cells cur t (0, 0))) (hi : (P.info? ty).map (·.size) = some cs.length) (hfit : j + cs.length ≤ cur.size) (h1 : ∀ v ∈ cs, v.oneCell' = true) :
  (storeVar ty ⟨g, j, none⟩ (.agg cs.toArray)).run P w = .ok () (w.setRow g (cur.toList.take j ++ cs ++ cur.toList.drop (j + cs.length)).toArray) := by
 have hst := run_storeCells_at P g j t cs 0 cur w hg (by simpa using hfit) h1
 simp only [Nat.add_zero] at hst
 cases hq : P.info? ty with
 | none => simp [hq] at hi
 | some i =>
  have hs : cs.length = i.size := by simp [hq] at hi; omega
  simp [storeVar, sizeOf, typeInfo, hq, Value.cells, hs]
  rw [← hs]
  simpa using hst
end
section
variable {P : Program} {w : World} {ops : Array Oper} {rest : List Oper} {o : Oper} {a : Act} {Q : Exit → Act → World → Prop}
theorem list_store_part (hgd : o.guard = none) (ty : TypeId) (x y : Operand) (ho : o.op = .store ty x y) (g j : Nat) (hx : a.eval x = .pointer (some ⟨g, j, none⟩)) (cs : List Value) (hy : a.eval y = .agg cs.toArray)
  (t : TypeId) (cur : Array Value) (hg : w.heap[g]? = some (.cells cur t (0, 0))) (hi : (P.info? ty).map (·.size) = some cs.length) (hfit : j + cs.length ≤ cur.size) (h1 : ∀ v ∈ cs, v.oneCell' = true)
  (hK : ∀ w', w'.heap[g]? = some (.cells (cur.toList.take j ++ cs ++ cur.toList.drop (j + cs.length)).toArray t (0, 0)) → w.grownBy w' (some g) → wpList P ops Q rest (a.put o.dst undef) w') : wpList P ops Q (o :: rest) a w := by
 refine wpList_plain hgd fun K hh => ?_
 unfold Oper.wp execOp
 simp only [ho, hx, hy, Instr.storeAt, Instr.sureAddr, Sem.run_bind, Sem.run_pure, Result.andThen_ok, run_store_part ty g j t cur cs hg hi hfit h1]
 exact hh _ _ (hK _ (setRow_heap w g cur _ t _ hg) ⟨rfl, rfl, rfl, by simp, fun k _ hk => setRow_other w g k _ (fun e => hk (by rw [e]))⟩)
theorem still_load_part {K : Act → Prop} (hgd : o.guard = none) (ty : TypeId) (x : Operand) (ho : o.op = .load ty x) {d : TypeDesc} (g j : Nat) (hx : a.eval x = .pointer (some ⟨g, j, none⟩)) (cs : List Value) (hu : P.underlying ty = some d)
  (hd : (match d with | .struct _ | .array _ _ => true | _ => false) = true) (hi : (P.info? ty).map (·.size) = some cs.length) (h : ∀ i v, cs[i]? = some v → w.cell? ⟨g, j + i, none⟩ = some v)
  (u : Value) (hV : Value.agg cs.toArray = u) (hK : K (a.put o.dst u)) : if Region.wanted o (yielded ops a.tmps) then o.still P a w K else K (a.put o.dst undef) := by
 subst hV
 have hw : Region.wanted o (yielded ops a.tmps) = true := by simp [Region.wanted, hgd]
 rw [if_pos hw]
 unfold Oper.still
 simp only [execOp, ho, hx, Instr.loadAt, Instr.sureAddr, Sem.run_bind, Sem.run_pure, Result.andThen_ok, run_load_part ty g j cs hu hd hi h]
 rw [Oper.stillUpon_value]
 exact hK
theorem list_alloc (hgd : o.guard = none) (t : TypeId) (ho : o.op = .alloc t) (z : Value) (hz : (zeroValue t).run P w = .ok z w) (Z : Array Value) (hZ : z.cells = Z) (hK : wpList P ops Q rest (a.put o.dst (.pointer (some ⟨w.heap.size, 0, none⟩))) (w.alloc (.cells Z t))) : wpList P ops Q (o :: rest) a w := by
 subst hZ
 refine wpList_plain hgd fun K hh => ?_
 unfold Oper.wp execOp
 simp only [ho, Instr.alloc, Sem.run_bind, Sem.run_pure, Result.andThen_ok, hz, newVar, newRow, run_newObj]
 exact hh _ _ hK
end
theorem own_splice {w : World} {base n c g size : Nat} {e : TypeId} {xs : List Value} (h : w.ownsRow base e size (.slice (some ⟨g, 0, none⟩) n c) n xs) (off : Nat) (cs : List Value) (hfit : off + cs.length ≤ xs.length) :
  ∃ cur : Array Value, w.heap[g]? = some (.cells cur e (0, 0)) ∧ off + cs.length ≤ cur.size ∧
   (w.setRow g (cur.toList.take off ++ cs ++ cur.toList.drop (off + cs.length)).toArray).ownsRow base e size (.slice (some ⟨g, 0, none⟩) n c) n (xs.take off ++ cs ++ xs.drop (off + cs.length)) ∧
   w.grownBy (w.setRow g (cur.toList.take off ++ cs ++ cur.toList.drop (off + cs.length)).toArray) (some g) := by
 rcases h.2 with ⟨h', _⟩ | ⟨g', c', cur, h', hb, hg, hnc, hcm, hcs, htake⟩
 ·cases h'
 ·injection h' with h1' _ h2'
  injection h1' with h1'
  injection h1' with h1'
  subst h1' h2'
  have hxl := h.1
  have hle : n * size ≤ cur.toList.length := by rw [Array.length_toList, hcs]; exact Nat.mul_le_mul_right _ hnc
  have hcl : off + cs.length ≤ cur.toList.length := by omega
  have hlen : (cur.toList.take off ++ cs ++ cur.toList.drop (off + cs.length)).length = cur.toList.length := by
   simp only [List.length_append, List.length_take, List.length_drop]; omega
  refine ⟨cur, hg, by simpa using hcl, ⟨?_, .inr ⟨g, c, _, rfl, hb, setRow_heap w g cur _ e _ hg, hnc, hcm, ?_, ?_⟩⟩, ⟨rfl, rfl, rfl, by simp, fun k _ hk => setRow_other w g k _ (fun e => hk (by rw [e]))⟩⟩
  ·simp only [List.length_append, List.length_take, List.length_drop]; omega
  ·simp only [List.size_toArray, hlen, Array.length_toList, hcs]
  ·rw [← htake] at hxl ⊢
   have hl2 : n * size = (cur.toList.take (n * size)).length := by rw [List.length_take]; omega
   apply List.ext_getElem?
   intro i
   simp only [List.getElem?_take, List.getElem?_append, List.length_append, List.length_take, List.getElem?_drop]
   rw [← htake, List.length_take] at hfit
   have m1 : min off cur.toList.length = off := by omega
   have m2 : min off (min (n * size) cur.toList.length) = off := by omega
   rw [m1, m2]
   by_cases hi : i < n * size
   ·rw [if_pos hi]
    by_cases h1 : i < off + cs.length
    ·rw [if_pos h1, if_pos h1]
     by_cases h2 : i < off
     ·rw [if_pos h2, if_pos h2, if_pos h2, if_pos h2, if_pos hi]
     ·rw [if_neg h2, if_neg h2]
    ·rw [if_neg h1, if_neg h1, if_pos (by omega)]
   ·rw [if_neg hi, if_neg (by omega), if_neg (by omega)]
section
variable {P : Program} {w : World} {ops : Array Oper} {rest : List Oper} {o : Oper} {a : Act} {Q : Exit → Act → World → Prop} {base n c g size : Nat} {e : TypeId} {xs : List Value}
theorem list_store_own (hgd : o.guard = none) (ty : TypeId) (x y : Operand) (ho : o.op = .store ty x y) (hown : w.ownsRow base e size (.slice (some ⟨g, 0, none⟩) n c) n xs) (j : Nat) (hx : a.eval x = .pointer (some ⟨g, j, none⟩)) (cs : List Value) (u : Value) (hu : Value.agg cs.toArray = u) (hy : a.eval y = u)
  (hi : (P.info? ty).map (·.size) = some cs.length) (hfit : j + cs.length ≤ xs.length) (h1 : ∀ v ∈ cs, v.oneCell' = true)
  (hK : ∀ w', w'.ownsRow base e size (.slice (some ⟨g, 0, none⟩) n c) n (xs.take j ++ cs ++ xs.drop (j + cs.length)) → w.grownBy w' (some g) → wpList P ops Q rest (a.put o.dst undef) w') : wpList P ops Q (o :: rest) a w := by
 subst hu
 obtain ⟨cur, hg, hl, h2, h3⟩ := own_splice hown j cs hfit
 refine wpList_plain hgd fun K hh => ?_
 unfold Oper.wp execOp
 simp only [ho, hx, hy, Instr.storeAt, Instr.sureAddr, Sem.run_bind, Sem.run_pure, Result.andThen_ok, run_store_part ty g j e cur cs hg hi hl h1]
 exact hh _ _ (hK _ h2 h3)
theorem list_copy_part {G : Nat → Prop} (hgd : o.guard = none) (d s : Operand) (dT sT : TypeId) (ho : o.op = .call { callee := .builtin .copy, args := #[d, s], argTypes := #[dT, sT] }) (el : TypeId) (hu : P.underlying dT = some (.slice el)) (hsz : (P.info? el).map (·.size) = some 1)
  (hown : w.ownsRow base e size (.slice (some ⟨g, 0, none⟩) n c) n xs) (off dLen dCap : Nat) (hd : a.eval d = .slice (some ⟨g, off, none⟩) dLen dCap) (A : Option Addr) (m sc : Nat) (hs : a.eval s = .slice A m sc) (cs : List Value) (hm : m = cs.length) (hle : cs.length ≤ dLen)
  (hrow : Row w A G cs) (h1 : ∀ v ∈ cs, v.oneCell' = true) (hfit : off + cs.length ≤ xs.length)
  (hK : ∀ w', w'.ownsRow base e size (.slice (some ⟨g, 0, none⟩) n c) n (xs.take off ++ cs ++ xs.drop (off + cs.length)) → w.grownBy w' (some g) → wpList P ops Q rest (a.put o.dst (goInt cs.length)) w') : wpList P ops Q (o :: rest) a w := by
 subst hm
 by_cases h0 : cs = []
 ·subst h0
  refine wpList_copy_nothing hgd d s dT sT ho el hu hsz _ _ dLen dCap _ sc hd hs (by simp) ?_
  exact hK w (by simpa using hown) ⟨rfl, rfl, rfl, Nat.le_refl _, fun _ _ _ => rfl⟩
 ·obtain ⟨b, o', rfl, _, hc⟩ := hrow h0
  obtain ⟨cur, hg, hl, h2, h3⟩ := own_splice hown off cs hfit
  refine wpList_copy_own hgd d s dT sT ho el hu hsz g off dLen dCap ⟨b, o', none⟩ _ sc hd hs cur e hg cs (Nat.min_eq_left hle).symm (fun j v hv => by rw [WideShapes.add_plain]; exact hc j v hv) hl h1 ?_
  rw [← List.append_assoc]
  exact hK _ h2 h3
end
theorem list_make {P : Program} {w : World} {ops : Array Oper} {rest : List Oper} {o : Oper} {a : Act} {Q : Exit → Act → World → Prop} (hg : o.guard = none) (l c : Operand) (t : TypeId) (hop : o.op = Op.makeSlice t l c)
  {e : TypeId} {z : Value} {size bytes : Nat} (E : Elem P t e z size bytes) (kl kc : IntKind) (n : Nat) (hl : a.eval l = .int kl (n : Int)) (hc : a.eval c = .int kc (n : Int)) (b2 : bytes * n ≤ 281474976710656) (b3 : n ≤ maxLen) (xs : List Value) (hxs : (madeCells z.cells (n * size)).toList = xs)
  (hK : ∀ w', w'.ownsRow w.heap.size e size (.slice (some ⟨w.heap.size, 0, none⟩) n n) n xs → w.grownBy w' none → wpList P ops Q rest (a.put o.dst (.slice (some ⟨w.heap.size, 0, none⟩) n n)) w') : wpList P ops Q (o :: rest) a w := by
 obtain ⟨i, hi, hz0, hz1, hz2⟩ := info_parts E.info
 subst hxs
 subst hz2
 exact wpList_make_full w hg l c t hop w.heap.size e i z size E.und hi hz0 hz1 kl kc _ _ n hl hc rfl rfl b2 b3 (Nat.le_refl _) hK
def flat (rows : List (List UInt8)) : List Value := rows.flatMap bcells
theorem flat_append (a b : List (List UInt8)) : flat (a ++ b) = flat a ++ flat b := by simp [flat]
theorem flat_len (rows : List (List UInt8)) (h : ∀ r ∈ rows, r.length = 64) : (flat rows).length = rows.length * 64 := by
 induction rows with
 | nil => rfl
 | cons r rows ih =>
  have := ih fun x hx => h x (by simp [hx])
  have hr := h r (by simp)
  have e : flat (r :: rows) = bcells r ++ flat rows := by simp [flat]
  rw [e, List.length_append, this, bcells_len, hr, List.length_cons]; omega
theorem flat_parts (rows : List (List UInt8)) (i : Nat) (hi : i < rows.length) : flat rows = flat (rows.take i) ++ (bcells rows[i] ++ flat (rows.drop (i + 1))) := by
 have e : rows = rows.take i ++ (rows[i] :: rows.drop (i + 1)) := by rw [← List.drop_eq_getElem_cons hi, List.take_append_drop]
 calc flat rows = flat (rows.take i ++ (rows[i] :: rows.drop (i + 1))) := by rw [← e]
  _ = _ := by rw [flat_append]; rfl
theorem flat_one (rows : List (List UInt8)) : ∀ u ∈ flat rows, u.oneCell' = true := by
 intro u hu
 obtain ⟨r, _, hr⟩ := List.mem_flatMap.1 hu
 exact bcells_one r u hr
theorem flat_at (rows : List (List UInt8)) (h : ∀ r ∈ rows, r.length = 64) (i : Nat) (hi : i < rows.length) (j : Nat) (v : Value) (hv : (bcells rows[i])[j]? = some v) : (flat rows)[i * 64 + j]? = some v := by
 have hj : j < (bcells rows[i]).length := (List.getElem?_eq_some_iff.1 hv).1
 have ht : (flat (rows.take i)).length = i * 64 := by
  rw [flat_len _ fun r hr => h r (List.mem_of_mem_take hr), List.length_take]; congr 1; omega
 rw [flat_parts rows i hi, List.getElem?_append_right (by omega), ht, List.getElem?_append_left (by omega), ← hv]
 congr 1; omega
theorem flat_splice (rows : List (List UInt8)) (h : ∀ r ∈ rows, r.length = 64) (i : Nat) (hi : i < rows.length) (l : List UInt8) (hl : l.length ≤ 64) :
  (flat rows).take (i * 64) ++ bcells l ++ (flat rows).drop (i * 64 + (bcells l).length) = flat (rows.set i (l ++ rows[i].drop l.length)) := by
 have ht : (flat (rows.take i)).length = i * 64 := by
  rw [flat_len _ fun r hr => h r (List.mem_of_mem_take hr), List.length_take]; congr 1; omega
 have hr : (bcells rows[i]).length = 64 := by rw [bcells_len]; exact h _ (List.getElem_mem hi)
 have e := flat_parts (rows.set i (l ++ rows[i].drop l.length)) i (by simpa using hi)
 rw [e, flat_parts rows i hi]
 rw [List.take_append_of_le_length (by omega), List.take_of_length_le (by omega), List.append_assoc]
 congr 1
 ·rw [List.take_set_of_le (Nat.le_refl i)]
 ·rw [← ht, List.drop_append, List.drop_of_length_le (by omega), List.nil_append]
  rw [show (flat (rows.take i)).length + (bcells l).length - (flat (rows.take i)).length = (bcells l).length by omega]
  rw [List.drop_append_of_le_length (by rw [bcells_len, hr]; exact hl), ← List.append_assoc]
  congr 1
  ·simp [bcells]
  ·rw [List.drop_set_of_lt (by omega)]
end Go.Proofs.YticophaepapjoaaGreatDoor
namespace Go.Proofs.YticophaepapjoaaGreatDoor
open Go Go.RowKit Go.Joins
def secZ : Value := .agg (Array.replicate 64 (.int .u8 0))
theorem sec_elem : Elem Tryz.prog 75 101 secZ 64 64 := ⟨Tryz.underlying75, by kernel_rfl, rfl, by decide⟩
def sec (l : List UInt8) : Value := .agg (bcells l).toArray
def SDev.look (s : SDev) : Lit → Option Value
 | .int .i64 i => if 0 ≤ i ∧ s.dirty.getD i.toNat false = true then some (sec (s.fast.getD i.toNat [])) else none
 | _ => none
theorem look_at (s : SDev) (x : Int) : s.look (.int .i64 x) = if 0 ≤ x ∧ s.dirty.getD x.toNat false = true then some (sec (s.fast.getD x.toNat [])) else none := rfl
structure DAt (w : World) (p : Nat) (F : Foot) (s : SDev) : Prop where
 ok : s.Ok
 lt : ∀ b, F.all b → b < w.heap.size
 two : ∀ b, F.M b → ¬ F.I b
 same : ∀ i, s.dirty.getD i false = false → s.now.getD i [] = s.fast.getD i []
 ex : ∃ (g c m : Nat),
  w.heap[p]? = some (.cells #[.slice (some ⟨g, 0, none⟩) s.now.length c, .map (some m), .int .i64 (s.calls : Int)] 104 (0, 0)) ∧
  w.ownsRow 0 101 64 (.slice (some ⟨g, 0, none⟩) s.now.length c) s.now.length (flat s.now) ∧
  MapIs Tryz.prog 3 w m s.loose.length s.look ∧ [p, g, m].Nodup ∧ F.M p ∧ F.M g ∧ F.M m
theorem DAt.row {w : World} {g c n : Nat} {rows : List (List UInt8)} (h2 : w.ownsRow 0 101 64 (.slice (some ⟨g, 0, none⟩) n c) n (flat rows)) (hr : ∀ r ∈ rows, r.length = 64) (k : Nat) (hk : k < rows.length) :
  ∀ i v, (bcells rows[k])[i]? = some v → w.cell? ⟨g, k * 64 + i, none⟩ = some v := fun i v hv => by
 have := h2.cells (g := g) rfl _ v (flat_at rows hr k hk i v hv)
 rwa [WideShapes.add_plain, Nat.zero_add] at this
theorem DAt.keep {w w' : World} {p : Nat} {F : Foot} {s : SDev} (h : DAt w p F s) (hk : Keeps F.all w w') : DAt w' p F s := by
 obtain ⟨g, c, m, h1, h2, h3, h4, m1, m2, m3⟩ := h.ex
 refine ⟨h.ok, fun b hb => Nat.lt_of_lt_of_le (h.lt b hb) hk.size, h.two, h.same, g, c, m, ?_, ?_, ?_, h4, m1, m2, m3⟩
 ·rw [hk.block p (.inl m1) (h.lt p (.inl m1))]; exact h1
 ·exact hk.own h2 fun b hb => by cases hb; exact .inl m2
 ·exact h3.keep hk (.inl m3)
theorem dlen_any (w : World) (p : Nat) (F : Foot) (s : SDev) (h : DAt w p F s) : Calls Tryz.prog 35 #[.pointer (some ⟨p, 0, none⟩)] w fun e w' => e = .returned (.int .i64 (s.now.length : Int)) ∧ w = w' := by
 obtain ⟨g, c, m, h1, h2, h3, h4, m1, m2, m3⟩ := h.ex
 have c0 := (cell_of_block h1 0).trans rfl
 clear h1 h2 h3 h4 m1 m2 m3 h
 go_enter Tryz.func35, Tryz.ntmps35
 go_wp2
 go_ret
 exact ⟨rfl, rfl⟩
theorem dcheck_any (w : World) (p : Nat) (F : Foot) (s : SDev) (h : DAt w p F s) (i : Int) : Calls Tryz.prog 93 #[.pointer (some ⟨p, 0, none⟩), .int .i64 i] w fun e w' => e = .returned (.int .i64 (s.readE i)) ∧ w = w' := by
 obtain ⟨g, c, m, h1, h2, h3, h4, m1, m2, m3⟩ := h.ex
 have c0 := (cell_of_block h1 0).trans rfl
 clear h1 h2 h3 h4 m1 m2 m3 h
 by_cases hi : i < 0 ∨ (s.now.length : Int) ≤ i
 ·have hr := Lib.hid (show s.readE i = 4 from if_pos hi)
  have hd : decide (i < 0) = true ∨ decide (i < 0) = false ∧ decide ((s.now.length : Int) ≤ i) = true := by
   by_cases h0 : i < 0
   ·simp [h0]
   ·right; simp; omega
  clear hi
  rcases hd with hd | ⟨hd, hd2⟩
  all_goals
   go_enter Tryz.func93, Tryz.ntmps93
   go_wp2
   go_ret
   exact ⟨by rw [hr.out]; rfl, rfl⟩
 ·have hr := Lib.hid (show s.readE i = 0 from if_neg hi)
  have hd : decide (i < 0) = false := by simp; omega
  have hd2 : decide ((s.now.length : Int) ≤ i) = false := by simp; omega
  clear hi
  go_enter Tryz.func93, Tryz.ntmps93
  go_wp2
  go_ret
  exact ⟨by rw [hr.out]; rfl, rfl⟩
theorem flush_loose (s : SDev) : s.flush.loose = [] := by
 show (List.range (List.replicate s.now.length false).length).filter _ = []
 rw [List.filter_eq_nil_iff]
 intro i hi
 have : i < s.now.length := by simpa using hi
 simp [SDev.flush, List.getD, this]
theorem flush_look (s : SDev) : s.flush.look = fun _ => none := by
 funext l
 unfold SDev.look
 split
 ·rename_i i
  have : s.flush.dirty.getD i.toNat false = false := by
   simp only [SDev.flush, List.getD_eq_getElem?_getD, List.getElem?_replicate]; split <;> rfl
  rw [if_neg (by rw [this]; simp)]
 ·rfl
set_option maxHeartbeats 400000 in
theorem dflush_any (w : World) (p : Nat) (F : Foot) (s : SDev) (h : DAt w p F s) (hcalls : s.calls ≤ 1099511627776) :
  Calls Tryz.prog 64 #[.pointer (some ⟨p, 0, none⟩)] w fun e w' => e = .returned (.int .i64 0) ∧ ∃ F', DAt w' p F' s.flush ∧ Step F F' w w' := by
 obtain ⟨g, c, m, h1, h2, h3, h4, m1, m2, m3⟩ := h.ex
 simp only [List.nodup_cons, List.mem_cons, List.not_mem_nil, or_false, not_or, not_false_eq_true, List.nodup_nil, and_true] at h4
 obtain ⟨⟨d1, d2⟩, d3⟩ := h4
 have hp := h.lt p (.inl m1)
 have hg := h.lt g (.inl m2)
 have c1 : w.cell? ⟨p, 1, none⟩ = some (.map (some m)) := (cell_of_block h1 1).trans rfl
 have c2 : w.cell? ⟨p, 2, none⟩ = some (.int .i64 (s.calls : Int)) := (cell_of_block h1 2).trans rfl
 have f1 := unfrozen_of_block h1 1
 have f2 := unfrozen_of_block h1 2
 have hb1 := block_setCell h1 (i := 1) (.map (some w.heap.size))
 have hb2 := block_setCell hb1 (i := 2) (.int .i64 ((s.calls : Int) + 1))
 have hk0 : Keeps (fun b => b ≠ p) w ((w.setCell ⟨p, 1, none⟩ (.map (some w.heap.size))).setCell ⟨p, 2, none⟩ (.int .i64 ((s.calls : Int) + 1))) :=
  ((Keeps.refl _ w).setCell (.inr fun hn => hn rfl) _).setCell (.inr fun hn => hn rfl) _
 have hsz : ((w.setCell ⟨p, 1, none⟩ (.map (some w.heap.size))).setCell ⟨p, 2, none⟩ (.int .i64 ((s.calls : Int) + 1))).heap.size = w.heap.size := by simp [World.setCell]
 have hfin : ∃ F', DAt (((w.setCell ⟨p, 1, none⟩ (.map (some w.heap.size))).setCell ⟨p, 2, none⟩ (.int .i64 ((s.calls : Int) + 1))).alloc (.map #[] 0)) p F' s.flush ∧ Step F F' w (((w.setCell ⟨p, 1, none⟩ (.map (some w.heap.size))).setCell ⟨p, 2, none⟩ (.int .i64 ((s.calls : Int) + 1))).alloc (.map #[] 0)) := by
  generalize ((w.setCell ⟨p, 1, none⟩ (.map (some w.heap.size))).setCell ⟨p, 2, none⟩ (.int .i64 ((s.calls : Int) + 1))) = W at hb2 hk0 hsz
  have hm0 := MapIs.made Tryz.prog 3 W
  have hk1 := hk0.alloc (.map #[] 0)
  have hs2 := hk1.size
  have hz : (W.alloc (.map #[] 0)).heap.size = w.heap.size + 1 := by simp [hsz]
  refine ⟨⟨fun b => b = p ∨ b = g ∨ b = w.heap.size, fun _ => False⟩, ⟨flush_ok s h.ok, fun b hb => ?_, fun b _ hi => hi, fun i _ => rfl, g, c, w.heap.size, ?_, ?_, ?_, ?_, .inl rfl, .inr (.inl rfl), .inr (.inr rfl)⟩, ⟨hk1.mono fun b _ hb e => ?_, fun b hb => ?_, fun b hb => hb.elim⟩⟩
  ·rcases hb with (rfl | rfl | rfl) | hb <;> first | omega | exact hb.elim
  ·exact (Below.heap_alloc W _ p (by omega)).trans hb2
  ·exact hk1.own h2 fun b hb => by cases hb; exact Ne.symm d1
  ·rw [flush_loose, flush_look, ← hsz]
   exact hm0
  ·simp; omega
  ·subst e; exact hb m1
  ·rcases hb with rfl | rfl | rfl
   ·exact .inl m1
   ·exact .inl m2
   ·exact .inr (Nat.le_refl _)
 have HF := Lib.hid hfin
 have hmm := @run_makeMap Tryz.prog
 clear h1 h2 h3 m1 m2 m3 h hb1 hb2 hk0 hfin hsz
 go_enter Tryz.func64, Tryz.ntmps64
 go_wp2
 go_ret
 exact ⟨rfl, HF.out⟩
end Go.Proofs.YticophaepapjoaaGreatDoor
namespace Go.Proofs.YticophaepapjoaaGreatDoor
open Go Go.RowKit Go.Joins Go.Maps
theorem getD_set (l : List Bool) (k : Nat) (v : Bool) (i : Nat) : (l.set k v).getD i false = if k = i ∧ i < l.length then v else l.getD i false := by
 rw [List.getD_eq_getElem?_getD, List.getD_eq_getElem?_getD, List.getElem?_set]
 by_cases h : k = i
 ·subst h
  by_cases h2 : k < l.length
  ·simp [h2]
  ·simp [h2]
 ·simp [h]
theorem trues_set (l : List Bool) (k : Nat) (hk : k < l.length) (h0 : l.getD k false = false) : (trues (l.set k true)).length = (trues l).length + 1 := by
 have hp : (trues (l.set k true)).Perm (k :: trues l) := by
  refine (List.perm_ext_iff_of_nodup ((trues_sorted _).imp fun h => Nat.ne_of_lt h) (List.nodup_cons.2 ⟨?_, (trues_sorted _).imp fun h => Nat.ne_of_lt h⟩)).2 fun i => ?_
  ·rw [mem_trues, h0]; simp
  ·rw [mem_trues, List.mem_cons, mem_trues, getD_set]
   by_cases h : k = i
   ·subst h; simp [hk]
   ·have h' : ¬ i = k := fun e => h e.symm
    simp [h, h']
 rw [hp.length_eq, List.length_cons]
theorem write_dirty_old (s : SDev) (h : s.Ok) (k : Nat) (l : List UInt8) (hk : k < s.now.length) (hd : s.dirty.getD k false = true) : (s.write k l).dirty = s.dirty := by
 show s.dirty.set k true = s.dirty
 have hk2 : k < s.dirty.length := by rw [h.dirty]; exact hk
 have e : s.dirty[k] = true := by rw [getD_mem _ _ _ hk2] at hd; exact hd
 rw [← e, List.set_getElem_self]
theorem write_look_old (s : SDev) (h : s.Ok) (k : Nat) (l : List UInt8) (hk : k < s.now.length) (hd : s.dirty.getD k false = true) : (s.write k l).look = s.look := by
 funext x
 unfold SDev.look
 rw [write_dirty_old s h k l hk hd]; rfl
theorem write_loose_old (s : SDev) (h : s.Ok) (k : Nat) (l : List UInt8) (hk : k < s.now.length) (hd : s.dirty.getD k false = true) : (s.write k l).loose = s.loose := by
 unfold SDev.loose; rw [write_dirty_old s h k l hk hd]
theorem write_look_new (s : SDev) (h : s.Ok) (k : Nat) (l : List UInt8) (hk : k < s.now.length) (hs : s.now.getD k [] = s.fast.getD k []) : (s.write k l).look = mput s.look (.int .i64 (k : Int)) (sec s.now[k]) := by
 funext x
 have hk2 : k < s.dirty.length := by rw [h.dirty]; exact hk
 by_cases hx : x = .int .i64 (k : Int)
 ·subst hx
  rw [mput_same, look_at]
  have e : (s.write k l).dirty.getD k false = true := by
   show (s.dirty.set k true).getD k false = true
   rw [getD_set, if_pos ⟨rfl, hk2⟩]
  rw [Int.toNat_natCast, if_pos ⟨by omega, e⟩]
  show some (sec (s.fast.getD k [])) = _
  rw [← hs, getD_mem _ _ _ hk]
 ·rw [mput_other _ _ hx]
  unfold SDev.look
  split
  ·rename_i i
   have hne : ¬ (0 ≤ i ∧ k = i.toNat) := fun e => hx (by rw [show i = (k : Int) by omega])
   show (if 0 ≤ i ∧ (s.dirty.set k true).getD i.toNat false = true then some (sec (s.fast.getD i.toNat [])) else none) = _
   rw [getD_set]
   by_cases h0 : 0 ≤ i
   ·have hn2 : ¬ (k = i.toNat ∧ i.toNat < s.dirty.length) := fun e => hne ⟨h0, e.1⟩
    rw [if_neg hn2]
   ·rw [if_neg (fun e => h0 e.1), if_neg (fun e => h0 e.1)]
  ·rfl
theorem write_same (s : SDev) (h : s.Ok) (k : Nat) (l : List UInt8) (hk : k < s.now.length) (hs : ∀ i, s.dirty.getD i false = false → s.now.getD i [] = s.fast.getD i []) :
  ∀ i, (s.write k l).dirty.getD i false = false → (s.write k l).now.getD i [] = (s.write k l).fast.getD i [] := by
 intro i hi
 have hk2 : k < s.dirty.length := by rw [h.dirty]; exact hk
 have hi' : (s.dirty.set k true).getD i false = false := hi
 rw [getD_set] at hi'
 by_cases hki : k = i
 ·subst hki; rw [if_pos ⟨rfl, hk2⟩] at hi'; cases hi'
 ·rw [if_neg fun e => hki e.1] at hi'
  show (s.now.set k _).getD i [] = s.fast.getD i []
  rw [List.getD_eq_getElem?_getD, List.getElem?_set_ne hki, ← List.getD_eq_getElem?_getD]
  exact hs i hi'
structure WrSt (w W : World) (p g c m : Nat) (F : Foot) (s s' : SDev) : Prop where
 blk : W.heap[p]? = some (.cells #[.slice (some ⟨g, 0, none⟩) s.now.length c, .map (some m), .int .i64 (s.calls : Int)] 104 (0, 0))
 row : W.ownsRow 0 101 64 (.slice (some ⟨g, 0, none⟩) s.now.length c) s.now.length (flat s.now)
 map : MapIs Tryz.prog 3 W m s'.loose.length s'.look
 kp : Keeps (fun b => ¬ F.M b) w W
theorem WrSt.keep {w W W' : World} {p g c m : Nat} {F : Foot} {s s' : SDev} (h : WrSt w W p g c m F s s') (hk : Keeps (fun _ => True) W W') : WrSt w W' p g c m F s s' := by
 refine ⟨?_, hk.own h.row fun _ _ => trivial, h.map.keep hk trivial, h.kp.trans (hk.mono fun _ _ _ => trivial)⟩
 rw [hk.block p trivial (Classical.byContradiction fun hn => by have := h.blk; rw [Array.getElem?_eq_none (by omega)] at this; cases this)]; exact h.blk
theorem WrSt.done {w W w3 : World} {p g c m k : Nat} {F : Foot} {s : SDev} {l : List UInt8} (h : WrSt w W p g c m F s (s.write k l)) (hok : s.Ok) (hs : ∀ i, s.dirty.getD i false = false → s.now.getD i [] = s.fast.getD i [])
  (hk : k < s.now.length) (hl : l.length ≤ 64) (hnd : [p, g, m].Nodup) (hlt : ∀ b, F.all b → b < w.heap.size) (htwo : ∀ b, F.M b → ¬ F.I b) (m1 : F.M p) (m2 : F.M g) (m3 : F.M m)
  (ho : w3.ownsRow 0 101 64 (.slice (some ⟨g, 0, none⟩) s.now.length c) s.now.length ((flat s.now).take (k * 64) ++ bcells l ++ (flat s.now).drop (k * 64 + (bcells l).length))) (hg : W.grownBy w3 (some g)) :
  w3.cell? ⟨p, 2, none⟩ = some (.int .i64 (s.calls : Int)) ∧ w3.frozen? ⟨p, 2, none⟩ = false ∧ DAt (w3.setCell ⟨p, 2, none⟩ (.int .i64 ((s.calls : Int) + 1))) p F (s.write k l) ∧ Step F F w (w3.setCell ⟨p, 2, none⟩ (.int .i64 ((s.calls : Int) + 1))) := by
 simp only [List.nodup_cons, List.mem_cons, List.not_mem_nil, or_false, not_or, not_false_eq_true, List.nodup_nil, and_true] at hnd
 obtain ⟨⟨d1, d2⟩, d3⟩ := hnd
 have hkg : Keeps (fun b => b ≠ g) W w3 := Keeps.of_grown hg fun b e _ hn => by cases e; exact hn rfl
 have hpW : p < W.heap.size := Nat.lt_of_lt_of_le (hlt p (.inl m1)) h.kp.size
 have hb := (hkg.block p d1 hpW).trans h.blk
 have hb2 := block_setCell hb (i := 2) (.int .i64 ((s.calls : Int) + 1))
 have hkp : Keeps (fun b => b ≠ p) w3 (w3.setCell ⟨p, 2, none⟩ (.int .i64 ((s.calls : Int) + 1))) := (Keeps.refl _ w3).setCell (.inr fun hn => hn rfl) _
 refine ⟨(cell_of_block hb 2).trans rfl, unfrozen_of_block hb 2, ⟨write_ok s hok k l hk hl, fun b hb => ?_, htwo, write_same s hok k l hk hs, g, c, m, ?_, ?_, ?_, ?_, m1, m2, m3⟩, ⟨?_, fun _ hb => .inl hb, fun _ hb => .inl (.inr hb)⟩⟩
 ·exact Nat.lt_of_lt_of_le (hlt b hb) (Nat.le_trans h.kp.size (Nat.le_trans hkg.size hkp.size))
 ·rw [hb2]
  simp [SDev.write]
 ·have e : (s.write k l).now.length = s.now.length := by simp [SDev.write]
  rw [e]
  refine hkp.own ?_ fun b hb => by cases hb; exact Ne.symm d1
  rw [flat_splice s.now hok.nrow k hk l hl] at ho
  show w3.ownsRow _ _ _ _ _ (flat (s.now.set k (over l (s.now.getD k []))))
  rw [getD_mem _ _ _ hk]; exact ho
 ·exact (h.map.keep hkg (Ne.symm d3)).keep hkp (Ne.symm d2)
 ·simp; omega
 ·exact (h.kp.trans (hkg.mono fun b _ hb e => hb (by rw [e]; exact m2))).trans (hkp.mono fun b _ hb e => hb (by rw [e]; exact m1))
def zcells : Array Value := Array.replicate 64 (.int .u8 0)
theorem zcells_is : secZ.cells = zcells := rfl
theorem secZ_zero (w : World) : (zeroValue 101).run Tryz.prog w = .ok secZ w := by kernel_rfl
set_option maxRecDepth 100000 in
set_option maxHeartbeats 1000000 in
theorem dwrite_own (w : World) (p : Nat) (F : Foot) (s : SDev) (h : DAt w p F s) (k : Nat) (A : Option Addr) (cb : Nat) (G : Nat → Prop) (l : List UInt8) (hr : Row w A G (bcells l)) (hG : ∀ b, G b → ¬ F.all b) (hk : k < s.now.length) (hl : l.length ≤ 64) (hcalls : s.calls ≤ 1099511627776) :
  Calls Tryz.prog 63 #[.pointer (some ⟨p, 0, none⟩), .int .i64 k, .slice A l.length cb] w fun e w' => e = .returned (.int .i64 0) ∧ DAt w' p F (s.write k l) ∧ Step F F w w' := by
 have hch := dcheck_any w p F s h (k : Int)
 have hre : s.readE (k : Int) = 0 := if_neg (by omega)
 rw [hre] at hch
 have hok := h.ok
 have hsm := hok.small
 have hd : decide ((64 : Int) < (l.length : Int)) = false := by simp; omega
 obtain ⟨g, c, m, h1, h2, h3, h4, m1, m2, m3⟩ := h.ex
 have c0 : w.cell? ⟨p, 0, none⟩ = some (.slice (some ⟨g, 0, none⟩) s.now.length c) := (cell_of_block h1 0).trans rfl
 have c1 : w.cell? ⟨p, 1, none⟩ = some (.map (some m)) := (cell_of_block h1 1).trans rfl
 have hwf : (Lit.int .i64 (k : Int)).wf = true := by simp [Lit.wf, IntKind.min, IntKind.max, IntKind.signed, IntKind.bits]; omega
 have hkey := keyOf_int_mk (q := .i64) (a := (k : Int)) Tryz.underlying3 hwf
 have hlook := h3.look2 (t := 102) (int_keyed Tryz.underlying3) Tryz.underlying102 (secZ_zero w) hkey
 rw [look_at, Int.toNat_natCast] at hlook
 have hrow := hr.lt
 have hG2 := hG
 have hp := h.lt p (.inl m1)
 have HFin := Lib.hid (show ∀ W w3, WrSt w W p g c m F s (s.write k l) → w3.ownsRow 0 101 64 (.slice (some ⟨g, 0, none⟩) s.now.length c) s.now.length ((flat s.now).take (k * 64) ++ bcells l ++ (flat s.now).drop (k * 64 + (bcells l).length)) → W.grownBy w3 (some g) →
   w3.cell? ⟨p, 2, none⟩ = some (.int .i64 (s.calls : Int)) ∧ w3.frozen? ⟨p, 2, none⟩ = false ∧ DAt (w3.setCell ⟨p, 2, none⟩ (.int .i64 ((s.calls : Int) + 1))) p F (s.write k l) ∧ Step F F w (w3.setCell ⟨p, 2, none⟩ (.int .i64 ((s.calls : Int) + 1))) from
  fun W w3 hw ho hg => hw.done hok h.same hk hl h4 h.lt h.two m1 m2 m3 ho hg)
 have HC := Lib.hid hch
 have hfl : (flat s.now).length = s.now.length * 64 := flat_len _ hok.nrow
 cases hdk : s.dirty.getD k false
 ·rw [hdk] at hlook
  rw [if_neg (by simp)] at hlook
  simp only [Option.getD_none, Option.isSome_none] at hlook
  have hlen : s.now[k].length = 64 := hok.nrow _ (List.getElem_mem hk)
  have hrowk : ∀ i v, (bcells s.now[k])[i]? = some v → w.cell? ⟨g, k * 64 + i, none⟩ = some v := DAt.row h2 hok.nrow k hk
  have HP := Lib.hid (show ∀ W, WrSt w W p g c m F s s → ∀ W2, MapIs Tryz.prog 3 W2 m (s.loose.length + 1) (mput s.look (.int .i64 (k : Int)) (sec s.now[k])) → W.grownBy W2 (some m) → WrSt w W2 p g c m F s (s.write k l) ∧ Keeps (fun b => F.I b ∨ ¬ F.all b) W W2 from by
   intro W hw W2 hm hg
   simp only [List.nodup_cons, List.mem_cons, List.not_mem_nil, or_false, not_or, not_false_eq_true, List.nodup_nil, and_true] at h4
   obtain ⟨⟨d1, d2⟩, d3⟩ := h4
   have hkm : Keeps (fun b => b ≠ m) W W2 := Keeps.of_grown hg fun b e _ hn => by cases e; exact hn rfl
   have hpW : p < W.heap.size := Nat.lt_of_lt_of_le hp hw.kp.size
   refine ⟨⟨(hkm.block p d2 hpW).trans hw.blk, hkm.own hw.row fun b hb => by cases hb; exact d3, ?_, hw.kp.trans (hkm.mono fun b _ hb e => hb (by rw [e]; exact m3))⟩, hkm.mono fun b _ hb e => ?_⟩
   ·rw [write_look_new s hok k l hk (h.same k hdk)]
    have e : (s.write k l).loose.length = s.loose.length + 1 := trues_set s.dirty k (by rw [hok.dirty]; exact hk) hdk
    rw [e]; exact hm
   ·subst e
    rcases hb with hb | hb
    ·exact h.two b m3 hb
    ·exact hb (.inl m3))
  have HW := Lib.hid (show WrSt w w p g c m F s s from ⟨h1, h2, h3, Keeps.refl _ _⟩)
  have HR := Lib.hid hr
  have HFL := Lib.hid hfl
  have HG := Lib.hid hG
  have hll : s.loose.length ≤ s.now.length := by have := trues_len s.dirty; rw [hok.dirty] at this; exact this
  have HKL := Lib.hid hlen
  have HKR := Lib.hid hrowk
  have HWF := Lib.hid hwf
  generalize s.now[k] = rk at HP HKL HKR
  clear hch h hok h1 h2 h3 h4 m1 m2 m3 hr hG hG2 hrow hre hwf hkey hdk hfl hlen hrowk
  go_enter Tryz.func63, Tryz.ntmps63
  go_wp2_with fail
  refine HC.out.mono ?_
  rintro e w' ⟨rfl, rfl⟩
  go_wp2_with (first
   | (refine list_alloc rfl 101 rfl secZ (secZ_zero _) zcells zcells_is ?_)
   | (refine list_store_part rfl 101 (.tmp 8) (.tmp 26) rfl w.heap.size 0 rfl (bcells blank) rfl 101 zcells ?h1 ?h2 ?h3 (bcells_one _) ?_))
  case h1 => exact (heap_alloc_new w _)
  case h2 => kernel_rfl
  case h3 => decide
  intro w1 hb1 hg1
  clear hb1
  have hk1 : Keeps (fun _ => True) w w1 := ((Keeps.refl _ w).alloc _).grown hg1 (by rintro b e; cases e; exact Nat.le_refl _)
  replace c0 := hk1.cell c0 trivial
  replace c1 := hk1.cell c1 trivial
  have HW1 := Lib.hid (HW.out.keep hk1)
  have HR1 := Lib.hid ((HR.out.lt.keep (hk1.mono fun _ _ _ => trivial)))
  have HKR1 := Lib.hid (show ∀ i v, (bcells rk)[i]? = some v → w1.cell? ⟨g, k * 64 + i, none⟩ = some v from fun i v hv => hk1.cell (HKR.out i v hv) trivial)
  clear hk1 hg1
  go_wp2_with fail
  refine wp_region_still_tail 12 (by kernel_rfl) (by kernel_rfl) ?_
  simp only [List.take_succ_cons, List.take_zero, List.drop_succ_cons, List.drop_zero]
  iterate 11 still_step
  refine wpStill_step (fun K hK => ?_)
  refine still_load_part rfl 101 (.tmp 40) rfl g (k * 64) rfl (bcells rk) Tryz.underlying101 rfl (by rw [bcells_len, HKL.out]; kernel_rfl) HKR1.out (sec rk) rfl ?_
  go_simp
  refine hK _ ?_
  clear hK K
  refine wpStill_nil ?_
  change wpList _ _ _ _ _ w1.drew
  have HW2 := Lib.hid (HW1.out.keep ((Keeps.refl (fun _ => True) w1).drew))
  have HR2 := Lib.hid (HR1.out.keep ((Keeps.refl (fun b => G b ∧ b < w.heap.size) w1).drew))
  clear HW1 HR1 HKR1 c0 c1
  generalize w1.drew = w2 at HW2 HR2 ⊢
  go_wp2_with (refine HW2.out.map.list_put rfl (.tmp 33) (.tmp 34) (.tmp 41) rfl (int_keyed Tryz.underlying3) Tryz.underlying102 rfl ?h7 (.int .i64 (k : Int)) (sec rk) (.int .i64 (k : Int)) rfl rfl (keyOf_int_mk Tryz.underlying3 HWF.out) trivial ?_)
  case h7 => unfold maxLen; omega
  intro w3 hm3 hg3
  obtain ⟨hw3, hk3⟩ := HP.out w2 HW2.out w3 hm3 hg3
  have c0 : w3.cell? ⟨p, 0, none⟩ = some (.slice (some ⟨g, 0, none⟩) s.now.length c) := (cell_of_block hw3.blk 0).trans rfl
  have HW1 := Lib.hid hw3
  have HR1 := Lib.hid (HR2.out.keep (hk3.mono fun b _ hb => .inr (HG.out b hb.1)))
  clear HW2 HR2 hm3 hg3 hk3 hw3
  generalize w3 = w1 at *
  go_wp2_with (refine list_copy_part rfl (.tmp 48) (.tmp 49) 64 64 rfl 5 Tryz.underlying64 (by kernel_rfl) HW1.out.row (k * 64) 64 64 rfl A l.length cb rfl (bcells l) ?h4 ?h5 HR1.out (bcells_one _) ?h6 ?_)
  case h4 => rw [bcells_len]
  case h5 => rw [bcells_len]; exact hl
  case h6 => rw [bcells_len, HFL.out]; omega
  intro w3 ho hg3
  rw [← List.append_assoc] at ho
  obtain ⟨e2, f2, hfin⟩ := HFin.out w1 w3 HW1.out ho hg3
  have c2 := (Keeps.refl (fun _ => True) w3).cell e2 trivial
  have HF := Lib.hid hfin
  clear ho hg3 hfin
  go_wp2_with fail
  go_ret
  exact ⟨rfl, HF.out⟩
 ·rw [hdk] at hlook
  rw [if_pos ⟨by omega, rfl⟩] at hlook
  simp only [Option.getD_some, Option.isSome_some] at hlook
  have hfk := Lib.hid (show (s.fast.getD k []).length = 64 by rw [getD_mem _ _ _ (by rw [hok.fast]; exact hk)]; exact hok.frow _ (List.getElem_mem _))
  generalize s.fast.getD k [] = fk at hlook hfk
  have HW := Lib.hid (show WrSt w w p g c m F s (s.write k l) from ⟨h1, h2, by rw [write_look_old s hok k l hk hdk, write_loose_old s hok k l hk hdk]; exact h3, Keeps.refl _ _⟩)
  have HR := Lib.hid hr
  have HFL := Lib.hid hfl
  clear hch h hok h1 h2 h3 h4 m1 m2 m3 hr hG hG2 hrow hre hwf hkey hdk hfl
  go_enter Tryz.func63, Tryz.ntmps63
  go_wp2_with fail
  refine HC.out.mono ?_
  rintro e w' ⟨rfl, rfl⟩
  go_wp2_with (first
   | (refine list_alloc rfl 101 rfl secZ (secZ_zero _) zcells zcells_is ?_)
   | (refine list_store_part rfl 101 (.tmp 8) (.tmp 26) rfl w.heap.size 0 rfl (bcells fk) rfl 101 zcells ?h1 ?h2 ?h3 (bcells_one _) ?_))
  case h1 => exact (heap_alloc_new w _)
  case h2 => rw [bcells_len, hfk.out]; kernel_rfl
  case h3 => rw [bcells_len, hfk.out]; decide
  intro w1 hb1 hg1
  clear hb1
  have hk1 : Keeps (fun _ => True) w w1 := ((Keeps.refl _ w).alloc _).grown hg1 (by rintro b e; cases e; exact Nat.le_refl _)
  replace c0 := hk1.cell c0 trivial
  have HW1 := Lib.hid (HW.out.keep hk1)
  have HR1 := Lib.hid ((HR.out.keep (hk1.mono fun _ _ _ => trivial)))
  clear hk1 hg1
  go_wp2_with (refine list_copy_part rfl (.tmp 48) (.tmp 49) 64 64 rfl 5 Tryz.underlying64 (by kernel_rfl) HW1.out.row (k * 64) 64 64 rfl A l.length cb rfl (bcells l) ?h4 ?h5 HR1.out (bcells_one _) ?h6 ?_)
  case h4 => rw [bcells_len]
  case h5 => rw [bcells_len]; exact hl
  case h6 => rw [bcells_len, HFL.out]; omega
  intro w3 ho hg3
  rw [← List.append_assoc] at ho
  obtain ⟨e2, f2, hfin⟩ := HFin.out w1 w3 HW1.out ho hg3
  have c2 := (Keeps.refl (fun _ => True) w3).cell e2 trivial
  have HF := Lib.hid hfin
  clear ho hg3 hfin
  go_wp2_with fail
  go_ret
  exact ⟨rfl, HF.out⟩
theorem dwrite_yes (w : World) (p : Nat) (F : Foot) (s : SDev) (h : DAt w p F s) (k : Nat) (A : Option Addr) (cb : Nat) (G : Nat → Prop) (l : List UInt8) (hr : Row w A G (bcells l)) (hG : ∀ b, G b → ¬ F.all b) (hk : k < s.now.length) (hl : l.length ≤ 64) (hcalls : s.calls ≤ 1099511627776) :
  Calls Tryz.prog 63 #[.pointer (some ⟨p, 0, none⟩), .int .i64 k, .slice A l.length cb] w fun e w' => e = .returned (.int .i64 0) ∧ ∃ F', DAt w' p F' (s.write k l) ∧ Step F F' w w' :=
 (dwrite_own w p F s h k A cb G l hr hG hk hl hcalls).mono fun _ _ h => ⟨h.1, F, h.2⟩
end Go.Proofs.YticophaepapjoaaGreatDoor
