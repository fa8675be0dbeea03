/-
  Arr, MadeAt, MadeLoose, SlogHist, Math, Mix, TakeNext, GrowLay: texts of mine, joined.
-/
import Derived.Test.YticophaepapjoaaGreatDoorAllB00
import Derived.Laws.Rows
import Derived.Laws.CopyRow
import Derived.Laws.Cells
import Derived.Still
import Derived.Laws.CopyOwn
import Derived.Test.YticophaepapjoaaGreatDoorAllB01
import Derived.Test.YticophaepapjoaaGreatDoorAllB02
import Derived.Test.YticophaepapjoaaGreatDoorAllB05
import Derived.WalkKit
import Derived.Lib.Hide
import Derived.Lib.SmallJoins
import Derived.Lib.SlBytesConst
import Derived.Test.YticophaepapjoaaGreatDoorAllB04
import Derived.Test.YticophaepapjoaaGreatDoorRows
import Derived.Laws.Bits64
import Derived.Shelf.Spec.SlicesGrow
import Derived.Ground.Names8Prog
import Derived.Test.YticophaepapjoaaGreatDoorProg
open Go.Lib renaming hid → Hd
set_option maxRecDepth 100000
set_option maxHeartbeats 8000000
namespace Go.Proofs.YticophaepapjoaaGreatDoor
open Go Go.RowKit
section
variable {P : Program} {w : World}
theorem run_load_part (ty : TypeId) {d : TypeDesc} (g j : Nat) (cs : List Value) (hu : P.underlying ty = some d) (hd : (match d with | .struct _ | .array _ _ => true | _ => false) = true) (hi : (P.info? ty).map (·.size) = some cs.length)
  (h : ∀ i v, cs[i]? = some v → w.cell? ⟨g, j + i, none⟩ = some v) : (loadVar ty ⟨g, j, none⟩).run P w = .ok (.agg cs.toArray) w := by
 have hl : (loadCells ⟨g, j, none⟩ cs.length).run P w = .ok cs.toArray w := run_loadCells_list (P := P) w ⟨g, j, none⟩ cs (fun i v hv => by rw [WideShapes.add_plain]; exact h i v hv)
 cases hq : P.info? ty with
 | none => simp [hq] at hi
 | some i =>
  have hs : i.size = cs.length := by simpa [hq] using hi
  have hagg : (isAgg ty).run P w = .ok true w := by
   unfold isAgg
   rw [Sem.run_bind, run_underlying hu w]
   cases d <;> simp_all
  simp [loadVar, Sem.run_bind, hagg, sizeOf, typeInfo, hq, hs, hl]
theorem run_store_part (ty : TypeId) (g j : Nat) (t : TypeId) (cur : Array Value) (cs : List Value) (hg : w.heap[g]? = some (.cells cur t (0, 0))) (hi : (P.info? ty).map (·.size) = some cs.length) (hfit : j + cs.length ≤ cur.size) (h1 : ∀ v ∈ cs, v.oneCell' = true) :
  (storeVar ty ⟨g, j, none⟩ (.agg cs.toArray)).run P w = .ok () (w.setRow g (cur.toList.take j ++ cs ++ cur.toList.drop (j + cs.length)).toArray) := by
 have hst := run_storeCells_at P g j t cs 0 cur w hg (by simpa using hfit) h1
 simp only [Nat.add_zero] at hst
 cases hq : P.info? ty with
 | none => simp [hq] at hi
 | some i =>
  have hs : cs.length = i.size := by simp [hq] at hi; omega
  simp [storeVar, sizeOf, typeInfo, hq, Value.cells, hs]
  rw [← hs]
  simpa using hst
end
section
variable {P : Program} {w : World} {ops : Array Oper} {rest : List Oper} {o : Oper} {a : Act} {Q : Exit → Act → World → Prop}
theorem list_store_part (hgd : o.guard = none) (ty : TypeId) (x y : Operand) (ho : o.op = .store ty x y) (g j : Nat) (hx : a.eval x = .pointer (some ⟨g, j, none⟩)) (cs : List Value) (hy : a.eval y = .agg cs.toArray)
  (t : TypeId) (cur : Array Value) (hg : w.heap[g]? = some (.cells cur t (0, 0))) (hi : (P.info? ty).map (·.size) = some cs.length) (hfit : j + cs.length ≤ cur.size) (h1 : ∀ v ∈ cs, v.oneCell' = true)
  (hK : ∀ w', w'.heap[g]? = some (.cells (cur.toList.take j ++ cs ++ cur.toList.drop (j + cs.length)).toArray t (0, 0)) → w.grownBy w' (some g) → wpList P ops Q rest (a.put o.dst undef) w') : wpList P ops Q (o :: rest) a w := by
 refine wpList_plain hgd fun K hh => ?_
 unfold Oper.wp execOp
 simp only [ho, hx, hy, Instr.storeAt, Instr.sureAddr, Sem.run_bind, Sem.run_pure, Result.andThen_ok, run_store_part ty g j t cur cs hg hi hfit h1]
 exact hh _ _ (hK _ (setRow_heap w g cur _ t _ hg) ⟨rfl, rfl, rfl, by simp, fun k _ hk => setRow_other w g k _ (fun e => hk (by rw [e]))⟩)
theorem still_load_part {K : Act → Prop} (hgd : o.guard = none) (ty : TypeId) (x : Operand) (ho : o.op = .load ty x) {d : TypeDesc} (g j : Nat) (hx : a.eval x = .pointer (some ⟨g, j, none⟩)) (cs : List Value) (hu : P.underlying ty = some d)
  (hd : (match d with | .struct _ | .array _ _ => true | _ => false) = true) (hi : (P.info? ty).map (·.size) = some cs.length) (h : ∀ i v, cs[i]? = some v → w.cell? ⟨g, j + i, none⟩ = some v)
  (u : Value) (hV : Value.agg cs.toArray = u) (hK : K (a.put o.dst u)) : if Region.wanted o (yielded ops a.tmps) then o.still P a w K else K (a.put o.dst undef) := by
 subst hV
 have hw : Region.wanted o (yielded ops a.tmps) = true := by simp [Region.wanted, hgd]
 rw [if_pos hw]
 unfold Oper.still
 simp only [execOp, ho, hx, Instr.loadAt, Instr.sureAddr, Sem.run_bind, Sem.run_pure, Result.andThen_ok, run_load_part ty g j cs hu hd hi h]
 rw [Oper.stillUpon_value]
 exact hK
theorem list_alloc (hgd : o.guard = none) (t : TypeId) (ho : o.op = .alloc t) (z : Value) (hz : (zeroValue t).run P w = .ok z w) (Z : Array Value) (hZ : z.cells = Z) (hK : wpList P ops Q rest (a.put o.dst (.pointer (some ⟨w.heap.size, 0, none⟩))) (w.alloc (.cells Z t))) : wpList P ops Q (o :: rest) a w := by
 subst hZ
 refine wpList_plain hgd fun K hh => ?_
 unfold Oper.wp execOp
 simp only [ho, Instr.alloc, Sem.run_bind, Sem.run_pure, Result.andThen_ok, hz, newVar, newRow, run_newObj]
 exact hh _ _ hK
end
theorem own_splice {w : World} {base n c g size : Nat} {e : TypeId} {xs : List Value} (h : w.ownsRow base e size (.slice (some ⟨g, 0, none⟩) n c) n xs) (off : Nat) (cs : List Value) (hfit : off + cs.length ≤ xs.length) :
  ∃ cur : Array Value, w.heap[g]? = some (.cells cur e (0, 0)) ∧ off + cs.length ≤ cur.size ∧
   (w.setRow g (cur.toList.take off ++ cs ++ cur.toList.drop (off + cs.length)).toArray).ownsRow base e size (.slice (some ⟨g, 0, none⟩) n c) n (xs.take off ++ cs ++ xs.drop (off + cs.length)) ∧
   w.grownBy (w.setRow g (cur.toList.take off ++ cs ++ cur.toList.drop (off + cs.length)).toArray) (some g) := by
 rcases h.2 with ⟨h', _⟩ | ⟨g', c', cur, h', hb, hg, hnc, hcm, hcs, htake⟩
 ·cases h'
 ·injection h' with h1' _ h2'
  injection h1' with h1'
  injection h1' with h1'
  subst h1' h2'
  have hxl := h.1
  have hle : n * size ≤ cur.toList.length := by rw [Array.length_toList, hcs]; exact Nat.mul_le_mul_right _ hnc
  have hcl : off + cs.length ≤ cur.toList.length := by omega
  have hlen : (cur.toList.take off ++ cs ++ cur.toList.drop (off + cs.length)).length = cur.toList.length := by
   simp only [List.length_append, List.length_take, List.length_drop]; omega
  refine ⟨cur, hg, by simpa using hcl, ⟨?_, .inr ⟨g, c, _, rfl, hb, setRow_heap w g cur _ e _ hg, hnc, hcm, ?_, ?_⟩⟩, ⟨rfl, rfl, rfl, by simp, fun k _ hk => setRow_other w g k _ (fun e => hk (by rw [e]))⟩⟩
  ·simp only [List.length_append, List.length_take, List.length_drop]; omega
  ·simp only [List.size_toArray, hlen, Array.length_toList, hcs]
  ·rw [← htake] at hxl ⊢
   have hl2 : n * size = (cur.toList.take (n * size)).length := by rw [List.length_take]; omega
   apply List.ext_getElem?
   intro i
   simp only [List.getElem?_take, List.getElem?_append, List.length_append, List.length_take, List.getElem?_drop]
   rw [← htake, List.length_take] at hfit
   have m1 : min off cur.toList.length = off := by omega
   have m2 : min off (min (n * size) cur.toList.length) = off := by omega
   rw [m1, m2]
   by_cases hi : i < n * size
   ·rw [if_pos hi]
    by_cases h1 : i < off + cs.length
    ·rw [if_pos h1, if_pos h1]
     by_cases h2 : i < off
     ·rw [if_pos h2, if_pos h2, if_pos h2, if_pos h2, if_pos hi]
     ·rw [if_neg h2, if_neg h2]
    ·rw [if_neg h1, if_neg h1, if_pos (by omega)]
   ·rw [if_neg hi, if_neg (by omega), if_neg (by omega)]
section
variable {P : Program} {w : World} {ops : Array Oper} {rest : List Oper} {o : Oper} {a : Act} {Q : Exit → Act → World → Prop} {base n c g size : Nat} {e : TypeId} {xs : List Value}
theorem list_store_own (hgd : o.guard = none) (ty : TypeId) (x y : Operand) (ho : o.op = .store ty x y) (hown : w.ownsRow base e size (.slice (some ⟨g, 0, none⟩) n c) n xs) (j : Nat) (hx : a.eval x = .pointer (some ⟨g, j, none⟩)) (cs : List Value) (u : Value) (hu : Value.agg cs.toArray = u) (hy : a.eval y = u)
  (hi : (P.info? ty).map (·.size) = some cs.length) (hfit : j + cs.length ≤ xs.length) (h1 : ∀ v ∈ cs, v.oneCell' = true)
  (hK : ∀ w', w'.ownsRow base e size (.slice (some ⟨g, 0, none⟩) n c) n (xs.take j ++ cs ++ xs.drop (j + cs.length)) → w.grownBy w' (some g) → wpList P ops Q rest (a.put o.dst undef) w') : wpList P ops Q (o :: rest) a w := by
 subst hu
 obtain ⟨cur, hg, hl, h2, h3⟩ := own_splice hown j cs hfit
 refine wpList_plain hgd fun K hh => ?_
 unfold Oper.wp execOp
 simp only [ho, hx, hy, Instr.storeAt, Instr.sureAddr, Sem.run_bind, Sem.run_pure, Result.andThen_ok, run_store_part ty g j e cur cs hg hi hl h1]
 exact hh _ _ (hK _ h2 h3)
theorem list_copy_part {G : Nat → Prop} (hgd : o.guard = none) (d s : Operand) (dT sT : TypeId) (ho : o.op = .call { callee := .builtin .copy, args := #[d, s], argTypes := #[dT, sT] }) (el : TypeId) (hu : P.underlying dT = some (.slice el)) (hsz : (P.info? el).map (·.size) = some 1)
  (hown : w.ownsRow base e size (.slice (some ⟨g, 0, none⟩) n c) n xs) (off dLen dCap : Nat) (hd : a.eval d = .slice (some ⟨g, off, none⟩) dLen dCap) (A : Option Addr) (m sc : Nat) (hs : a.eval s = .slice A m sc) (cs : List Value) (hm : m = cs.length) (hle : cs.length ≤ dLen)
  (hrow : Row w A G cs) (h1 : ∀ v ∈ cs, v.oneCell' = true) (hfit : off + cs.length ≤ xs.length)
  (hK : ∀ w', w'.ownsRow base e size (.slice (some ⟨g, 0, none⟩) n c) n (xs.take off ++ cs ++ xs.drop (off + cs.length)) → w.grownBy w' (some g) → wpList P ops Q rest (a.put o.dst (goInt cs.length)) w') : wpList P ops Q (o :: rest) a w := by
 subst hm
 by_cases h0 : cs = []
 ·subst h0
  refine wpList_copy_nothing hgd d s dT sT ho el hu hsz _ _ dLen dCap _ sc hd hs (by simp) ?_
  exact hK w (by simpa using hown) ⟨rfl, rfl, rfl, Nat.le_refl _, fun _ _ _ => rfl⟩
 ·obtain ⟨b, o', rfl, _, hc⟩ := hrow h0
  obtain ⟨cur, hg, hl, h2, h3⟩ := own_splice hown off cs hfit
  refine wpList_copy_own hgd d s dT sT ho el hu hsz g off dLen dCap ⟨b, o', none⟩ _ sc hd hs cur e hg cs (Nat.min_eq_left hle).symm (fun j v hv => by rw [WideShapes.add_plain]; exact hc j v hv) hl h1 ?_
  rw [← List.append_assoc]
  exact hK _ h2 h3
end
theorem list_make {P : Program} {w : World} {ops : Array Oper} {rest : List Oper} {o : Oper} {a : Act} {Q : Exit → Act → World → Prop} (hg : o.guard = none) (l c : Operand) (t : TypeId) (hop : o.op = Op.makeSlice t l c)
  {e : TypeId} {z : Value} {size bytes : Nat} (E : Elem P t e z size bytes) (kl kc : IntKind) (n : Nat) (hl : a.eval l = .int kl (n : Int)) (hc : a.eval c = .int kc (n : Int)) (b2 : bytes * n ≤ 281474976710656) (b3 : n ≤ maxLen) (xs : List Value) (hxs : (madeCells z.cells (n * size)).toList = xs)
  (hK : ∀ w', w'.ownsRow w.heap.size e size (.slice (some ⟨w.heap.size, 0, none⟩) n n) n xs → w.grownBy w' none → wpList P ops Q rest (a.put o.dst (.slice (some ⟨w.heap.size, 0, none⟩) n n)) w') : wpList P ops Q (o :: rest) a w := by
 obtain ⟨i, hi, hz0, hz1, hz2⟩ := info_parts E.info
 subst hxs
 subst hz2
 exact wpList_make_full w hg l c t hop w.heap.size e i z size E.und hi hz0 hz1 kl kc _ _ n hl hc rfl rfl b2 b3 (Nat.le_refl _) hK
def flat (rows : List (List UInt8)) : List Value := rows.flatMap bcells
theorem flat_append (a b : List (List UInt8)) : flat (a ++ b) = flat a ++ flat b := by simp [flat]
theorem flat_len (rows : List (List UInt8)) (h : ∀ r ∈ rows, r.length = 64) : (flat rows).length = rows.length * 64 := by
 induction rows with
 | nil => rfl
 | cons r rows ih =>
  have := ih fun x hx => h x (by simp [hx])
  have hr := h r (by simp)
  have e : flat (r :: rows) = bcells r ++ flat rows := by simp [flat]
  rw [e, List.length_append, this, bcells_len, hr, List.length_cons]; omega
theorem flat_parts (rows : List (List UInt8)) (i : Nat) (hi : i < rows.length) : flat rows = flat (rows.take i) ++ (bcells rows[i] ++ flat (rows.drop (i + 1))) := by
 have e : rows = rows.take i ++ (rows[i] :: rows.drop (i + 1)) := by rw [← List.drop_eq_getElem_cons hi, List.take_append_drop]
 calc flat rows = flat (rows.take i ++ (rows[i] :: rows.drop (i + 1))) := by rw [← e]
  _ = _ := by rw [flat_append]; rfl
theorem flat_one (rows : List (List UInt8)) : ∀ u ∈ flat rows, u.oneCell' = true := by
 intro u hu
 obtain ⟨r, _, hr⟩ := List.mem_flatMap.1 hu
 exact bcells_one r u hr
theorem flat_at (rows : List (List UInt8)) (h : ∀ r ∈ rows, r.length = 64) (i : Nat) (hi : i < rows.length) (j : Nat) (v : Value) (hv : (bcells rows[i])[j]? = some v) : (flat rows)[i * 64 + j]? = some v := by
 have hj : j < (bcells rows[i]).length := (List.getElem?_eq_some_iff.1 hv).1
 have ht : (flat (rows.take i)).length = i * 64 := by
  rw [flat_len _ fun r hr => h r (List.mem_of_mem_take hr), List.length_take]; congr 1; omega
 rw [flat_parts rows i hi, List.getElem?_append_right (by omega), ht, List.getElem?_append_left (by omega), ← hv]
 congr 1; omega
theorem flat_splice (rows : List (List UInt8)) (h : ∀ r ∈ rows, r.length = 64) (i : Nat) (hi : i < rows.length) (l : List UInt8) (hl : l.length ≤ 64) :
  (flat rows).take (i * 64) ++ bcells l ++ (flat rows).drop (i * 64 + (bcells l).length) = flat (rows.set i (l ++ rows[i].drop l.length)) := by
 have ht : (flat (rows.take i)).length = i * 64 := by
  rw [flat_len _ fun r hr => h r (List.mem_of_mem_take hr), List.length_take]; congr 1; omega
 have hr : (bcells rows[i]).length = 64 := by rw [bcells_len]; exact h _ (List.getElem_mem hi)
 have e := flat_parts (rows.set i (l ++ rows[i].drop l.length)) i (by simpa using hi)
 rw [e, flat_parts rows i hi]
 rw [List.take_append_of_le_length (by omega), List.take_of_length_le (by omega), List.append_assoc]
 congr 1
 ·rw [List.take_set_of_le (Nat.le_refl i)]
 ·rw [← ht, List.drop_append, List.drop_of_length_le (by omega), List.nil_append]
  rw [show (flat (rows.take i)).length + (bcells l).length - (flat (rows.take i)).length = (bcells l).length by omega]
  rw [List.drop_append_of_le_length (by rw [bcells_len, hr]; exact hl), ← List.append_assoc]
  congr 1
  ·simp [bcells]
  ·rw [List.drop_set_of_lt (by omega)]
end Go.Proofs.YticophaepapjoaaGreatDoor
namespace Go.Proofs.YticophaepapjoaaGreatDoor
open Go Go.RowKit Go.Joins
def secZ : Value := .agg (Array.replicate 64 (.int .u8 0))
theorem sec_elem : Elem Tryz.prog 75 101 secZ 64 64 := ⟨Tryz.underlying75, by kernel_rfl, rfl, by decide⟩
def sec (l : List UInt8) : Value := .agg (bcells l).toArray
def SDev.look (s : SDev) : Lit → Option Value
 | .int .i64 i => if 0 ≤ i ∧ s.dirty.getD i.toNat false = true then some (sec (s.fast.getD i.toNat [])) else none
 | _ => none
theorem look_at (s : SDev) (x : Int) : s.look (.int .i64 x) = if 0 ≤ x ∧ s.dirty.getD x.toNat false = true then some (sec (s.fast.getD x.toNat [])) else none := rfl
structure DAt (w : World) (p : Nat) (F : Foot) (s : SDev) : Prop where
 ok : s.Ok
 lt : ∀ b, F.all b → b < w.heap.size
 two : ∀ b, F.M b → ¬ F.I b
 same : ∀ i, s.dirty.getD i false = false → s.now.getD i [] = s.fast.getD i []
 ex : ∃ (g c m : Nat),
  w.heap[p]? = some (.cells #[.slice (some ⟨g, 0, none⟩) s.now.length c, .map (some m), .int .i64 (s.calls : Int)] 104 (0, 0)) ∧
  w.ownsRow 0 101 64 (.slice (some ⟨g, 0, none⟩) s.now.length c) s.now.length (flat s.now) ∧
  MapIs Tryz.prog 3 w m s.loose.length s.look ∧ [p, g, m].Nodup ∧ F.M p ∧ F.M g ∧ F.M m
theorem DAt.row {w : World} {g c n : Nat} {rows : List (List UInt8)} (h2 : w.ownsRow 0 101 64 (.slice (some ⟨g, 0, none⟩) n c) n (flat rows)) (hr : ∀ r ∈ rows, r.length = 64) (k : Nat) (hk : k < rows.length) :
  ∀ i v, (bcells rows[k])[i]? = some v → w.cell? ⟨g, k * 64 + i, none⟩ = some v := fun i v hv => by
 have := h2.cells (g := g) rfl _ v (flat_at rows hr k hk i v hv)
 rwa [WideShapes.add_plain, Nat.zero_add] at this
theorem DAt.keep {w w' : World} {p : Nat} {F : Foot} {s : SDev} (h : DAt w p F s) (hk : Keeps F.all w w') : DAt w' p F s := by
 obtain ⟨g, c, m, h1, h2, h3, h4, m1, m2, m3⟩ := h.ex
 refine ⟨h.ok, fun b hb => Nat.lt_of_lt_of_le (h.lt b hb) hk.size, h.two, h.same, g, c, m, ?_, ?_, ?_, h4, m1, m2, m3⟩
 ·rw [hk.block p (.inl m1) (h.lt p (.inl m1))]; exact h1
 ·exact hk.own h2 fun b hb => by cases hb; exact .inl m2
 ·exact h3.keep hk (.inl m3)
theorem dlen_any (w : World) (p : Nat) (F : Foot) (s : SDev) (h : DAt w p F s) : Calls Tryz.prog 35 #[.pointer (some ⟨p, 0, none⟩)] w fun e w' => e = .returned (.int .i64 (s.now.length : Int)) ∧ w = w' := by
 obtain ⟨g, c, m, h1, h2, h3, h4, m1, m2, m3⟩ := h.ex
 have c0 := (cell_of_block h1 0).trans rfl
 clear h1 h2 h3 h4 m1 m2 m3 h
 go_enter Tryz.func35, Tryz.ntmps35
 go_wp2
 go_ret
 exact ⟨rfl, rfl⟩
theorem dcheck_any (w : World) (p : Nat) (F : Foot) (s : SDev) (h : DAt w p F s) (i : Int) : Calls Tryz.prog 93 #[.pointer (some ⟨p, 0, none⟩), .int .i64 i] w fun e w' => e = .returned (.int .i64 (s.readE i)) ∧ w = w' := by
 obtain ⟨g, c, m, h1, h2, h3, h4, m1, m2, m3⟩ := h.ex
 have c0 := (cell_of_block h1 0).trans rfl
 clear h1 h2 h3 h4 m1 m2 m3 h
 by_cases hi : i < 0 ∨ (s.now.length : Int) ≤ i
 ·have hr := Hd (show s.readE i = 4 from if_pos hi)
  have hd : decide (i < 0) = true ∨ decide (i < 0) = false ∧ decide ((s.now.length : Int) ≤ i) = true := by
   by_cases h0 : i < 0
   ·simp [h0]
   ·right; simp; omega
  clear hi
  rcases hd with hd | ⟨hd, hd2⟩
  all_goals
   go_enter Tryz.func93, Tryz.ntmps93
   go_wp2
   go_ret
   exact ⟨by rw [hr.out]; rfl, rfl⟩
 ·have hr := Hd (show s.readE i = 0 from if_neg hi)
  have hd : decide (i < 0) = false := by simp; omega
  have hd2 : decide ((s.now.length : Int) ≤ i) = false := by simp; omega
  clear hi
  go_enter Tryz.func93, Tryz.ntmps93
  go_wp2
  go_ret
  exact ⟨by rw [hr.out]; rfl, rfl⟩
theorem flush_loose (s : SDev) : s.flush.loose = [] := by
 show (List.range (List.replicate s.now.length false).length).filter _ = []
 rw [List.filter_eq_nil_iff]
 intro i hi
 have : i < s.now.length := by simpa using hi
 simp [SDev.flush, List.getD, this]
theorem flush_look (s : SDev) : s.flush.look = fun _ => none := by
 funext l
 unfold SDev.look
 split
 ·rename_i i
  have : s.flush.dirty.getD i.toNat false = false := by
   simp only [SDev.flush, List.getD_eq_getElem?_getD, List.getElem?_replicate]; split <;> rfl
  rw [if_neg (by rw [this]; simp)]
 ·rfl
theorem dflush_any (w : World) (p : Nat) (F : Foot) (s : SDev) (h : DAt w p F s) (hcalls : s.calls ≤ 1099511627776) :
  Calls Tryz.prog 64 #[.pointer (some ⟨p, 0, none⟩)] w fun e w' => e = .returned (.int .i64 0) ∧ ∃ F', DAt w' p F' s.flush ∧ Step F F' w w' := by
 obtain ⟨g, c, m, h1, h2, h3, h4, m1, m2, m3⟩ := h.ex
 simp only [List.nodup_cons, List.mem_cons, List.not_mem_nil, or_false, not_or, not_false_eq_true, List.nodup_nil, and_true] at h4
 obtain ⟨⟨d1, d2⟩, d3⟩ := h4
 have hp := h.lt p (.inl m1)
 have hg := h.lt g (.inl m2)
 have c1 : w.cell? ⟨p, 1, none⟩ = some (.map (some m)) := (cell_of_block h1 1).trans rfl
 have c2 : w.cell? ⟨p, 2, none⟩ = some (.int .i64 (s.calls : Int)) := (cell_of_block h1 2).trans rfl
 have f1 := unfrozen_of_block h1 1
 have f2 := unfrozen_of_block h1 2
 have hb1 := block_setCell h1 (i := 1) (.map (some w.heap.size))
 have hb2 := block_setCell hb1 (i := 2) (.int .i64 ((s.calls : Int) + 1))
 have hk0 : Keeps (fun b => b ≠ p) w ((w.setCell ⟨p, 1, none⟩ (.map (some w.heap.size))).setCell ⟨p, 2, none⟩ (.int .i64 ((s.calls : Int) + 1))) :=
  ((Keeps.refl _ w).setCell (.inr fun hn => hn rfl) _).setCell (.inr fun hn => hn rfl) _
 have hsz : ((w.setCell ⟨p, 1, none⟩ (.map (some w.heap.size))).setCell ⟨p, 2, none⟩ (.int .i64 ((s.calls : Int) + 1))).heap.size = w.heap.size := by simp [World.setCell]
 have hfin : ∃ F', DAt (((w.setCell ⟨p, 1, none⟩ (.map (some w.heap.size))).setCell ⟨p, 2, none⟩ (.int .i64 ((s.calls : Int) + 1))).alloc (.map #[] 0)) p F' s.flush ∧ Step F F' w (((w.setCell ⟨p, 1, none⟩ (.map (some w.heap.size))).setCell ⟨p, 2, none⟩ (.int .i64 ((s.calls : Int) + 1))).alloc (.map #[] 0)) := by
  generalize ((w.setCell ⟨p, 1, none⟩ (.map (some w.heap.size))).setCell ⟨p, 2, none⟩ (.int .i64 ((s.calls : Int) + 1))) = W at hb2 hk0 hsz
  have hm0 := MapIs.made Tryz.prog 3 W
  have hk1 := hk0.alloc (.map #[] 0)
  have hs2 := hk1.size
  have hz : (W.alloc (.map #[] 0)).heap.size = w.heap.size + 1 := by simp [hsz]
  refine ⟨⟨fun b => b = p ∨ b = g ∨ b = w.heap.size, fun _ => False⟩, ⟨flush_ok s h.ok, fun b hb => ?_, fun b _ hi => hi, fun i _ => rfl, g, c, w.heap.size, ?_, ?_, ?_, ?_, .inl rfl, .inr (.inl rfl), .inr (.inr rfl)⟩, ⟨hk1.mono fun b _ hb e => ?_, fun b hb => ?_, fun b hb => hb.elim⟩⟩
  ·rcases hb with (rfl | rfl | rfl) | hb <;> first | omega | exact hb.elim
  ·exact (Below.heap_alloc W _ p (by omega)).trans hb2
  ·exact hk1.own h2 fun b hb => by cases hb; exact Ne.symm d1
  ·rw [flush_loose, flush_look, ← hsz]
   exact hm0
  ·simp; omega
  ·subst e; exact hb m1
  ·rcases hb with rfl | rfl | rfl
   ·exact .inl m1
   ·exact .inl m2
   ·exact .inr (Nat.le_refl _)
 have HF := Hd hfin
 have hmm := @run_makeMap Tryz.prog
 clear h1 h2 h3 m1 m2 m3 h hb1 hb2 hk0 hfin hsz
 go_enter Tryz.func64, Tryz.ntmps64
 go_wp2
 go_ret
 exact ⟨rfl, HF.out⟩
end Go.Proofs.YticophaepapjoaaGreatDoor
namespace Go.Proofs.YticophaepapjoaaGreatDoor
open Go Go.RowKit Go.Joins Go.Maps Go.Sort Go.Shelf
def SDev.looseZ (s : SDev) : List Int := s.loose.map fun n : Nat => (n : Int)
theorem look_some (s : SDev) (x : Int) : (s.look (.int .i64 x)).isSome = true ↔ x ∈ s.looseZ := by
 unfold SDev.looseZ SDev.loose
 rw [look_at, List.mem_map]
 constructor
 ·intro h
  by_cases hc : 0 ≤ x ∧ s.dirty.getD x.toNat false = true
  ·exact ⟨x.toNat, (mem_trues _ _).2 hc.2, by omega⟩
  ·rw [if_neg hc] at h; cases h
 ·rintro ⟨n, hn, rfl⟩
  rw [if_pos ⟨by omega, by rw [Int.toNat_natCast]; exact (mem_trues _ _).1 hn⟩]; rfl
theorem look_int (s : SDev) (l : Lit) (h : (s.look l).isSome = true) : ∃ x, l = .int .i64 x := by
 unfold SDev.look at h
 split at h
 ·exact ⟨_, rfl⟩
 ·cases h
theorem looseZ_nodup (s : SDev) : s.looseZ.Nodup := List.pairwise_map.2 ((trues_sorted s.dirty).imp fun h => by omega)
theorem looseZ_sorted (s : SDev) : s.looseZ.mergeSort leI = s.looseZ := sorted_self _ (List.pairwise_map.2 ((trues_sorted s.dirty).imp fun h => by omega))
theorem sortsA (m : Nat) : AnyZI.SortsIn Tryz.prog Tryz.sortedA_ren Fence.wide m :=
 ⟨fun blk off cap ss W hH hblk hsz => callsIn_wide.2 (AnyM.slices_Sort_int Tryz.sortA blk off cap ss W hH hblk hsz),
  fun p cap W => callsIn_wide.2 (AnyM.slices_Sort_int_none Tryz.sortA p cap W)⟩
theorem dloose_any (w : World) (p : Nat) (F : Foot) (s : SDev) (h : DAt w p F s) :
  Calls Tryz.prog 54 #[.pointer (some ⟨p, 0, none⟩)] w fun e w' => ∃ v, e = .returned v ∧ OwnN w' w.heap.size v s.loose ∧ Keeps (fun _ => True) w w' := by
 obtain ⟨g, c, b, h1, h2, h3, h4, m1, m2, m3⟩ := h.ex
 have c1 : w.cell? ⟨p, 1, none⟩ = some (.map (some b)) := (cell_of_block h1 1).trans rfl
 obtain ⟨D0, hown, hperm⟩ := h3.perm (int_keyed Tryz.underlying3) (looseZ_nodup s) (fun x => (look_some s x).symm) (look_int s)
 have hsz : Maps.size D0 ≤ s.loose.length := hown.size_le
 have hll : s.loose.length ≤ s.now.length := by have := trues_len s.dirty; rw [h.ok.dirty] at this; exact this
 have hsm := h.ok.small
 have hfin := Hd (show ∀ (v : Value) (ss : List Int) (w' : World), ss.Perm (intKeys D0) → w'.ownsRow w.heap.size 3 1 v ss.length ((ss.mergeSort (fun x y => decide (x ≤ y))).map encZ) → OwnN w' w.heap.size v s.loose from by
  intro v ss w' hp ho
  have e : ss.mergeSort leI = s.looseZ := (mergeSort_of_perm_i (hp.trans hperm.symm)).trans (looseZ_sorted s)
  have hl : ss.length = s.loose.length := by rw [(hp.trans hperm.symm).length_eq]; simp [SDev.looseZ]
  have e2 : (ss.mergeSort (fun x y => decide (x ≤ y))).map encZ = nats s.loose := by
   show (ss.mergeSort leI).map encZ = _
   rw [e]; simp [SDev.looseZ, nats]
  rw [e2, hl] at ho
  exact ho)
 have hmax : Maps.size D0 ≤ maxLen := by unfold maxLen; omega
 have hbytes : Maps.size D0 * 8 ≤ 140737488355328 := by omega
 clear h h1 h2 h3 h4 m1 m2 m3 hperm hsz hll hsm
 refine (callsIn_wide (n := 6)).1 ?_
 have hbl := hown.lt
 have hseq : SeqGives Fence.wide 2 Tryz.prog 115 #[.pointer (some ⟨w.heap.size, 0, none⟩)] encZ (fun ss => ss.Perm (intKeys D0)) (Maps.size D0) (w.alloc (.cells #[.map (some b)] 102)) :=
  AnyZI.keys_gives (ρ := Tryz.keysA_ren) { Tryz.keysA with } Fence.wide _ trivial rfl (by omega) w.heap.size b _ D0 _ (by simp) (by simp) (by
   obtain ⟨es, clock, hb, Ft, hs, hD⟩ := hown
   exact ⟨es, clock, (Below.heap_alloc _ _ b hbl).trans hb, Ft, hs, hD⟩)
 have cK : ∀ mb W, CallsIn Fence.wide 5 Tryz.prog 81 #[.map mb] W fun e w' => e = .returned (.func (.func 115) #[] #[.pointer (some ⟨W.heap.size, 0, none⟩)]) ∧ w' = W.alloc (.cells #[.map mb] 102) := fun mb W => AnyZI.keys_in Tryz.keysA Fence.wide 5 trivial rfl mb W
 have cS := AnyZI.sorted_in Tryz.sortedA Fence.wide 5 trivial trivial trivial trivial rfl (by omega) (sortsA _) (enters_of Tryz.func114 (by kernel_rfl) rfl) 115 #[.pointer (some ⟨w.heap.size, 0, none⟩)] trivial (enters_of Tryz.func115 (by kernel_rfl) rfl) _ _ hmax hbytes _ hseq
 change CallsIn _ _ Tryz.prog 80 _ _ _ at cS
 have hfK : Fence.wide.fn 81 := trivial
 have hfS : Fence.wide.fn 80 := trivial
 refine callsIn_of_wp Tryz.func54 rfl trivial ?_ rfl
 simp only [Tryz.ntmps54, List.size_toArray, List.length_cons, List.length_nil, Nat.reduceAdd, Nat.reduceSub, Array.replicate_succ, Array.replicate_zero, List.push_toArray, List.append_toArray, List.nil_append, List.cons_append]
 gi_wp2_with (first
  | (gi_at_call 81; refine (cK _ _).mono ?_; rintro e w' ⟨rfl, rfl⟩)
  | (gi_at_call 80; refine cS.mono ?_; rintro e w' ⟨v, ss, rfl, hS, hrow, hnil, hb⟩))
 go_ret
 exact ⟨v, rfl, hfin.out v ss _ hS (ownsRow_base_a hrow (by simp)), Keeps.of_below (((Below.refl _ w).alloc (Nat.le_refl _) _).trans (hb.mono (by simp))) _⟩
end Go.Proofs.YticophaepapjoaaGreatDoor
namespace Go.Proofs.YticophaepapjoaaGreatDoor
structure LRec where
 pos : Nat
 body : List UInt8
 opens : Nat
 deriving Inhabited
def LRec.key (r : LRec) : Nat × List UInt8 := (r.pos, r.body)
def LRec.cost (r : LRec) : Nat := r.body.length + 60 + 400 * r.opens
def costs (l : List LRec) : Nat := (l.map LRec.cost).sum
def opened : List LRec → List LRec
 | [] => []
 | [r] => [⟨r.pos, r.body, r.opens + 1⟩]
 | r :: l => r :: opened l
structure LSt where
 dev : Nat
 place : Nat
 segs : Nat
 hist : List LRec
 gone : Nat
 first : Nat
 next : Nat
def LSt.recs (st : LSt) : List (Nat × List UInt8) := (st.hist.drop st.gone).map LRec.key
def LSt.has (st : LSt) (i : Nat) : Prop := st.place ≤ i ∧ i < st.place + 8 * st.segs
structure LSt.Ok (st : LSt) : Prop where
 segs : 3 ≤ st.segs ∧ st.segs ≤ 200
 one : ∀ r ∈ st.hist, 1 ≤ r.pos ∧ 1 ≤ r.body.length ∧ r.body.length ≤ 300
 rise : st.hist.Pairwise (·.pos < ·.pos)
 gone : st.gone ≤ st.hist.length
 kept : ∀ i, i ≤ st.hist.length → costs (st.hist.drop i) ≤ 200 * (st.segs - 2) → st.gone ≤ i
 next : 1 ≤ st.next ∧ ∀ r ∈ st.hist, r.pos < st.next
 first : ∀ r ∈ st.hist.drop st.gone, st.first ≤ r.pos
 small : st.next ≤ 1099511627776
end Go.Proofs.YticophaepapjoaaGreatDoor
namespace Go.Proofs.YticophaepapjoaaGreatDoor
def foN (k x : Nat) : Nat := x ^^^ x / 2 ^ k
def stN (x : Nat) : Nat :=
 foN 31 (foN 27 (foN 30 x * 13787848793156543929 % 18446744073709551616) * 10723151780598845931 % 18446744073709551616)
theorem foN_lt (k x : Nat) (h : x < 18446744073709551616) : foN k x < 18446744073709551616 :=
 Nat.xor_lt_two_pow (n := 64) h (Nat.lt_of_le_of_lt (Nat.div_le_self _ _) h)
theorem stN_lt (x : Nat) : stN x < 18446744073709551616 := foN_lt 31 _ (Nat.mod_lt _ (by decide))
end Go.Proofs.YticophaepapjoaaGreatDoor
namespace Go.Proofs.YticophaepapjoaaGreatDoor
open Go.RowKit
theorem fo_shift (k n : Nat) (h : n < 18446744073709551616) : bits .xor .u64 (n : Int) ((n : Int) / ((2 ^ k : Nat) : Int)) = ((foN k n : Nat) : Int) :=
 xorShift_u64 n (2 ^ k) h
theorem fo_step (k n C : Nat) (h : n < 18446744073709551616) :
  IntKind.u64.wrap (bits .xor .u64 (n : Int) ((n : Int) / ((2 ^ k : Nat) : Int)) * (C : Int)) = ((foN k n * C % 18446744073709551616 : Nat) : Int) :=
 mixStep_u64 n (2 ^ k) C h
theorem st_shift (x : Nat) (h : x < 18446744073709551616) (A B : Int)
  (hA : A = IntKind.u64.wrap (bits .xor .u64 (x : Int) ((x : Int) / 1073741824) * 13787848793156543929))
  (hB : B = IntKind.u64.wrap (bits .xor .u64 A (A / 134217728) * 10723151780598845931)) :
  bits .xor .u64 B (B / 2147483648) = ((stN x : Nat) : Int) := by
 have e1 : A = ((foN 30 x * 13787848793156543929 % 18446744073709551616 : Nat) : Int) := hA.trans (fo_step 30 x 13787848793156543929 h)
 have e2 : B = ((foN 27 (foN 30 x * 13787848793156543929 % 18446744073709551616) * 10723151780598845931 % 18446744073709551616 : Nat) : Int) := by
  rw [hB, e1]; exact fo_step 27 _ 10723151780598845931 (Nat.mod_lt _ (by decide))
 rw [e2]
 exact fo_shift 31 _ (Nat.mod_lt _ (by decide))
theorem ret_u64 {a b : Int} (h : a = b) : Ending.returned (.int .u64 a) = .returned (.int .u64 b) := by rw [h]
theorem stir_nat (x : Nat) (hx : x < 18446744073709551616) (w : World) :
  Calls Tryz.prog 130 #[.int .u64 (x : Int)] w fun e w' => e = .returned (.int .u64 ((stN x : Nat) : Int)) ∧ w = w' := by
 go_enter Tryz.func130, Tryz.ntmps130
 go_wp2
 go_ret
 exact ⟨ret_u64 (st_shift x hx _ _ rfl rfl), rfl⟩
def stZ (x : Int) : Int := ((stN x.toNat : Nat) : Int)
theorem stZ_nonneg (x : Int) : 0 ≤ stZ x := Int.natCast_nonneg _
theorem stZ_lt (x : Int) : stZ x < 18446744073709551616 := by have := stN_lt x.toNat; unfold stZ; omega
theorem stir_any (x : Int) (hx : 0 ≤ x) (lx : x < 18446744073709551616) (w : World) :
  Calls Tryz.prog 130 #[.int .u64 x] w fun e w' => e = .returned (.int .u64 (stZ x)) ∧ w = w' := by
 have h := stir_nat x.toNat (by omega) w
 rw [Int.toNat_of_nonneg hx] at h
 exact h
theorem xor_nonneg (a b : Int) : 0 ≤ bits .xor .u64 a b := by
 show 0 ≤ IntKind.u64.wrap _
 rw [IntKind.wrap_u64]; omega
theorem xor_lt (a b : Int) : bits .xor .u64 a b < 18446744073709551616 := by
 show IntKind.u64.wrap _ < _
 rw [IntKind.wrap_u64]; omega
end Go.Proofs.YticophaepapjoaaGreatDoor
namespace Go.Proofs.YticophaepapjoaaGreatDoor
theorem take_next {α : Type} (l : List α) (k : Nat) (h : k < l.length) : l.take (k + 1) = l.take k ++ [l[k]] := by
 rw [List.take_add_one, List.getElem?_eq_getElem h]; rfl
end Go.Proofs.YticophaepapjoaaGreatDoor
namespace Go.Proofs
open Go.Shelf
def Tryz.growA_ren : Go.Shelf.Ren := ⟨fun | 4 => 171 | n => n, fun | 22 => 64 | 25 => 5 | 3 => 3 | 4 => 4 | 9 => 9 | 20 => 20 | 0 => 0 | n => n, fun | n => n⟩
theorem Tryz.growA : Go.Proofs.Lays8.n4 Tryz.prog Tryz.growA_ren := {
 mixed := by kernel_rfl
 f4 := ⟨Tryz.f171.name, by decide, Tryz.func171.trans (congrArg some (by kernel_rfl))⟩
 t0 := Tryz.underlying0
 a0 := Tryz.isAgg0
 z0 := Tryz.sizeOf0
 v0 := Tryz.zeroValue0
 t3 := Tryz.underlying3
 a3 := Tryz.isAgg3
 z3 := Tryz.sizeOf3
 v3 := Tryz.zeroValue3
 t4 := Tryz.underlying4
 a4 := Tryz.isAgg4
 z4 := Tryz.sizeOf4
 v4 := Tryz.zeroValue4
 t9 := Tryz.underlying9
 a9 := Tryz.isAgg9
 z9 := Tryz.sizeOf9
 v9 := Tryz.zeroValue9
 t20 := Tryz.underlying20
 a20 := Tryz.isAgg20
 z20 := Tryz.sizeOf20
 v20 := Tryz.zeroValue20
 t22 := Tryz.underlying64
 a22 := Tryz.isAgg64
 z22 := Tryz.sizeOf64
 v22 := Tryz.zeroValue64 }
end Go.Proofs
