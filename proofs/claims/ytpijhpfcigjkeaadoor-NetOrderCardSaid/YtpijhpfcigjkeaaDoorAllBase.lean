/- Texts of one proof, behind one another: each says above its part what it proves and on which conditions. -/
import Derived.Test.YtpijhpfcigjkeaaDoorWords
import Derived.Test.YtpijhpfcigjkeaaDoorProg
import Derived.WalkKit
import Derived.Laws.Rows
import Derived.Laws.CopyRow
import Derived.Laws.Cells
import Derived.Still
import Derived.Laws.CopyOwn
import Derived.WalkSpells
import Derived.Lib.Hide
import Derived.Lib.SmallJoins
/-
  SLICES OF BYTES OF THE CALL's OWN.
-/
section
namespace Go.Proofs.YtpijhpfcigjkeaaDoor
open Go Go.RowKit

theorem byte_elem : Elem Tryd.prog 63 5 (.int .u8 0) 1 1 := ⟨Tryd.underlying63, by kernel_rfl, rfl, by decide⟩
/-- A slice of the call's own that holds these bytes. -/
def OwnB (w : World) (base : Nat) (v : Value) (l : List UInt8) : Prop := w.ownsRow base 5 1 v l.length (bcells l)
theorem OwnB.snoc {w : World} {base : Nat} {v : Value} {l r : List UInt8} {m : Nat} {xs : List Value} (h : w.ownsRow base 5 1 v m xs) (hm : m = (l ++ r).length) (hx : xs = bcells l ++ bcells r) : OwnB w base v (l ++ r) := by
  unfold OwnB; rw [bcells_append, ← hx, ← hm]; exact h

end Go.Proofs.YtpijhpfcigjkeaaDoor
end

/-
  OBJECTS IN MEMORY (my own text; it knows no program): the blocks that an object may write ('M') and those that it only reads and may share ('I'); a step that writes no others; two objects apart.
-/
section
namespace Go.Proofs.YtpijhpfcigjkeaaDoor
open Go Go.RowKit

/-- An object's blocks: M, which its own calls may write; I, which nobody writes any more. -/
structure Foot where
  M : Nat → Prop
  I : Nat → Prop
def Foot.all (F : Foot) (b : Nat) : Prop := F.M b ∨ F.I b
/-- It lies in this world, in blocks from n on; what may be written is not shared. -/
structure Foot.In (F : Foot) (n : Nat) (w : World) : Prop where
  lt : ∀ b, F.all b → b < w.heap.size
  ge : ∀ b, F.all b → n ≤ b
  two : ∀ b, F.M b → ¬ F.I b
/-- A call on it: it writes its own blocks and lays new ones. -/
structure Step (F F' : Foot) (w w' : World) : Prop where
  keeps : Keeps (fun b => ¬ F.M b) w w'
  m : ∀ b, F'.M b → F.M b ∨ w.heap.size ≤ b
  i : ∀ b, F'.I b → F.all b ∨ w.heap.size ≤ b
/-- Neither may write what the other one has. -/
structure Apart (F G : Foot) : Prop where
  l : ∀ b, F.M b → ¬ G.all b
  r : ∀ b, G.M b → ¬ F.all b

section
variable {F F' F'' G : Foot} {w w' w'' : World} {n : Nat}
theorem Step.refl (F : Foot) (w : World) : Step F F w w := ⟨Keeps.refl _ _, fun _ h => .inl h, fun _ h => .inl (.inr h)⟩
theorem Step.all (h : Step F F' w w') : ∀ b, F'.all b → F.all b ∨ w.heap.size ≤ b := fun b hb => by
  rcases hb with hb | hb
  · rcases h.m b hb with h1 | h1
    · exact .inl (.inl h1)
    · exact .inr h1
  · exact h.i b hb
theorem Step.trans (h : Step F F' w w') (k : Step F' F'' w' w'') : Step F F'' w w'' := by
  have hs := h.keeps.size
  refine ⟨⟨k.keeps.os.trans h.keeps.os, k.keeps.tape.trans h.keeps.tape, k.keeps.output.trans h.keeps.output, Nat.le_trans hs k.keeps.size, fun b hb hlt => ?_⟩, fun b hb => ?_, fun b hb => ?_⟩
  · refine (k.keeps.block b (fun hm => ?_) (Nat.lt_of_lt_of_le hlt hs)).trans (h.keeps.block b hb hlt)
    rcases h.m b hm with h1 | h1
    · exact hb h1
    · omega
  · rcases k.m b hb with h1 | h1
    · exact h.m b h1
    · exact .inr (Nat.le_trans hs h1)
  · rcases k.i b hb with h1 | h1
    · exact h.all b h1
    · exact .inr (Nat.le_trans hs h1)
theorem Step.alloc (h : Step F F' w w') (o : Obj) : Step F F' w (w'.alloc o) := ⟨h.keeps.alloc o, h.m, h.i⟩
theorem Step.drew (h : Step F F' w w') : Step F F' w w'.drew := ⟨h.keeps.drew, h.m, h.i⟩
theorem Step.of_keeps (h : Keeps (fun _ => True) w w') (F : Foot) : Step F F w w' := ⟨h.mono fun _ _ _ => trivial, fun _ hb => .inl hb, fun _ hb => .inl (.inr hb)⟩
/-- What was there ahead of all of it. -/
theorem Step.old {a : World} (h : Step F F' w w') (hF : ∀ b, F.M b → a.heap.size ≤ b) (hk : Keeps (fun _ => True) a w) : Keeps (fun _ => True) a w' :=
  ⟨h.keeps.os.trans hk.os, h.keeps.tape.trans hk.tape, h.keeps.output.trans hk.output, Nat.le_trans hk.size h.keeps.size, fun b _ hb =>
    (h.keeps.block b (fun hm => by have := hF b hm; omega) (Nat.lt_of_lt_of_le hb hk.size)).trans (hk.block b trivial hb)⟩
theorem Apart.symm (h : Apart F G) : Apart G F := ⟨h.r, h.l⟩
/-- The other object is as it was. -/
theorem Step.other (h : Step F F' w w') (ha : Apart F G) : Keeps G.all w w' := h.keeps.mono fun b _ hg hm => ha.l b hm hg
theorem Step.apart (h : Step F F' w w') (ha : Apart F G) (hG : ∀ b, G.all b → b < w.heap.size) : Apart F' G := by
  refine ⟨fun b hb hg => ?_, fun b hb hf => ?_⟩
  · rcases h.m b hb with h1 | h1
    · exact ha.l b h1 hg
    · have := hG b hg; omega
  · rcases h.all b hf with h1 | h1
    · exact ha.r b hb h1
    · have := hG b (.inl hb); omega
theorem Foot.In.other (h : F.In n w) (hs : w.heap.size ≤ w'.heap.size) : F.In n w' := ⟨fun b hb => Nat.lt_of_lt_of_le (h.lt b hb) hs, h.ge, h.two⟩
theorem Step.ge (h : Step F F' w w') (hF : F.In n w) (hn : n ≤ w.heap.size) : ∀ b, F'.all b → n ≤ b := fun b hb => by
  rcases h.all b hb with h1 | h1
  · exact hF.ge b h1
  · omega
/-- New blocks are apart from all that lay there. -/
theorem Apart.fresh (hF : ∀ b, F.all b → w.heap.size ≤ b) (hG : ∀ b, G.all b → b < w.heap.size) : Apart F G :=
  ⟨fun b hb hg => by have := hF b (.inl hb); have := hG b hg; omega, fun b hb hf => by have := hF b hf; have := hG b (.inl hb); omega⟩
end

end Go.Proofs.YtpijhpfcigjkeaaDoor
end

/-
  ARRAYS IN MEMORY (my own text; it knows no program): an element of many cells is read, written, within a row; rows of 64 bytes laid behind one another.
-/
section
namespace Go.Proofs.YtpijhpfcigjkeaaDoor
open Go Go.RowKit

section
variable {P : Program} {w : World}
theorem run_load_part (ty : TypeId) {d : TypeDesc} (g j : Nat) (cs : List Value) (hu : P.underlying ty = some d) (hd : (match d with | .struct _ | .array _ _ => true | _ => false) = true) (hi : (P.info? ty).map (·.size) = some cs.length)
    (h : ∀ i v, cs[i]? = some v → w.cell? ⟨g, j + i, none⟩ = some v) : (loadVar ty ⟨g, j, none⟩).run P w = .ok (.agg cs.toArray) w := by
  have hl : (loadCells ⟨g, j, none⟩ cs.length).run P w = .ok cs.toArray w := run_loadCells_list (P := P) w ⟨g, j, none⟩ cs (fun i v hv => by rw [WideShapes.add_plain]; exact h i v hv)
  cases hq : P.info? ty with
  | none => simp [hq] at hi
  | some i =>
    have hs : i.size = cs.length := by simpa [hq] using hi
    have hagg : (isAgg ty).run P w = .ok true w := by
      unfold isAgg
      rw [Sem.run_bind, run_underlying hu w]
      cases d <;> simp_all
    simp [loadVar, Sem.run_bind, hagg, sizeOf, typeInfo, hq, hs, hl]
theorem run_store_part (ty : TypeId) (g j : Nat) (t : TypeId) (cur : Array Value) (cs : List Value) (hg : w.heap[g]? = some (.cells cur t (0, 0))) (hi : (P.info? ty).map (·.size) = some cs.length) (hfit : j + cs.length ≤ cur.size) (h1 : ∀ v ∈ cs, v.oneCell' = true) :
    (storeVar ty ⟨g, j, none⟩ (.agg cs.toArray)).run P w = .ok () (w.setRow g (cur.toList.take j ++ cs ++ cur.toList.drop (j + cs.length)).toArray) := by
  have hst := run_storeCells_at P g j t cs 0 cur w hg (by simpa using hfit) h1
  simp only [Nat.add_zero] at hst
  cases hq : P.info? ty with
  | none => simp [hq] at hi
  | some i =>
    have hs : cs.length = i.size := by simp [hq] at hi; omega
    simp [storeVar, sizeOf, typeInfo, hq, Value.cells, hs]
    rw [← hs]
    simpa using hst
end

section
variable {P : Program} {w : World} {ops : Array Oper} {rest : List Oper} {o : Oper} {a : Act} {Q : Exit → Act → World → Prop}
theorem list_load_part (hgd : o.guard = none) (ty : TypeId) (x : Operand) (ho : o.op = .load ty x) {d : TypeDesc} (g j : Nat) (hx : a.eval x = .pointer (some ⟨g, j, none⟩)) (cs : List Value) (hu : P.underlying ty = some d)
    (hd : (match d with | .struct _ | .array _ _ => true | _ => false) = true) (hi : (P.info? ty).map (·.size) = some cs.length) (h : ∀ i v, cs[i]? = some v → w.cell? ⟨g, j + i, none⟩ = some v)
    (u : Value) (hV : Value.agg cs.toArray = u) (hK : wpList P ops Q rest (a.put o.dst u) w) : wpList P ops Q (o :: rest) a w := by
  subst hV
  refine wpList_plain hgd fun K hh => ?_
  unfold Oper.wp execOp
  simp only [ho, hx, Instr.loadAt, Instr.sureAddr, Sem.run_bind, Sem.run_pure, Result.andThen_ok, run_load_part ty g j cs hu hd hi h]
  exact hh _ _ hK
theorem list_store_part (hgd : o.guard = none) (ty : TypeId) (x y : Operand) (ho : o.op = .store ty x y) (g j : Nat) (hx : a.eval x = .pointer (some ⟨g, j, none⟩)) (cs : List Value) (hy : a.eval y = .agg cs.toArray)
    (t : TypeId) (cur : Array Value) (hg : w.heap[g]? = some (.cells cur t (0, 0))) (hi : (P.info? ty).map (·.size) = some cs.length) (hfit : j + cs.length ≤ cur.size) (h1 : ∀ v ∈ cs, v.oneCell' = true)
    (hK : ∀ w', w'.heap[g]? = some (.cells (cur.toList.take j ++ cs ++ cur.toList.drop (j + cs.length)).toArray t (0, 0)) → w.grownBy w' (some g) → wpList P ops Q rest (a.put o.dst undef) w') : wpList P ops Q (o :: rest) a w := by
  refine wpList_plain hgd fun K hh => ?_
  unfold Oper.wp execOp
  simp only [ho, hx, hy, Instr.storeAt, Instr.sureAddr, Sem.run_bind, Sem.run_pure, Result.andThen_ok, run_store_part ty g j t cur cs hg hi hfit h1]
  exact hh _ _ (hK _ (setRow_heap w g cur _ t _ hg) ⟨rfl, rfl, rfl, by simp, fun k _ hk => setRow_other w g k _ (fun e => hk (by rw [e]))⟩)
/-- In a region that is still (its head draws; it only reads). -/
theorem still_load_part {K : Act → Prop} (hgd : o.guard = none) (ty : TypeId) (x : Operand) (ho : o.op = .load ty x) {d : TypeDesc} (g j : Nat) (hx : a.eval x = .pointer (some ⟨g, j, none⟩)) (cs : List Value) (hu : P.underlying ty = some d)
    (hd : (match d with | .struct _ | .array _ _ => true | _ => false) = true) (hi : (P.info? ty).map (·.size) = some cs.length) (h : ∀ i v, cs[i]? = some v → w.cell? ⟨g, j + i, none⟩ = some v)
    (u : Value) (hV : Value.agg cs.toArray = u) (hK : K (a.put o.dst u)) : if Region.wanted o (yielded ops a.tmps) then o.still P a w K else K (a.put o.dst undef) := by
  subst hV
  have hw : Region.wanted o (yielded ops a.tmps) = true := by simp [Region.wanted, hgd]
  rw [if_pos hw]
  unfold Oper.still
  simp only [execOp, ho, hx, Instr.loadAt, Instr.sureAddr, Sem.run_bind, Sem.run_pure, Result.andThen_ok, run_load_part ty g j cs hu hd hi h]
  rw [Oper.stillUpon_value]
  exact hK
/-- A new variable of an array's type. -/
theorem list_alloc (hgd : o.guard = none) (t : TypeId) (ho : o.op = .alloc t) (z : Value) (hz : (zeroValue t).run P w = .ok z w) (Z : Array Value) (hZ : z.cells = Z) (hK : wpList P ops Q rest (a.put o.dst (.pointer (some ⟨w.heap.size, 0, none⟩))) (w.alloc (.cells Z t))) : wpList P ops Q (o :: rest) a w := by
  subst hZ
  refine wpList_plain hgd fun K hh => ?_
  unfold Oper.wp execOp
  simp only [ho, Instr.alloc, Sem.run_bind, Sem.run_pure, Result.andThen_ok, hz, newVar, newRow, run_newObj]
  exact hh _ _ hK
end

/-- A row of the call's own behind a writing into it. -/
theorem own_splice {w : World} {base n c g size : Nat} {e : TypeId} {xs : List Value} (h : w.ownsRow base e size (.slice (some ⟨g, 0, none⟩) n c) n xs) (off : Nat) (cs : List Value) (hfit : off + cs.length ≤ xs.length) :
    ∃ cur : Array Value, w.heap[g]? = some (.cells cur e (0, 0)) ∧ off + cs.length ≤ cur.size ∧
      (w.setRow g (cur.toList.take off ++ cs ++ cur.toList.drop (off + cs.length)).toArray).ownsRow base e size (.slice (some ⟨g, 0, none⟩) n c) n (xs.take off ++ cs ++ xs.drop (off + cs.length)) ∧
      w.grownBy (w.setRow g (cur.toList.take off ++ cs ++ cur.toList.drop (off + cs.length)).toArray) (some g) := by
  rcases h.2 with ⟨h', _⟩ | ⟨g', c', cur, h', hb, hg, hnc, hcm, hcs, htake⟩
  · cases h'
  · injection h' with h1' _ h2'
    injection h1' with h1'
    injection h1' with h1'
    subst h1' h2'
    have hxl := h.1
    have hle : n * size ≤ cur.toList.length := by rw [Array.length_toList, hcs]; exact Nat.mul_le_mul_right _ hnc
    have hcl : off + cs.length ≤ cur.toList.length := by omega
    have hlen : (cur.toList.take off ++ cs ++ cur.toList.drop (off + cs.length)).length = cur.toList.length := by
      simp only [List.length_append, List.length_take, List.length_drop]; omega
    refine ⟨cur, hg, by simpa using hcl, ⟨?_, .inr ⟨g, c, _, rfl, hb, setRow_heap w g cur _ e _ hg, hnc, hcm, ?_, ?_⟩⟩, ⟨rfl, rfl, rfl, by simp, fun k _ hk => setRow_other w g k _ (fun e => hk (by rw [e]))⟩⟩
    · simp only [List.length_append, List.length_take, List.length_drop]; omega
    · simp only [List.size_toArray, hlen, Array.length_toList, hcs]
    · rw [← htake] at hxl ⊢
      have hl2 : n * size = (cur.toList.take (n * size)).length := by rw [List.length_take]; omega
      apply List.ext_getElem?
      intro i
      simp only [List.getElem?_take, List.getElem?_append, List.length_append, List.length_take, List.getElem?_drop]
      rw [← htake, List.length_take] at hfit
      have m1 : min off cur.toList.length = off := by omega
      have m2 : min off (min (n * size) cur.toList.length) = off := by omega
      rw [m1, m2]
      by_cases hi : i < n * size
      · rw [if_pos hi]
        by_cases h1 : i < off + cs.length
        · rw [if_pos h1, if_pos h1]
          by_cases h2 : i < off
          · rw [if_pos h2, if_pos h2, if_pos h2, if_pos h2, if_pos hi]
          · rw [if_neg h2, if_neg h2]
        · rw [if_neg h1, if_neg h1, if_pos (by omega)]
      · rw [if_neg hi, if_neg (by omega), if_neg (by omega)]

section
variable {P : Program} {w : World} {ops : Array Oper} {rest : List Oper} {o : Oper} {a : Act} {Q : Exit → Act → World → Prop} {base n c g size : Nat} {e : TypeId} {xs : List Value}
/-- A store of an array into a row of the call's own. -/
theorem list_store_own (hgd : o.guard = none) (ty : TypeId) (x y : Operand) (ho : o.op = .store ty x y) (hown : w.ownsRow base e size (.slice (some ⟨g, 0, none⟩) n c) n xs) (j : Nat) (hx : a.eval x = .pointer (some ⟨g, j, none⟩)) (cs : List Value) (u : Value) (hu : Value.agg cs.toArray = u) (hy : a.eval y = u)
    (hi : (P.info? ty).map (·.size) = some cs.length) (hfit : j + cs.length ≤ xs.length) (h1 : ∀ v ∈ cs, v.oneCell' = true)
    (hK : ∀ w', w'.ownsRow base e size (.slice (some ⟨g, 0, none⟩) n c) n (xs.take j ++ cs ++ xs.drop (j + cs.length)) → w.grownBy w' (some g) → wpList P ops Q rest (a.put o.dst undef) w') : wpList P ops Q (o :: rest) a w := by
  subst hu
  obtain ⟨cur, hg, hl, h2, h3⟩ := own_splice hown j cs hfit
  refine wpList_plain hgd fun K hh => ?_
  unfold Oper.wp execOp
  simp only [ho, hx, hy, Instr.storeAt, Instr.sureAddr, Sem.run_bind, Sem.run_pure, Result.andThen_ok, run_store_part ty g j e cur cs hg hi hl h1]
  exact hh _ _ (hK _ h2 h3)
/-- copy of one-cell values into a row of the call's own, whatever its elements are. -/
theorem list_copy_part {G : Nat → Prop} (hgd : o.guard = none) (d s : Operand) (dT sT : TypeId) (ho : o.op = .call { callee := .builtin .copy, args := #[d, s], argTypes := #[dT, sT] }) (el : TypeId) (hu : P.underlying dT = some (.slice el)) (hsz : (P.info? el).map (·.size) = some 1)
    (hown : w.ownsRow base e size (.slice (some ⟨g, 0, none⟩) n c) n xs) (off dLen dCap : Nat) (hd : a.eval d = .slice (some ⟨g, off, none⟩) dLen dCap) (A : Option Addr) (m sc : Nat) (hs : a.eval s = .slice A m sc) (cs : List Value) (hm : m = cs.length) (hle : cs.length ≤ dLen)
    (hrow : Row w A G cs) (h1 : ∀ v ∈ cs, v.oneCell' = true) (hfit : off + cs.length ≤ xs.length)
    (hK : ∀ w', w'.ownsRow base e size (.slice (some ⟨g, 0, none⟩) n c) n (xs.take off ++ cs ++ xs.drop (off + cs.length)) → w.grownBy w' (some g) → wpList P ops Q rest (a.put o.dst (goInt cs.length)) w') : wpList P ops Q (o :: rest) a w := by
  subst hm
  by_cases h0 : cs = []
  · subst h0
    refine wpList_copy_nothing hgd d s dT sT ho el hu hsz _ _ dLen dCap _ sc hd hs (by simp) ?_
    exact hK w (by simpa using hown) ⟨rfl, rfl, rfl, Nat.le_refl _, fun _ _ _ => rfl⟩
  · obtain ⟨b, o', rfl, _, hc⟩ := hrow h0
    obtain ⟨cur, hg, hl, h2, h3⟩ := own_splice hown off cs hfit
    refine wpList_copy_own hgd d s dT sT ho el hu hsz g off dLen dCap ⟨b, o', none⟩ _ sc hd hs cur e hg cs (Nat.min_eq_left hle).symm (fun j v hv => by rw [WideShapes.add_plain]; exact hc j v hv) hl h1 ?_
    rw [← List.append_assoc]
    exact hK _ h2 h3
end

/-- make([]E, n): its cells under a name of one's own. -/
theorem list_make {P : Program} {w : World} {ops : Array Oper} {rest : List Oper} {o : Oper} {a : Act} {Q : Exit → Act → World → Prop} (hg : o.guard = none) (l c : Operand) (t : TypeId) (hop : o.op = Op.makeSlice t l c)
    {e : TypeId} {z : Value} {size bytes : Nat} (E : Elem P t e z size bytes) (kl kc : IntKind) (n : Nat) (hl : a.eval l = .int kl (n : Int)) (hc : a.eval c = .int kc (n : Int)) (b2 : bytes * n ≤ 281474976710656) (b3 : n ≤ maxLen) (xs : List Value) (hxs : (madeCells z.cells (n * size)).toList = xs)
    (hK : ∀ w', w'.ownsRow w.heap.size e size (.slice (some ⟨w.heap.size, 0, none⟩) n n) n xs → w.grownBy w' none → wpList P ops Q rest (a.put o.dst (.slice (some ⟨w.heap.size, 0, none⟩) n n)) w') : wpList P ops Q (o :: rest) a w := by
  obtain ⟨i, hi, hz0, hz1, hz2⟩ := info_parts E.info
  subst hxs
  subst hz2
  exact wpList_make_full w hg l c t hop w.heap.size e i z size E.und hi hz0 hz1 kl kc _ _ n hl hc rfl rfl b2 b3 (Nat.le_refl _) hK

/-! ### Rows of 64 bytes -/
def flat (rows : List (List UInt8)) : List Value := rows.flatMap bcells
theorem flat_append (a b : List (List UInt8)) : flat (a ++ b) = flat a ++ flat b := by simp [flat]
theorem flat_len (rows : List (List UInt8)) (h : ∀ r ∈ rows, r.length = 64) : (flat rows).length = rows.length * 64 := by
  induction rows with
  | nil => rfl
  | cons r rows ih =>
    have := ih fun x hx => h x (by simp [hx])
    have hr := h r (by simp)
    have e : flat (r :: rows) = bcells r ++ flat rows := by simp [flat]
    rw [e, List.length_append, this, bcells_len, hr, List.length_cons]; omega
theorem flat_parts (rows : List (List UInt8)) (i : Nat) (hi : i < rows.length) : flat rows = flat (rows.take i) ++ (bcells rows[i] ++ flat (rows.drop (i + 1))) := by
  have e : rows = rows.take i ++ (rows[i] :: rows.drop (i + 1)) := by rw [← List.drop_eq_getElem_cons hi, List.take_append_drop]
  calc flat rows = flat (rows.take i ++ (rows[i] :: rows.drop (i + 1))) := by rw [← e]
    _ = _ := by rw [flat_append]; rfl
theorem flat_one (rows : List (List UInt8)) : ∀ u ∈ flat rows, u.oneCell' = true := by
  intro u hu
  obtain ⟨r, _, hr⟩ := List.mem_flatMap.1 hu
  exact bcells_one r u hr
theorem flat_at (rows : List (List UInt8)) (h : ∀ r ∈ rows, r.length = 64) (i : Nat) (hi : i < rows.length) (j : Nat) (v : Value) (hv : (bcells rows[i])[j]? = some v) : (flat rows)[i * 64 + j]? = some v := by
  have hj : j < (bcells rows[i]).length := (List.getElem?_eq_some_iff.1 hv).1
  have ht : (flat (rows.take i)).length = i * 64 := by
    rw [flat_len _ fun r hr => h r (List.mem_of_mem_take hr), List.length_take]; congr 1; omega
  rw [flat_parts rows i hi, List.getElem?_append_right (by omega), ht, List.getElem?_append_left (by omega), ← hv]
  congr 1; omega
theorem flat_splice (rows : List (List UInt8)) (h : ∀ r ∈ rows, r.length = 64) (i : Nat) (hi : i < rows.length) (l : List UInt8) (hl : l.length ≤ 64) :
    (flat rows).take (i * 64) ++ bcells l ++ (flat rows).drop (i * 64 + (bcells l).length) = flat (rows.set i (l ++ rows[i].drop l.length)) := by
  have ht : (flat (rows.take i)).length = i * 64 := by
    rw [flat_len _ fun r hr => h r (List.mem_of_mem_take hr), List.length_take]; congr 1; omega
  have hr : (bcells rows[i]).length = 64 := by rw [bcells_len]; exact h _ (List.getElem_mem hi)
  have e := flat_parts (rows.set i (l ++ rows[i].drop l.length)) i (by simpa using hi)
  rw [e, flat_parts rows i hi]
  rw [List.take_append_of_le_length (by omega), List.take_of_length_le (by omega), List.append_assoc]
  congr 1
  · rw [List.take_set_of_le (Nat.le_refl i)]
  · rw [← ht, List.drop_append, List.drop_of_length_le (by omega), List.nil_append]
    rw [show (flat (rows.take i)).length + (bcells l).length - (flat (rows.take i)).length = (bcells l).length by omega]
    rw [List.drop_append_of_le_length (by rw [bcells_len, hr]; exact hl), ← List.append_assoc]
    congr 1
    · simp [bcells]
    · rw [List.drop_set_of_lt (by omega)]

end Go.Proofs.YtpijhpfcigjkeaaDoor
end

/-
  slices.Clone OF BYTES: its contract.
-/
section
namespace Go.Proofs.YtpijhpfcigjkeaaDoor
open Go Go.RowKit

theorem clone_nil (c : Nat) (w : World) :
    Calls Tryd.prog 65 #[.slice none 0 c] w fun e w' => ∃ v', e = .returned v' ∧ OwnB w' w.heap.size v' [] ∧ Keeps (fun _ => True) w w' := by
  have hn := fun w : World => Lib.run_eql_slice_nil (P := Tryd.prog) w 63 5 none 0 c 0 0 Tryd.underlying63
  have H := Lib.hid (show ∃ v', Ending.returned (.slice none 0 0) = .returned v' ∧ OwnB w w.heap.size v' [] ∧ Keeps (fun _ => True) w w from ⟨_, rfl, World.ownsRow_nil _ _ _ _, Keeps.refl _ _⟩)
  go_enter Tryd.func65, Tryd.ntmps65
  go_wp2
  go_ret
  exact H.out
theorem clone_some (ad : Addr) (c : Nat) (F : Nat → Prop) (l : List UInt8) (w : World) (h : Row w (some ad) F (bcells l)) (hl : l.length ≤ 1099511627776) :
    Calls Tryd.prog 65 #[.slice (some ad) l.length c] w fun e w' => ∃ v', e = .returned v' ∧ OwnB w' w.heap.size v' l ∧ Keeps (fun _ => True) w w' := by
  have hn := fun w : World => Lib.run_eql_slice_nil (P := Tryd.prog) w 63 5 (some ad) l.length c 0 0 Tryd.underlying63
  have h0 : (w.alloc (.cells #[] 5)).ownsRow w.heap.size 5 1 (.slice (some ⟨w.heap.size, 0, none⟩) 0 0) 0 [] := World.ownsRow_made w #[] 0 (Nat.le_refl _) (by decide) rfl
  have hsrc : Src Tryd.prog 1 63 (.slice (some ad) l.length c) l.length (bcells l) (w.alloc (.cells #[] 5)) := by
    have := (h.keep ((Keeps.refl F w).alloc (.cells #[] 5))).src (c := c) Tryd.underlying63 (bcells_one l)
    rwa [bcells_len] at this
  have H0 := Lib.hid h0
  have HS := Lib.hid hsrc
  clear h h0 hsrc
  go_enter Tryd.func65, Tryd.ntmps65
  go_wp2_with (at_builtin; refine byte_elem.list_append rfl (.tmp 5) (.tmp 6) _ rfl rfl H0.out rfl HS.out ?c3 ?c4 ?c5 ?_)
  case c3 => unfold maxLen; omega
  case c4 => omega
  case c5 => simp
  intro v' w1 hown' hg hb
  have hk : Keeps (fun _ => True) w w1 := by
    exact ((Onto.refl _ _).grown hg (by simpa using hb)).keeps ((Keeps.refl _ w).alloc _) (by simp [Value.ownBlock])
  have ho : OwnB w1 w.heap.size v' l := by unfold OwnB; simpa using hown'
  have H1 := Lib.hid ho
  have H2 := Lib.hid hk
  clear ho hk hown' hg hb
  go_wp2
  go_ret
  exact ⟨_, rfl, H1.out, H2.out⟩

theorem clone_any (A : Option Addr) (c : Nat) (F : Nat → Prop) (l : List UInt8) (w : World) (h : Row w A F (bcells l)) (hl : l.length ≤ 1099511627776) :
    Calls Tryd.prog 65 #[.slice A l.length c] w fun e w' => ∃ v', e = .returned v' ∧ OwnB w' w.heap.size v' l ∧ Keeps (fun _ => True) w w' := by
  rcases A with _ | ad
  · have hx : l = [] := Classical.byContradiction fun hx => by
      obtain ⟨b, o, e, _⟩ := h (by simpa [bcells] using hx)
      cases e
    subst hx
    exact clone_nil c w
  · exact clone_some ad c F l w h hl

end Go.Proofs.YtpijhpfcigjkeaaDoor
end

/-
  THE PLAIN MATHEMATICS OF LAYER 4 (dev): the document's device: what is there, what lasts, what is loose. It imports nothing of the program.
-/
section
namespace Go.Proofs.YtpijhpfcigjkeaaDoor

/-- The document's device. -/
structure SDev where
  now : List (List UInt8)
  fast : List (List UInt8)
  dirty : List Bool
  calls : Nat
/-- How many sectors New(n) has. -/
def clampN (n : Int) : Nat := (max 1 (min n 2048)).toNat
theorem clampN_bd (n : Int) : 1 ≤ clampN n ∧ clampN n ≤ 2048 := by unfold clampN; omega
def blank : List UInt8 := List.replicate 64 0
def SDev.new (k : Nat) : SDev := ⟨List.replicate k blank, List.replicate k blank, List.replicate k false, 0⟩
/-- What a sector is behind a write. -/
def over (l old : List UInt8) : List UInt8 := l ++ old.drop l.length
def SDev.write (s : SDev) (i : Nat) (l : List UInt8) : SDev := ⟨s.now.set i (over l (s.now.getD i [])), s.fast, s.dirty.set i true, s.calls + 1⟩
/-- Write(i, l): what it answers, what is there behind it. -/
def SDev.writeZ (s : SDev) (i : Int) (l : List UInt8) : Int × SDev := if i < 0 ∨ (s.now.length : Int) ≤ i then (4, s) else if 64 < l.length then (1, s) else (0, s.write i.toNat l)
def SDev.flush (s : SDev) : SDev := ⟨s.now, s.now, List.replicate s.now.length false, s.calls + 1⟩
/-- The numbers of those that are true. -/
def trues (l : List Bool) : List Nat := (List.range l.length).filter fun i => l.getD i false
def SDev.loose (s : SDev) : List Nat := trues s.dirty
/-- The sectors behind a crash, where the first j of the loose ones have been looked at. -/
def keptN (s : SDev) (keep : List Bool) (j : Nat) : List (List UInt8) :=
  (List.range j).foldl (fun acc t => if keep.getD t false then acc.set (s.loose.getD t 0) (s.now.getD (s.loose.getD t 0) []) else acc) s.fast
def SDev.crash (s : SDev) (keep : List Bool) : SDev :=
  let x := keptN s keep (min s.loose.length keep.length)
  ⟨x, x, List.replicate s.now.length false, 0⟩
/-- It is one. -/
structure SDev.Ok (s : SDev) : Prop where
  fast : s.fast.length = s.now.length
  dirty : s.dirty.length = s.now.length
  pos : 1 ≤ s.now.length
  small : s.now.length ≤ 2048
  nrow : ∀ r ∈ s.now, r.length = 64
  frow : ∀ r ∈ s.fast, r.length = 64

theorem over_len (l old : List UInt8) (h : l.length ≤ old.length) : (over l old).length = old.length := by unfold over; simp; omega
theorem getD_mem {α : Type} (l : List α) (i : Nat) (d : α) (h : i < l.length) : l.getD i d = l[i] := by rw [List.getD_eq_getElem?_getD, List.getElem?_eq_getElem h]; rfl
theorem trues_lt (l : List Bool) (i : Nat) (h : i ∈ trues l) : i < l.length := by unfold trues at h; simp at h; exact h.1
theorem trues_next (l : List Bool) (k : Nat) (h : k < l.length) : trues (l.take (k + 1)) = if l[k] then trues (l.take k) ++ [k] else trues (l.take k) := by
  unfold trues
  have e1 : (l.take (k + 1)).length = k + 1 := by rw [List.length_take]; omega
  have e2 : (l.take k).length = k := by rw [List.length_take]; omega
  rw [e1, e2, List.range_succ, List.filter_append]
  have hg : (l.take (k + 1)).getD k false = l[k] := by rw [List.getD_eq_getElem?_getD, List.getElem?_take, if_pos (by omega), List.getElem?_eq_getElem h]; rfl
  have hf : (List.range k).filter (fun i => (l.take (k + 1)).getD i false) = (List.range k).filter (fun i => (l.take k).getD i false) := by
    refine List.filter_congr fun i hi => ?_
    have := List.mem_range.1 hi
    rw [List.getD_eq_getElem?_getD, List.getD_eq_getElem?_getD, List.getElem?_take, List.getElem?_take, if_pos (by omega), if_pos (by omega)]
  rw [hf, List.filter_cons, hg]
  cases l[k] <;> simp
theorem trues_len (l : List Bool) : (trues l).length ≤ l.length := by
  unfold trues
  have := List.length_filter_le (fun i => l.getD i false) (List.range l.length)
  simpa using this
theorem keptN_zero (s : SDev) (keep : List Bool) : keptN s keep 0 = s.fast := rfl
theorem keptN_next (s : SDev) (keep : List Bool) (j : Nat) : keptN s keep (j + 1) = if keep.getD j false then (keptN s keep j).set (s.loose.getD j 0) (s.now.getD (s.loose.getD j 0) []) else keptN s keep j := by
  unfold keptN; rw [List.range_succ, List.foldl_append]; rfl
theorem keptN_len (s : SDev) (keep : List Bool) (j : Nat) : (keptN s keep j).length = s.fast.length := by
  induction j with
  | zero => rfl
  | succ j ih => rw [keptN_next]; split <;> simp [ih]
theorem loose_getD (s : SDev) (h : s.Ok) (j : Nat) (hj : j < s.loose.length) : s.loose.getD j 0 < s.now.length := by
  rw [getD_mem _ _ _ hj]
  have := trues_lt s.dirty _ (List.getElem_mem hj)
  rw [h.dirty] at this; exact this
theorem keptN_row (s : SDev) (keep : List Bool) (h : s.Ok) (j : Nat) (hj : j ≤ s.loose.length) : ∀ r ∈ keptN s keep j, r.length = 64 := by
  induction j with
  | zero => exact h.frow
  | succ j ih =>
    have ih' := ih (by omega)
    rw [keptN_next]
    split
    · intro r hr
      rcases List.mem_or_eq_of_mem_set hr with hr | hr
      · exact ih' r hr
      · have hl := loose_getD s h j (by omega)
        rw [hr, getD_mem _ _ _ hl]; exact h.nrow _ (List.getElem_mem hl)
    · exact ih'
theorem new_ok (k : Nat) (h1 : 1 ≤ k) (h2 : k ≤ 2048) : (SDev.new k).Ok := by
  refine ⟨by simp [SDev.new], by simp [SDev.new], by simpa [SDev.new] using h1, by simpa [SDev.new] using h2, ?_, ?_⟩ <;>
    (intro r hr; simp [SDev.new] at hr; rw [hr.2]; simp [blank])
theorem write_ok (s : SDev) (h : s.Ok) (i : Nat) (l : List UInt8) (hi : i < s.now.length) (hl : l.length ≤ 64) : (s.write i l).Ok := by
  refine ⟨by simp [SDev.write, h.fast], by simp [SDev.write, h.dirty], by simpa [SDev.write] using h.pos, by simpa [SDev.write] using h.small, fun r hr => ?_, h.frow⟩
  rcases List.mem_or_eq_of_mem_set hr with hr | hr
  · exact h.nrow r hr
  · have := h.nrow _ (List.getElem_mem hi)
    rw [hr, getD_mem _ _ _ hi, over_len _ _ (by omega), this]
theorem flush_ok (s : SDev) (h : s.Ok) : s.flush.Ok := ⟨rfl, by simp [SDev.flush], h.pos, h.small, h.nrow, h.nrow⟩
theorem crash_ok (s : SDev) (h : s.Ok) (keep : List Bool) : (s.crash keep).Ok := by
  have e : (keptN s keep (min s.loose.length keep.length)).length = s.now.length := by rw [keptN_len, h.fast]
  have hr := keptN_row s keep h (min s.loose.length keep.length) (Nat.min_le_left _ _)
  exact ⟨rfl, by simp [SDev.crash, e], by simpa [SDev.crash, e] using h.pos, by simpa [SDev.crash, e] using h.small, hr, hr⟩

/-- What Read(i) answers. -/
def SDev.readL (s : SDev) (i : Int) : List UInt8 := if i < 0 ∨ (s.now.length : Int) ≤ i then [] else s.now.getD i.toNat []
def SDev.readE (s : SDev) (i : Int) : Int := if i < 0 ∨ (s.now.length : Int) ≤ i then 4 else 0
theorem trues_sorted (l : List Bool) : (trues l).Pairwise (· < ·) := List.Pairwise.filter _ List.pairwise_lt_range
theorem mem_trues (l : List Bool) (i : Nat) : i ∈ trues l ↔ l.getD i false = true := by
  unfold trues
  rw [List.mem_filter, List.mem_range]
  constructor
  · exact fun h => h.2
  · intro h
    refine ⟨Classical.byContradiction fun hn => ?_, h⟩
    rw [List.getD_eq_getElem?_getD, List.getElem?_eq_none (by omega)] at h
    cases h

end Go.Proofs.YtpijhpfcigjkeaaDoor
end
