/-
  WORDS FOR MEMORY (my own text; it knows no program): blocks that stay as they were ('Keeps'), a slice that reads as a list of cells ('Row'), append of whatever is appended onto a row of the call's own ('Elem.append').
-/
import Derived.Below
import Derived.Deep.AppendSrc
import Derived.Deep.AppendLies
import Derived.Maps.AppendAt
import Derived.Deep.Draws
import Derived.OwnWalk
import Derived.RegionTactic
import Derived.WideShapes
import Derived.Laws.BytesArg
import Derived.Laws.IdiomStrings
namespace Go.Proofs.YtemkjodkmehffaaGreatDoor
open Go Go.RowKit

/-- Of the blocks that were there those of which F holds are as they were. -/
structure Keeps (F : Nat → Prop) (w w' : World) : Prop where
  os : w'.os = w.os
  tape : w'.tape = w.tape
  output : w'.output = w.output
  size : w.heap.size ≤ w'.heap.size
  block : ∀ b, F b → b < w.heap.size → w'.heap[b]? = w.heap[b]?

section
variable {F G : Nat → Prop} {a b w w' : World}
theorem Keeps.refl (F : Nat → Prop) (w : World) : Keeps F w w := ⟨rfl, rfl, rfl, Nat.le_refl _, fun _ _ _ => rfl⟩
theorem Keeps.trans (h : Keeps F a b) (k : Keeps F b w) : Keeps F a w :=
  ⟨k.os.trans h.os, k.tape.trans h.tape, k.output.trans h.output, Nat.le_trans h.size k.size, fun i hF hi => (k.block i hF (Nat.lt_of_lt_of_le hi h.size)).trans (h.block i hF hi)⟩
theorem Keeps.mono (h : Keeps F a w) (hF : ∀ b, b < a.heap.size → G b → F b) : Keeps G a w := ⟨h.os, h.tape, h.output, h.size, fun i hG hi => h.block i (hF i hi hG) hi⟩
theorem Keeps.drew (h : Keeps F a w) : Keeps F a w.drew := ⟨h.os, h.tape, h.output, h.size, h.block⟩
theorem Keeps.drewN (h : Keeps F a w) (n : Nat) : Keeps F a (w.drewN n) := ⟨h.os, h.tape, h.output, h.size, h.block⟩
theorem Keeps.alloc (h : Keeps F a w) (o : Obj) : Keeps F a (w.alloc o) :=
  h.trans ⟨rfl, rfl, rfl, by simp, fun i _ hi => Below.heap_alloc w o i hi⟩
theorem Keeps.setCell (h : Keeps F a w) {p : Addr} (hp : a.heap.size ≤ p.block ∨ ¬ F p.block) (v : Value) : Keeps F a (w.setCell p v) :=
  ⟨h.os, h.tape, h.output, by simpa [World.setCell] using h.size, fun i hF hi => (Below.heap_setCell w p v i (by
    rintro rfl
    rcases hp with hp | hp
    · omega
    · exact hp hF)).trans (h.block i hF hi)⟩
theorem Keeps.of_below (h : Below a.heap.size a w) (F : Nat → Prop) : Keeps F a w := ⟨h.os, h.tape, h.output, h.size, fun i _ hi => h.block i hi⟩
theorem Keeps.of_grown {row : Option Nat} (h : a.grownBy w row) (hF : ∀ b, row = some b → b < a.heap.size → ¬ F b) : Keeps F a w :=
  ⟨h.os, h.tape, h.output, h.size, fun i hFi hi => h.block i hi (fun e => hF i e.symm hi hFi)⟩
theorem Keeps.grown {row : Option Nat} (h : Keeps (fun _ => True) a w) (hg : w.grownBy w' row) (hr : ∀ b, row = some b → a.heap.size ≤ b) : Keeps (fun _ => True) a w' :=
  ⟨hg.os.trans h.os, hg.tape.trans h.tape, hg.output.trans h.output, Nat.le_trans h.size hg.size, fun i _ hi =>
    (hg.block i (Nat.lt_of_lt_of_le hi h.size) (fun e => by have := hr i e.symm; omega)).trans (h.block i trivial hi)⟩
/-- What grew from a block more grew. -/
theorem grown_of_alloc {o : Obj} {row : Option Nat} (h : (w.alloc o).grownBy w' row) : w.grownBy w' row :=
  ⟨h.os, h.tape, h.output, Nat.le_trans (by simp) h.size, fun i hi hne => (h.block i (by simp; omega) hne).trans (Below.heap_alloc w o i hi)⟩
/-- Two slices of the call's own lie apart. -/
def ApartV (u v : Value) : Prop := ∀ b, u.ownBlock = some b → v.ownBlock ≠ some b
theorem ApartV.symm {u v : Value} (h : ApartV u v) : ApartV v u := fun b hv hu => h b hu hv
theorem ApartV.ne {u v : Value} (h : ApartV u v) : v.ownBlock = none ∨ v.ownBlock ≠ u.ownBlock := by
  cases hv : v.ownBlock with
  | none => exact .inl rfl
  | some g => right; intro e; exact h g e.symm hv
theorem ApartV.grown {u u' v : Value} {n : Nat} (h : ApartV u v) (hv : ∀ b, v.ownBlock = some b → b < n) {m : Nat} (hm : n ≤ m) (hb : u'.ownBlock = u.ownBlock ∨ u'.ownBlock = some m) : ApartV u' v := by
  intro b hb' hv'
  rcases hb with e | e
  · exact h b (by rw [← e]; exact hb') hv'
  · rw [e] at hb'
    injection hb' with hb'
    have := hv b hv'
    omega
theorem Keeps.below (h : Keeps (fun _ => True) a w) : Below a.heap.size a w := ⟨h.os, h.tape, h.output, h.size, fun i hi => h.block i trivial hi⟩
theorem Keeps.cell (h : Keeps F w w') {p : Addr} {v : Value} (hc : w.cell? p = some v) (hF : F p.block) : w'.cell? p = some v :=
  (World.cell?_of_block (w := w) (h.block _ hF (World.block_lt_of_cell? w p hc))).trans hc
theorem Keeps.frozen (h : Keeps F w w') {p : Addr} (hp : p.block < w.heap.size) (hF : F p.block) : w'.frozen? p = w.frozen? p :=
  World.frozen?_of_block (w := w) (h.block _ hF hp)
theorem Keeps.own {base : Nat} {e : TypeId} {size n : Nat} {v : Value} {xs : List Value} (h : Keeps F w w') (ho : w.ownsRow base e size v n xs) (hF : ∀ b, v.ownBlock = some b → F b) : w'.ownsRow base e size v n xs := by
  refine ⟨ho.1, ?_⟩
  rcases ho.2 with hn | ⟨g, cap, cur, rfl, hb, hg, rest⟩
  · exact .inl hn
  · exact .inr ⟨g, cap, cur, rfl, hb, (h.block g (hF g rfl) (Array.getElem?_eq_some_iff.1 hg).1).trans hg, rest⟩
end

/-- The cells behind an address read as these one-cell values; they lie in a block of kind F. -/
def Row (w : World) (A : Option Addr) (F : Nat → Prop) (xs : List Value) : Prop :=
  xs ≠ [] → ∃ b o, A = some ⟨b, o, none⟩ ∧ F b ∧ ∀ i v, xs[i]? = some v → w.cell? ⟨b, o + i, none⟩ = some v

section
variable {F G : Nat → Prop} {w w' : World} {A : Option Addr} {xs : List Value}
theorem Row.nil (w : World) (A : Option Addr) (F : Nat → Prop) : Row w A F [] := fun h => absurd rfl h
theorem Row.keep (h : Row w A F xs) (hk : Keeps F w w') : Row w' A F xs := fun hx => by
  obtain ⟨b, o, e, hF, hc⟩ := h hx
  exact ⟨b, o, e, hF, fun i v hv => hk.cell (hc i v hv) hF⟩
theorem Row.mono (h : Row w A F xs) (hF : ∀ b, b < w.heap.size → F b → G b) : Row w A G xs := fun hx => by
  obtain ⟨b, o, e, hFb, hc⟩ := h hx
  have hl : 0 < xs.length := List.length_pos_iff.2 hx
  exact ⟨b, o, e, hF b (World.block_lt_of_cell? w _ (hc 0 _ (List.getElem?_eq_getElem hl))) hFb, hc⟩
theorem Row.lt (h : Row w A F xs) : Row w A (fun b => F b ∧ b < w.heap.size) xs := h.mono fun _ hb hF => ⟨hF, hb⟩
/-- Inside a round, where there is a cell. -/
theorem Row.at_ {k : Nat} (h : Row w A F xs) (hk : k < xs.length) : ∃ b o, A = some ⟨b, o, none⟩ ∧ F b ∧ w.cell? ⟨b, o + k, none⟩ = some xs[k] := by
  obtain ⟨b, o, e, hF, hc⟩ := h (by intro e; subst e; exact absurd hk (by simp))
  exact ⟨b, o, e, hF, hc k _ (List.getElem?_eq_getElem hk)⟩
/-- What a slice expression from k on leaves. -/
theorem Row.cut {k cap : Nat} (h : Row w A F xs) (hk : k ≤ xs.length) (hc : xs.length ≤ cap) : Row w (if cap = k then A else A.map (·.add k)) F (xs.drop k) := fun hx => by
  have hl : k < xs.length := by
    rcases Nat.lt_or_ge k xs.length with hh | hh
    · exact hh
    · exact absurd (List.drop_eq_nil_of_le hh) hx
  obtain ⟨b, o, rfl, hF, hcell⟩ := h (by intro e; subst e; exact absurd hl (by simp))
  rw [if_neg (by omega)]
  refine ⟨b, o + k, ?_, hF, fun i v hv => ?_⟩
  · simp [WideShapes.add_plain]
  · rw [Nat.add_assoc]; exact hcell _ v (by rw [← hv, List.getElem?_drop])
theorem Row.take {k : Nat} (h : Row w A F xs) : Row w A F (xs.take k) := fun hx => by
  obtain ⟨b, o, e, hF, hc⟩ := h (by rintro rfl; exact hx (by simp))
  refine ⟨b, o, e, hF, fun i v hv => hc i v ?_⟩
  rw [List.getElem?_take] at hv
  split at hv
  · exact hv
  · cases hv
theorem Row.of_own {base : Nat} {e : TypeId} {c : Nat} (h : w.ownsRow base e 1 (.slice A xs.length c) xs.length xs) : Row w A (fun b => base ≤ b ∧ b < w.heap.size) xs := fun hx => by
  have hl : 0 < xs.length := List.length_pos_iff.2 hx
  obtain ⟨g, cap, hv, hb, hlt⟩ := h.form hl
  have hA : A = some ⟨g, 0, none⟩ := by injection hv
  subst hA
  refine ⟨g, 0, rfl, ⟨hb, hlt⟩, fun i v hv => ?_⟩
  have := h.cells (g := g) rfl i v hv
  rwa [WideShapes.add_plain] at this
/-- In a new block. -/
theorem Row.fresh (w : World) (C : Array Value) (t : TypeId) (fr : Nat × Nat) (b : Nat) (hb : b = w.heap.size) (hF : F b) (xs : List Value) (hx : C.toList = xs) : Row (w.alloc (.cells C t fr)) (some ⟨b, 0, none⟩) F xs := by
  subst hb
  subst hx
  intro _
  refine ⟨_, 0, rfl, hF, fun i v hv => ?_⟩
  rw [Nat.zero_add, World.cell?_alloc_mark, ← hv, Array.getElem?_toList]
theorem Row.alloc (h : Row w A F xs) (o : Obj) : Row (w.alloc o) A F xs := h.keep ((Keeps.refl F w).alloc o)
/-- A slice of the call's own, of one-cell elements. -/
theorem own_slice {base n : Nat} {e : TypeId} {v : Value} (h : w.ownsRow base e 1 v n xs) : ∃ A c, v = .slice A n c ∧ n = xs.length ∧ Row w A (fun b => base ≤ b ∧ b < w.heap.size) xs := by
  have hn : n = xs.length := by have := h.1; omega
  subst hn
  rcases h.2 with ⟨rfl, h0⟩ | ⟨g, cap, cur, rfl, r⟩
  · exact ⟨none, 0, by rw [h0], rfl, by rw [List.eq_nil_of_length_eq_zero h0]; exact Row.nil _ _ _⟩
  · exact ⟨_, _, rfl, rfl, Row.of_own h⟩
/-- What an owned row says of its room, its cells. -/
theorem own_room {base n size c g : Nat} {e : TypeId} (h : w.ownsRow base e size (.slice (some ⟨g, 0, none⟩) n c) n xs) : n ≤ c ∧ c ≤ maxLen := by
  rcases h.2 with ⟨h', _⟩ | ⟨g', cap', cur, h', _, _, h1, h2, _⟩
  · cases h'
  · injection h' with _ _ h'
    subst h'
    exact ⟨h1, h2⟩
theorem own_row {base n c g : Nat} {e : TypeId} (h : w.ownsRow base e 1 (.slice (some ⟨g, 0, none⟩) n c) n xs) : Row w (some ⟨g, 0, none⟩) (fun b => b = g) xs := fun _ =>
  ⟨g, 0, rfl, rfl, fun i v hv => by have := h.cells (g := g) rfl i v hv; rwa [WideShapes.add_plain] at this⟩
/-- As the second argument of an append. -/
theorem Row.src {P : Program} {tx e' : TypeId} {c : Nat} (h : Row w A F xs) (hk : P.underlying tx = some (.slice e')) (h1 : ∀ u ∈ xs, u.oneCell' = true) : Src P 1 tx (.slice A xs.length c) xs.length xs w := by
  rcases A with _ | ad
  · have hx : xs = [] := Classical.byContradiction fun hx => by
      obtain ⟨b, o, e, _⟩ := h hx
      cases e
    subst hx
    exact Src.ofNil w hk c
  · refine Src.ofSlice w hk ad xs.length c xs (Nat.mul_one _).symm (fun j u hu => ?_) h1
    obtain ⟨b, o, e, _, hc⟩ := h (by rintro rfl; simp at hu)
    injection e with e
    subst e
    rw [WideShapes.add_plain]
    exact hc j u hu
end

/-- Elements of the type e, of slices of the type t: their zero, how many cells and bytes each. -/
structure Elem (P : Program) (t e : TypeId) (z : Value) (size bytes : Nat) : Prop where
  und : P.underlying t = some (.slice e)
  info : (P.info? e).map (fun i => (i.zero, i.size, i.bytes)) = some (some z, size, bytes)
  cells : z.cells.size = size
  pos : 0 < size

section
variable {P : Program} {t e : TypeId} {z : Value} {size bytes : Nat} {w : World} {base : Nat} {v : Value} {n : Nat} {xs : List Value}

/-- APPEND of whatever is appended, onto nil or a row of the call's own. -/
theorem Elem.run_append (h : Elem P t e z size bytes) (tx ty : TypeId) (hown : w.ownsRow base e size v n xs) {x : Value} {m : Nat} {news : List Value} (hs : Src P size tx x m news w)
    (h63 : n + m ≤ maxLen) (hbytes : (n + m) * bytes ≤ 140737488355328) (hbase : base ≤ w.heap.size) :
    ∃ v' w', (Builtin.append_ #[t, tx] ty #[v, x]).run P w = .ok v' w' ∧ w'.ownsRow base e size v' (n + m) (xs ++ news) ∧ w.grownBy w' v.ownBlock ∧
      (v'.ownBlock = v.ownBlock ∨ v'.ownBlock = some w.heap.size) := by
  obtain ⟨i, hi, hz, hsize, hby⟩ := info_parts h.info
  have hzs := h.cells
  have hsz := h.pos
  have ht := h.und
  subst hsize
  subst hby
  have hsmall : n + m ≤ 9223372036854775807 := by simp only [maxLen] at h63; omega
  have hlen : (xs ++ news).length = (n + m) * i.size := by rw [List.length_append, hown.1, hs.newsLen, Nat.add_mul]
  have grown : ∀ (old : Nat) (row : Option Nat),
      (w.drew.alloc (.cells ((xs ++ news).toArray ++ Builtin.zeroCells z.cells (grownCap w (n + m) old e - (n + m))) e)).ownsRow base e i.size
        (.slice (some ⟨w.heap.size, 0, none⟩) (n + m) (grownCap w (n + m) old e)) (n + m) (xs ++ news) ∧
      w.grownBy (w.drew.alloc (.cells ((xs ++ news).toArray ++ Builtin.zeroCells z.cells (grownCap w (n + m) old e - (n + m))) e)) row := by
    intro old row
    have hge := grownCap_ge w (n + m) old e
    have hcm : grownCap w (n + m) old e ≤ maxLen := grownCap_le_maxLen w (n + m) old e h63
    refine ⟨⟨hlen, .inr ⟨w.heap.size, _, _, rfl, hbase, heap_alloc_new w.drew _, hge, hcm, ?_, ?_⟩⟩, ⟨rfl, rfl, rfl, by simp, fun k hk _ => heap_alloc_old w.drew _ k hk⟩⟩
    · simp only [Array.size_append, List.size_toArray, size_zeroCells, hzs, hlen, ← Nat.add_mul]
      congr 1
      omega
    · simp only [Array.toList_append]
      rw [← hlen]
      exact List.take_left
  rcases hown.2 with ⟨rfl, rfl⟩ | ⟨g, cap, cur, rfl, hbg, hg, hnc, hcm, hcs, htake⟩
  · have hx : xs = [] := List.eq_nil_of_length_eq_zero (by simpa using hown.1)
    subst hx
    by_cases hm : m = 0
    · subst hm
      have hn : news = [] := List.eq_nil_of_length_eq_zero (by simpa using hs.newsLen)
      subst hn
      refine ⟨.slice none 0 0, w, ?_, World.ownsRow_nil w base e i.size, ⟨rfl, rfl, rfl, Nat.le_refl _, fun _ _ _ => rfl⟩, Or.inl rfl⟩
      rcases hs.kind with ⟨e', hk⟩ | hk <;>
        simp [Builtin.append_, run_underlying ht, run_underlying hk, sizeOf, typeInfo, hi, hs.len, hs.cells]
    · have hr := run_append_grow_src w t tx ty e i z ht hi hz none 0 0 [] (by simp [Builtin.firstCells]) x m news hs (by omega) (by omega) (growslice_fits (by omega) hbytes)
      have hgr := grown 0 (Value.ownBlock (.slice none 0 0))
      simp only [List.nil_append] at hgr hr ⊢
      exact ⟨_, _, hr, hgr.1, hgr.2, Or.inr rfl⟩
  · by_cases hroom : n + m ≤ cap
    · have hfit : n * i.size + news.length ≤ cur.size := by rw [hs.newsLen, hcs, ← Nat.add_mul]; exact Nat.mul_le_mul_right _ hroom
      have hst := run_storeCells_at P g (n * i.size) e news 0 cur w hg (by simpa using hfit) hs.one
      simp only [Nat.add_zero] at hst
      have hr : (Builtin.append_ #[t, tx] ty #[.slice (some ⟨g, 0, none⟩) n cap, x]).run P w =
          .ok (.slice (some ⟨g, 0, none⟩) (n + m) cap) (w.setRow g (cur.toList.take (n * i.size) ++ news ++ cur.toList.drop (n * i.size + news.length)).toArray) := by
        rcases hs.kind with ⟨e', hk⟩ | hk <;>
          simp [Builtin.append_, run_underlying ht, run_underlying hk, sizeOf, typeInfo, hi, hs.len, hroom, hs.cells, Addr.add_lit, hst]
      refine ⟨_, _, hr, ⟨hlen, .inr ⟨g, cap, _, rfl, hbg, setRow_heap w g cur _ e _ hg, hroom, hcm, ?_, ?_⟩⟩, ⟨rfl, rfl, rfl, by simp, fun k _ hk => setRow_other w g k _ (fun e => hk (by simp [Value.ownBlock, e]))⟩, Or.inl rfl⟩
      · simp only [List.size_toArray, List.length_append, List.length_take, List.length_drop, Array.length_toList]
        omega
      · rw [htake, ← hlen]
        exact List.take_left
    · have holds : ∀ j u, xs[j]? = some u → w.drew.cell? ((⟨g, 0, none⟩ : Addr).add j) = some u := hown.cells (g := g) rfl
      have hr := run_append_grow_src w t tx ty e i z ht hi hz (some ⟨g, 0, none⟩) n cap xs (run_firstCells_some w.drew i.size n ⟨g, 0, none⟩ n cap xs hown.1 holds) x m news hs (by omega) (by omega) (growslice_fits (by omega) hbytes)
      have hgr := grown cap (Value.ownBlock (.slice (some ⟨g, 0, none⟩) n cap))
      exact ⟨_, _, hr, hgr.1, hgr.2, Or.inr rfl⟩

theorem Elem.wp_append (h : Elem P t e z size bytes) {o : Oper} {a : Act} {K : Act → World → Prop} {Q : Exit → Act → World → Prop} (s x : Operand) (tx : TypeId)
    (ho : o.op = .call { callee := .builtin .append, args := #[s, x], argTypes := #[t, tx] })
    (hs : a.eval s = v) (hown : w.ownsRow base e size v n xs) {y : Value} {m : Nat} {news : List Value} (hx : a.eval x = y) (hsrc : Src P size tx y m news w)
    (h63 : n + m ≤ maxLen) (hbytes : (n + m) * bytes ≤ 140737488355328) (hbase : base ≤ w.heap.size)
    (hK : ∀ v' w', w'.ownsRow base e size v' (n + m) (xs ++ news) → w.grownBy w' v.ownBlock → (v'.ownBlock = v.ownBlock ∨ v'.ownBlock = some w.heap.size) → K (a.put o.dst v') w') : o.wp P a w K Q := by
  obtain ⟨v', w', hr, h2, h3, h4⟩ := h.run_append (w := w) tx o.type hown hsrc h63 hbytes hbase
  unfold Oper.wp execOp
  simp only [ho, resolve, invoke, builtin, Sem.run_bind, Sem.run_pure, Result.andThen_ok, List.map_toArray, List.map_cons, List.map_nil, hs, hx, hr]
  exact hK v' w' h2 h3 h4

theorem Elem.list_append (h : Elem P t e z size bytes) {ops : Array Oper} {rest : List Oper} {o : Oper} {a : Act} {Q : Exit → Act → World → Prop} (hgd : o.guard = none) (s x : Operand) (tx : TypeId)
    (ho : o.op = .call { callee := .builtin .append, args := #[s, x], argTypes := #[t, tx] })
    (hs : a.eval s = v) (hown : w.ownsRow base e size v n xs) {y : Value} {m : Nat} {news : List Value} (hx : a.eval x = y) (hsrc : Src P size tx y m news w)
    (h63 : n + m ≤ maxLen) (hbytes : (n + m) * bytes ≤ 140737488355328) (hbase : base ≤ w.heap.size)
    (hK : ∀ v' w', w'.ownsRow base e size v' (n + m) (xs ++ news) → w.grownBy w' v.ownBlock → (v'.ownBlock = v.ownBlock ∨ v'.ownBlock = some w.heap.size) → wpList P ops Q rest (a.put o.dst v') w') :
    wpList P ops Q (o :: rest) a w :=
  wpList_plain hgd fun _ hh => h.wp_append s x tx ho hs hown hx hsrc h63 hbytes hbase fun v' w' h2 h3 h4 => hh _ _ (hK v' w' h2 h3 h4)

theorem Elem.step_append (h : Elem P t e z size bytes) {ops : Array Oper} {o : Oper} {a : Act} {K : Act → World → Prop} {Q : Exit → Act → World → Prop} {E : Prop} (hgd : o.guard = none) (s x : Operand) (tx : TypeId)
    (ho : o.op = .call { callee := .builtin .append, args := #[s, x], argTypes := #[t, tx] })
    (hs : a.eval s = v) (hown : w.ownsRow base e size v n xs) {y : Value} {m : Nat} {news : List Value} (hx : a.eval x = y) (hsrc : Src P size tx y m news w)
    (h63 : n + m ≤ maxLen) (hbytes : (n + m) * bytes ≤ 140737488355328) (hbase : base ≤ w.heap.size)
    (hK : ∀ v' w', w'.ownsRow base e size v' (n + m) (xs ++ news) → w.grownBy w' v.ownBlock → (v'.ownBlock = v.ownBlock ∨ v'.ownBlock = some w.heap.size) → K (a.put o.dst v') w') :
    if Region.wanted o (yielded ops a.tmps) = true then Oper.wp P o a w K Q else E := by
  have hw : Region.wanted o (yielded ops a.tmps) = true := by simp [Region.wanted, hgd]
  rw [if_pos hw]
  exact h.wp_append s x tx ho hs hown hx hsrc h63 hbytes hbase hK
end

/-- From the slice value v in w to v' in w': v's own row may have been written, and what is new; v' is that row or a new one. -/
def Onto (w : World) (v : Value) (w' : World) (v' : Value) : Prop :=
  Keeps (fun b => v.ownBlock ≠ some b) w w' ∧ ∀ b, v'.ownBlock = some b → v.ownBlock = some b ∨ w.heap.size ≤ b
section
variable {a b c : World} {u v x : Value}
theorem Onto.refl (w : World) (v : Value) : Onto w v w v := ⟨Keeps.refl _ _, fun _ h => .inl h⟩
theorem Onto.trans (h : Onto a u b v) (k : Onto b v c x) : Onto a u c x := by
  refine ⟨⟨k.1.os.trans h.1.os, k.1.tape.trans h.1.tape, k.1.output.trans h.1.output, Nat.le_trans h.1.size k.1.size, fun i hF hi => ?_⟩, fun i hi => ?_⟩
  · refine (k.1.block i (fun e => ?_) (Nat.lt_of_lt_of_le hi h.1.size)).trans (h.1.block i hF hi)
    rcases h.2 i e with h' | h'
    · exact hF h'
    · omega
  · rcases k.2 i hi with h' | h'
    · exact h.2 i h'
    · exact .inr (Nat.le_trans h.1.size h')
theorem Onto.alloc (h : Onto a u b v) (o : Obj) : Onto a u (b.alloc o) v := ⟨h.1.alloc o, h.2⟩
theorem Onto.drew (h : Onto a u b v) : Onto a u b.drew v := ⟨h.1.drew, h.2⟩
theorem Onto.grown (h : Onto a u b v) (hg : b.grownBy c v.ownBlock) (hx : x.ownBlock = v.ownBlock ∨ x.ownBlock = some b.heap.size) : Onto a u c x :=
  h.trans ⟨Keeps.of_grown hg fun i hi _ hn => hn hi, fun i hi => by
    rcases hx with e | e
    · exact .inl (by rw [← e]; exact hi)
    · right; rw [e] at hi; injection hi with hi; omega⟩
/-- Where v is the call's own, or nil, all that was there at w0 is as it was. -/
theorem Onto.keeps {w0 : World} (h : Onto a u b v) (hk : Keeps (fun _ => True) w0 a) (hu : ∀ i, u.ownBlock = some i → w0.heap.size ≤ i) : Keeps (fun _ => True) w0 b :=
  ⟨h.1.os.trans hk.os, h.1.tape.trans hk.tape, h.1.output.trans hk.output, Nat.le_trans hk.size h.1.size, fun i _ hi =>
    (h.1.block i (fun e => by have := hu i e; omega) (Nat.lt_of_lt_of_le hi hk.size)).trans (hk.block i trivial hi)⟩
end

/-- What 'append(s, x)' appends: one new cell. -/
theorem src_one {P : Program} {tx e' : TypeId} (hk : P.underlying tx = some (.slice e')) (w : World) (x : Value) (t : TypeId) (h1 : x.oneCell' = true) (b : Nat) (hb : b = w.heap.size) (c : Nat) :
    Src P 1 tx (.slice (some ⟨b, 0, none⟩) 1 c) 1 [x] (w.alloc (.cells #[x] t)) := by
  subst hb
  exact Src.ofSlice _ hk _ 1 c [x] rfl (cell_one_new w x t) (fun u hu => by rw [List.mem_singleton.1 hu]; exact h1)

/-! ### Bytes -/
/-- A byte's cell. -/
def bcell (c : UInt8) : Value := .int .u8 (c.toNat : Int)
/-- A list's bytes, as cells. -/
def bcells (l : List UInt8) : List Value := l.map bcell
theorem bcells_len (l : List UInt8) : (bcells l).length = l.length := by simp [bcells]
theorem bcells_one (l : List UInt8) : ∀ u ∈ bcells l, u.oneCell' = true := by
  intro u hu
  obtain ⟨c, _, rfl⟩ := List.mem_map.1 hu
  rfl
theorem bcells_append (l r : List UInt8) : bcells (l ++ r) = bcells l ++ bcells r := by simp [bcells]
theorem bcells_take {w : World} {A : Option Addr} {F : Nat → Prop} {l : List UInt8} (h : Row w A F (bcells l)) (k : Nat) : Row w A F (bcells (l.take k)) := by
  have := h.take (k := k)
  rwa [show (bcells l).take k = bcells (l.take k) from by simp [bcells]] at this
/-- Bytes as a text. -/
def txt (l : List UInt8) : ByteArray := ⟨l.toArray⟩
theorem txt_list (l : List UInt8) : (txt l).data.toList = l := rfl
theorem txt_size (l : List UInt8) : (txt l).size = l.length := by simp [txt, ByteArray.size]
theorem txt_data (s : ByteArray) : txt s.data.toList = s := by unfold txt; simp
theorem Row.to_string {P : Program} {w : World} {A : Option Addr} {F : Nat → Prop} {l : List UInt8} (h : Row w A F (bcells l)) {src dst e : TypeId} (hs : P.underlying src = some (.slice e)) (he : P.underlying e = some (.int .u8))
    (hd : P.underlying dst = some .string) (n c : Nat) (hn : n = l.length) : (convert src dst (.slice A n c)).run P w = .ok (.string (txt l)) w := by
  subst hn
  by_cases hl : l = []
  · subst hl
    rw [run_convert_bytes_string w src dst e A _ c hs he hd]
    cases A <;> simp [Conv.bytesToString, loadCells]
    all_goals rfl
  · obtain ⟨b, o, rfl, _, hc⟩ := h (by simpa [bcells] using hl)
    have hr := run_convert_bytes_arg (P := P) w src e hs he b o l.length c (l.map fun c => (c.toNat : Int)) (by simp) (fun i hi => by
      rw [hc i (bcell l[i]) (by simp [bcells, hi])]
      simp [bcell, List.getD, hi]) dst hd
    rw [hr]
    congr 2
    unfold strOfNums txt
    congr 1
    rw [List.map_map]
    have e : ((fun n : Int => UInt8.ofNat n.toNat) ∘ fun c : UInt8 => (c.toNat : Int)) = id := by
      funext c; simp
    rw [e, List.map_id]
/-- A part: where it lies, how much room it has, its bytes. -/
structure Part where
  A : Option Addr
  cap : Nat
  l : List UInt8
instance : Inhabited Part := ⟨⟨none, 0, []⟩⟩
def Part.val (p : Part) : Value := .slice p.A p.l.length p.cap
/-- They read as they say. -/
def Parts (w : World) (F : Nat → Prop) (ps : List Part) : Prop := ∀ p ∈ ps, Row w p.A F (bcells p.l) ∧ p.l.length ≤ maxLen
theorem Parts.keep {F : Nat → Prop} {w w' : World} {ps : List Part} (h : Parts w F ps) (hk : Keeps F w w') : Parts w' F ps := fun p hp => ⟨(h p hp).1.keep hk, (h p hp).2⟩
/-- A part fits: where it lies, its room. -/
structure Part.Fits (W : World) (F : Nat → Prop) (p : Part) : Prop where
  len : p.l.length ≤ p.cap
  cap : p.cap ≤ maxLen
  none : p.A = none → p.cap = 0
  row : Row W p.A F (bcells p.l)
theorem Part.Fits.keep {F : Nat → Prop} {w w' : World} {p : Part} (h : p.Fits w F) (hk : Keeps F w w') : p.Fits w' F := ⟨h.len, h.cap, h.none, h.row.keep hk⟩
theorem bcells_str (s : ByteArray) : byteCells s = bcells s.data.toList := rfl

end Go.Proofs.YtemkjodkmehffaaGreatDoor
