/- Texts of one proof, behind one another: each says above its part what it proves and on which conditions. -/
import Derived.Orders
import Derived.Below
import Derived.Test.YtpijhpfcigjkeaaDoorWords
/-
  A REGION THAT DRAWS ITS ORDER, BY AN INVARIANT (my own text; it knows no program): each operation has a property of the value that it leaves, which lasts while the world goes on by a relation R; each is looked at once, leaning on those that it waits for; the order does not matter.
  Conditions: no operation is guarded; no two write one slot; each waits only for earlier ones; R is transitive and a draw goes by it.
-/
section
namespace Go.Proofs.YtpijhpfcigjkeaaDoor
open Go Go.RowKit

/-- What a call of these laws may do to the world: lay new blocks. -/
def Adds (w w' : World) : Prop := Grown w w' ∧ Below w.heap.size w w'
theorem Adds.refl (w : World) : Adds w w := ⟨Grown.refl _, Below.refl _ _⟩
theorem Adds.alloc {w w' : World} (h : Adds w w') (c : Array Value) (t : TypeId) : Adds w (w'.alloc (.cells c t)) :=
  ⟨h.1.alloc c t, h.2.alloc h.2.size _⟩
theorem Adds.drew {w w' : World} (h : Adds w w') : Adds w w'.drew := ⟨h.1.drew, h.2.drew⟩
theorem Adds.trans {a b c : World} (h : Adds a b) (k : Adds b c) : Adds a c :=
  ⟨⟨World.keptBut_trans h.1.1 k.1.1, fun x => (k.1.2.1 x).trans (h.1.2.1 x), Nat.le_trans h.1.2.2 k.1.2.2⟩, h.2.trans (k.2.mono h.2.size)⟩
theorem Adds.cell {w w' : World} (h : Adds w w') {p : Addr} {v : Value} (hc : w.cell? p = some v) : w'.cell? p = some v := by
  rw [h.2.cell (p := p) (World.block_lt_of_cell? w p hc)]; exact hc

section
variable {P : Program} {ops : Array Oper} {Q : Exit → Act → World → Prop} {R : World → World → Prop} {V : Nat → World → Value → Prop} {a0 : Act} {w0 : World}

/-- Where operation i writes. -/
def dstOf (ops : Array Oper) (i : Nat) : Option Tmp := (ops[i]?).bind (·.dst)
/-- Does operation i wait for operation j? -/
def waits (ops : Array Oper) (i j : Nat) : Bool := ((ops[i]?).map fun o => o.after.any fun e => Region.binds .any e && e.on == j).getD false

theorem waits_iff (i j : Nat) : waits ops i j = true ↔ ∃ o, ops[i]? = some o ∧ ∃ e ∈ o.after, Region.binds .any e = true ∧ e.on = j := by
  unfold waits
  cases h : ops[i]? with
  | none => simp
  | some o =>
    simp only [Option.map_some, Option.getD_some, Option.some.injEq, exists_eq_left', Array.any_eq_true, Bool.and_eq_true, beq_iff_eq]
    constructor
    · rintro ⟨k, hk, hb, he⟩; exact ⟨o.after[k], Array.getElem_mem hk, hb, he⟩
    · rintro ⟨e, he, hb, hx⟩
      obtain ⟨k, hk, rfl⟩ := Array.mem_iff_getElem.1 he
      exact ⟨k, hk, hb, hx⟩

/-- The state behind those that are listed. -/
structure StandsAt (R : World → World → Prop) (V : Nat → World → Value → Prop) (ops : Array Oper) (a0 : Act) (w0 : World) (l : Array Bool) (a : Act) (w : World) : Prop where
  size : l.size = ops.size
  rel : R w0 w
  defers : a.defers = a0.defers
  tmps : a.tmps.size = a0.tmps.size
  old : ∀ t, (∀ i, l.getD i false = true → dstOf ops i ≠ some t) → a.tmps.getD t undef = a0.tmps.getD t undef
  val : ∀ i d, l.getD i false = true → dstOf ops i = some d → V i w (a.tmps.getD d undef)
  down : ∀ i j, l.getD i false = true → waits ops i j = true → l.getD j false = true

/-- What operation i may lean on when it comes up. -/
structure Leans (R : World → World → Prop) (V : Nat → World → Value → Prop) (ops : Array Oper) (a0 : Act) (w0 : World) (i : Nat) (a : Act) (w : World) : Prop where
  rel : R w0 w
  val : ∀ j d, waits ops i j = true → dstOf ops j = some d → V j w (a.eval (.tmp d))
  old : ∀ t, ((List.range ops.size).all fun k => dstOf ops k != some t || waits ops k i || k == i) = true → a.eval (.tmp t) = a0.eval (.tmp t)

theorem getD_true_set {l : Array Bool} {i j : Nat} (h : (l.setIfInBounds i true).getD j false = true) (hne : j ≠ i) : l.getD j false = true := by
  rw [getD_set_ne false (Ne.symm hne)] at h; exact h
theorem getD_false_of {l : Array Bool} {i : Nat} (h : l.getD i true = false) : l.getD i false = false ∧ i < l.size := by
  rcases Nat.lt_or_ge i l.size with hl | hl
  · refine ⟨?_, hl⟩
    simp [Array.getD, hl] at h ⊢; exact h
  · simp [Array.getD, Nat.not_lt.mpr hl] at h

theorem getD_put {a : Act} {d : Tmp} {v : Value} {t : Nat} (hd : d < a.tmps.size) : (a.put (some d) v).tmps.getD t undef = if t = d then v else a.tmps.getD t undef := by
  simp only [Act.put]
  by_cases h : t = d
  · subst h; simp [hd]
  · rw [if_neg h]; simp [Array.getElem?_setIfInBounds_ne (Ne.symm h)]

theorem StandsAt.leans {l : Array Bool} {a : Act} {w : World} {i : Nat} (h : StandsAt R V ops a0 w0 l a w) (hl : l.getD i true = false)
    (hw : ∀ j, waits ops i j = true → l.getD j false = true) : Leans R V ops a0 w0 i a w where
  rel := h.rel
  val j d hj hd := h.val j d (hw j hj) hd
  old t ht := h.old t fun k hk hd => by
    have hks : k < ops.size := by
      rcases Nat.lt_or_ge k ops.size with h' | h'
      · exact h'
      · simp [dstOf, Array.getElem?_eq_none h'] at hd
    have := List.all_eq_true.1 ht k (List.mem_range.2 hks)
    simp only [hd, bne_self_eq_false, Bool.false_or, Bool.or_eq_true, beq_iff_eq] at this
    have hf := (getD_false_of hl).1
    rcases this with h1 | h1
    · rw [h.down k i hk h1] at hf; cases hf
    · subst h1; rw [hk] at hf; cases hf

theorem StandsAt.step (hR : ∀ a b c, R a b → R b c → R a c) (hV : ∀ i w w' v, R w w' → V i w v → V i w' v)
    (hd : ∀ i j d, dstOf ops i = some d → dstOf ops j = some d → i = j) (hb : ∀ i d, dstOf ops i = some d → d < a0.tmps.size)
    {l : Array Bool} {a : Act} {w w' : World} {i : Nat} {v : Value} (h : StandsAt R V ops a0 w0 l a w) (hl : l.getD i true = false)
    (hw : ∀ j, waits ops i j = true → l.getD j false = true) (hr : R w w') (hv : V i w' v) :
    StandsAt R V ops a0 w0 (l.setIfInBounds i true) (a.put (dstOf ops i) v) w' := by
  have hi := (getD_false_of hl).2
  have hset : (l.setIfInBounds i true).getD i false = true := by simp [hi]
  refine ⟨by simp [h.size], hR _ _ _ h.rel hr, ?_, ?_, ?_, ?_, ?_⟩
  · cases hx : dstOf ops i <;> simp [Act.put, h.defers]
  · cases hx : dstOf ops i <;> simp [Act.put, h.tmps]
  · intro t ht
    have old := h.old t fun k hk => ht k (getD_set_true hk)
    cases hx : dstOf ops i with
    | none => exact old
    | some d =>
      rw [getD_put (by rw [h.tmps]; exact hb i d hx), if_neg (fun e => ht i hset (by rw [hx, e]))]
      exact old
  · intro k d hk hkd
    by_cases hki : k = i
    · subst hki
      rw [hkd, getD_put (by rw [h.tmps]; exact hb k d hkd), if_pos rfl]
      exact hv
    · have hval := hV k w w' _ hr (h.val k d (getD_true_set hk hki) hkd)
      cases hx : dstOf ops i with
      | none => exact hval
      | some d' =>
        rw [getD_put (by rw [h.tmps]; exact hb i d' hx), if_neg (fun e => hki (hd k i d hkd (by rw [hx, e])))]
        exact hval
  · intro k j hk hkj
    by_cases hki : k = i
    · subst hki; exact getD_set_true (hw j hkj)
    · exact getD_set_true (h.down k j (getD_true_set hk hki) hkj)

/-- How many have not come up. -/
def leftOver (n : Nat) (l : Array Bool) : List Nat := (List.range n).filter fun i => !l.getD i true
theorem leftOver_set (n : Nat) (l : Array Bool) (i : Nat) (hi : i < n) (hl : l.getD i true = false) : (leftOver n (l.setIfInBounds i true)).length < (leftOver n l).length := by
  have e : leftOver n (l.setIfInBounds i true) = (leftOver n l).filter fun j => j != i := by
    unfold leftOver
    rw [List.filter_filter]
    refine List.filter_congr fun j _ => ?_
    by_cases hji : j = i
    · subst hji; simp [(getD_false_of hl).2]
    · rw [getD_set_ne true (Ne.symm hji)]; simp [hji]
  rw [e]
  refine List.length_filter_lt_length_iff_exists.2 ⟨i, ?_, by simp⟩
  exact List.mem_filter.2 ⟨List.mem_range.2 hi, by rw [hl]; rfl⟩

theorem all_listed (hac : ∀ i j, waits ops i j = true → j < i) {l : Array Bool} (hs : l.size = ops.size) (hr : Region.ready .any ops l = []) : ∀ i, i < ops.size → l.getD i false = true := by
  intro i
  induction i using Nat.strongRecOn with
  | ind i ih =>
    intro hi
    by_cases hl : l.getD i true = false
    · have hm : i ∈ Region.ready .any ops l := mem_ready.2 ⟨hl, ops[i], by simp [hi], fun e he hb =>
        have hw : waits ops i e.on = true := (waits_iff i e.on).2 ⟨ops[i], by simp [hi], e, he, hb, rfl⟩
        ih e.on (hac i e.on hw) (Nat.lt_trans (hac i e.on hw) hi)⟩
      rw [hr] at hm; cases hm
    · have hl' : i < l.size := by omega
      simp [Array.getD, hl'] at hl ⊢; exact hl

theorem wpAny_inv (hR : ∀ a b c, R a b → R b c → R a c) (hV : ∀ i w w' v, R w w' → V i w v → V i w' v)
    (hd : ∀ i j d, dstOf ops i = some d → dstOf ops j = some d → i = j) (hb : ∀ i d, dstOf ops i = some d → d < a0.tmps.size)
    (hg : ∀ (i : Nat) (o : Oper), ops[i]? = some o → o.guard = none) (hac : ∀ i j, waits ops i j = true → j < i)
    (loc : ∀ (i : Nat) (o : Oper), ops[i]? = some o → ∀ a w, Leans R V ops a0 w0 i a w → o.wp P a w (fun a' w' => ∃ v, a' = a.put o.dst v ∧ R w w' ∧ V i w' v) Q)
    (done : ∀ l a w, (∀ i, i < ops.size → l.getD i false = true) → StandsAt R V ops a0 w0 l a w → Q .normal a w) :
    ∀ (fuel : Nat) (l : Array Bool) (a : Act) (w : World), (leftOver ops.size l).length ≤ fuel → StandsAt R V ops a0 w0 l a w → wpAny P .any ops Q fuel l a w := by
  intro fuel
  induction fuel with
  | zero =>
    intro l a w hf h
    have hn : leftOver ops.size l = [] := List.eq_nil_of_length_eq_zero (by omega)
    have hnot : ∀ i, i < ops.size → l.getD i false = true := fun i hi => by
      have hm : i ∉ leftOver ops.size l := by rw [hn]; simp
      have hl' : i < l.size := by rw [h.size]; exact hi
      unfold leftOver at hm
      simp only [List.mem_filter, List.mem_range, hi, true_and, Array.getD, hl'] at hm ⊢
      simpa using hm
    refine ⟨?_, done l a w hnot h⟩
    refine List.eq_nil_iff_forall_not_mem.2 fun i hi => ?_
    have hm := (mem_ready.1 hi).1
    have hx := getD_false_of hm
    rw [hnot i (by rw [← h.size]; exact hx.2)] at hx
    exact absurd hx.1 (by simp)
  | succ fuel ih =>
    intro l a w hf h
    refine ⟨fun hr => done l a w (all_listed hac h.size hr) h, fun i hi => ?_⟩
    obtain ⟨hl, o, ho, hall⟩ := mem_ready.1 hi
    have hw : ∀ j, waits ops i j = true → l.getD j false = true := fun j hj => by
      obtain ⟨o', ho', e, he, hb', rfl⟩ := (waits_iff i j).1 hj
      rw [ho] at ho'; cases ho'
      exact hall e he hb'
    have hdst : o.dst = dstOf ops i := by simp [dstOf, ho]
    have hwant : Region.wanted o (yielded ops a.tmps) = true := by
      unfold Region.wanted; rw [hg i o ho]
    unfold wpOp
    simp only [ho, hwant, if_true]
    refine .inl (Oper.wp_mono (fun a' w' hk => ?_) (loc i o ho a w (h.leans hl hw)))
    obtain ⟨v, rfl, hr, hv⟩ := hk
    rw [hdst]
    refine ih _ _ _ ?_ (h.step hR hV hd hb hl hw hr hv)
    have := leftOver_set ops.size l i (by rw [← h.size]; exact (getD_false_of hl).2) hl
    omega

/-- All values put into their slots, one behind the other. -/
def putAll : Act → List (Option Tmp) → List Value → Act
  | a, d :: ds, v :: vs => putAll (a.put d v) ds vs
  | a, _, _ => a

theorem act_ext {a b : Act} (h1 : a.defers = b.defers) (h2 : a.tmps.size = b.tmps.size) (h3 : ∀ t, a.tmps.getD t undef = b.tmps.getD t undef) : a = b := by
  cases a; cases b
  simp only [Act.mk.injEq] at *
  refine ⟨Array.ext h2 fun i hi hj => ?_, h1⟩
  have := h3 i
  simpa [Array.getD, hi, hj] using this

/-- What a slot holds, of a slot that may be none. -/
def slotOf (a : Act) : Option Tmp → Value
  | some d => a.tmps.getD d undef
  | none => undef

theorem putAll_of (a1 : Act) : ∀ (ds : List (Option Tmp)) (a : Act), a1.defers = a.defers → a1.tmps.size = a.tmps.size → (∀ d, some d ∈ ds → d < a.tmps.size) →
    (∀ t, some t ∉ ds → a1.tmps.getD t undef = a.tmps.getD t undef) → a1 = putAll a ds (ds.map (slotOf a1))
  | [], a, h1, h2, _, h4 => act_ext h1 h2 fun t => h4 t (by simp)
  | none :: ds, a, h1, h2, h3, h4 => putAll_of a1 ds a h1 h2 (fun d hd => h3 d (List.mem_cons_of_mem _ hd)) fun t ht => h4 t (by simp [ht])
  | some d :: ds, a, h1, h2, h3, h4 => by
    have hda := h3 d (by simp)
    refine putAll_of a1 ds (a.put (some d) (slotOf a1 (some d))) (by simpa [Act.put] using h1) (by simpa [Act.put] using h2) (fun x hx => by simpa [Act.put] using h3 x (List.mem_cons_of_mem _ hx)) fun t ht => ?_
    rw [getD_put hda]
    by_cases e : t = d
    · subst e; rw [if_pos rfl]; rfl
    · rw [if_neg e]; exact h4 t (by simp [e, ht])

/-- The checks on a region, by reckoning: no guard; no slot twice; each waits for earlier ones; each slot lies in the frame. -/
def fits (ops : Array Oper) (n : Nat) : Bool :=
  (List.range ops.size).all fun i => (ops[i]?).all fun o => o.guard.isNone && (o.after.all fun e => !Region.binds .any e || decide (e.on < i)) && (o.dst.all fun d => decide (d < n)) &&
    (List.range ops.size).all fun j => i == j || o.dst.isNone || dstOf ops j != o.dst

/-- A property of each operation, one behind the other. -/
def Each (p : Nat → Oper → Prop) : Nat → List Oper → Prop
  | _, [] => True
  | n, o :: l => p n o ∧ Each p (n + 1) l
theorem each_at {p : Nat → Oper → Prop} (l : List Oper) : ∀ (n : Nat), Each p n l → ∀ (i : Nat) (o : Oper), l[i]? = some o → p (n + i) o := by
  induction l with
  | nil => intro n h i o ho; simp at ho
  | cons o' l ih =>
    intro n h i o ho
    cases i with
    | zero =>
      have e : o' = o := by simpa using ho
      rw [← e]; exact h.1
    | succ i =>
      have h1 := ih (n + 1) h.2 i o (by simpa using ho)
      rw [show n + (i + 1) = n + 1 + i by omega]; exact h1
theorem each_of {p : Nat → Oper → Prop} {ops : Array Oper} (h : Each p 0 ops.toList) (i : Nat) (o : Oper) (ho : ops[i]? = some o) : p i o := by
  have := each_at ops.toList 0 h i o (by rw [Array.getElem?_toList]; exact ho)
  rwa [Nat.zero_add] at this

/-- THE LAW: a region that draws its order, by a property a value ('V'), each operation looked at once. -/
theorem wp_region_inv {id : Nat} {w : World} (hm : P.follows .mixedOrders = true) (hR : ∀ a b c, R a b → R b c → R a c) (hV : ∀ i w w' v, R w w' → V i w v → V i w' v)
    (hfit : fits ops a0.tmps.size = true) (hw : R w0 w.drew)
    (loc : ∀ (i : Nat) (o : Oper), ops[i]? = some o → ∀ a w, Leans R V ops a0 w0 i a w → o.wp P a w (fun a' w' => ∃ v, a' = a.put o.dst v ∧ R w w' ∧ V i w' v) Q)
    (done : ∀ vs w, R w0 w → vs.length = ops.size → (∀ i d, dstOf ops i = some d → V i w (vs.getD i undef)) → Q .normal (putAll a0 (ops.toList.map (·.dst)) vs) w) :
    (Code.region id ops true).wp P Q a0 w := by
  have look : ∀ (i : Nat) (o : Oper), ops[i]? = some o → o.guard = none ∧ (∀ e ∈ o.after, Region.binds .any e = true → e.on < i) ∧ (∀ d, o.dst = some d → d < a0.tmps.size) ∧ (∀ j, i ≠ j → ∀ d, o.dst = some d → dstOf ops j ≠ some d) := by
    intro i o ho
    have hi : i < ops.size := (Array.getElem?_eq_some_iff.1 ho).1
    have h := List.all_eq_true.1 hfit i (List.mem_range.2 hi)
    simp only [ho, Option.all_some, Bool.and_eq_true, Option.isNone_iff_eq_none] at h
    obtain ⟨⟨⟨h1, h2⟩, h3⟩, h4⟩ := h
    refine ⟨h1, fun e he hb => ?_, fun d hd => ?_, fun j hj d hd hx => ?_⟩
    · have := Array.all_eq_true_iff_forall_mem.1 h2 e he
      simpa [hb] using this
    · rw [hd] at h3; simpa using h3
    · have hjs : j < ops.size := by
        rcases Nat.lt_or_ge j ops.size with h' | h'
        · exact h'
        · simp [dstOf, Array.getElem?_eq_none h'] at hx
      have := List.all_eq_true.1 h4 j (List.mem_range.2 hjs)
      rw [hd, hx] at this
      simp [hj] at this
  have some_of : ∀ i d, dstOf ops i = some d → ∃ o, ops[i]? = some o ∧ o.dst = some d := fun i d h => by
    unfold dstOf at h
    cases ho : ops[i]? with
    | none => simp [ho] at h
    | some o => exact ⟨o, rfl, by simpa [ho] using h⟩
  refine wp_region_any hm ?_
  refine wpAny_inv (R := R) (V := V) (a0 := a0) (w0 := w0) hR hV ?_ ?_ (fun i o ho => (look i o ho).1) ?_ loc ?_ ops.size _ a0 _ ?_ ?_
  · intro i j d hi hj
    obtain ⟨o, ho, hd⟩ := some_of i d hi
    exact Classical.byContradiction fun hne => (look i o ho).2.2.2 j hne d hd hj
  · intro i d hi
    obtain ⟨o, ho, hd⟩ := some_of i d hi
    exact (look i o ho).2.2.1 d hd
  · intro i j h
    obtain ⟨o, ho, e, he, hb, rfl⟩ := (waits_iff i j).1 h
    exact (look i o ho).2.1 e he hb
  · intro l a w' hall h
    have hlen : ((ops.toList.map (·.dst)).map (slotOf a)).length = ops.size := by simp
    have hq := done ((ops.toList.map (·.dst)).map (slotOf a)) w' h.rel hlen (fun i d hid => by
      obtain ⟨o, ho, hd⟩ := some_of i d hid
      have hi : i < ops.size := (Array.getElem?_eq_some_iff.1 ho).1
      have hv := h.val i d (hall i hi) hid
      have e : ((ops.toList.map (·.dst)).map (slotOf a)).getD i undef = a.tmps.getD d undef := by
        rw [List.getD_eq_getElem?_getD, List.getElem?_map, List.getElem?_map, Array.getElem?_toList, ho]
        simp [hd, slotOf]
      rw [e]; exact hv)
    rw [← putAll_of a _ a0 h.defers h.tmps ?_ ?_] at hq
    · exact hq
    · intro d hd
      obtain ⟨o, ho, hod⟩ := List.mem_map.1 hd
      obtain ⟨i, hi, rfl⟩ := List.getElem_of_mem ho
      exact (look i ops[i] (by simp at hi; simp [hi])).2.2.1 d (by simpa using hod)
    · intro t ht
      refine h.old t fun i _ hid => ht ?_
      obtain ⟨o, ho, hd⟩ := some_of i t hid
      refine List.mem_map.2 ⟨o, ?_, hd⟩
      rw [← Array.mem_def]
      exact Array.mem_of_getElem? ho
  · refine Nat.le_trans (List.length_filter_le _ _) ?_
    simp
  · refine ⟨by simp, hw, rfl, rfl, fun _ _ => rfl, ?_, ?_⟩
    · intro i d h; exact absurd h (by simp [Array.getD])
    · intro i j h; exact absurd h (by simp [Array.getD])
end

end Go.Proofs.YtpijhpfcigjkeaaDoor
end

/-
  A REGION THAT DRAWS ITS ORDER, BY AN INVARIANT, WHERE OPERATIONS ARE GUARDED (my own text; it knows no program): as in the text Inv; of each guard's slot it is known beforehand which Bool it will hold ('G'); what is not wanted leaves no value.
-/
section
namespace Go.Proofs.YtpijhpfcigjkeaaDoor
open Go Go.RowKit

/-- This value. -/
def IsV (x : Value) : World → Value → Prop := fun _ v => v = x
/-- Will it be done? -/
def wantsG (G : Nat → Option Bool) (o : Oper) : Bool := match o.guard with | none => true | some (g, b) => G g == some b
/-- The checks on a region, by reckoning. -/
def fitsG (G : Nat → Option Bool) (ops : Array Oper) (n : Nat) : Bool :=
  (List.range ops.size).all fun i => (ops[i]?).all fun o => (match o.guard with | none => true | some (g, _) => waits ops i g && (dstOf ops g).isSome && ((G g).isSome || (ops[g]?).any fun o' => !wantsG G o')) && (o.after.all fun e => !Region.binds .any e || decide (e.on < i)) && (o.dst.all fun d => decide (d < n)) &&
    (List.range ops.size).all fun j => i == j || o.dst.isNone || dstOf ops j != o.dst

section
variable {P : Program} {ops : Array Oper} {Q : Exit → Act → World → Prop} {R : World → World → Prop} {V : Nat → World → Value → Prop} {a0 : Act} {w0 : World} {G : Nat → Option Bool}

theorem wanted_is {i : Nat} {o : Oper} {a : Act} {w : World} (L : Leans R V ops a0 w0 i a w) (hts : ∀ i d, dstOf ops i = some d → d < a.tmps.size)
    (hg : ∀ g b, o.guard = some (g, b) → waits ops i g = true ∧ (dstOf ops g).isSome = true ∧ ((G g).isSome = true ∨ ∃ o', ops[g]? = some o' ∧ wantsG G o' = false)) (hG : ∀ g c, G g = some c → ∀ w v, V g w v → v = .bool c)
    (hU : ∀ (i : Nat) (o : Oper), ops[i]? = some o → wantsG G o = false → V i = IsV undef) : Region.wanted o (yielded ops a.tmps) = wantsG G o := by
  unfold Region.wanted wantsG
  cases ho : o.guard with
  | none => rfl
  | some gb =>
    obtain ⟨g, b⟩ := gb
    obtain ⟨h1, h2, h3⟩ := hg g b ho
    obtain ⟨d, hd⟩ := Option.isSome_iff_exists.1 h2
    have hlt := hts g d hd
    have hd' : (ops[g]?).bind (·.dst) = some d := hd
    have hy : yielded ops a.tmps g = G g := by
      unfold yielded
      rw [hd']
      simp only [Option.bind_some]
      cases hc : G g with
      | some c =>
        have hv' : a.tmps.getD d undef = .bool c := hG g c hc w _ (L.val g d h1 hd)
        have e : a.tmps[d]? = some (.bool c) := by
          simp only [Array.getD, hlt, dif_pos] at hv'
          rw [Array.getElem?_eq_getElem hlt]
          exact congrArg some hv'
        rw [e]
      | none =>
        rcases h3 with h3 | ⟨o', ho', hw'⟩
        · rw [hc] at h3; cases h3
        · have hv := L.val g d h1 hd
          rw [hU g o' ho' hw'] at hv
          have hv' : a.tmps.getD d undef = undef := hv
          have e : a.tmps[d]? = some undef := by
            simp only [Array.getD, hlt, dif_pos] at hv'
            rw [Array.getElem?_eq_getElem hlt]
            exact congrArg some hv'
          rw [e]; rfl
    show (yielded ops a.tmps g == some b) = (G g == some b)
    rw [hy]

theorem wpAny_invG (hRr : ∀ w, R w w) (hR : ∀ a b c, R a b → R b c → R a c) (hV : ∀ i w w' v, R w w' → V i w v → V i w' v)
    (hd : ∀ i j d, dstOf ops i = some d → dstOf ops j = some d → i = j) (hb : ∀ i d, dstOf ops i = some d → d < a0.tmps.size)
    (hg : ∀ (i : Nat) (o : Oper), ops[i]? = some o → ∀ g b, o.guard = some (g, b) → waits ops i g = true ∧ (dstOf ops g).isSome = true ∧ ((G g).isSome = true ∨ ∃ o', ops[g]? = some o' ∧ wantsG G o' = false)) (hG : ∀ g c, G g = some c → ∀ w v, V g w v → v = .bool c)
    (hU : ∀ (i : Nat) (o : Oper), ops[i]? = some o → wantsG G o = false → V i = IsV undef) (hac : ∀ i j, waits ops i j = true → j < i)
    (loc : ∀ (i : Nat) (o : Oper), ops[i]? = some o → wantsG G o = true → ∀ a w, Leans R V ops a0 w0 i a w → o.wp P a w (fun a' w' => ∃ v, a' = a.put o.dst v ∧ R w w' ∧ V i w' v) Q)
    (done : ∀ l a w, (∀ i, i < ops.size → l.getD i false = true) → StandsAt R V ops a0 w0 l a w → Q .normal a w) :
    ∀ (fuel : Nat) (l : Array Bool) (a : Act) (w : World), (leftOver ops.size l).length ≤ fuel → StandsAt R V ops a0 w0 l a w → wpAny P .any ops Q fuel l a w := by
  intro fuel
  induction fuel with
  | zero =>
    intro l a w hf h
    have hn : leftOver ops.size l = [] := List.eq_nil_of_length_eq_zero (by omega)
    have hnot : ∀ i, i < ops.size → l.getD i false = true := fun i hi => by
      have hm : i ∉ leftOver ops.size l := by rw [hn]; simp
      have hl' : i < l.size := by rw [h.size]; exact hi
      unfold leftOver at hm
      simp only [List.mem_filter, List.mem_range, hi, true_and, Array.getD, hl'] at hm ⊢
      simpa using hm
    refine ⟨?_, done l a w hnot h⟩
    refine List.eq_nil_iff_forall_not_mem.2 fun i hi => ?_
    have hm := (mem_ready.1 hi).1
    have hx := getD_false_of hm
    rw [hnot i (by rw [← h.size]; exact hx.2)] at hx
    exact absurd hx.1 (by simp)
  | succ fuel ih =>
    intro l a w hf h
    refine ⟨fun hr => done l a w (all_listed hac h.size hr) h, fun i hi => ?_⟩
    obtain ⟨hl, o, ho, hall⟩ := mem_ready.1 hi
    have hw : ∀ j, waits ops i j = true → l.getD j false = true := fun j hj => by
      obtain ⟨o', ho', e, he, hb', rfl⟩ := (waits_iff i j).1 hj
      rw [ho] at ho'; cases ho'
      exact hall e he hb'
    have hdst : o.dst = dstOf ops i := by simp [dstOf, ho]
    have hleft : (leftOver ops.size (l.setIfInBounds i true)).length ≤ fuel := by
      have := leftOver_set ops.size l i (by rw [← h.size]; exact (getD_false_of hl).2) hl
      omega
    have hwant := wanted_is (h.leans hl hw) (fun j d hj => by rw [h.tmps]; exact hb j d hj) (hg i o ho) hG hU
    unfold wpOp
    cases hwo : wantsG G o
    · rw [hwo] at hwant
      simp only [ho, hwant, Bool.false_eq_true, if_false]
      rw [hdst]
      exact ih _ _ _ hleft (h.step hR hV hd hb hl hw (hRr w) (by rw [hU i o ho hwo]; rfl))
    · rw [hwo] at hwant
      simp only [ho, hwant, if_true]
      refine .inl (Oper.wp_mono (fun a' w' hk => ?_) (loc i o ho hwo a w (h.leans hl hw)))
      obtain ⟨v, rfl, hr, hv⟩ := hk
      rw [hdst]
      exact ih _ _ _ hleft (h.step hR hV hd hb hl hw hr hv)

/-- THE LAW. -/
theorem wp_region_guard {id : Nat} {w : World} (G : Nat → Option Bool) (hm : P.follows .mixedOrders = true) (hRr : ∀ w, R w w) (hR : ∀ a b c, R a b → R b c → R a c) (hV : ∀ i w w' v, R w w' → V i w v → V i w' v)
    (hfit : fitsG G ops a0.tmps.size = true) (hG : ∀ g c, G g = some c → ∀ w v, V g w v → v = .bool c) (hU : ∀ (i : Nat) (o : Oper), ops[i]? = some o → wantsG G o = false → V i = IsV undef) (hw : R w0 w.drew)
    (loc : ∀ (i : Nat) (o : Oper), ops[i]? = some o → wantsG G o = true → ∀ a w, Leans R V ops a0 w0 i a w → o.wp P a w (fun a' w' => ∃ v, a' = a.put o.dst v ∧ R w w' ∧ V i w' v) Q)
    (done : ∀ vs w, R w0 w → vs.length = ops.size → (∀ i d, dstOf ops i = some d → V i w (vs.getD i undef)) → Q .normal (putAll a0 (ops.toList.map (·.dst)) vs) w) :
    (Code.region id ops true).wp P Q a0 w := by
  have look : ∀ (i : Nat) (o : Oper), ops[i]? = some o → (∀ g b, o.guard = some (g, b) → waits ops i g = true ∧ (dstOf ops g).isSome = true ∧ ((G g).isSome = true ∨ ∃ o', ops[g]? = some o' ∧ wantsG G o' = false)) ∧ (∀ e ∈ o.after, Region.binds .any e = true → e.on < i) ∧ (∀ d, o.dst = some d → d < a0.tmps.size) ∧ (∀ j, i ≠ j → ∀ d, o.dst = some d → dstOf ops j ≠ some d) := by
    intro i o ho
    have hi : i < ops.size := (Array.getElem?_eq_some_iff.1 ho).1
    have h := List.all_eq_true.1 hfit i (List.mem_range.2 hi)
    simp only [ho, Option.all_some, Bool.and_eq_true] at h
    obtain ⟨⟨⟨h1, h2⟩, h3⟩, h4⟩ := h
    refine ⟨fun g b hgb => ?_, fun e he hb => ?_, fun d hd => ?_, fun j hj d hd hx => ?_⟩
    · rw [hgb] at h1
      simp only [Bool.and_eq_true, Bool.or_eq_true] at h1
      refine ⟨h1.1.1, h1.1.2, h1.2.imp (fun hx => hx) fun hx => ?_⟩
      cases ho' : ops[g]? with
      | none => rw [ho'] at hx; cases hx
      | some o' =>
        rw [ho'] at hx
        exact ⟨o', rfl, by simpa using hx⟩
    · have := Array.all_eq_true_iff_forall_mem.1 h2 e he
      simpa [hb] using this
    · rw [hd] at h3; simpa using h3
    · have hjs : j < ops.size := by
        rcases Nat.lt_or_ge j ops.size with h' | h'
        · exact h'
        · simp [dstOf, Array.getElem?_eq_none h'] at hx
      have := List.all_eq_true.1 h4 j (List.mem_range.2 hjs)
      rw [hd, hx] at this
      simp [hj] at this
  have some_of : ∀ i d, dstOf ops i = some d → ∃ o, ops[i]? = some o ∧ o.dst = some d := fun i d h => by
    unfold dstOf at h
    cases ho : ops[i]? with
    | none => simp [ho] at h
    | some o => exact ⟨o, rfl, by simpa [ho] using h⟩
  refine wp_region_any hm ?_
  refine wpAny_invG (R := R) (V := V) (a0 := a0) (w0 := w0) (G := G) hRr hR hV ?_ ?_ (fun i o ho => (look i o ho).1) hG hU ?_ loc ?_ ops.size _ a0 _ ?_ ?_
  · intro i j d hi hj
    obtain ⟨o, ho, hd⟩ := some_of i d hi
    exact Classical.byContradiction fun hne => (look i o ho).2.2.2 j hne d hd hj
  · intro i d hi
    obtain ⟨o, ho, hd⟩ := some_of i d hi
    exact (look i o ho).2.2.1 d hd
  · intro i j h
    obtain ⟨o, ho, e, he, hb, rfl⟩ := (waits_iff i j).1 h
    exact (look i o ho).2.1 e he hb
  · intro l a w' hall h
    have hlen : ((ops.toList.map (·.dst)).map (slotOf a)).length = ops.size := by simp
    have hq := done ((ops.toList.map (·.dst)).map (slotOf a)) w' h.rel hlen (fun i d hid => by
      obtain ⟨o, ho, hd⟩ := some_of i d hid
      have hi : i < ops.size := (Array.getElem?_eq_some_iff.1 ho).1
      have hv := h.val i d (hall i hi) hid
      have e : ((ops.toList.map (·.dst)).map (slotOf a)).getD i undef = a.tmps.getD d undef := by
        rw [List.getD_eq_getElem?_getD, List.getElem?_map, List.getElem?_map, Array.getElem?_toList, ho]
        simp [hd, slotOf]
      rw [e]; exact hv)
    rw [← putAll_of a _ a0 h.defers h.tmps ?_ ?_] at hq
    · exact hq
    · intro d hd
      obtain ⟨o, ho, hod⟩ := List.mem_map.1 hd
      obtain ⟨i, hi, rfl⟩ := List.getElem_of_mem ho
      exact (look i ops[i] (by simp at hi; simp [hi])).2.2.1 d (by simpa using hod)
    · intro t ht
      refine h.old t fun i _ hid => ht ?_
      obtain ⟨o, ho, hd⟩ := some_of i t hid
      refine List.mem_map.2 ⟨o, ?_, hd⟩
      rw [← Array.mem_def]
      exact Array.mem_of_getElem? ho
  · refine Nat.le_trans (List.length_filter_le _ _) ?_
    simp
  · refine ⟨by simp, hw, rfl, rfl, fun _ _ => rfl, ?_, ?_⟩
    · intro i d h; exact absurd h (by simp [Array.getD])
    · intro i j h; exact absurd h (by simp [Array.getD])
end

/-- What is not wanted, by reckoning: the operations 'us'. -/
theorem unwanted_of {ops : Array Oper} {V : Nat → World → Value → Prop} {G : Nat → Option Bool} (us : List Nat) (h : ((List.range ops.size).all fun i => (ops[i]?).all fun o => wantsG G o || us.contains i) = true) (hV : ∀ i ∈ us, V i = IsV undef) :
    ∀ (i : Nat) (o : Oper), ops[i]? = some o → wantsG G o = false → V i = IsV undef := by
  intro i o ho hw
  have hi : i < ops.size := (Array.getElem?_eq_some_iff.1 ho).1
  have := List.all_eq_true.1 h i (List.mem_range.2 hi)
  rw [ho] at this
  simp only [Option.all_some, hw, Bool.false_or, List.contains_iff_mem] at this
  exact hV i this
theorem all_wanted {ops : Array Oper} {G : Nat → Option Bool} (h : ((List.range ops.size).all fun i => (ops[i]?).all fun o => wantsG G o) = true) {i : Nat} {o : Oper} (ho : ops[i]? = some o) (hw : wantsG G o = false) : False := by
  have hi : i < ops.size := (Array.getElem?_eq_some_iff.1 ho).1
  have := List.all_eq_true.1 h i (List.mem_range.2 hi)
  rw [ho] at this
  simp only [Option.all_some, hw] at this
  cases this

/-! ### Single operations, where a call may only lay new blocks -/
abbrev Kp (w w' : World) : Prop := Keeps (fun _ => True) w w'
/-- A slice of new memory that holds these bytes. -/
def TextV (l : List UInt8) : World → Value → Prop := fun w v => ∃ A c, v = .slice A l.length c ∧ Row w A (fun _ => True) (bcells l)
theorem TextV.mono {l : List UInt8} {w w' : World} {v : Value} (h : Kp w w') (hv : TextV l w v) : TextV l w' v := by
  obtain ⟨A, c, e, hr⟩ := hv
  exact ⟨A, c, e, hr.keep h⟩
section
variable {P : Program} {o : Oper} {a : Act} {w : World} {Q : Exit → Act → World → Prop} {x y z : Operand}
theorem kp_yield {V : World → Value → Prop} {v : Value} {w' : World} (e : (execOp a.eval o).run P w = .ok (.value v) w') (hw : Kp w w') (hv : V w' v) : o.wp P a w (fun a' w' => ∃ v, a' = a.put o.dst v ∧ Kp w w' ∧ V w' v) Q := by
  unfold Oper.wp
  rw [e]
  exact ⟨v, rfl, hw, hv⟩
theorem kp_enter {V : World → Value → Prop} {f : FuncId} {args : Array Value} {C : Ending → World → Prop} (e : (execOp a.eval o).run P w = .ok (.enter f args) w) (hc : Calls P f args w C)
    (hC : ∀ e w', C e w' → ∃ v, e = .returned v ∧ Kp w w' ∧ V w' v) : o.wp P a w (fun a' w' => ∃ v, a' = a.put o.dst v ∧ Kp w w' ∧ V w' v) Q := by
  unfold Oper.wp
  rw [e]
  refine hc.mono fun e w' h => ?_
  obtain ⟨v, rfl, hw, hv⟩ := hC e w' h
  exact ⟨v, rfl, hw, hv⟩
theorem kp_move {v : Value} (ho : o.op = .move x) (hx : a.eval x = v) : o.wp P a w (fun a' w' => ∃ v', a' = a.put o.dst v' ∧ Kp w w' ∧ IsV v w' v') Q := by
  unfold Oper.wp execOp
  rw [ho]
  exact ⟨a.eval x, rfl, Keeps.refl _ _, hx⟩
theorem kp_assign {v : Value} (ho : o.op = .assign x) (hx : a.eval x = v) : o.wp P a w (fun a' w' => ∃ v', a' = a.put o.dst v' ∧ Kp w w' ∧ IsV v w' v') Q := by
  unfold Oper.wp execOp
  rw [ho]
  exact ⟨a.eval x, rfl, Keeps.refl _ _, hx⟩
theorem kp_pick {b : Bool} {v : Value} (ho : o.op = .pick x y z) (hx : a.eval x = .bool b) (hv : (if b then a.eval y else a.eval z) = v) : o.wp P a w (fun a' w' => ∃ v', a' = a.put o.dst v' ∧ Kp w w' ∧ IsV v w' v') Q := by
  refine kp_yield (v := v) (w' := w) ?_ (Keeps.refl _ _) rfl
  unfold execOp
  rw [ho]
  cases b <;> simp_all [asBool]
theorem kp_string {l : List UInt8} {src dst e : TypeId} (ho : o.op = .convert src dst x) (hs : P.underlying src = some (.slice e)) (he : P.underlying e = some (.int .u8)) (hd : P.underlying dst = some .string) (hx : TextV l w (a.eval x)) :
    o.wp P a w (fun a' w' => ∃ v', a' = a.put o.dst v' ∧ Kp w w' ∧ IsV (.string (txt l)) w' v') Q := by
  obtain ⟨A, c, e1, hr⟩ := hx
  refine kp_yield (v := .string (txt l)) (w' := w) ?_ (Keeps.refl _ _) rfl
  have hc := hr.to_string (P := P) hs he hd l.length c rfl
  unfold execOp
  rw [ho]
  simp [e1, hc, Result.andThen]
end

end Go.Proofs.YtpijhpfcigjkeaaDoor
end

/-
  A DRAWN REGION WITH GUARDS IN WHICH ONE OPERATION WRITES (my own text; it knows no program): as the text InvG; what the world is ahead of that operation and behind it is said by 'St false', 'St true'; all others only lay new blocks.
-/
section
namespace Go.Proofs.YtpijhpfcigjkeaaDoor
open Go Go.RowKit

section
variable {P : Program} {ops : Array Oper} {Q : Exit → Act → World → Prop} {R : World → World → Prop} {V : Nat → World → Value → Prop} {a0 : Act} {w0 : World} {G : Nat → Option Bool} {St : Bool → World → Prop} {Rk : World → World → Prop} {k : Nat}

theorem up_set {l : Array Bool} {i j : Nat} (h : l.getD j false = true) : (l.setIfInBounds i true).getD j false = true := by
  by_cases hji : j = i
  · subst hji
    rcases Nat.lt_or_ge j l.size with hl | hl
    · simp [hl]
    · simp [Array.getD, Nat.not_lt.mpr hl] at h
  · rw [getD_set_ne false (Ne.symm hji)]; exact h
theorem StandsAt.step' (_hR : R w0 w0) (hRt : ∀ w, R w0 w) (hd : ∀ i j d, dstOf ops i = some d → dstOf ops j = some d → i = j) (hb : ∀ i d, dstOf ops i = some d → d < a0.tmps.size)
    {l : Array Bool} {a : Act} {w w' : World} {i : Nat} {v : Value} (h : StandsAt R V ops a0 w0 l a w) (hl : l.getD i true = false) (hV : ∀ j u, l.getD j false = true → V j w u → V j w' u)
    (hw : ∀ j, waits ops i j = true → l.getD j false = true) (hv : V i w' v) :
    StandsAt R V ops a0 w0 (l.setIfInBounds i true) (a.put (dstOf ops i) v) w' := by
  have hi := (getD_false_of hl).2
  have hset : (l.setIfInBounds i true).getD i false = true := by simp [hi]
  refine ⟨by simp [h.size], hRt w', ?_, ?_, ?_, ?_, ?_⟩
  · cases hx : dstOf ops i <;> simp [Act.put, h.defers]
  · cases hx : dstOf ops i <;> simp [Act.put, h.tmps]
  · intro t ht
    have old := h.old t fun j hj => ht j (up_set hj)
    cases hx : dstOf ops i with
    | none => exact old
    | some d =>
      rw [getD_put (by rw [h.tmps]; exact hb i d hx), if_neg (fun e => ht i hset (by rw [hx, e]))]
      exact old
  · intro j d hj hjd
    by_cases hji : j = i
    · subst hji
      rw [hjd, getD_put (by rw [h.tmps]; exact hb j d hjd), if_pos rfl]
      exact hv
    · have hlj := getD_true_set hj hji
      have hval := hV j _ hlj (h.val j d hlj hjd)
      cases hx : dstOf ops i with
      | none => exact hval
      | some d' =>
        rw [getD_put (by rw [h.tmps]; exact hb i d' hx), if_neg (fun e => hji (hd j i d hjd (by rw [hx, e])))]
        exact hval
  · intro j m hj hjm
    by_cases hji : j = i
    · subst hji; exact up_set (hw m hjm)
    · exact up_set (h.down j m (getD_true_set hj hji) hjm)

/-- It comes behind k, by these steps. -/
def chained (ops : Array Oper) (k : Nat) : Nat → List Nat → Bool
  | i, [] => waits ops i k
  | i, j :: js => waits ops i j && chained ops k j js
theorem chained_listed {l : Array Bool} {a : Act} {w : World} (h : StandsAt R V ops a0 w0 l a w) : ∀ (js : List Nat) (i : Nat), (∀ j, waits ops i j = true → l.getD j false = true) → chained ops k i js = true → l.getD k false = true
  | [], i, hw, hb => hw k hb
  | j :: js, i, hw, hb => by
    simp only [chained, Bool.and_eq_true] at hb
    exact chained_listed h js j (fun m hm => h.down j m (hw j hb.1) hm) hb.2

/-- THE LAW. -/
theorem wp_region_one {id : Nat} {w : World} (k : Nat) (St : Bool → World → Prop) (Rk : World → World → Prop) (G : Nat → Option Bool) (hm : P.follows .mixedOrders = true)
    (hV : ∀ i w w' v, Kp w w' → V i w v → V i w' v) (hS : ∀ b w w', Kp w w' → St b w → St b w') (hVk : ∀ i, i ≠ k → ∀ w w' v, Rk w w' → V i w v → V i w' v)
    (hfit : fitsG G ops a0.tmps.size = true) (hk : k < ops.size) (hG : ∀ g c, G g = some c → ∀ w v, V g w v → v = .bool c) (hU : ∀ (i : Nat) (o : Oper), ops[i]? = some o → wantsG G o = false → i ≠ k ∧ V i = IsV undef) (hw : St false w.drew)
    (loc : ∀ (i : Nat) (o : Oper), ops[i]? = some o → wantsG G o = true → ∀ a w, Leans (fun _ _ => True) V ops a0 w0 i a w →
      if i = k then (St false w → o.wp P a w (fun a' w' => ∃ v, a' = a.put o.dst v ∧ Rk w w' ∧ St true w' ∧ V i w' v) Q)
      else (∀ b, St b w → (∀ js, chained ops k i js = true → b = true) → o.wp P a w (fun a' w' => ∃ v, a' = a.put o.dst v ∧ Kp w w' ∧ V i w' v) Q))
    (done : ∀ vs w, St true w → vs.length = ops.size → (∀ i d, dstOf ops i = some d → V i w (vs.getD i undef)) → Q .normal (putAll a0 (ops.toList.map (·.dst)) vs) w) :
    (Code.region id ops true).wp P Q a0 w := by
  have look : ∀ (i : Nat) (o : Oper), ops[i]? = some o → (∀ g b, o.guard = some (g, b) → waits ops i g = true ∧ (dstOf ops g).isSome = true ∧ ((G g).isSome = true ∨ ∃ o', ops[g]? = some o' ∧ wantsG G o' = false)) ∧ (∀ e ∈ o.after, Region.binds .any e = true → e.on < i) ∧ (∀ d, o.dst = some d → d < a0.tmps.size) ∧ (∀ j, i ≠ j → ∀ d, o.dst = some d → dstOf ops j ≠ some d) := by
    intro i o ho
    have hi : i < ops.size := (Array.getElem?_eq_some_iff.1 ho).1
    have h := List.all_eq_true.1 hfit i (List.mem_range.2 hi)
    simp only [ho, Option.all_some, Bool.and_eq_true] at h
    obtain ⟨⟨⟨h1, h2⟩, h3⟩, h4⟩ := h
    refine ⟨fun g b hgb => ?_, fun e he hb => ?_, fun d hd => ?_, fun j hj d hd hx => ?_⟩
    · rw [hgb] at h1
      simp only [Bool.and_eq_true, Bool.or_eq_true] at h1
      refine ⟨h1.1.1, h1.1.2, h1.2.imp (fun hx => hx) fun hx => ?_⟩
      cases ho' : ops[g]? with
      | none => rw [ho'] at hx; cases hx
      | some o' =>
        rw [ho'] at hx
        exact ⟨o', rfl, by simpa using hx⟩
    · have := Array.all_eq_true_iff_forall_mem.1 h2 e he
      simpa [hb] using this
    · rw [hd] at h3; simpa using h3
    · have hjs : j < ops.size := by
        rcases Nat.lt_or_ge j ops.size with h' | h'
        · exact h'
        · simp [dstOf, Array.getElem?_eq_none h'] at hx
      have := List.all_eq_true.1 h4 j (List.mem_range.2 hjs)
      rw [hd, hx] at this
      simp [hj] at this
  have some_of : ∀ i d, dstOf ops i = some d → ∃ o, ops[i]? = some o ∧ o.dst = some d := fun i d h => by
    unfold dstOf at h
    cases ho : ops[i]? with
    | none => simp [ho] at h
    | some o => exact ⟨o, rfl, by simpa [ho] using h⟩
  have hd : ∀ i j d, dstOf ops i = some d → dstOf ops j = some d → i = j := by
    intro i j d hi hj
    obtain ⟨o, ho, hd⟩ := some_of i d hi
    exact Classical.byContradiction fun hne => (look i o ho).2.2.2 j hne d hd hj
  have hb : ∀ i d, dstOf ops i = some d → d < a0.tmps.size := by
    intro i d hi
    obtain ⟨o, ho, hd⟩ := some_of i d hi
    exact (look i o ho).2.2.1 d hd
  have hac : ∀ i j, waits ops i j = true → j < i := by
    intro i j h
    obtain ⟨o, ho, e, he, hb, rfl⟩ := (waits_iff i j).1 h
    exact (look i o ho).2.1 e he hb
  have fin : ∀ (l : Array Bool) (a : Act) (w' : World), (∀ i, i < ops.size → l.getD i false = true) → StandsAt (fun _ _ => True) V ops a0 w0 l a w' → St (l.getD k false) w' → Q .normal a w' := by
    intro l a w' hall h hs
    rw [hall k hk] at hs
    have hlen : ((ops.toList.map (·.dst)).map (slotOf a)).length = ops.size := by simp
    have hq := done ((ops.toList.map (·.dst)).map (slotOf a)) w' hs hlen (fun i d hid => by
      obtain ⟨o, ho, hd⟩ := some_of i d hid
      have hi : i < ops.size := (Array.getElem?_eq_some_iff.1 ho).1
      have hv := h.val i d (hall i hi) hid
      have e : ((ops.toList.map (·.dst)).map (slotOf a)).getD i undef = a.tmps.getD d undef := by
        rw [List.getD_eq_getElem?_getD, List.getElem?_map, List.getElem?_map, Array.getElem?_toList, ho]
        simp [hd, slotOf]
      rw [e]; exact hv)
    rw [← putAll_of a _ a0 h.defers h.tmps ?_ ?_] at hq
    · exact hq
    · intro d hd
      obtain ⟨o, ho, hod⟩ := List.mem_map.1 hd
      obtain ⟨i, hi, rfl⟩ := List.getElem_of_mem ho
      exact (look i ops[i] (by simp at hi; simp [hi])).2.2.1 d (by simpa using hod)
    · intro t ht
      refine h.old t fun i _ hid => ht ?_
      obtain ⟨o, ho, hd⟩ := some_of i t hid
      refine List.mem_map.2 ⟨o, ?_, hd⟩
      rw [← Array.mem_def]
      exact Array.mem_of_getElem? ho
  have go : ∀ (fuel : Nat) (l : Array Bool) (a : Act) (w : World), (leftOver ops.size l).length ≤ fuel → StandsAt (fun _ _ => True) V ops a0 w0 l a w → St (l.getD k false) w → wpAny P .any ops Q fuel l a w := by
    intro fuel
    induction fuel with
    | zero =>
      intro l a w hf h hs
      have hn : leftOver ops.size l = [] := List.eq_nil_of_length_eq_zero (by omega)
      have hnot : ∀ i, i < ops.size → l.getD i false = true := fun i hi => by
        have hm : i ∉ leftOver ops.size l := by rw [hn]; simp
        have hl' : i < l.size := by rw [h.size]; exact hi
        unfold leftOver at hm
        simp only [List.mem_filter, List.mem_range, hi, true_and, Array.getD, hl'] at hm ⊢
        simpa using hm
      refine ⟨?_, fin l a w hnot h hs⟩
      refine List.eq_nil_iff_forall_not_mem.2 fun i hi => ?_
      have hm := (mem_ready.1 hi).1
      have hx := getD_false_of hm
      rw [hnot i (by rw [← h.size]; exact hx.2)] at hx
      exact absurd hx.1 (by simp)
    | succ fuel ih =>
      intro l a w hf h hs
      refine ⟨fun hr => fin l a w (all_listed hac h.size hr) h hs, fun i hi => ?_⟩
      obtain ⟨hl, o, ho, hall⟩ := mem_ready.1 hi
      have hwt : ∀ j, waits ops i j = true → l.getD j false = true := fun j hj => by
        obtain ⟨o', ho', e, he, hb', rfl⟩ := (waits_iff i j).1 hj
        rw [ho] at ho'; cases ho'
        exact hall e he hb'
      have hdst : o.dst = dstOf ops i := by simp [dstOf, ho]
      have hleft : (leftOver ops.size (l.setIfInBounds i true)).length ≤ fuel := by
        have := leftOver_set ops.size l i (by rw [← h.size]; exact (getD_false_of hl).2) hl
        omega
      have hwant := wanted_is (h.leans hl hwt) (fun j d hj => by rw [h.tmps]; exact hb j d hj) (look i o ho).1 hG (fun i o ho hw => (hU i o ho hw).2)
      have hset : ∀ (hne : i ≠ k), (l.setIfInBounds i true).getD k false = l.getD k false := fun hne => getD_set_ne false hne
      have hloc := loc i o ho
      unfold wpOp
      cases hwo : wantsG G o
      · rw [hwo] at hwant
        obtain ⟨hne, hu⟩ := hU i o ho hwo
        simp only [ho, hwant, Bool.false_eq_true, if_false]
        rw [hdst]
        exact ih _ _ _ hleft (h.step' trivial (fun _ => trivial) hd hb hl (fun _ _ _ hh => hh) hwt (by rw [hu]; rfl)) (by rw [hset hne]; exact hs)
      · rw [hwo] at hwant
        simp only [ho, hwant, if_true]
        have hlc := hloc hwo a w (h.leans hl hwt)
        by_cases hik : i = k
        · subst hik
          rw [if_pos rfl] at hlc
          have hlf := (getD_false_of hl).1
          rw [hlf] at hs
          refine .inl (Oper.wp_mono (fun a' w' hk' => ?_) (hlc hs))
          obtain ⟨v, rfl, hr, hst, hv⟩ := hk'
          rw [hdst]
          refine ih _ _ _ hleft (h.step' trivial (fun _ => trivial) hd hb hl (fun j u hj hu => ?_) hwt hv) (by
            have : (l.setIfInBounds i true).getD i false = true := by simp [(getD_false_of hl).2]
            rw [this]; exact hst)
          exact hVk j (fun e => by subst e; rw [hj] at hlf; cases hlf) w w' u hr hu
        · rw [if_neg hik] at hlc
          refine .inl (Oper.wp_mono (fun a' w' hk' => ?_) (hlc _ hs (fun js hbh => chained_listed h js i hwt hbh)))
          obtain ⟨v, rfl, hr, hv⟩ := hk'
          rw [hdst]
          exact ih _ _ _ hleft (h.step' trivial (fun _ => trivial) hd hb hl (fun j u _ hu => hV j w w' u hr hu) hwt hv) (by rw [hset hik]; exact hS _ _ _ hr hs)
  refine wp_region_any hm ?_
  refine go ops.size _ a0 _ ?_ ?_ ?_
  · refine Nat.le_trans (List.length_filter_le _ _) ?_
    simp
  · refine ⟨by simp, trivial, rfl, rfl, fun _ _ => rfl, ?_, ?_⟩
    · intro i d h; exact absurd h (by simp [Array.getD])
    · intro i j h; exact absurd h (by simp [Array.getD])
  · have : (Array.replicate ops.size false).getD k false = false := by simp [Array.getD]
    rw [this]; exact hw
end

end Go.Proofs.YtpijhpfcigjkeaaDoor
end

/-
  A DRAWN REGION WITH GUARDS IN WHICH ONE OPERATION WRITES (my own text; it knows no program): as 'wp_region_prev' (InvPrev); of what the writing one leaves as it was only that is asked which does not come behind it.
-/
section
namespace Go.Proofs.YtpijhpfcigjkeaaDoor
open Go Go.RowKit

section
variable {P : Program} {ops : Array Oper} {Q : Exit → Act → World → Prop} {R : World → World → Prop} {V : Nat → World → Value → Prop} {a0 : Act} {w0 : World} {G : Nat → Option Bool} {St : Bool → World → Prop} {Rk : World → World → Prop} {k : Nat}

/-- THE LAW. -/
theorem wp_region_past {id : Nat} {w : World} (k : Nat) (St : Bool → World → Prop) (Rk : World → World → Prop) (G : Nat → Option Bool) (hm : P.follows .mixedOrders = true)
    (hV : ∀ i w w' v, Kp w w' → V i w v → V i w' v) (hS : ∀ b w w', Kp w w' → St b w → St b w') (hVk : ∀ i, i ≠ k → (∀ js, chained ops k i js = false) → ∀ w w' v, Rk w w' → V i w v → V i w' v)
    (hfit : fitsG G ops a0.tmps.size = true) (hk : k < ops.size) (hG : ∀ g c, G g = some c → ∀ w v, V g w v → v = .bool c) (hU : ∀ (i : Nat) (o : Oper), ops[i]? = some o → wantsG G o = false → i ≠ k ∧ V i = IsV undef) (hw : St false w.drew)
    (loc : ∀ (i : Nat) (o : Oper), ops[i]? = some o → wantsG G o = true → ∀ a w, Leans (fun _ _ => True) V ops a0 w0 i a w →
      if i = k then (St false w → o.wp P a w (fun a' w' => ∃ v, a' = a.put o.dst v ∧ Rk w w' ∧ St true w' ∧ V i w' v) Q)
      else (∀ b, St b w → (∀ js, chained ops k i js = true → b = true) → (∀ js, chained ops i k js = true → b = false) → o.wp P a w (fun a' w' => ∃ v, a' = a.put o.dst v ∧ Kp w w' ∧ V i w' v) Q))
    (done : ∀ vs w, St true w → vs.length = ops.size → (∀ i d, dstOf ops i = some d → V i w (vs.getD i undef)) → Q .normal (putAll a0 (ops.toList.map (·.dst)) vs) w) :
    (Code.region id ops true).wp P Q a0 w := by
  have look : ∀ (i : Nat) (o : Oper), ops[i]? = some o → (∀ g b, o.guard = some (g, b) → waits ops i g = true ∧ (dstOf ops g).isSome = true ∧ ((G g).isSome = true ∨ ∃ o', ops[g]? = some o' ∧ wantsG G o' = false)) ∧ (∀ e ∈ o.after, Region.binds .any e = true → e.on < i) ∧ (∀ d, o.dst = some d → d < a0.tmps.size) ∧ (∀ j, i ≠ j → ∀ d, o.dst = some d → dstOf ops j ≠ some d) := by
    intro i o ho
    have hi : i < ops.size := (Array.getElem?_eq_some_iff.1 ho).1
    have h := List.all_eq_true.1 hfit i (List.mem_range.2 hi)
    simp only [ho, Option.all_some, Bool.and_eq_true] at h
    obtain ⟨⟨⟨h1, h2⟩, h3⟩, h4⟩ := h
    refine ⟨fun g b hgb => ?_, fun e he hb => ?_, fun d hd => ?_, fun j hj d hd hx => ?_⟩
    · rw [hgb] at h1
      simp only [Bool.and_eq_true, Bool.or_eq_true] at h1
      refine ⟨h1.1.1, h1.1.2, h1.2.imp (fun hx => hx) fun hx => ?_⟩
      cases ho' : ops[g]? with
      | none => rw [ho'] at hx; cases hx
      | some o' =>
        rw [ho'] at hx
        exact ⟨o', rfl, by simpa using hx⟩
    · have := Array.all_eq_true_iff_forall_mem.1 h2 e he
      simpa [hb] using this
    · rw [hd] at h3; simpa using h3
    · have hjs : j < ops.size := by
        rcases Nat.lt_or_ge j ops.size with h' | h'
        · exact h'
        · simp [dstOf, Array.getElem?_eq_none h'] at hx
      have := List.all_eq_true.1 h4 j (List.mem_range.2 hjs)
      rw [hd, hx] at this
      simp [hj] at this
  have some_of : ∀ i d, dstOf ops i = some d → ∃ o, ops[i]? = some o ∧ o.dst = some d := fun i d h => by
    unfold dstOf at h
    cases ho : ops[i]? with
    | none => simp [ho] at h
    | some o => exact ⟨o, rfl, by simpa [ho] using h⟩
  have hd : ∀ i j d, dstOf ops i = some d → dstOf ops j = some d → i = j := by
    intro i j d hi hj
    obtain ⟨o, ho, hd⟩ := some_of i d hi
    exact Classical.byContradiction fun hne => (look i o ho).2.2.2 j hne d hd hj
  have hb : ∀ i d, dstOf ops i = some d → d < a0.tmps.size := by
    intro i d hi
    obtain ⟨o, ho, hd⟩ := some_of i d hi
    exact (look i o ho).2.2.1 d hd
  have hac : ∀ i j, waits ops i j = true → j < i := by
    intro i j h
    obtain ⟨o, ho, e, he, hb, rfl⟩ := (waits_iff i j).1 h
    exact (look i o ho).2.1 e he hb
  have fin : ∀ (l : Array Bool) (a : Act) (w' : World), (∀ i, i < ops.size → l.getD i false = true) → StandsAt (fun _ _ => True) V ops a0 w0 l a w' → St (l.getD k false) w' → Q .normal a w' := by
    intro l a w' hall h hs
    rw [hall k hk] at hs
    have hlen : ((ops.toList.map (·.dst)).map (slotOf a)).length = ops.size := by simp
    have hq := done ((ops.toList.map (·.dst)).map (slotOf a)) w' hs hlen (fun i d hid => by
      obtain ⟨o, ho, hd⟩ := some_of i d hid
      have hi : i < ops.size := (Array.getElem?_eq_some_iff.1 ho).1
      have hv := h.val i d (hall i hi) hid
      have e : ((ops.toList.map (·.dst)).map (slotOf a)).getD i undef = a.tmps.getD d undef := by
        rw [List.getD_eq_getElem?_getD, List.getElem?_map, List.getElem?_map, Array.getElem?_toList, ho]
        simp [hd, slotOf]
      rw [e]; exact hv)
    rw [← putAll_of a _ a0 h.defers h.tmps ?_ ?_] at hq
    · exact hq
    · intro d hd
      obtain ⟨o, ho, hod⟩ := List.mem_map.1 hd
      obtain ⟨i, hi, rfl⟩ := List.getElem_of_mem ho
      exact (look i ops[i] (by simp at hi; simp [hi])).2.2.1 d (by simpa using hod)
    · intro t ht
      refine h.old t fun i _ hid => ht ?_
      obtain ⟨o, ho, hd⟩ := some_of i t hid
      refine List.mem_map.2 ⟨o, ?_, hd⟩
      rw [← Array.mem_def]
      exact Array.mem_of_getElem? ho
  have go : ∀ (fuel : Nat) (l : Array Bool) (a : Act) (w : World), (leftOver ops.size l).length ≤ fuel → StandsAt (fun _ _ => True) V ops a0 w0 l a w → St (l.getD k false) w → wpAny P .any ops Q fuel l a w := by
    intro fuel
    induction fuel with
    | zero =>
      intro l a w hf h hs
      have hn : leftOver ops.size l = [] := List.eq_nil_of_length_eq_zero (by omega)
      have hnot : ∀ i, i < ops.size → l.getD i false = true := fun i hi => by
        have hm : i ∉ leftOver ops.size l := by rw [hn]; simp
        have hl' : i < l.size := by rw [h.size]; exact hi
        unfold leftOver at hm
        simp only [List.mem_filter, List.mem_range, hi, true_and, Array.getD, hl'] at hm ⊢
        simpa using hm
      refine ⟨?_, fin l a w hnot h hs⟩
      refine List.eq_nil_iff_forall_not_mem.2 fun i hi => ?_
      have hm := (mem_ready.1 hi).1
      have hx := getD_false_of hm
      rw [hnot i (by rw [← h.size]; exact hx.2)] at hx
      exact absurd hx.1 (by simp)
    | succ fuel ih =>
      intro l a w hf h hs
      refine ⟨fun hr => fin l a w (all_listed hac h.size hr) h hs, fun i hi => ?_⟩
      obtain ⟨hl, o, ho, hall⟩ := mem_ready.1 hi
      have hwt : ∀ j, waits ops i j = true → l.getD j false = true := fun j hj => by
        obtain ⟨o', ho', e, he, hb', rfl⟩ := (waits_iff i j).1 hj
        rw [ho] at ho'; cases ho'
        exact hall e he hb'
      have hdst : o.dst = dstOf ops i := by simp [dstOf, ho]
      have hleft : (leftOver ops.size (l.setIfInBounds i true)).length ≤ fuel := by
        have := leftOver_set ops.size l i (by rw [← h.size]; exact (getD_false_of hl).2) hl
        omega
      have hwant := wanted_is (h.leans hl hwt) (fun j d hj => by rw [h.tmps]; exact hb j d hj) (look i o ho).1 hG (fun i o ho hw => (hU i o ho hw).2)
      have hset : ∀ (hne : i ≠ k), (l.setIfInBounds i true).getD k false = l.getD k false := fun hne => getD_set_ne false hne
      have hloc := loc i o ho
      unfold wpOp
      cases hwo : wantsG G o
      · rw [hwo] at hwant
        obtain ⟨hne, hu⟩ := hU i o ho hwo
        simp only [ho, hwant, Bool.false_eq_true, if_false]
        rw [hdst]
        exact ih _ _ _ hleft (h.step' trivial (fun _ => trivial) hd hb hl (fun _ _ _ hh => hh) hwt (by rw [hu]; rfl)) (by rw [hset hne]; exact hs)
      · rw [hwo] at hwant
        simp only [ho, hwant, if_true]
        have hlc := hloc hwo a w (h.leans hl hwt)
        by_cases hik : i = k
        · subst hik
          rw [if_pos rfl] at hlc
          have hlf := (getD_false_of hl).1
          rw [hlf] at hs
          refine .inl (Oper.wp_mono (fun a' w' hk' => ?_) (hlc hs))
          obtain ⟨v, rfl, hr, hst, hv⟩ := hk'
          rw [hdst]
          refine ih _ _ _ hleft (h.step' trivial (fun _ => trivial) hd hb hl (fun j u hj hu => ?_) hwt hv) (by
            have : (l.setIfInBounds i true).getD i false = true := by simp [(getD_false_of hl).2]
            rw [this]; exact hst)
          exact hVk j (fun e => by subst e; rw [hj] at hlf; cases hlf) (fun js => by
            cases hc : chained ops i j js with
            | false => rfl
            | true =>
              have := chained_listed (k := i) h js j (fun m hm => h.down j m hj hm) hc
              rw [hlf] at this
              cases this) w w' u hr hu
        · rw [if_neg hik] at hlc
          refine .inl (Oper.wp_mono (fun a' w' hk' => ?_) (hlc _ hs (fun js hbh => chained_listed h js i hwt hbh) (fun js hbh => by
            cases hlk : l.getD k false with
            | false => rfl
            | true =>
              have := chained_listed (k := i) h js k (fun m hm => h.down k m hlk hm) hbh
              rw [(getD_false_of hl).1] at this
              cases this)))
          obtain ⟨v, rfl, hr, hv⟩ := hk'
          rw [hdst]
          exact ih _ _ _ hleft (h.step' trivial (fun _ => trivial) hd hb hl (fun j u _ hu => hV j w w' u hr hu) hwt hv) (by rw [hset hik]; exact hS _ _ _ hr hs)
  refine wp_region_any hm ?_
  refine go ops.size _ a0 _ ?_ ?_ ?_
  · refine Nat.le_trans (List.length_filter_le _ _) ?_
    simp
  · refine ⟨by simp, trivial, rfl, rfl, fun _ _ => rfl, ?_, ?_⟩
    · intro i d h; exact absurd h (by simp [Array.getD])
    · intro i j h; exact absurd h (by simp [Array.getD])
  · have : (Array.replicate ops.size false).getD k false = false := by simp [Array.getD]
    rw [this]; exact hw
end

end Go.Proofs.YtpijhpfcigjkeaaDoor
end

/-
  A REGION THAT DRAWS NO ORDER, BY AN INVARIANT, WHERE OPERATIONS ARE GUARDED (my own text; it knows no program): as in the text InvG; the guards' Bools may be letters, so that a long '||' or '&&' needs no split into cases.
-/
section
namespace Go.Proofs.YtpijhpfcigjkeaaDoor
open Go Go.RowKit

section
variable {P : Program} {ops : Array Oper} {Q : Exit → Act → World → Prop} {R : World → World → Prop} {V : Nat → World → Value → Prop} {a0 : Act} {w0 : World} {G : Nat → Option Bool}

theorem wpOps_invG (hRr : ∀ w, R w w) (hR : ∀ a b c, R a b → R b c → R a c) (hV : ∀ i w w' v, R w w' → V i w v → V i w' v)
    (hd : ∀ i j d, dstOf ops i = some d → dstOf ops j = some d → i = j) (hb : ∀ i d, dstOf ops i = some d → d < a0.tmps.size)
    (hg : ∀ (i : Nat) (o : Oper), ops[i]? = some o → ∀ g b, o.guard = some (g, b) → waits ops i g = true ∧ (dstOf ops g).isSome = true ∧ ((G g).isSome = true ∨ ∃ o', ops[g]? = some o' ∧ wantsG G o' = false)) (hG : ∀ g c, G g = some c → ∀ w v, V g w v → v = .bool c)
    (hU : ∀ (i : Nat) (o : Oper), ops[i]? = some o → wantsG G o = false → V i = IsV undef) (hac : ∀ i j, waits ops i j = true → j < i)
    (loc : ∀ (i : Nat) (o : Oper), ops[i]? = some o → wantsG G o = true → ∀ a w, Leans R V ops a0 w0 i a w → o.wp P a w (fun a' w' => ∃ v, a' = a.put o.dst v ∧ R w w' ∧ V i w' v) Q)
    (done : ∀ l a w, (∀ i, i < ops.size → l.getD i false = true) → StandsAt R V ops a0 w0 l a w → Q .normal a w) :
    ∀ (n k : Nat) (l : Array Bool) (a : Act) (w : World), k + n = ops.size → (∀ i, l.getD i false = true ↔ i < k) → StandsAt R V ops a0 w0 l a w → wpOps P ops Q (List.range' k n) a w := by
  intro n
  induction n with
  | zero => intro k l a w hk hl h; exact done l a w (fun i hi => (hl i).2 (by omega)) h
  | succ n ih =>
    intro k l a w hk hl h
    have hks : k < ops.size := by omega
    have ho : ops[k]? = some ops[k] := by simp [hks]
    generalize ops[k] = o at ho
    have hsz : k < l.size := by rw [h.size]; exact hks
    have hlk : l.getD k true = false := by
      have h1 : ¬ l.getD k false = true := fun e => absurd ((hl k).1 e) (by omega)
      simp only [Array.getD, hsz, dif_pos] at h1 ⊢
      simpa using h1
    have hw : ∀ j, waits ops k j = true → l.getD j false = true := fun j hj => (hl j).2 (hac k j hj)
    have hdst : o.dst = dstOf ops k := by simp [dstOf, ho]
    have hl' : ∀ i, (l.setIfInBounds k true).getD i false = true ↔ i < k + 1 := fun i => by
      by_cases hik : i = k
      · subst hik; simp [hsz]
      · rw [getD_set_ne false (Ne.symm hik), hl i]; omega
    have hwant := wanted_is (h.leans hlk hw) (fun j d hj => by rw [h.tmps]; exact hb j d hj) (hg k o ho) hG hU
    rw [List.range'_succ]
    unfold wpOps
    cases hwo : wantsG G o
    · rw [hwo] at hwant
      simp only [ho, hwant, Bool.false_eq_true, if_false]
      rw [hdst]
      exact ih (k + 1) _ _ _ (by omega) hl' (h.step hR hV hd hb hlk hw (hRr w) (by rw [hU k o ho hwo]; rfl))
    · rw [hwo] at hwant
      simp only [ho, hwant, if_true]
      refine .inl (Oper.wp_mono (fun a' w' hk2 => ?_) (loc k o ho hwo a w (h.leans hlk hw)))
      obtain ⟨v, rfl, hr, hv⟩ := hk2
      rw [hdst]
      exact ih (k + 1) _ _ _ (by omega) hl' (h.step hR hV hd hb hlk hw hr hv)

/-- THE LAW. -/
theorem wp_region_order {id : Nat} {w : World} (G : Nat → Option Bool) (hRr : ∀ w, R w w) (hR : ∀ a b c, R a b → R b c → R a c) (hV : ∀ i w w' v, R w w' → V i w v → V i w' v)
    (hfit : fitsG G ops a0.tmps.size = true) (hG : ∀ g c, G g = some c → ∀ w v, V g w v → v = .bool c) (hU : ∀ (i : Nat) (o : Oper), ops[i]? = some o → wantsG G o = false → V i = IsV undef) (hw : R w0 w)
    (loc : ∀ (i : Nat) (o : Oper), ops[i]? = some o → wantsG G o = true → ∀ a w, Leans R V ops a0 w0 i a w → o.wp P a w (fun a' w' => ∃ v, a' = a.put o.dst v ∧ R w w' ∧ V i w' v) Q)
    (done : ∀ vs w, R w0 w → vs.length = ops.size → (∀ i d, dstOf ops i = some d → V i w (vs.getD i undef)) → Q .normal (putAll a0 (ops.toList.map (·.dst)) vs) w) :
    (Code.region id ops false).wp P Q a0 w := by
  have look : ∀ (i : Nat) (o : Oper), ops[i]? = some o → (∀ g b, o.guard = some (g, b) → waits ops i g = true ∧ (dstOf ops g).isSome = true ∧ ((G g).isSome = true ∨ ∃ o', ops[g]? = some o' ∧ wantsG G o' = false)) ∧ (∀ e ∈ o.after, Region.binds .any e = true → e.on < i) ∧ (∀ d, o.dst = some d → d < a0.tmps.size) ∧ (∀ j, i ≠ j → ∀ d, o.dst = some d → dstOf ops j ≠ some d) := by
    intro i o ho
    have hi : i < ops.size := (Array.getElem?_eq_some_iff.1 ho).1
    have h := List.all_eq_true.1 hfit i (List.mem_range.2 hi)
    simp only [ho, Option.all_some, Bool.and_eq_true] at h
    obtain ⟨⟨⟨h1, h2⟩, h3⟩, h4⟩ := h
    refine ⟨fun g b hgb => ?_, fun e he hb => ?_, fun d hd => ?_, fun j hj d hd hx => ?_⟩
    · rw [hgb] at h1
      simp only [Bool.and_eq_true, Bool.or_eq_true] at h1
      refine ⟨h1.1.1, h1.1.2, h1.2.imp (fun hx => hx) fun hx => ?_⟩
      cases ho' : ops[g]? with
      | none => rw [ho'] at hx; cases hx
      | some o' =>
        rw [ho'] at hx
        exact ⟨o', rfl, by simpa using hx⟩
    · have := Array.all_eq_true_iff_forall_mem.1 h2 e he
      simpa [hb] using this
    · rw [hd] at h3; simpa using h3
    · have hjs : j < ops.size := by
        rcases Nat.lt_or_ge j ops.size with h' | h'
        · exact h'
        · simp [dstOf, Array.getElem?_eq_none h'] at hx
      have := List.all_eq_true.1 h4 j (List.mem_range.2 hjs)
      rw [hd, hx] at this
      simp [hj] at this
  have some_of : ∀ i d, dstOf ops i = some d → ∃ o, ops[i]? = some o ∧ o.dst = some d := fun i d h => by
    unfold dstOf at h
    cases ho : ops[i]? with
    | none => simp [ho] at h
    | some o => exact ⟨o, rfl, by simpa [ho] using h⟩
  refine wp_region ?_
  rw [List.range_eq_range']
  refine wpOps_invG (R := R) (V := V) (a0 := a0) (w0 := w0) (G := G) hRr hR hV ?_ ?_ (fun i o ho => (look i o ho).1) hG hU ?_ loc ?_ ops.size 0 (Array.replicate ops.size false) a0 _ (by omega) ?_ ?_
  · intro i j d hi hj
    obtain ⟨o, ho, hd⟩ := some_of i d hi
    exact Classical.byContradiction fun hne => (look i o ho).2.2.2 j hne d hd hj
  · intro i d hi
    obtain ⟨o, ho, hd⟩ := some_of i d hi
    exact (look i o ho).2.2.1 d hd
  · intro i j h
    obtain ⟨o, ho, e, he, hb, rfl⟩ := (waits_iff i j).1 h
    exact (look i o ho).2.1 e he hb
  · intro l a w' hall h
    have hlen : ((ops.toList.map (·.dst)).map (slotOf a)).length = ops.size := by simp
    have hq := done ((ops.toList.map (·.dst)).map (slotOf a)) w' h.rel hlen (fun i d hid => by
      obtain ⟨o, ho, hd⟩ := some_of i d hid
      have hi : i < ops.size := (Array.getElem?_eq_some_iff.1 ho).1
      have hv := h.val i d (hall i hi) hid
      have e : ((ops.toList.map (·.dst)).map (slotOf a)).getD i undef = a.tmps.getD d undef := by
        rw [List.getD_eq_getElem?_getD, List.getElem?_map, List.getElem?_map, Array.getElem?_toList, ho]
        simp [hd, slotOf]
      rw [e]; exact hv)
    rw [← putAll_of a _ a0 h.defers h.tmps ?_ ?_] at hq
    · exact hq
    · intro d hd
      obtain ⟨o, ho, hod⟩ := List.mem_map.1 hd
      obtain ⟨i, hi, rfl⟩ := List.getElem_of_mem ho
      exact (look i ops[i] (by simp at hi; simp [hi])).2.2.1 d (by simpa using hod)
    · intro t ht
      refine h.old t fun i _ hid => ht ?_
      obtain ⟨o, ho, hd⟩ := some_of i t hid
      refine List.mem_map.2 ⟨o, ?_, hd⟩
      rw [← Array.mem_def]
      exact Array.mem_of_getElem? ho
  · intro i
    simp [Array.getD]
  · refine ⟨by simp, hw, rfl, rfl, fun _ _ => rfl, ?_, ?_⟩
    · intro i d h; exact absurd h (by simp [Array.getD])
    · intro i j h; exact absurd h (by simp [Array.getD])
end

/-! ### All values known beforehand, guards by letters -/
def Vv (vs : List Value) (i : Nat) : World → Value → Prop := IsV (vs.getD i undef)
def Gb (gs : List (Nat × Bool)) (g : Nat) : Option Bool := gs.lookup g
theorem Vv_keep (vs : List Value) {R : World → World → Prop} : ∀ i w w' v, R w w' → Vv vs i w v → Vv vs i w' v := fun _ _ _ _ _ h => h
theorem Gb_mem {gs : List (Nat × Bool)} {g : Nat} {c : Bool} (h : gs.lookup g = some c) : (g, c) ∈ gs := by
  induction gs with
  | nil => cases h
  | cons p l ih =>
    obtain ⟨a, b⟩ := p
    simp only [List.lookup_cons] at h
    split at h
    · rename_i e; cases h; rw [eq_of_beq e]; exact List.mem_cons_self
    · exact List.mem_cons_of_mem _ (ih h)
theorem Gb_is {gs : List (Nat × Bool)} {vs : List Value} (h : ∀ p ∈ gs, vs.getD p.1 undef = .bool p.2) : ∀ g c, Gb gs g = some c → ∀ w v, Vv vs g w v → v = .bool c := fun g c hc w v hv => by
  have h1 := h _ (Gb_mem hc)
  exact (show v = vs.getD g undef from hv).trans h1

theorem list_same {vs us : List Value} {n : Nat} (h1 : us.length = n) (h2 : vs.length = n) (h : ∀ i, i < n → us.getD i undef = vs.getD i undef) : us = vs := by
  refine List.ext_getElem (h1.trans h2.symm) fun i hu hv => ?_
  have := h i (by omega)
  simpa [List.getD_eq_getElem?_getD, hu, hv] using this
/-- THE LAW for values that are known beforehand. -/
theorem wp_region_vals {P : Program} {ops : Array Oper} {Q : Exit → Act → World → Prop} {a0 : Act} {w : World} {id : Nat} (vs : List Value) (gs : List (Nat × Bool)) (a1 : Act) (hlen : vs.length = ops.size) (hall : ((List.range ops.size).all fun i => (dstOf ops i).isSome) = true)
    (ha1 : putAll a0 (ops.toList.map (·.dst)) vs = a1) (hfit : fitsG (Gb gs) ops a0.tmps.size = true) (hG : ∀ p ∈ gs, vs.getD p.1 undef = .bool p.2) (hU : ∀ (i : Nat) (o : Oper), ops[i]? = some o → wantsG (Gb gs) o = false → vs.getD i undef = undef)
    (loc : ∀ (i : Nat) (o : Oper), ops[i]? = some o → wantsG (Gb gs) o = true → ∀ a w1, Leans Kp (Vv vs) ops a0 w i a w1 → o.wp P a w1 (fun a' w' => ∃ v, a' = a.put o.dst v ∧ Kp w1 w' ∧ IsV (vs.getD i undef) w' v) Q)
    (done : ∀ w', Kp w w' → Q .normal a1 w') : (Code.region id ops false).wp P Q a0 w := by
  refine wp_region_order (R := Kp) (V := Vv vs) (w0 := w) (Gb gs) (fun w => Keeps.refl _ w) (fun _ _ _ h k => h.trans k) (Vv_keep vs) hfit (Gb_is hG) (fun i o ho hw => by unfold Vv; rw [hU i o ho hw]) (Keeps.refl _ _) loc ?_
  intro us w' hk hl hv
  have e : us = vs := list_same hl hlen fun i hi => by
    obtain ⟨d, hd⟩ := Option.isSome_iff_exists.1 (List.all_eq_true.1 hall i (List.mem_range.2 hi))
    exact hv i d hd
  rw [e, ha1]
  exact done w' hk
/-- One more '||'. -/
theorem pick_or {p q r : Bool} {u v : Value} (h : (p || q) = r) (hu : u = .bool true) (hv : v = cond p undef (.bool q)) : (if p = true then u else v) = .bool r := by
  subst h hu hv; cases p <;> rfl
/-- One more '&&'. -/
theorem pick_and {p q r : Bool} {u v : Value} (h : (p && q) = r) (hu : u = cond p (.bool q) undef) (hv : v = .bool false) : (if p = true then u else v) = .bool r := by
  subst h hu hv; cases p <;> rfl

/-- Guards that may themselves be unwanted: then they say nothing. -/
def GO (gs : List (Nat × Option Bool)) (g : Nat) : Option Bool := match gs.lookup g with | some b => b | none => none
theorem GO_mem {gs : List (Nat × Option Bool)} {g : Nat} {c : Option Bool} (h : gs.lookup g = some c) : (g, c) ∈ gs := by
  induction gs with
  | nil => cases h
  | cons p l ih =>
    obtain ⟨a, b⟩ := p
    simp only [List.lookup_cons] at h
    split at h
    · rename_i e; cases h; rw [eq_of_beq e]; exact List.mem_cons_self
    · exact List.mem_cons_of_mem _ (ih h)
theorem GO_is {gs : List (Nat × Option Bool)} {vs : List Value} (h : ∀ p ∈ gs, ∀ c, p.2 = some c → vs.getD p.1 undef = .bool c) : ∀ g c, GO gs g = some c → ∀ w v, Vv vs g w v → v = .bool c := fun g c hc w v hv => by
  unfold GO at hc
  cases hl : gs.lookup g with
  | none => rw [hl] at hc; cases hc
  | some b =>
    rw [hl] at hc
    exact (show v = vs.getD g undef from hv).trans (h _ (GO_mem hl) c hc)
section
variable {P : Program} {ops : Array Oper} {Q : Exit → Act → World → Prop} {a0 : Act} {w : World} {id : Nat} (vs : List Value) (gs : List (Nat × Option Bool)) (a1 : Act) (hlen : vs.length = ops.size) (hall : ((List.range ops.size).all fun i => (dstOf ops i).isSome) = true)
    (ha1 : putAll a0 (ops.toList.map (·.dst)) vs = a1) (hfit : fitsG (GO gs) ops a0.tmps.size = true) (hG : ∀ p ∈ gs, ∀ c, p.2 = some c → vs.getD p.1 undef = .bool c) (hU : ∀ (i : Nat) (o : Oper), ops[i]? = some o → wantsG (GO gs) o = false → vs.getD i undef = undef)
    (loc : ∀ (i : Nat) (o : Oper), ops[i]? = some o → wantsG (GO gs) o = true → ∀ a w1, Leans Kp (Vv vs) ops a0 w i a w1 → o.wp P a w1 (fun a' w' => ∃ v, a' = a.put o.dst v ∧ Kp w1 w' ∧ IsV (vs.getD i undef) w' v) Q)
    (done : ∀ w', Kp w w' → Q .normal a1 w')
include hlen hall ha1 hfit hG hU loc done
/-- THE LAW for values that are known beforehand, with guards that are guarded. -/
theorem wp_region_valsO : (Code.region id ops false).wp P Q a0 w := by
  refine wp_region_order (R := Kp) (V := Vv vs) (w0 := w) (GO gs) (fun w => Keeps.refl _ w) (fun _ _ _ h k => h.trans k) (Vv_keep vs) hfit (GO_is hG) (fun i o ho hw => by unfold Vv; rw [hU i o ho hw]) (Keeps.refl _ _) loc ?_
  intro us w' hk hl hv
  have e : us = vs := list_same hl hlen fun i hi => by
    obtain ⟨d, hd⟩ := Option.isSome_iff_exists.1 (List.all_eq_true.1 hall i (List.mem_range.2 hi))
    exact hv i d hd
  rw [e, ha1]
  exact done w' hk
/-- The same for a region that draws its order. -/
theorem wp_region_valsD (hm : P.follows .mixedOrders = true) : (Code.region id ops true).wp P Q a0 w := by
  refine wp_region_guard (R := Kp) (V := Vv vs) (w0 := w) (GO gs) hm (fun w => Keeps.refl _ w) (fun _ _ _ h k => h.trans k) (Vv_keep vs) hfit (GO_is hG) (fun i o ho hw => by unfold Vv; rw [hU i o ho hw]) ((Keeps.refl _ _).drew) loc ?_
  intro us w' hk hl hv
  have e : us = vs := list_same hl hlen fun i hi => by
    obtain ⟨d, hd⟩ := Option.isSome_iff_exists.1 (List.all_eq_true.1 hall i (List.mem_range.2 hi))
    exact hv i d hd
  rw [e, ha1]
  exact done w' hk
end

end Go.Proofs.YtpijhpfcigjkeaaDoor
end

/-
  A REGION THAT DRAWS NO ORDER, BY AN INVARIANT, WHERE OPERATIONS ARE GUARDED (my own text; it knows no program): as in the text InvOrd, but slots may be written twice: of those ('dup') nothing is said until the last; what stands behind the region is told by its slots, not as a whole.
-/
section
namespace Go.Proofs.YtpijhpfcigjkeaaDoor
open Go Go.RowKit

/-- The checks on a region, by reckoning; 'dup' are operations whose slot a later one writes again. -/
def fitsD (G : Nat → Option Bool) (dup : List Nat) (ops : Array Oper) (n : Nat) : Bool :=
  (List.range ops.size).all fun i => (ops[i]?).all fun o => (match o.guard with | none => true | some (g, _) => waits ops i g && (dstOf ops g).isSome && ((G g).isSome || (ops[g]?).any fun o' => !wantsG G o')) && (o.after.all fun e => !Region.binds .any e || decide (e.on < i)) && (o.dst.all fun d => decide (d < n)) &&
    (List.range ops.size).all fun j => i == j || o.dst.isNone || dstOf ops j != o.dst || dup.contains (min i j)

section
variable {P : Program} {ops : Array Oper} {Q : Exit → Act → World → Prop} {R : World → World → Prop} {V : Nat → World → Value → Prop} {a0 : Act} {w0 : World} {G : Nat → Option Bool}

theorem StandsAt.stepD (hR : ∀ a b c, R a b → R b c → R a c) (hV : ∀ i w w' v, R w w' → V i w v → V i w' v)
    (hb : ∀ i d, dstOf ops i = some d → d < a0.tmps.size)
    {l : Array Bool} {a : Act} {w w' : World} {i : Nat} {v : Value} (hd : ∀ k d, l.getD k false = true → dstOf ops k = some d → dstOf ops i = some d → ∀ w v, V k w v) (h : StandsAt R V ops a0 w0 l a w) (hl : l.getD i true = false)
    (hw : ∀ j, waits ops i j = true → l.getD j false = true) (hr : R w w') (hv : V i w' v) :
    StandsAt R V ops a0 w0 (l.setIfInBounds i true) (a.put (dstOf ops i) v) w' := by
  have hi := (getD_false_of hl).2
  have hset : (l.setIfInBounds i true).getD i false = true := by simp [hi]
  refine ⟨by simp [h.size], hR _ _ _ h.rel hr, ?_, ?_, ?_, ?_, ?_⟩
  · cases hx : dstOf ops i <;> simp [Act.put, h.defers]
  · cases hx : dstOf ops i <;> simp [Act.put, h.tmps]
  · intro t ht
    have old := h.old t fun k hk => ht k (getD_set_true hk)
    cases hx : dstOf ops i with
    | none => exact old
    | some d =>
      rw [getD_put (by rw [h.tmps]; exact hb i d hx), if_neg (fun e => ht i hset (by rw [hx, e]))]
      exact old
  · intro k d hk hkd
    by_cases hki : k = i
    · subst hki
      rw [hkd, getD_put (by rw [h.tmps]; exact hb k d hkd), if_pos rfl]
      exact hv
    · have hlk := getD_true_set hk hki
      have hval := hV k w w' _ hr (h.val k d hlk hkd)
      cases hx : dstOf ops i with
      | none => exact hval
      | some d' =>
        rw [getD_put (by rw [h.tmps]; exact hb i d' hx)]
        split
        · rename_i e
          exact hd k d hlk hkd (by rw [hx, e]) _ _
        · exact hval
  · intro k j hk hkj
    by_cases hki : k = i
    · subst hki; exact getD_set_true (hw j hkj)
    · exact getD_set_true (h.down k j (getD_true_set hk hki) hkj)

theorem wpOps_invD (hRr : ∀ w, R w w) (hR : ∀ a b c, R a b → R b c → R a c) (hV : ∀ i w w' v, R w w' → V i w v → V i w' v)
    (hd : ∀ i j d, i < j → dstOf ops i = some d → dstOf ops j = some d → ∀ w v, V i w v) (hb : ∀ i d, dstOf ops i = some d → d < a0.tmps.size)
    (hg : ∀ (i : Nat) (o : Oper), ops[i]? = some o → ∀ g b, o.guard = some (g, b) → waits ops i g = true ∧ (dstOf ops g).isSome = true ∧ ((G g).isSome = true ∨ ∃ o', ops[g]? = some o' ∧ wantsG G o' = false)) (hG : ∀ g c, G g = some c → ∀ w v, V g w v → v = .bool c)
    (hU : ∀ (i : Nat) (o : Oper), ops[i]? = some o → wantsG G o = false → V i = IsV undef) (hac : ∀ i j, waits ops i j = true → j < i)
    (loc : ∀ (i : Nat) (o : Oper), ops[i]? = some o → wantsG G o = true → ∀ a w, Leans R V ops a0 w0 i a w → o.wp P a w (fun a' w' => ∃ v, a' = a.put o.dst v ∧ R w w' ∧ V i w' v) Q)
    (done : ∀ l a w, (∀ i, i < ops.size → l.getD i false = true) → StandsAt R V ops a0 w0 l a w → Q .normal a w) :
    ∀ (n k : Nat) (l : Array Bool) (a : Act) (w : World), k + n = ops.size → (∀ i, l.getD i false = true ↔ i < k) → StandsAt R V ops a0 w0 l a w → wpOps P ops Q (List.range' k n) a w := by
  intro n
  induction n with
  | zero => intro k l a w hk hl h; exact done l a w (fun i hi => (hl i).2 (by omega)) h
  | succ n ih =>
    intro k l a w hk hl h
    have hks : k < ops.size := by omega
    have ho : ops[k]? = some ops[k] := by simp [hks]
    generalize ops[k] = o at ho
    have hsz : k < l.size := by rw [h.size]; exact hks
    have hlk : l.getD k true = false := by
      have h1 : ¬ l.getD k false = true := fun e => absurd ((hl k).1 e) (by omega)
      simp only [Array.getD, hsz, dif_pos] at h1 ⊢
      simpa using h1
    have hw : ∀ j, waits ops k j = true → l.getD j false = true := fun j hj => (hl j).2 (hac k j hj)
    have hdst : o.dst = dstOf ops k := by simp [dstOf, ho]
    have hl' : ∀ i, (l.setIfInBounds k true).getD i false = true ↔ i < k + 1 := fun i => by
      by_cases hik : i = k
      · subst hik; simp [hsz]
      · rw [getD_set_ne false (Ne.symm hik), hl i]; omega
    have hdk : ∀ j d, l.getD j false = true → dstOf ops j = some d → dstOf ops k = some d → ∀ w v, V j w v := fun j d hj h1 h2 => hd j k d ((hl j).1 hj) h1 h2
    have hwant := wanted_is (h.leans hlk hw) (fun j d hj => by rw [h.tmps]; exact hb j d hj) (hg k o ho) hG hU
    rw [List.range'_succ]
    unfold wpOps
    cases hwo : wantsG G o
    · rw [hwo] at hwant
      simp only [ho, hwant, Bool.false_eq_true, if_false]
      rw [hdst]
      exact ih (k + 1) _ _ _ (by omega) hl' (h.stepD hR hV hb hdk hlk hw (hRr w) (by rw [hU k o ho hwo]; rfl))
    · rw [hwo] at hwant
      simp only [ho, hwant, if_true]
      refine .inl (Oper.wp_mono (fun a' w' hk2 => ?_) (loc k o ho hwo a w (h.leans hlk hw)))
      obtain ⟨v, rfl, hr, hv⟩ := hk2
      rw [hdst]
      exact ih (k + 1) _ _ _ (by omega) hl' (h.stepD hR hV hb hdk hlk hw hr hv)

/-- THE LAW. -/
theorem wp_region_seq {id : Nat} {w : World} (G : Nat → Option Bool) (dup : List Nat) (hRr : ∀ w, R w w) (hR : ∀ a b c, R a b → R b c → R a c) (hV : ∀ i w w' v, R w w' → V i w v → V i w' v)
    (hfit : fitsD G dup ops a0.tmps.size = true) (hdup : ∀ i ∈ dup, ∀ w v, V i w v) (hG : ∀ g c, G g = some c → ∀ w v, V g w v → v = .bool c) (hU : ∀ (i : Nat) (o : Oper), ops[i]? = some o → wantsG G o = false → V i = IsV undef) (hw : R w0 w)
    (loc : ∀ (i : Nat) (o : Oper), ops[i]? = some o → wantsG G o = true → ∀ a w, Leans R V ops a0 w0 i a w → o.wp P a w (fun a' w' => ∃ v, a' = a.put o.dst v ∧ R w w' ∧ V i w' v) Q)
    (done : ∀ a w, R w0 w → a.defers = a0.defers → a.tmps.size = a0.tmps.size → (∀ i d, dstOf ops i = some d → V i w (a.tmps.getD d undef)) → Q .normal a w) :
    (Code.region id ops false).wp P Q a0 w := by
  have look : ∀ (i : Nat) (o : Oper), ops[i]? = some o → (∀ g b, o.guard = some (g, b) → waits ops i g = true ∧ (dstOf ops g).isSome = true ∧ ((G g).isSome = true ∨ ∃ o', ops[g]? = some o' ∧ wantsG G o' = false)) ∧ (∀ e ∈ o.after, Region.binds .any e = true → e.on < i) ∧ (∀ d, o.dst = some d → d < a0.tmps.size) ∧ (∀ j, i ≠ j → ∀ d, o.dst = some d → dstOf ops j = some d → min i j ∈ dup) := by
    intro i o ho
    have hi : i < ops.size := (Array.getElem?_eq_some_iff.1 ho).1
    have h := List.all_eq_true.1 hfit i (List.mem_range.2 hi)
    simp only [ho, Option.all_some, Bool.and_eq_true] at h
    obtain ⟨⟨⟨h1, h2⟩, h3⟩, h4⟩ := h
    refine ⟨fun g b hgb => ?_, fun e he hb => ?_, fun d hd => ?_, fun j hj d hd hx => ?_⟩
    · rw [hgb] at h1
      simp only [Bool.and_eq_true, Bool.or_eq_true] at h1
      refine ⟨h1.1.1, h1.1.2, h1.2.imp (fun hx => hx) fun hx => ?_⟩
      cases ho' : ops[g]? with
      | none => rw [ho'] at hx; cases hx
      | some o' =>
        rw [ho'] at hx
        exact ⟨o', rfl, by simpa using hx⟩
    · have := Array.all_eq_true_iff_forall_mem.1 h2 e he
      simpa [hb] using this
    · rw [hd] at h3; simpa using h3
    · have hjs : j < ops.size := by
        rcases Nat.lt_or_ge j ops.size with h' | h'
        · exact h'
        · simp [dstOf, Array.getElem?_eq_none h'] at hx
      have := List.all_eq_true.1 h4 j (List.mem_range.2 hjs)
      rw [hd, hx] at this
      simpa [hj] using this
  have some_of : ∀ i d, dstOf ops i = some d → ∃ o, ops[i]? = some o ∧ o.dst = some d := fun i d h => by
    unfold dstOf at h
    cases ho : ops[i]? with
    | none => simp [ho] at h
    | some o => exact ⟨o, rfl, by simpa [ho] using h⟩
  refine wp_region ?_
  rw [List.range_eq_range']
  refine wpOps_invD (R := R) (V := V) (a0 := a0) (w0 := w0) (G := G) hRr hR hV ?_ ?_ (fun i o ho => (look i o ho).1) hG hU ?_ loc ?_ ops.size 0 (Array.replicate ops.size false) a0 _ (by omega) ?_ ?_
  · intro i j d hij hi hj
    obtain ⟨o, ho, hd⟩ := some_of i d hi
    have := (look i o ho).2.2.2 j (by omega) d hd hj
    rw [Nat.min_eq_left (by omega)] at this
    exact hdup i this
  · intro i d hi
    obtain ⟨o, ho, hd⟩ := some_of i d hi
    exact (look i o ho).2.2.1 d hd
  · intro i j h
    obtain ⟨o, ho, e, he, hb, rfl⟩ := (waits_iff i j).1 h
    exact (look i o ho).2.1 e he hb
  · intro l a w' hall h
    exact done a w' h.rel h.defers h.tmps fun i d hid => by
      obtain ⟨o, ho, hd⟩ := some_of i d hid
      have hi : i < ops.size := (Array.getElem?_eq_some_iff.1 ho).1
      exact h.val i d (hall i hi) hid
  · intro i
    simp [Array.getD]
  · refine ⟨by simp, hw, rfl, rfl, fun _ _ => rfl, ?_, ?_⟩
    · intro i d h; exact absurd h (by simp [Array.getD])
    · intro i j h; exact absurd h (by simp [Array.getD])
end

/-! ### What the operations leave, by a list -/
/-- A kind of value that lasts. -/
def Vp (vs : List (World → Value → Prop)) (i : Nat) : World → Value → Prop := vs.getD i (fun _ _ => True)
theorem Vp_keep {vs : List (World → Value → Prop)} {R : World → World → Prop} (h : ∀ p ∈ vs, ∀ w w' v, R w w' → p w v → p w' v) : ∀ i w w' v, R w w' → Vp vs i w v → Vp vs i w' v := fun i w w' v hr hv => by
  unfold Vp at hv ⊢
  rw [List.getD_eq_getElem?_getD] at hv ⊢
  cases hx : vs[i]? with
  | none => trivial
  | some p => rw [hx] at hv; exact h p (List.mem_of_getElem? hx) w w' v hr hv
/-- Anything at all. -/
def AnyV : World → Value → Prop := fun _ _ => True
/-- This, if the Bool says so; nothing, if not. -/
def WhenV (p : Bool) (A : World → Value → Prop) : World → Value → Prop := cond p A (IsV undef)
theorem Gv_is {gs : List (Nat × Option Bool)} {vs : List (World → Value → Prop)} (h : ∀ p ∈ gs, ∀ c, p.2 = some c → Vp vs p.1 = IsV (.bool c)) : ∀ g c, GO gs g = some c → ∀ w v, Vp vs g w v → v = .bool c := fun g c hc w v hv => by
  unfold GO at hc
  cases hl : gs.lookup g with
  | none => rw [hl] at hc; cases hc
  | some b =>
    rw [hl] at hc
    rw [show Vp vs g = IsV (.bool c) from h _ (GO_mem hl) c hc] at hv
    exact hv
/-- The end of a function that answers one slot. -/
theorem results_slot {P : Program} {fn : Func} {t : Tmp} {v : Value} {tmps : Array Value} {w : World} (h : fn.results = #[.tmp t]) (hp : tmps.getD t undef = v) : (results fn tmps).run P w = .ok v w := by
  have hp2 : tmps[t]?.getD undef = v := by simpa [Array.getD_eq_getD_getElem?] using hp
  simp [results, h, hp2]

end Go.Proofs.YtpijhpfcigjkeaaDoor
end

/-
  REGIONS WHOSE OPERATIONS LEAVE VALUES OF A FEW KINDS: this value; a slice of new memory with these cells; anything (my own text; it knows no program).
-/
section
namespace Go.Proofs.YtpijhpfcigjkeaaDoor
open Go Go.RowKit

inductive Kn where
  | is (v : Value)
  | row (xs : List Value)
  | own (base : Nat) (e : TypeId) (n : Nat) (xs : List Value)
  | any
def Kn.V : Kn → World → Value → Prop
  | .is x => IsV x
  | .row xs => fun w v => ∃ B, v = .slice (some ⟨B, 0, none⟩) xs.length xs.length ∧ Row w (some ⟨B, 0, none⟩) (fun _ => True) xs
  | .own base e n xs => fun w v => w.ownsRow base e 1 v n xs
  | .any => fun _ _ => True
theorem Kn.keep {k : Kn} {w w' : World} {v : Value} (h : Kp w w') (hv : k.V w v) : k.V w' v := by
  cases k with
  | is x => exact hv
  | row xs =>
    obtain ⟨B, e, hr⟩ := hv
    exact ⟨B, e, hr.keep h⟩
  | own base e n xs => exact h.own hv fun _ _ => trivial
  | any => trivial
def KnV (vs : List Kn) (i : Nat) : World → Value → Prop := (vs.getD i (.is undef)).V
theorem KnV_keep (vs : List Kn) : ∀ i w w' v, Kp w w' → KnV vs i w v → KnV vs i w' v := fun _ _ _ _ h hv => Kn.keep h hv
theorem KnV_is {gs : List (Nat × Option Bool)} {vs : List Kn} (h : ∀ p ∈ gs, ∀ c, p.2 = some c → vs.getD p.1 (.is undef) = .is (.bool c)) : ∀ g c, GO gs g = some c → ∀ w v, KnV vs g w v → v = .bool c := fun g c hc w v hv => by
  unfold GO at hc
  cases hl : gs.lookup g with
  | none => rw [hl] at hc; cases hc
  | some b =>
    rw [hl] at hc
    unfold KnV at hv
    rw [show vs.getD g (.is undef) = .is (.bool c) from h _ (GO_mem hl) c hc] at hv
    exact hv
section
variable {P : Program} {ops : Array Oper} {Q : Exit → Act → World → Prop} {a0 : Act} {w : World} {id : Nat} (vs : List Kn) (gs : List (Nat × Option Bool))
/-- THE LAW, for a region that draws no order. -/
theorem wp_region_kn (dup : List Nat) (hfit : fitsD (GO gs) dup ops a0.tmps.size = true) (hdup : ∀ i ∈ dup, vs.getD i (.is undef) = .any) (hG : ∀ p ∈ gs, ∀ c, p.2 = some c → vs.getD p.1 (.is undef) = .is (.bool c))
    (hU : ∀ (i : Nat) (o : Oper), ops[i]? = some o → wantsG (GO gs) o = false → vs.getD i (.is undef) = .is undef)
    (loc : ∀ (i : Nat) (o : Oper), ops[i]? = some o → wantsG (GO gs) o = true → ∀ a w1, Leans Kp (KnV vs) ops a0 w i a w1 → o.wp P a w1 (fun a' w' => ∃ v, a' = a.put o.dst v ∧ Kp w1 w' ∧ (vs.getD i (.is undef)).V w' v) Q)
    (done : ∀ a w', Kp w w' → a.defers = a0.defers → a.tmps.size = a0.tmps.size → (∀ i d, dstOf ops i = some d → (vs.getD i (.is undef)).V w' (a.tmps.getD d undef)) → Q .normal a w') : (Code.region id ops false).wp P Q a0 w :=
  wp_region_seq (R := Kp) (V := KnV vs) (w0 := w) (GO gs) dup (fun w => Keeps.refl _ w) (fun _ _ _ h k => h.trans k) (KnV_keep vs) hfit (fun i hi w v => by unfold KnV; rw [hdup i hi]; trivial) (KnV_is hG) (fun i o ho hw => by unfold KnV; rw [hU i o ho hw]; rfl) (Keeps.refl _ _) loc done
/-- The same for one that draws its order; what stands behind it is told by the list of the values. -/
theorem wp_region_knD (hm : P.follows .mixedOrders = true) (hfit : fitsG (GO gs) ops a0.tmps.size = true) (hG : ∀ p ∈ gs, ∀ c, p.2 = some c → vs.getD p.1 (.is undef) = .is (.bool c))
    (hU : ∀ (i : Nat) (o : Oper), ops[i]? = some o → wantsG (GO gs) o = false → vs.getD i (.is undef) = .is undef)
    (loc : ∀ (i : Nat) (o : Oper), ops[i]? = some o → wantsG (GO gs) o = true → ∀ a w1, Leans Kp (KnV vs) ops a0 w i a w1 → o.wp P a w1 (fun a' w' => ∃ v, a' = a.put o.dst v ∧ Kp w1 w' ∧ (vs.getD i (.is undef)).V w' v) Q)
    (done : ∀ us w', Kp w w' → us.length = ops.size → (∀ i d, dstOf ops i = some d → (vs.getD i (.is undef)).V w' (us.getD i undef)) → Q .normal (putAll a0 (ops.toList.map (·.dst)) us) w') : (Code.region id ops true).wp P Q a0 w :=
  wp_region_guard (R := Kp) (V := KnV vs) (w0 := w) (GO gs) hm (fun w => Keeps.refl _ w) (fun _ _ _ h k => h.trans k) (KnV_keep vs) hfit (KnV_is hG) (fun i o ho hw => by unfold KnV; rw [hU i o ho hw]; rfl) ((Keeps.refl _ _).drew) loc done
end

/-! ### Single operations -/
section
variable {P : Program} {o : Oper} {a : Act} {w : World} {Q : Exit → Act → World → Prop} {x y z : Operand}
theorem kq_and {p q r : Bool} (h : (p && q) = r) (ho : o.op = .pick x y z) (hx : IsV (.bool p) w (a.eval x)) (hy : (cond p (Kn.is (.bool q)) (Kn.is undef)).V w (a.eval y)) (hz : a.eval z = .bool false) :
    o.wp P a w (fun a' w' => ∃ v', a' = a.put o.dst v' ∧ Kp w w' ∧ IsV (.bool r) w' v') Q := by
  subst h
  refine kp_pick ho hx ?_
  cases p
  · exact hz
  · exact hy
theorem kq_or {p q r : Bool} (h : (p || q) = r) (ho : o.op = .pick x y z) (hx : IsV (.bool p) w (a.eval x)) (hy : a.eval y = .bool true) (hz : (cond p (Kn.is undef) (Kn.is (.bool q))).V w (a.eval z)) :
    o.wp P a w (fun a' w' => ∃ v', a' = a.put o.dst v' ∧ Kp w w' ∧ IsV (.bool r) w' v') Q := by
  subst h
  refine kp_pick ho hx ?_
  cases p
  · exact hz
  · exact hy
theorem kq_bool {p q : Bool} (h : p = q) (ho : o.op = .move x) (hx : IsV (.bool p) w (a.eval x)) : o.wp P a w (fun a' w' => ∃ v', a' = a.put o.dst v' ∧ Kp w w' ∧ IsV (.bool q) w' v') Q := kp_move ho (by subst h; exact hx)
theorem kq_setK {k : Kn} (ho : o.op = .assign x) (hx : k.V w (a.eval x)) : o.wp P a w (fun a' w' => ∃ v', a' = a.put o.dst v' ∧ Kp w w' ∧ k.V w' v') Q := by
  unfold Oper.wp execOp
  rw [ho]
  exact ⟨a.eval x, rfl, Keeps.refl _ _, hx⟩
theorem kq_set {v : Value} (ho : o.op = .assign x) (hx : IsV v w (a.eval x)) : o.wp P a w (fun a' w' => ∃ v', a' = a.put o.dst v' ∧ Kp w w' ∧ IsV v w' v') Q := kp_assign ho hx
end

end Go.Proofs.YtpijhpfcigjkeaaDoor
end
