/-
  Inv: texts of mine, joined.
-/
import Derived.Orders
import Derived.Below
namespace Go.Proofs.YtemkjodkmehffaaGreatDoor
open Go Go.RowKit
section
variable {P : Program} {ops : Array Oper} {Q : Exit → Act → World → Prop} {R : World → World → Prop} {V : Nat → World → Value → Prop} {a0 : Act} {w0 : World}
def dstOf (ops : Array Oper) (i : Nat) : Option Tmp := (ops[i]?).bind (·.dst)
def waits (ops : Array Oper) (i j : Nat) : Bool := ((ops[i]?).map fun o => o.after.any fun e => Region.binds .any e && e.on == j).getD false
theorem waits_iff (i j : Nat) : waits ops i j = true ↔ ∃ o, ops[i]? = some o ∧ ∃ e ∈ o.after, Region.binds .any e = true ∧ e.on = j := by
 unfold waits
 cases h : ops[i]? with
 | none => simp
 | some o =>
  simp only [Option.map_some, Option.getD_some, Option.some.injEq, exists_eq_left', Array.any_eq_true, Bool.and_eq_true, beq_iff_eq]
  constructor
  ·rintro ⟨k, hk, hb, he⟩; exact ⟨o.after[k], Array.getElem_mem hk, hb, he⟩
  ·rintro ⟨e, he, hb, hx⟩
   obtain ⟨k, hk, rfl⟩ := Array.mem_iff_getElem.1 he
   exact ⟨k, hk, hb, hx⟩
structure StandsAt (R : World → World → Prop) (V : Nat → World → Value → Prop) (ops : Array Oper) (a0 : Act) (w0 : World) (l : Array Bool) (a : Act) (w : World) : Prop where
 size : l.size = ops.size
 rel : R w0 w
 defers : a.defers = a0.defers
 tmps : a.tmps.size = a0.tmps.size
 old : ∀ t, (∀ i, l.getD i false = true → dstOf ops i ≠ some t) → a.tmps.getD t undef = a0.tmps.getD t undef
 val : ∀ i d, l.getD i false = true → dstOf ops i = some d → V i w (a.tmps.getD d undef)
 down : ∀ i j, l.getD i false = true → waits ops i j = true → l.getD j false = true
structure Leans (R : World → World → Prop) (V : Nat → World → Value → Prop) (ops : Array Oper) (a0 : Act) (w0 : World) (i : Nat) (a : Act) (w : World) : Prop where
 rel : R w0 w
 val : ∀ j d, waits ops i j = true → dstOf ops j = some d → V j w (a.eval (.tmp d))
 old : ∀ t, ((List.range ops.size).all fun k => dstOf ops k != some t || waits ops k i || k == i) = true → a.eval (.tmp t) = a0.eval (.tmp t)
theorem getD_true_set {l : Array Bool} {i j : Nat} (h : (l.setIfInBounds i true).getD j false = true) (hne : j ≠ i) : l.getD j false = true := by
 rw [getD_set_ne false (Ne.symm hne)] at h; exact h
theorem getD_false_of {l : Array Bool} {i : Nat} (h : l.getD i true = false) : l.getD i false = false ∧ i < l.size := by
 rcases Nat.lt_or_ge i l.size with hl | hl
 ·refine ⟨?_, hl⟩
  simp [Array.getD, hl] at h ⊢; exact h
 ·simp [Array.getD, Nat.not_lt.mpr hl] at h
theorem getD_put {a : Act} {d : Tmp} {v : Value} {t : Nat} (hd : d < a.tmps.size) : (a.put (some d) v).tmps.getD t undef = if t = d then v else a.tmps.getD t undef := by
 simp only [Act.put]
 by_cases h : t = d
 ·subst h; simp [hd]
 ·rw [if_neg h]; simp [Array.getElem?_setIfInBounds_ne (Ne.symm h)]
theorem StandsAt.leans {l : Array Bool} {a : Act} {w : World} {i : Nat} (h : StandsAt R V ops a0 w0 l a w) (hl : l.getD i true = false)
  (hw : ∀ j, waits ops i j = true → l.getD j false = true) : Leans R V ops a0 w0 i a w where
 rel := h.rel
 val j d hj hd := h.val j d (hw j hj) hd
 old t ht := h.old t fun k hk hd => by
  have hks : k < ops.size := by
   rcases Nat.lt_or_ge k ops.size with h' | h'
   ·exact h'
   ·simp [dstOf, Array.getElem?_eq_none h'] at hd
  have := List.all_eq_true.1 ht k (List.mem_range.2 hks)
  simp only [hd, bne_self_eq_false, Bool.false_or, Bool.or_eq_true, beq_iff_eq] at this
  have hf := (getD_false_of hl).1
  rcases this with h1 | h1
  ·rw [h.down k i hk h1] at hf; cases hf
  ·subst h1; rw [hk] at hf; cases hf
theorem StandsAt.step (hR : ∀ a b c, R a b → R b c → R a c) (hV : ∀ i w w' v, R w w' → V i w v → V i w' v)
  (hd : ∀ i j d, dstOf ops i = some d → dstOf ops j = some d → i = j) (hb : ∀ i d, dstOf ops i = some d → d < a0.tmps.size)
  {l : Array Bool} {a : Act} {w w' : World} {i : Nat} {v : Value} (h : StandsAt R V ops a0 w0 l a w) (hl : l.getD i true = false)
  (hw : ∀ j, waits ops i j = true → l.getD j false = true) (hr : R w w') (hv : V i w' v) :
  StandsAt R V ops a0 w0 (l.setIfInBounds i true) (a.put (dstOf ops i) v) w' := by
 have hi := (getD_false_of hl).2
 have hset : (l.setIfInBounds i true).getD i false = true := by simp [hi]
 refine ⟨by simp [h.size], hR _ _ _ h.rel hr, ?_, ?_, ?_, ?_, ?_⟩
 ·cases hx : dstOf ops i <;> simp [Act.put, h.defers]
 ·cases hx : dstOf ops i <;> simp [Act.put, h.tmps]
 ·intro t ht
  have old := h.old t fun k hk => ht k (getD_set_true hk)
  cases hx : dstOf ops i with
  | none => exact old
  | some d =>
   rw [getD_put (by rw [h.tmps]; exact hb i d hx), if_neg (fun e => ht i hset (by rw [hx, e]))]
   exact old
 ·intro k d hk hkd
  by_cases hki : k = i
  ·subst hki
   rw [hkd, getD_put (by rw [h.tmps]; exact hb k d hkd), if_pos rfl]
   exact hv
  ·have hval := hV k w w' _ hr (h.val k d (getD_true_set hk hki) hkd)
   cases hx : dstOf ops i with
   | none => exact hval
   | some d' =>
    rw [getD_put (by rw [h.tmps]; exact hb i d' hx), if_neg (fun e => hki (hd k i d hkd (by rw [hx, e])))]
    exact hval
 ·intro k j hk hkj
  by_cases hki : k = i
  ·subst hki; exact getD_set_true (hw j hkj)
  ·exact getD_set_true (h.down k j (getD_true_set hk hki) hkj)
def leftOver (n : Nat) (l : Array Bool) : List Nat := (List.range n).filter fun i => !l.getD i true
theorem leftOver_set (n : Nat) (l : Array Bool) (i : Nat) (hi : i < n) (hl : l.getD i true = false) : (leftOver n (l.setIfInBounds i true)).length < (leftOver n l).length := by
 have e : leftOver n (l.setIfInBounds i true) = (leftOver n l).filter fun j => j != i := by
  unfold leftOver
  rw [List.filter_filter]
  refine List.filter_congr fun j _ => ?_
  by_cases hji : j = i
  ·subst hji; simp [(getD_false_of hl).2]
  ·rw [getD_set_ne true (Ne.symm hji)]; simp [hji]
 rw [e]
 refine List.length_filter_lt_length_iff_exists.2 ⟨i, ?_, by simp⟩
 exact List.mem_filter.2 ⟨List.mem_range.2 hi, by rw [hl]; rfl⟩
theorem all_listed (hac : ∀ i j, waits ops i j = true → j < i) {l : Array Bool} (hs : l.size = ops.size) (hr : Region.ready .any ops l = []) : ∀ i, i < ops.size → l.getD i false = true := by
 intro i
 induction i using Nat.strongRecOn with
 | ind i ih =>
  intro hi
  by_cases hl : l.getD i true = false
  ·have hm : i ∈ Region.ready .any ops l := mem_ready.2 ⟨hl, ops[i], by simp [hi], fun e he hb =>
    have hw : waits ops i e.on = true := (waits_iff i e.on).2 ⟨ops[i], by simp [hi], e, he, hb, rfl⟩
    ih e.on (hac i e.on hw) (Nat.lt_trans (hac i e.on hw) hi)⟩
   rw [hr] at hm; cases hm
  ·have hl' : i < l.size := by omega
   simp [Array.getD, hl'] at hl ⊢; exact hl
def putAll : Act → List (Option Tmp) → List Value → Act
 | a, d :: ds, v :: vs => putAll (a.put d v) ds vs
 | a, _, _ => a
theorem act_ext {a b : Act} (h1 : a.defers = b.defers) (h2 : a.tmps.size = b.tmps.size) (h3 : ∀ t, a.tmps.getD t undef = b.tmps.getD t undef) : a = b := by
 cases a; cases b
 simp only [Act.mk.injEq] at *
 refine ⟨Array.ext h2 fun i hi hj => ?_, h1⟩
 have := h3 i
 simpa [Array.getD, hi, hj] using this
def slotOf (a : Act) : Option Tmp → Value
 | some d => a.tmps.getD d undef
 | none => undef
theorem putAll_of (a1 : Act) : ∀ (ds : List (Option Tmp)) (a : Act), a1.defers = a.defers → a1.tmps.size = a.tmps.size → (∀ d, some d ∈ ds → d < a.tmps.size) →
  (∀ t, some t ∉ ds → a1.tmps.getD t undef = a.tmps.getD t undef) → a1 = putAll a ds (ds.map (slotOf a1))
 | [], a, h1, h2, _, h4 => act_ext h1 h2 fun t => h4 t (by simp)
 | none :: ds, a, h1, h2, h3, h4 => putAll_of a1 ds a h1 h2 (fun d hd => h3 d (List.mem_cons_of_mem _ hd)) fun t ht => h4 t (by simp [ht])
 | some d :: ds, a, h1, h2, h3, h4 => by
  have hda := h3 d (by simp)
  refine putAll_of a1 ds (a.put (some d) (slotOf a1 (some d))) (by simpa [Act.put] using h1) (by simpa [Act.put] using h2) (fun x hx => by simpa [Act.put] using h3 x (List.mem_cons_of_mem _ hx)) fun t ht => ?_
  rw [getD_put hda]
  by_cases e : t = d
  ·subst e; rw [if_pos rfl]; rfl
  ·rw [if_neg e]; exact h4 t (by simp [e, ht])
def Each (p : Nat → Oper → Prop) : Nat → List Oper → Prop
 | _, [] => True
 | n, o :: l => p n o ∧ Each p (n + 1) l
theorem each_at {p : Nat → Oper → Prop} (l : List Oper) : ∀ (n : Nat), Each p n l → ∀ (i : Nat) (o : Oper), l[i]? = some o → p (n + i) o := by
 induction l with
 | nil => intro n h i o ho; simp at ho
 | cons o' l ih =>
  intro n h i o ho
  cases i with
  | zero =>
   have e : o' = o := by simpa using ho
   rw [← e]; exact h.1
  | succ i =>
   have h1 := ih (n + 1) h.2 i o (by simpa using ho)
   rw [show n + (i + 1) = n + 1 + i by omega]; exact h1
theorem each_of {p : Nat → Oper → Prop} {ops : Array Oper} (h : Each p 0 ops.toList) (i : Nat) (o : Oper) (ho : ops[i]? = some o) : p i o := by
 have := each_at ops.toList 0 h i o (by rw [Array.getElem?_toList]; exact ho)
 rwa [Nat.zero_add] at this
end
end Go.Proofs.YtemkjodkmehffaaGreatDoor
