/-
  Inv, InvG: texts of mine, joined.
-/
import Derived.Orders
import Derived.Below
import Derived.Test.YtemkjodkmehffaaGreatDoorWords
namespace Go.Proofs.YtemkjodkmehffaaGreatDoor
open Go Go.RowKit
section
variable {P : Program} {ops : Array Oper} {Q : Exit → Act → World → Prop} {R : World → World → Prop} {V : Nat → World → Value → Prop} {a0 : Act} {w0 : World}
def dstOf (ops : Array Oper) (i : Nat) : Option Tmp := (ops[i]?).bind (·.dst)
def waits (ops : Array Oper) (i j : Nat) : Bool := ((ops[i]?).map fun o => o.after.any fun e => Region.binds .any e && e.on == j).getD false
theorem waits_iff (i j : Nat) : waits ops i j = true ↔ ∃ o, ops[i]? = some o ∧ ∃ e ∈ o.after, Region.binds .any e = true ∧ e.on = j := by
 unfold waits
 cases h : ops[i]? with
 | none => simp
 | some o =>
  simp only [Option.map_some, Option.getD_some, Option.some.injEq, exists_eq_left', Array.any_eq_true, Bool.and_eq_true, beq_iff_eq]
  constructor
  ·rintro ⟨k, hk, hb, he⟩; exact ⟨o.after[k], Array.getElem_mem hk, hb, he⟩
  ·rintro ⟨e, he, hb, hx⟩
   obtain ⟨k, hk, rfl⟩ := Array.mem_iff_getElem.1 he
   exact ⟨k, hk, hb, hx⟩
structure StandsAt (R : World → World → Prop) (V : Nat → World → Value → Prop) (ops : Array Oper) (a0 : Act) (w0 : World) (l : Array Bool) (a : Act) (w : World) : Prop where
 size : l.size = ops.size
 rel : R w0 w
 defers : a.defers = a0.defers
 tmps : a.tmps.size = a0.tmps.size
 old : ∀ t, (∀ i, l.getD i false = true → dstOf ops i ≠ some t) → a.tmps.getD t undef = a0.tmps.getD t undef
 val : ∀ i d, l.getD i false = true → dstOf ops i = some d → V i w (a.tmps.getD d undef)
 down : ∀ i j, l.getD i false = true → waits ops i j = true → l.getD j false = true
structure Leans (R : World → World → Prop) (V : Nat → World → Value → Prop) (ops : Array Oper) (a0 : Act) (w0 : World) (i : Nat) (a : Act) (w : World) : Prop where
 rel : R w0 w
 val : ∀ j d, waits ops i j = true → dstOf ops j = some d → V j w (a.eval (.tmp d))
 old : ∀ t, ((List.range ops.size).all fun k => dstOf ops k != some t || waits ops k i || k == i) = true → a.eval (.tmp t) = a0.eval (.tmp t)
theorem getD_true_set {l : Array Bool} {i j : Nat} (h : (l.setIfInBounds i true).getD j false = true) (hne : j ≠ i) : l.getD j false = true := by
 rw [getD_set_ne false (Ne.symm hne)] at h; exact h
theorem getD_false_of {l : Array Bool} {i : Nat} (h : l.getD i true = false) : l.getD i false = false ∧ i < l.size := by
 rcases Nat.lt_or_ge i l.size with hl | hl
 ·refine ⟨?_, hl⟩
  simp [Array.getD, hl] at h ⊢; exact h
 ·simp [Array.getD, Nat.not_lt.mpr hl] at h
theorem getD_put {a : Act} {d : Tmp} {v : Value} {t : Nat} (hd : d < a.tmps.size) : (a.put (some d) v).tmps.getD t undef = if t = d then v else a.tmps.getD t undef := by
 simp only [Act.put]
 by_cases h : t = d
 ·subst h; simp [hd]
 ·rw [if_neg h]; simp [Array.getElem?_setIfInBounds_ne (Ne.symm h)]
theorem StandsAt.leans {l : Array Bool} {a : Act} {w : World} {i : Nat} (h : StandsAt R V ops a0 w0 l a w) (hl : l.getD i true = false)
  (hw : ∀ j, waits ops i j = true → l.getD j false = true) : Leans R V ops a0 w0 i a w where
 rel := h.rel
 val j d hj hd := h.val j d (hw j hj) hd
 old t ht := h.old t fun k hk hd => by
  have hks : k < ops.size := by
   rcases Nat.lt_or_ge k ops.size with h' | h'
   ·exact h'
   ·simp [dstOf, Array.getElem?_eq_none h'] at hd
  have := List.all_eq_true.1 ht k (List.mem_range.2 hks)
  simp only [hd, bne_self_eq_false, Bool.false_or, Bool.or_eq_true, beq_iff_eq] at this
  have hf := (getD_false_of hl).1
  rcases this with h1 | h1
  ·rw [h.down k i hk h1] at hf; cases hf
  ·subst h1; rw [hk] at hf; cases hf
theorem StandsAt.step (hR : ∀ a b c, R a b → R b c → R a c) (hV : ∀ i w w' v, R w w' → V i w v → V i w' v)
  (hd : ∀ i j d, dstOf ops i = some d → dstOf ops j = some d → i = j) (hb : ∀ i d, dstOf ops i = some d → d < a0.tmps.size)
  {l : Array Bool} {a : Act} {w w' : World} {i : Nat} {v : Value} (h : StandsAt R V ops a0 w0 l a w) (hl : l.getD i true = false)
  (hw : ∀ j, waits ops i j = true → l.getD j false = true) (hr : R w w') (hv : V i w' v) :
  StandsAt R V ops a0 w0 (l.setIfInBounds i true) (a.put (dstOf ops i) v) w' := by
 have hi := (getD_false_of hl).2
 have hset : (l.setIfInBounds i true).getD i false = true := by simp [hi]
 refine ⟨by simp [h.size], hR _ _ _ h.rel hr, ?_, ?_, ?_, ?_, ?_⟩
 ·cases hx : dstOf ops i <;> simp [Act.put, h.defers]
 ·cases hx : dstOf ops i <;> simp [Act.put, h.tmps]
 ·intro t ht
  have old := h.old t fun k hk => ht k (getD_set_true hk)
  cases hx : dstOf ops i with
  | none => exact old
  | some d =>
   rw [getD_put (by rw [h.tmps]; exact hb i d hx), if_neg (fun e => ht i hset (by rw [hx, e]))]
   exact old
 ·intro k d hk hkd
  by_cases hki : k = i
  ·subst hki
   rw [hkd, getD_put (by rw [h.tmps]; exact hb k d hkd), if_pos rfl]
   exact hv
  ·have hval := hV k w w' _ hr (h.val k d (getD_true_set hk hki) hkd)
   cases hx : dstOf ops i with
   | none => exact hval
   | some d' =>
    rw [getD_put (by rw [h.tmps]; exact hb i d' hx), if_neg (fun e => hki (hd k i d hkd (by rw [hx, e])))]
    exact hval
 ·intro k j hk hkj
  by_cases hki : k = i
  ·subst hki; exact getD_set_true (hw j hkj)
  ·exact getD_set_true (h.down k j (getD_true_set hk hki) hkj)
def leftOver (n : Nat) (l : Array Bool) : List Nat := (List.range n).filter fun i => !l.getD i true
theorem leftOver_set (n : Nat) (l : Array Bool) (i : Nat) (hi : i < n) (hl : l.getD i true = false) : (leftOver n (l.setIfInBounds i true)).length < (leftOver n l).length := by
 have e : leftOver n (l.setIfInBounds i true) = (leftOver n l).filter fun j => j != i := by
  unfold leftOver
  rw [List.filter_filter]
  refine List.filter_congr fun j _ => ?_
  by_cases hji : j = i
  ·subst hji; simp [(getD_false_of hl).2]
  ·rw [getD_set_ne true (Ne.symm hji)]; simp [hji]
 rw [e]
 refine List.length_filter_lt_length_iff_exists.2 ⟨i, ?_, by simp⟩
 exact List.mem_filter.2 ⟨List.mem_range.2 hi, by rw [hl]; rfl⟩
theorem all_listed (hac : ∀ i j, waits ops i j = true → j < i) {l : Array Bool} (hs : l.size = ops.size) (hr : Region.ready .any ops l = []) : ∀ i, i < ops.size → l.getD i false = true := by
 intro i
 induction i using Nat.strongRecOn with
 | ind i ih =>
  intro hi
  by_cases hl : l.getD i true = false
  ·have hm : i ∈ Region.ready .any ops l := mem_ready.2 ⟨hl, ops[i], by simp [hi], fun e he hb =>
    have hw : waits ops i e.on = true := (waits_iff i e.on).2 ⟨ops[i], by simp [hi], e, he, hb, rfl⟩
    ih e.on (hac i e.on hw) (Nat.lt_trans (hac i e.on hw) hi)⟩
   rw [hr] at hm; cases hm
  ·have hl' : i < l.size := by omega
   simp [Array.getD, hl'] at hl ⊢; exact hl
def putAll : Act → List (Option Tmp) → List Value → Act
 | a, d :: ds, v :: vs => putAll (a.put d v) ds vs
 | a, _, _ => a
theorem act_ext {a b : Act} (h1 : a.defers = b.defers) (h2 : a.tmps.size = b.tmps.size) (h3 : ∀ t, a.tmps.getD t undef = b.tmps.getD t undef) : a = b := by
 cases a; cases b
 simp only [Act.mk.injEq] at *
 refine ⟨Array.ext h2 fun i hi hj => ?_, h1⟩
 have := h3 i
 simpa [Array.getD, hi, hj] using this
def slotOf (a : Act) : Option Tmp → Value
 | some d => a.tmps.getD d undef
 | none => undef
theorem putAll_of (a1 : Act) : ∀ (ds : List (Option Tmp)) (a : Act), a1.defers = a.defers → a1.tmps.size = a.tmps.size → (∀ d, some d ∈ ds → d < a.tmps.size) →
  (∀ t, some t ∉ ds → a1.tmps.getD t undef = a.tmps.getD t undef) → a1 = putAll a ds (ds.map (slotOf a1))
 | [], a, h1, h2, _, h4 => act_ext h1 h2 fun t => h4 t (by simp)
 | none :: ds, a, h1, h2, h3, h4 => putAll_of a1 ds a h1 h2 (fun d hd => h3 d (List.mem_cons_of_mem _ hd)) fun t ht => h4 t (by simp [ht])
 | some d :: ds, a, h1, h2, h3, h4 => by
  have hda := h3 d (by simp)
  refine putAll_of a1 ds (a.put (some d) (slotOf a1 (some d))) (by simpa [Act.put] using h1) (by simpa [Act.put] using h2) (fun x hx => by simpa [Act.put] using h3 x (List.mem_cons_of_mem _ hx)) fun t ht => ?_
  rw [getD_put hda]
  by_cases e : t = d
  ·subst e; rw [if_pos rfl]; rfl
  ·rw [if_neg e]; exact h4 t (by simp [e, ht])
def Each (p : Nat → Oper → Prop) : Nat → List Oper → Prop
 | _, [] => True
 | n, o :: l => p n o ∧ Each p (n + 1) l
theorem each_at {p : Nat → Oper → Prop} (l : List Oper) : ∀ (n : Nat), Each p n l → ∀ (i : Nat) (o : Oper), l[i]? = some o → p (n + i) o := by
 induction l with
 | nil => intro n h i o ho; simp at ho
 | cons o' l ih =>
  intro n h i o ho
  cases i with
  | zero =>
   have e : o' = o := by simpa using ho
   rw [← e]; exact h.1
  | succ i =>
   have h1 := ih (n + 1) h.2 i o (by simpa using ho)
   rw [show n + (i + 1) = n + 1 + i by omega]; exact h1
theorem each_of {p : Nat → Oper → Prop} {ops : Array Oper} (h : Each p 0 ops.toList) (i : Nat) (o : Oper) (ho : ops[i]? = some o) : p i o := by
 have := each_at ops.toList 0 h i o (by rw [Array.getElem?_toList]; exact ho)
 rwa [Nat.zero_add] at this
end
def IsV (x : Value) : World → Value → Prop := fun _ v => v = x
def wantsG (G : Nat → Option Bool) (o : Oper) : Bool := match o.guard with | none => true | some (g, b) => G g == some b
def fitsG (G : Nat → Option Bool) (ops : Array Oper) (n : Nat) : Bool :=
 (List.range ops.size).all fun i => (ops[i]?).all fun o => (match o.guard with | none => true | some (g, _) => waits ops i g && (dstOf ops g).isSome && ((G g).isSome || (ops[g]?).any fun o' => !wantsG G o')) && (o.after.all fun e => !Region.binds .any e || decide (e.on < i)) && (o.dst.all fun d => decide (d < n)) &&
  (List.range ops.size).all fun j => i == j || o.dst.isNone || dstOf ops j != o.dst
section
variable {P : Program} {ops : Array Oper} {Q : Exit → Act → World → Prop} {R : World → World → Prop} {V : Nat → World → Value → Prop} {a0 : Act} {w0 : World} {G : Nat → Option Bool}
theorem wanted_is {i : Nat} {o : Oper} {a : Act} {w : World} (L : Leans R V ops a0 w0 i a w) (hts : ∀ i d, dstOf ops i = some d → d < a.tmps.size)
  (hg : ∀ g b, o.guard = some (g, b) → waits ops i g = true ∧ (dstOf ops g).isSome = true ∧ ((G g).isSome = true ∨ ∃ o', ops[g]? = some o' ∧ wantsG G o' = false)) (hG : ∀ g c, G g = some c → ∀ w v, V g w v → v = .bool c)
  (hU : ∀ (i : Nat) (o : Oper), ops[i]? = some o → wantsG G o = false → V i = IsV undef) : Region.wanted o (yielded ops a.tmps) = wantsG G o := by
 unfold Region.wanted wantsG
 cases ho : o.guard with
 | none => rfl
 | some gb =>
  obtain ⟨g, b⟩ := gb
  obtain ⟨h1, h2, h3⟩ := hg g b ho
  obtain ⟨d, hd⟩ := Option.isSome_iff_exists.1 h2
  have hlt := hts g d hd
  have hd' : (ops[g]?).bind (·.dst) = some d := hd
  have hy : yielded ops a.tmps g = G g := by
   unfold yielded
   rw [hd']
   simp only [Option.bind_some]
   cases hc : G g with
   | some c =>
    have hv' : a.tmps.getD d undef = .bool c := hG g c hc w _ (L.val g d h1 hd)
    have e : a.tmps[d]? = some (.bool c) := by
     simp only [Array.getD, hlt, dif_pos] at hv'
     rw [Array.getElem?_eq_getElem hlt]
     exact congrArg some hv'
    rw [e]
   | none =>
    rcases h3 with h3 | ⟨o', ho', hw'⟩
    ·rw [hc] at h3; cases h3
    ·have hv := L.val g d h1 hd
     rw [hU g o' ho' hw'] at hv
     have hv' : a.tmps.getD d undef = undef := hv
     have e : a.tmps[d]? = some undef := by
      simp only [Array.getD, hlt, dif_pos] at hv'
      rw [Array.getElem?_eq_getElem hlt]
      exact congrArg some hv'
     rw [e]; rfl
  show (yielded ops a.tmps g == some b) = (G g == some b)
  rw [hy]
theorem wpAny_invG (hRr : ∀ w, R w w) (hR : ∀ a b c, R a b → R b c → R a c) (hV : ∀ i w w' v, R w w' → V i w v → V i w' v)
  (hd : ∀ i j d, dstOf ops i = some d → dstOf ops j = some d → i = j) (hb : ∀ i d, dstOf ops i = some d → d < a0.tmps.size)
  (hg : ∀ (i : Nat) (o : Oper), ops[i]? = some o → ∀ g b, o.guard = some (g, b) → waits ops i g = true ∧ (dstOf ops g).isSome = true ∧ ((G g).isSome = true ∨ ∃ o', ops[g]? = some o' ∧ wantsG G o' = false)) (hG : ∀ g c, G g = some c → ∀ w v, V g w v → v = .bool c)
  (hU : ∀ (i : Nat) (o : Oper), ops[i]? = some o → wantsG G o = false → V i = IsV undef) (hac : ∀ i j, waits ops i j = true → j < i)
  (loc : ∀ (i : Nat) (o : Oper), ops[i]? = some o → wantsG G o = true → ∀ a w, Leans R V ops a0 w0 i a w → o.wp P a w (fun a' w' => ∃ v, a' = a.put o.dst v ∧ R w w' ∧ V i w' v) Q)
  (done : ∀ l a w, (∀ i, i < ops.size → l.getD i false = true) → StandsAt R V ops a0 w0 l a w → Q .normal a w) :
  ∀ (fuel : Nat) (l : Array Bool) (a : Act) (w : World), (leftOver ops.size l).length ≤ fuel → StandsAt R V ops a0 w0 l a w → wpAny P .any ops Q fuel l a w := by
 intro fuel
 induction fuel with
 | zero =>
  intro l a w hf h
  have hn : leftOver ops.size l = [] := List.eq_nil_of_length_eq_zero (by omega)
  have hnot : ∀ i, i < ops.size → l.getD i false = true := fun i hi => by
   have hm : i ∉ leftOver ops.size l := by rw [hn]; simp
   have hl' : i < l.size := by rw [h.size]; exact hi
   unfold leftOver at hm
   simp only [List.mem_filter, List.mem_range, hi, true_and, Array.getD, hl'] at hm ⊢
   simpa using hm
  refine ⟨?_, done l a w hnot h⟩
  refine List.eq_nil_iff_forall_not_mem.2 fun i hi => ?_
  have hm := (mem_ready.1 hi).1
  have hx := getD_false_of hm
  rw [hnot i (by rw [← h.size]; exact hx.2)] at hx
  exact absurd hx.1 (by simp)
 | succ fuel ih =>
  intro l a w hf h
  refine ⟨fun hr => done l a w (all_listed hac h.size hr) h, fun i hi => ?_⟩
  obtain ⟨hl, o, ho, hall⟩ := mem_ready.1 hi
  have hw : ∀ j, waits ops i j = true → l.getD j false = true := fun j hj => by
   obtain ⟨o', ho', e, he, hb', rfl⟩ := (waits_iff i j).1 hj
   rw [ho] at ho'; cases ho'
   exact hall e he hb'
  have hdst : o.dst = dstOf ops i := by simp [dstOf, ho]
  have hleft : (leftOver ops.size (l.setIfInBounds i true)).length ≤ fuel := by
   have := leftOver_set ops.size l i (by rw [← h.size]; exact (getD_false_of hl).2) hl
   omega
  have hwant := wanted_is (h.leans hl hw) (fun j d hj => by rw [h.tmps]; exact hb j d hj) (hg i o ho) hG hU
  unfold wpOp
  cases hwo : wantsG G o
  ·rw [hwo] at hwant
   simp only [ho, hwant, Bool.false_eq_true, if_false]
   rw [hdst]
   exact ih _ _ _ hleft (h.step hR hV hd hb hl hw (hRr w) (by rw [hU i o ho hwo]; rfl))
  ·rw [hwo] at hwant
   simp only [ho, hwant, if_true]
   refine .inl (Oper.wp_mono (fun a' w' hk => ?_) (loc i o ho hwo a w (h.leans hl hw)))
   obtain ⟨v, rfl, hr, hv⟩ := hk
   rw [hdst]
   exact ih _ _ _ hleft (h.step hR hV hd hb hl hw hr hv)
theorem wp_region_guard {id : Nat} {w : World} (G : Nat → Option Bool) (hm : P.follows .mixedOrders = true) (hRr : ∀ w, R w w) (hR : ∀ a b c, R a b → R b c → R a c) (hV : ∀ i w w' v, R w w' → V i w v → V i w' v)
  (hfit : fitsG G ops a0.tmps.size = true) (hG : ∀ g c, G g = some c → ∀ w v, V g w v → v = .bool c) (hU : ∀ (i : Nat) (o : Oper), ops[i]? = some o → wantsG G o = false → V i = IsV undef) (hw : R w0 w.drew)
  (loc : ∀ (i : Nat) (o : Oper), ops[i]? = some o → wantsG G o = true → ∀ a w, Leans R V ops a0 w0 i a w → o.wp P a w (fun a' w' => ∃ v, a' = a.put o.dst v ∧ R w w' ∧ V i w' v) Q)
  (done : ∀ vs w, R w0 w → vs.length = ops.size → (∀ i d, dstOf ops i = some d → V i w (vs.getD i undef)) → Q .normal (putAll a0 (ops.toList.map (·.dst)) vs) w) :
  (Code.region id ops true).wp P Q a0 w := by
 have look : ∀ (i : Nat) (o : Oper), ops[i]? = some o → (∀ g b, o.guard = some (g, b) → waits ops i g = true ∧ (dstOf ops g).isSome = true ∧ ((G g).isSome = true ∨ ∃ o', ops[g]? = some o' ∧ wantsG G o' = false)) ∧ (∀ e ∈ o.after, Region.binds .any e = true → e.on < i) ∧ (∀ d, o.dst = some d → d < a0.tmps.size) ∧ (∀ j, i ≠ j → ∀ d, o.dst = some d → dstOf ops j ≠ some d) := by
  intro i o ho
  have hi : i < ops.size := (Array.getElem?_eq_some_iff.1 ho).1
  have h := List.all_eq_true.1 hfit i (List.mem_range.2 hi)
  simp only [ho, Option.all_some, Bool.and_eq_true] at h
  obtain ⟨⟨⟨h1, h2⟩, h3⟩, h4⟩ := h
  refine ⟨fun g b hgb => ?_, fun e he hb => ?_, fun d hd => ?_, fun j hj d hd hx => ?_⟩
  ·rw [hgb] at h1
   simp only [Bool.and_eq_true, Bool.or_eq_true] at h1
   refine ⟨h1.1.1, h1.1.2, h1.2.imp (fun hx => hx) fun hx => ?_⟩
   cases ho' : ops[g]? with
   | none => rw [ho'] at hx; cases hx
   | some o' =>
    rw [ho'] at hx
    exact ⟨o', rfl, by simpa using hx⟩
  ·have := Array.all_eq_true_iff_forall_mem.1 h2 e he
   simpa [hb] using this
  ·rw [hd] at h3; simpa using h3
  ·have hjs : j < ops.size := by
    rcases Nat.lt_or_ge j ops.size with h' | h'
    ·exact h'
    ·simp [dstOf, Array.getElem?_eq_none h'] at hx
   have := List.all_eq_true.1 h4 j (List.mem_range.2 hjs)
   rw [hd, hx] at this
   simp [hj] at this
 have some_of : ∀ i d, dstOf ops i = some d → ∃ o, ops[i]? = some o ∧ o.dst = some d := fun i d h => by
  unfold dstOf at h
  cases ho : ops[i]? with
  | none => simp [ho] at h
  | some o => exact ⟨o, rfl, by simpa [ho] using h⟩
 refine wp_region_any hm ?_
 refine wpAny_invG (R := R) (V := V) (a0 := a0) (w0 := w0) (G := G) hRr hR hV ?_ ?_ (fun i o ho => (look i o ho).1) hG hU ?_ loc ?_ ops.size _ a0 _ ?_ ?_
 ·intro i j d hi hj
  obtain ⟨o, ho, hd⟩ := some_of i d hi
  exact Classical.byContradiction fun hne => (look i o ho).2.2.2 j hne d hd hj
 ·intro i d hi
  obtain ⟨o, ho, hd⟩ := some_of i d hi
  exact (look i o ho).2.2.1 d hd
 ·intro i j h
  obtain ⟨o, ho, e, he, hb, rfl⟩ := (waits_iff i j).1 h
  exact (look i o ho).2.1 e he hb
 ·intro l a w' hall h
  have hlen : ((ops.toList.map (·.dst)).map (slotOf a)).length = ops.size := by simp
  have hq := done ((ops.toList.map (·.dst)).map (slotOf a)) w' h.rel hlen (fun i d hid => by
   obtain ⟨o, ho, hd⟩ := some_of i d hid
   have hi : i < ops.size := (Array.getElem?_eq_some_iff.1 ho).1
   have hv := h.val i d (hall i hi) hid
   have e : ((ops.toList.map (·.dst)).map (slotOf a)).getD i undef = a.tmps.getD d undef := by
    rw [List.getD_eq_getElem?_getD, List.getElem?_map, List.getElem?_map, Array.getElem?_toList, ho]
    simp [hd, slotOf]
   rw [e]; exact hv)
  rw [← putAll_of a _ a0 h.defers h.tmps ?_ ?_] at hq
  ·exact hq
  ·intro d hd
   obtain ⟨o, ho, hod⟩ := List.mem_map.1 hd
   obtain ⟨i, hi, rfl⟩ := List.getElem_of_mem ho
   exact (look i ops[i] (by simp at hi; simp [hi])).2.2.1 d (by simpa using hod)
  ·intro t ht
   refine h.old t fun i _ hid => ht ?_
   obtain ⟨o, ho, hd⟩ := some_of i t hid
   refine List.mem_map.2 ⟨o, ?_, hd⟩
   rw [← Array.mem_def]
   exact Array.mem_of_getElem? ho
 ·refine Nat.le_trans (List.length_filter_le _ _) ?_
  simp
 ·refine ⟨by simp, hw, rfl, rfl, fun _ _ => rfl, ?_, ?_⟩
  ·intro i d h; exact absurd h (by simp [Array.getD])
  ·intro i j h; exact absurd h (by simp [Array.getD])
end
theorem all_wanted {ops : Array Oper} {G : Nat → Option Bool} (h : ((List.range ops.size).all fun i => (ops[i]?).all fun o => wantsG G o) = true) {i : Nat} {o : Oper} (ho : ops[i]? = some o) (hw : wantsG G o = false) : False := by
 have hi : i < ops.size := (Array.getElem?_eq_some_iff.1 ho).1
 have := List.all_eq_true.1 h i (List.mem_range.2 hi)
 rw [ho] at this
 simp only [Option.all_some, hw] at this
 cases this
abbrev Kp (w w' : World) : Prop := Keeps (fun _ => True) w w'
def TextV (l : List UInt8) : World → Value → Prop := fun w v => ∃ A c, v = .slice A l.length c ∧ Row w A (fun _ => True) (bcells l)
theorem TextV.mono {l : List UInt8} {w w' : World} {v : Value} (h : Kp w w') (hv : TextV l w v) : TextV l w' v := by
 obtain ⟨A, c, e, hr⟩ := hv
 exact ⟨A, c, e, hr.keep h⟩
section
variable {P : Program} {o : Oper} {a : Act} {w : World} {Q : Exit → Act → World → Prop} {x y z : Operand}
theorem kp_yield {V : World → Value → Prop} {v : Value} {w' : World} (e : (execOp a.eval o).run P w = .ok (.value v) w') (hw : Kp w w') (hv : V w' v) : o.wp P a w (fun a' w' => ∃ v, a' = a.put o.dst v ∧ Kp w w' ∧ V w' v) Q := by
 unfold Oper.wp
 rw [e]
 exact ⟨v, rfl, hw, hv⟩
theorem kp_enter {V : World → Value → Prop} {f : FuncId} {args : Array Value} {C : Ending → World → Prop} (e : (execOp a.eval o).run P w = .ok (.enter f args) w) (hc : Calls P f args w C)
  (hC : ∀ e w', C e w' → ∃ v, e = .returned v ∧ Kp w w' ∧ V w' v) : o.wp P a w (fun a' w' => ∃ v, a' = a.put o.dst v ∧ Kp w w' ∧ V w' v) Q := by
 unfold Oper.wp
 rw [e]
 refine hc.mono fun e w' h => ?_
 obtain ⟨v, rfl, hw, hv⟩ := hC e w' h
 exact ⟨v, rfl, hw, hv⟩
theorem kp_move {v : Value} (ho : o.op = .move x) (hx : a.eval x = v) : o.wp P a w (fun a' w' => ∃ v', a' = a.put o.dst v' ∧ Kp w w' ∧ IsV v w' v') Q := by
 unfold Oper.wp execOp
 rw [ho]
 exact ⟨a.eval x, rfl, Keeps.refl _ _, hx⟩
theorem kp_assign {v : Value} (ho : o.op = .assign x) (hx : a.eval x = v) : o.wp P a w (fun a' w' => ∃ v', a' = a.put o.dst v' ∧ Kp w w' ∧ IsV v w' v') Q := by
 unfold Oper.wp execOp
 rw [ho]
 exact ⟨a.eval x, rfl, Keeps.refl _ _, hx⟩
theorem kp_pick {b : Bool} {v : Value} (ho : o.op = .pick x y z) (hx : a.eval x = .bool b) (hv : (if b then a.eval y else a.eval z) = v) : o.wp P a w (fun a' w' => ∃ v', a' = a.put o.dst v' ∧ Kp w w' ∧ IsV v w' v') Q := by
 refine kp_yield (v := v) (w' := w) ?_ (Keeps.refl _ _) rfl
 unfold execOp
 rw [ho]
 cases b <;> simp_all [asBool]
end
end Go.Proofs.YtemkjodkmehffaaGreatDoor
