/-
  InvSlot, FlMath, FlRep, InvPast: texts of mine, joined.
-/
import Derived.Test.YticophaepapjoaaGreatDoorAllB02
import Derived.Test.YticophaepapjoaaGreatDoorAllB10
import Derived.Test.YticophaepapjoaaGreatDoorAllB06
import Derived.Test.YticophaepapjoaaGreatDoorAllB16
import Derived.Lib.SmallJoins
namespace Go.Proofs.YticophaepapjoaaGreatDoor
open Go Go.RowKit
section
variable {P : Program} {ops : Array Oper} {Q : Exit → Act → World → Prop} {V : Nat → World → Value → Prop} {a0 : Act} {w0 : World}
theorem slotOf_put {a : Act} {v : Value} (hd : ∀ i j d, dstOf ops i = some d → dstOf ops j = some d → i = j) (hb : ∀ i d, dstOf ops i = some d → d < a.tmps.size) {i A : Nat} (hA : ∃ d, dstOf ops A = some d) (hne : i ≠ A) :
  slotOf (a.put (dstOf ops i) v) (dstOf ops A) = slotOf a (dstOf ops A) := by
 obtain ⟨d, hd'⟩ := hA
 rw [hd']
 cases hx : dstOf ops i with
 | none => rfl
 | some d' =>
  show (a.put (some d') v).tmps.getD d undef = a.tmps.getD d undef
  rw [getD_put (hb i d' hx), if_neg (fun h => hne (hd i A d (by rw [hx, h]) hd'))]
theorem wp_region_slot {id : Nat} {w : World} (k A : Nat) (St : Bool → Value → World → Prop) (Rk : World → World → Prop) (G : Nat → Option Bool) (hm : P.follows .mixedOrders = true)
  (hV : ∀ i w w' v, Kp w w' → V i w v → V i w' v) (hS : ∀ b u w w', Kp w w' → St b u w → St b u w') (hF : ∀ u u' w, St false u w → St false u' w) (hA : ∃ d, dstOf ops A = some d) (hkA : waits ops k A = true) (hAk : A ≠ k) (hVk : ∀ i, i ≠ k → ∀ w w' v, Rk w w' → V i w v → V i w' v)
  (hfit : fitsG G ops a0.tmps.size = true) (hk : k < ops.size) (hG : ∀ g c, G g = some c → ∀ w v, V g w v → v = .bool c) (hU : ∀ (i : Nat) (o : Oper), ops[i]? = some o → wantsG G o = false → i ≠ k ∧ V i = IsV undef) (hw : ∀ u, St false u w.drew)
  (loc : ∀ (i : Nat) (o : Oper), ops[i]? = some o → wantsG G o = true → ∀ a w, Leans (fun _ _ => True) V ops a0 w0 i a w →
   if i = k then (St false (slotOf a (dstOf ops A)) w → o.wp P a w (fun a' w' => ∃ v, a' = a.put o.dst v ∧ Rk w w' ∧ St true (slotOf a (dstOf ops A)) w' ∧ V i w' v) Q)
   else (∀ b, St b (slotOf a (dstOf ops A)) w → (∀ js, chained ops k i js = true → b = true) → o.wp P a w (fun a' w' => ∃ v, a' = a.put o.dst v ∧ Kp w w' ∧ V i w' v) Q))
  (done : ∀ vs w, St true (vs.getD A undef) w → vs.length = ops.size → (∀ i d, dstOf ops i = some d → V i w (vs.getD i undef)) → Q .normal (putAll a0 (ops.toList.map (·.dst)) vs) w) :
  (Code.region id ops true).wp P Q a0 w := by
 have look : ∀ (i : Nat) (o : Oper), ops[i]? = some o → (∀ g b, o.guard = some (g, b) → waits ops i g = true ∧ (dstOf ops g).isSome = true ∧ ((G g).isSome = true ∨ ∃ o', ops[g]? = some o' ∧ wantsG G o' = false)) ∧ (∀ e ∈ o.after, Region.binds .any e = true → e.on < i) ∧ (∀ d, o.dst = some d → d < a0.tmps.size) ∧ (∀ j, i ≠ j → ∀ d, o.dst = some d → dstOf ops j ≠ some d) := by
  intro i o ho
  have hi : i < ops.size := (Array.getElem?_eq_some_iff.1 ho).1
  have h := List.all_eq_true.1 hfit i (List.mem_range.2 hi)
  simp only [ho, Option.all_some, Bool.and_eq_true] at h
  obtain ⟨⟨⟨h1, h2⟩, h3⟩, h4⟩ := h
  refine ⟨fun g b hgb => ?_, fun e he hb => ?_, fun d hd => ?_, fun j hj d hd hx => ?_⟩
  ·rw [hgb] at h1
   simp only [Bool.and_eq_true, Bool.or_eq_true] at h1
   refine ⟨h1.1.1, h1.1.2, h1.2.imp (fun hx => hx) fun hx => ?_⟩
   cases ho' : ops[g]? with
   | none => rw [ho'] at hx; cases hx
   | some o' =>
    rw [ho'] at hx
    exact ⟨o', rfl, by simpa using hx⟩
  ·have := Array.all_eq_true_iff_forall_mem.1 h2 e he
   simpa [hb] using this
  ·rw [hd] at h3; simpa using h3
  ·have hjs : j < ops.size := by
    rcases Nat.lt_or_ge j ops.size with h' | h'
    ·exact h'
    ·simp [dstOf, Array.getElem?_eq_none h'] at hx
   have := List.all_eq_true.1 h4 j (List.mem_range.2 hjs)
   rw [hd, hx] at this
   simp [hj] at this
 have some_of : ∀ i d, dstOf ops i = some d → ∃ o, ops[i]? = some o ∧ o.dst = some d := fun i d h => by
  unfold dstOf at h
  cases ho : ops[i]? with
  | none => simp [ho] at h
  | some o => exact ⟨o, rfl, by simpa [ho] using h⟩
 have hd : ∀ i j d, dstOf ops i = some d → dstOf ops j = some d → i = j := by
  intro i j d hi hj
  obtain ⟨o, ho, hd⟩ := some_of i d hi
  exact Classical.byContradiction fun hne => (look i o ho).2.2.2 j hne d hd hj
 have hb : ∀ i d, dstOf ops i = some d → d < a0.tmps.size := by
  intro i d hi
  obtain ⟨o, ho, hd⟩ := some_of i d hi
  exact (look i o ho).2.2.1 d hd
 have hac : ∀ i j, waits ops i j = true → j < i := by
  intro i j h
  obtain ⟨o, ho, e, he, hb, rfl⟩ := (waits_iff i j).1 h
  exact (look i o ho).2.1 e he hb
 have fin : ∀ (l : Array Bool) (a : Act) (w' : World), (∀ i, i < ops.size → l.getD i false = true) → StandsAt (fun _ _ => True) V ops a0 w0 l a w' → St (l.getD k false) (slotOf a (dstOf ops A)) w' → Q .normal a w' := by
  intro l a w' hall h hs
  rw [hall k hk] at hs
  have hlen : ((ops.toList.map (·.dst)).map (slotOf a)).length = ops.size := by simp
  have es : ((ops.toList.map (·.dst)).map (slotOf a)).getD A undef = slotOf a (dstOf ops A) := by
   obtain ⟨dA, hdA⟩ := hA
   obtain ⟨o, ho, hd⟩ := some_of A dA hdA
   rw [List.getD_eq_getElem?_getD, List.getElem?_map, List.getElem?_map, Array.getElem?_toList, ho]
   simp [hd, hdA, slotOf]
  rw [← es] at hs
  have hq := done ((ops.toList.map (·.dst)).map (slotOf a)) w' hs hlen (fun i d hid => by
   obtain ⟨o, ho, hd⟩ := some_of i d hid
   have hi : i < ops.size := (Array.getElem?_eq_some_iff.1 ho).1
   have hv := h.val i d (hall i hi) hid
   have e : ((ops.toList.map (·.dst)).map (slotOf a)).getD i undef = a.tmps.getD d undef := by
    rw [List.getD_eq_getElem?_getD, List.getElem?_map, List.getElem?_map, Array.getElem?_toList, ho]
    simp [hd, slotOf]
   rw [e]; exact hv)
  rw [← putAll_of a _ a0 h.defers h.tmps ?_ ?_] at hq
  ·exact hq
  ·intro d hd
   obtain ⟨o, ho, hod⟩ := List.mem_map.1 hd
   obtain ⟨i, hi, rfl⟩ := List.getElem_of_mem ho
   exact (look i ops[i] (by simp at hi; simp [hi])).2.2.1 d (by simpa using hod)
  ·intro t ht
   refine h.old t fun i _ hid => ht ?_
   obtain ⟨o, ho, hd⟩ := some_of i t hid
   refine List.mem_map.2 ⟨o, ?_, hd⟩
   rw [← Array.mem_def]
   exact Array.mem_of_getElem? ho
 have go : ∀ (fuel : Nat) (l : Array Bool) (a : Act) (w : World), (leftOver ops.size l).length ≤ fuel → StandsAt (fun _ _ => True) V ops a0 w0 l a w → St (l.getD k false) (slotOf a (dstOf ops A)) w → wpAny P .any ops Q fuel l a w := by
  intro fuel
  induction fuel with
  | zero =>
   intro l a w hf h hs
   have hn : leftOver ops.size l = [] := List.eq_nil_of_length_eq_zero (by omega)
   have hnot : ∀ i, i < ops.size → l.getD i false = true := fun i hi => by
    have hm : i ∉ leftOver ops.size l := by rw [hn]; simp
    have hl' : i < l.size := by rw [h.size]; exact hi
    unfold leftOver at hm
    simp only [List.mem_filter, List.mem_range, hi, true_and, Array.getD, hl'] at hm ⊢
    simpa using hm
   refine ⟨?_, fin l a w hnot h hs⟩
   refine List.eq_nil_iff_forall_not_mem.2 fun i hi => ?_
   have hm := (mem_ready.1 hi).1
   have hx := getD_false_of hm
   rw [hnot i (by rw [← h.size]; exact hx.2)] at hx
   exact absurd hx.1 (by simp)
  | succ fuel ih =>
   intro l a w hf h hs
   refine ⟨fun hr => fin l a w (all_listed hac h.size hr) h hs, fun i hi => ?_⟩
   obtain ⟨hl, o, ho, hall⟩ := mem_ready.1 hi
   have hwt : ∀ j, waits ops i j = true → l.getD j false = true := fun j hj => by
    obtain ⟨o', ho', e, he, hb', rfl⟩ := (waits_iff i j).1 hj
    rw [ho] at ho'; cases ho'
    exact hall e he hb'
   have hdst : o.dst = dstOf ops i := by simp [dstOf, ho]
   have hleft : (leftOver ops.size (l.setIfInBounds i true)).length ≤ fuel := by
    have := leftOver_set ops.size l i (by rw [← h.size]; exact (getD_false_of hl).2) hl
    omega
   have hwant := wanted_is (h.leans hl hwt) (fun j d hj => by rw [h.tmps]; exact hb j d hj) (look i o ho).1 hG (fun i o ho hw => (hU i o ho hw).2)
   have hset : ∀ (hne : i ≠ k), (l.setIfInBounds i true).getD k false = l.getD k false := fun hne => getD_set_ne false hne
   have hb' : ∀ i d, dstOf ops i = some d → d < a.tmps.size := fun i d h' => by rw [h.tmps]; exact hb i d h'
   have hslot : ∀ (v : Value) (W : World), i ≠ k → St (l.getD k false) (slotOf a (dstOf ops A)) W → St (l.getD k false) (slotOf (a.put (dstOf ops i) v) (dstOf ops A)) W := fun v W hne hs => by
    by_cases hiA : i = A
    ·have hlk : l.getD k false = false := by
      cases hx : l.getD k false with
      | false => rfl
      | true =>
       have := h.down k A hx hkA
       rw [← hiA, (getD_false_of hl).1] at this; cases this
     rw [hlk] at hs ⊢
     exact hF _ _ _ hs
    ·rw [slotOf_put hd hb' hA hiA]; exact hs
   have hloc := loc i o ho
   unfold wpOp
   cases hwo : wantsG G o
   ·rw [hwo] at hwant
    obtain ⟨hne, hu⟩ := hU i o ho hwo
    simp only [ho, hwant, Bool.false_eq_true, if_false]
    rw [hdst]
    exact ih _ _ _ hleft (h.step' trivial (fun _ => trivial) hd hb hl (fun _ _ _ hh => hh) hwt (by rw [hu]; rfl)) (by rw [hset hne]; exact hslot _ _ hne hs)
   ·rw [hwo] at hwant
    simp only [ho, hwant, if_true]
    have hlc := hloc hwo a w (h.leans hl hwt)
    by_cases hik : i = k
    ·subst hik
     rw [if_pos rfl] at hlc
     have hlf := (getD_false_of hl).1
     rw [hlf] at hs
     refine .inl (Oper.wp_mono (fun a' w' hk' => ?_) (hlc hs))
     obtain ⟨v, rfl, hr, hst, hv⟩ := hk'
     rw [hdst]
     refine ih _ _ _ hleft (h.step' trivial (fun _ => trivial) hd hb hl (fun j u hj hu => ?_) hwt hv) (by
      have : (l.setIfInBounds i true).getD i false = true := by simp [(getD_false_of hl).2]
      rw [this, slotOf_put hd hb' hA (Ne.symm hAk)]; exact hst)
     exact hVk j (fun e => by subst e; rw [hj] at hlf; cases hlf) w w' u hr hu
    ·rw [if_neg hik] at hlc
     refine .inl (Oper.wp_mono (fun a' w' hk' => ?_) (hlc _ hs (fun js hbh => chained_listed h js i hwt hbh)))
     obtain ⟨v, rfl, hr, hv⟩ := hk'
     rw [hdst]
     exact ih _ _ _ hleft (h.step' trivial (fun _ => trivial) hd hb hl (fun j u _ hu => hV j w w' u hr hu) hwt hv) (by rw [hset hik]; exact hslot _ _ hik (hS _ _ _ _ hr hs))
 refine wp_region_any hm ?_
 refine go ops.size _ a0 _ ?_ ?_ ?_
 ·refine Nat.le_trans (List.length_filter_le _ _) ?_
  simp
 ·refine ⟨by simp, trivial, rfl, rfl, fun _ _ => rfl, ?_, ?_⟩
  ·intro i d h; exact absurd h (by simp [Array.getD])
  ·intro i j h; exact absurd h (by simp [Array.getD])
 ·have : (Array.replicate ops.size false).getD k false = false := by simp [Array.getD]
  rw [this]; exact hw _
end
end Go.Proofs.YticophaepapjoaaGreatDoor
namespace Go.Proofs.YticophaepapjoaaGreatDoor
open Go
abbrev FRec := Nat × Option It
def bodyO : Option It → List UInt8
 | none => [0]
 | some x => x.bytes
def frk (a : FRec) : Nat × List UInt8 := (a.1, bodyO a.2)
def spStep (k : ByteArray) (o : Option (Nat × It)) (a : FRec) : Option (Nat × It) :=
 match a.2 with
 | none => none
 | some x => if x.key = k then (if x.gone then none else some (a.1, x)) else o
def sp (l : List FRec) (k : ByteArray) : Option (Nat × It) := l.foldl (spStep k) none
theorem sp_snoc (l : List FRec) (a : FRec) (k : ByteArray) : sp (l ++ [a]) k = spStep k (sp l k) a := by simp [sp, List.foldl_append]
theorem fold_mem (k : ByteArray) (l : List FRec) (o : Option (Nat × It)) (p : Nat) (x : It) (h : l.foldl (spStep k) o = some (p, x)) : o = some (p, x) ∨ ((p, some x) ∈ l ∧ x.key = k ∧ x.gone = false) := by
 induction l generalizing o with
 | nil => exact .inl h
 | cons a l ih =>
  rcases ih _ h with h1 | ⟨h1, h2⟩
  ·obtain ⟨q, y⟩ := a
   cases y with
   | none => cases h1
   | some y =>
    change (if y.key = k then (if y.gone then none else some (q, y)) else o) = _ at h1
    by_cases hk : y.key = k
    ·rw [if_pos hk] at h1
     cases hg : y.gone with
     | true => rw [hg] at h1; cases h1
     | false =>
      rw [hg] at h1
      cases h1
      exact .inr ⟨List.mem_cons_self, hk, hg⟩
    ·rw [if_neg hk] at h1
     exact .inl h1
  ·exact .inr ⟨List.mem_cons_of_mem _ h1, h2⟩
theorem sp_mem {l : List FRec} {k : ByteArray} {p : Nat} {x : It} (h : sp l k = some (p, x)) : (p, some x) ∈ l ∧ x.key = k ∧ x.gone = false := by
 rcases fold_mem k l none p x h with h1 | h1
 ·cases h1
 ·exact h1
def above (f : Nat) (y : Nat × It) : Bool := decide (f ≤ y.1)
theorem fold_filter (f : Nat) (k : ByteArray) (l : List FRec) (hl : ∀ a ∈ l, f ≤ a.1) (o o' : Option (Nat × It)) (h : o.filter (above f) = o') : (l.foldl (spStep k) o).filter (above f) = l.foldl (spStep k) o' := by
 induction l generalizing o o' with
 | nil => exact h
 | cons a l ih =>
  refine ih (fun b hb => hl b (List.mem_cons_of_mem _ hb)) _ _ ?_
  have ha := hl a List.mem_cons_self
  obtain ⟨q, y⟩ := a
  cases y with
  | none => rfl
  | some y =>
   show (if y.key = k then (if y.gone then none else some (q, y)) else o).filter (above f) = (if y.key = k then (if y.gone then none else some (q, y)) else o')
   by_cases hk : y.key = k
   ·rw [if_pos hk, if_pos hk]
    cases y.gone
    ·have : above f (q, y) = true := decide_eq_true ha
     simp [Option.filter, this]
    ·rfl
   ·rw [if_neg hk, if_neg hk]; exact h
theorem sp_below (f : Nat) (k : ByteArray) (a b : List FRec) (ha : ∀ r ∈ a, r.1 < f) (hb : ∀ r ∈ b, f ≤ r.1) : (sp (a ++ b) k).filter (above f) = sp b k := by
 unfold sp
 rw [List.foldl_append]
 refine fold_filter f k b hb _ _ ?_
 cases h : a.foldl (spStep k) none with
 | none => rfl
 | some y =>
  obtain ⟨p, x⟩ := y
  rcases fold_mem k a none p x h with h1 | ⟨h1, -⟩
  ·cases h1
  ·have h2 : p < f := ha _ h1
   have : above f (p, x) = false := decide_eq_false (by omega)
   simp [Option.filter, this]
theorem sp_cut (a : List FRec) (p : Nat) (l : List FRec) (k : ByteArray) : sp (a ++ [(p, none)] ++ l) k = sp l k := by
 unfold sp
 rw [List.foldl_append, List.foldl_append]
 rfl
section
variable {st : IxSt} {k k' : ByteArray} {p f : Int}
theorem isK_self (k : ByteArray) (p : Int) : isK k (k, p) = true := isK_iff.2 rfl
theorem ixGet_put (hnd : (st.map (·.1)).Nodup) : ixGet (ixPut st k p) k' = if k = k' then some p else ixGet st k' := by
 have hn := ixPut_nodup (k := k) (p := p) hnd
 by_cases h : (ixGet st k).isSome = true
 ·have e : ixPut st k p = st.map (fun x => if isK k x then (x.1, p) else x) := by unfold ixPut; rw [if_pos h]
  obtain ⟨q, hq⟩ := Option.isSome_iff_exists.1 h
  by_cases hk : k = k'
  ·subst hk
   rw [if_pos rfl]
   refine ixGet_of hn ?_
   rw [e]
   exact List.mem_map.2 ⟨(k, q), ixGet_mem hq, by rw [if_pos (isK_self k q)]⟩
  ·rw [if_neg hk]
   cases hg : ixGet st k' with
   | none =>
    rw [ixGet_none] at hg ⊢
    intro x hx
    rw [e] at hx
    obtain ⟨y, hy, rfl⟩ := List.mem_map.1 hx
    have := hg y hy
    split <;> exact this
   | some r =>
    refine ixGet_of hn ?_
    rw [e]
    refine List.mem_map.2 ⟨(k', r), ixGet_mem hg, ?_⟩
    rw [if_neg (fun hh => hk (isK_iff.1 hh).symm)]
 ·have h0 : ixGet st k = none := by simpa using h
  rw [ixPut_new h0]
  rw [ixPut_new h0] at hn
  by_cases hk : k = k'
  ·subst hk
   rw [if_pos rfl]
   exact ixGet_of hn (by simp)
  ·rw [if_neg hk]
   cases hg : ixGet st k' with
   | none =>
    rw [ixGet_none] at hg ⊢
    intro x hx
    rcases List.mem_append.1 hx with hx | hx
    ·exact hg x hx
    ·rw [List.mem_singleton.1 hx]; exact hk
   | some r => exact ixGet_of hn (List.mem_append_left _ (ixGet_mem hg))
theorem ixGet_drop (hnd : (st.map (·.1)).Nodup) : ixGet (ixDrop st k) k' = if k = k' then none else ixGet st k' := by
 have hn := ixDrop_nodup (k := k) hnd
 by_cases hk : k = k'
 ·subst hk
  rw [if_pos rfl, ixGet_none]
  intro x hx
  have := (List.mem_filter.1 hx).2
  intro e
  rw [isK_iff.2 e] at this
  cases this
 ·rw [if_neg hk]
  cases hg : ixGet st k' with
  | none =>
   rw [ixGet_none] at hg ⊢
   exact fun x hx => hg x (List.mem_filter.1 hx).1
  | some r =>
   refine ixGet_of hn (List.mem_filter.2 ⟨ixGet_mem hg, ?_⟩)
   rw [isK_not.2 (fun e => hk e.symm)]
   rfl
theorem ixGet_below (hnd : (st.map (·.1)).Nodup) : ixGet (ixBelow st f) k = (ixGet st k).filter fun q => decide (f ≤ q) := by
 have hn := ixBelow_nodup (p := f) hnd
 cases hg : ixGet st k with
 | none =>
  rw [ixGet_none] at hg
  show _ = none
  rw [ixGet_none]
  exact fun x hx => hg x (List.mem_filter.1 hx).1
 | some r =>
  by_cases hr : f ≤ r
  ·rw [Option.filter_some_pos (by simpa using hr)]
   exact ixGet_of hn (List.mem_filter.2 ⟨ixGet_mem hg, by simpa using hr⟩)
  ·rw [Option.filter_some_neg (by simpa using hr), ixGet_none]
   intro x hx e
   have h1 := (List.mem_filter.1 hx).1
   have h2 : f ≤ x.2 := by simpa using (List.mem_filter.1 hx).2
   obtain ⟨a, b⟩ := x
   subst e
   have := ixGet_of hnd h1
   rw [hg] at this
   cases this
   exact hr h2
end
structure IxSays (ix : IxSt) (l : List FRec) (n : Nat) : Prop where
 nd : (ix.map (·.1)).Nodup
 len : ix.length ≤ n
 is : ∀ k, ixGet ix k = (sp l k).map fun a => (a.1 : Int)
section
variable {ix : IxSt} {l : List FRec} {n : Nat}
theorem IxSays.nil : IxSays [] [] 0 := ⟨List.nodup_nil, Nat.le_refl _, fun _ => rfl⟩
theorem IxSays.more (h : IxSays ix l n) {m : Nat} (hm : n ≤ m) : IxSays ix l m := ⟨h.nd, Nat.le_trans h.len hm, h.is⟩
theorem IxSays.wipe (l : List FRec) (n p : Nat) : IxSays [] (l ++ [(p, none)]) n := ⟨List.nodup_nil, Nat.zero_le _, fun k => by rw [sp_snoc]; rfl⟩
theorem flput_len (st : IxSt) (k : ByteArray) (p : Int) : (ixPut st k p).length ≤ st.length + 1 := by
 unfold ixPut
 split
 ·rw [List.length_map]; omega
 ·simp
theorem IxSays.put (h : IxSays ix l n) {x : It} (hx : x.gone = false) (p : Nat) : IxSays (ixPut ix x.key (p : Int)) (l ++ [(p, some x)]) (n + 1) := by
 refine ⟨ixPut_nodup h.nd, Nat.le_trans (flput_len _ _ _) (Nat.succ_le_succ h.len), fun k => ?_⟩
 rw [ixGet_put h.nd, sp_snoc]
 show _ = (if x.key = k then (if x.gone then none else some (p, x)) else sp l k).map _
 by_cases hk : x.key = k
 ·rw [if_pos hk, if_pos hk, hx]; rfl
 ·rw [if_neg hk, if_neg hk]; exact h.is k
theorem IxSays.drop (h : IxSays ix l n) {x : It} (hx : x.gone = true) (p : Nat) : IxSays (ixDrop ix x.key) (l ++ [(p, some x)]) (n + 1) := by
 refine ⟨ixDrop_nodup h.nd, Nat.le_trans (List.length_filter_le _ _) (Nat.le_succ_of_le h.len), fun k => ?_⟩
 rw [ixGet_drop h.nd, sp_snoc]
 show _ = (if x.key = k then (if x.gone then none else some (p, x)) else sp l k).map _
 by_cases hk : x.key = k
 ·rw [if_pos hk, if_pos hk, hx]; rfl
 ·rw [if_neg hk, if_neg hk]; exact h.is k
theorem IxSays.below {a b : List FRec} (h : IxSays ix (a ++ b) n) (f : Nat) (ha : ∀ r ∈ a, r.1 < f) (hb : ∀ r ∈ b, f ≤ r.1) : IxSays (ixBelow ix (f : Int)) b n := by
 refine ⟨ixBelow_nodup h.nd, Nat.le_trans (List.length_filter_le _ _) h.len, fun k => ?_⟩
 rw [ixGet_below h.nd, h.is k, ← sp_below f k a b ha hb]
 cases sp (a ++ b) k with
 | none => rfl
 | some y =>
  by_cases hy : f ≤ y.1
  ·have h1 : above f y = true := decide_eq_true hy
   have h2 : decide ((f : Int) ≤ (y.1 : Int)) = true := decide_eq_true (by omega)
   rw [Option.filter_some_pos (by exact h1)]
   exact Option.filter_some_pos (by exact h2)
  ·have h1 : ¬ above f y = true := fun h => hy (of_decide_eq_true h)
   have h2 : ¬ decide ((f : Int) ≤ (y.1 : Int)) = true := fun h => hy (by have := of_decide_eq_true h; omega)
   rw [Option.filter_some_neg (eq_false_of_ne_true h1)]
   exact Option.filter_some_neg (eq_false_of_ne_true h2)
end
theorem opened_snoc (l : List LRec) (r : LRec) : opened (l ++ [r]) = l ++ [⟨r.pos, r.body, r.opens + 1⟩] := by
 induction l with
 | nil => rfl
 | cons a l ih =>
  cases l with
  | nil => rfl
  | cons b l => show a :: opened ((b :: l) ++ [r]) = _; rw [ih]; rfl
theorem fopened_snoc (l : List FEnt) (e : FEnt) : fopened (l ++ [e]) = l ++ [⟨e.x, e.opens + 1⟩] := by
 induction l with
 | nil => rfl
 | cons a l ih =>
  cases l with
  | nil => rfl
  | cons b l => show a :: fopened ((b :: l) ++ [e]) = _; rw [ih]; rfl
theorem snoc_is {α : Type} (l : List α) (h : l ≠ []) : ∃ a b, l = a ++ [b] := ⟨l.dropLast, l.getLast h, (List.dropLast_concat_getLast h).symm⟩
theorem It.bytes_le {x : It} (h : x.may = true) : x.bytes.length ≤ x.key.size + x.val.size + 20 := by
 have m := It.may_is h
 have f := x.flag_bd
 have kx : x.key.data.toList.length = x.key.size := by simp
 have vx : x.val.data.toList.length = x.val.size := by simp
 have z : ∀ n : Int, 0 ≤ n → zig n = (2 * n).toNat := fun n hn => by unfold zig; rw [if_neg (by omega)]
 have h1 : (putZ (x.key.data.toList.length : Int)).length ≤ 1 := vin_len 0 _ (by rw [z _ (by omega)]; omega)
 have h2 : (putZ (x.val.data.toList.length : Int)).length ≤ 2 := vin_len 1 _ (by rw [z _ (by omega)]; omega)
 have h3 := putZ_len x.till (by omega) (by omega)
 have h4 : (putZ x.flag).length ≤ 1 := vin_len 0 _ (by rw [z _ (by omega)]; omega)
 unfold It.bytes putT
 simp only [List.length_append]
 omega
structure FM (st : FSt) (lst : LSt) (hs : List FRec) : Prop where
 key : lst.hist.map LRec.key = hs.map frk
 may : ∀ p x, (p, some x) ∈ hs → x.may = true
 cut : ∃ h0 h1, hs = h0 ++ h1 ∧ (h0 = [] ∨ ∃ a p, h0 = a ++ [(p, none)]) ∧ h1.map (·.2) = st.ents.map (fun e => some e.x) ∧ (lst.hist.drop h0.length).map (·.opens) = st.ents.map (·.opens) ∧ st.gone = lst.gone - h0.length
 place : lst.place = st.place
 segs : lst.segs = st.segs
 age : lst.hist.length ≤ st.age
 next : lst.next ≤ 1048576 * st.age
 old : st.age ≤ 30000
theorem costs_le (tl : List LRec) (h1 : List FRec) (es : List FEnt) (hk : tl.map LRec.key = h1.map frk) (hm : ∀ p x, (p, some x) ∈ h1 → x.may = true) (he : h1.map (·.2) = es.map fun e => some e.x) (ho : tl.map (·.opens) = es.map (·.opens)) : costs tl ≤ fcosts es := by
 induction tl generalizing h1 es with
 | nil => exact Nat.zero_le _
 | cons r tl ih =>
  cases h1 with
  | nil => simp at hk
  | cons a h1 =>
   cases es with
   | nil => simp at he
   | cons e es =>
    simp only [List.map_cons, List.cons.injEq] at hk he ho
    have := ih h1 es hk.2 (fun p x hx => hm p x (List.mem_cons_of_mem _ hx)) he.2 ho.2
    have hb : r.body = e.x.bytes := by
     have := hk.1
     unfold LRec.key frk at this
     rw [he.1] at this
     injection this
    have hx : e.x.may = true := hm a.1 e.x (by obtain ⟨p, y⟩ := a; simp only at he; rw [he.1]; exact List.mem_cons_self)
    have hl := It.bytes_le hx
    have e1 : costs (r :: tl) = r.cost + costs tl := by simp [costs]
    have e2 : fcosts (e :: es) = e.cost + fcosts es := by simp [fcosts]
    rw [e1, e2]
    unfold LRec.cost FEnt.cost
    rw [hb, ho.1]
    omega
section
variable {st : FSt} {lst : LSt} {hs : List FRec}
theorem FM.len (h : FM st lst hs) : lst.hist.length = hs.length := by have := congrArg List.length h.key; simpa using this
theorem FM.pos (h : FM st lst hs) : lst.hist.map (·.pos) = hs.map (·.1) := by
 have := congrArg (List.map Prod.fst) h.key
 rw [List.map_map, List.map_map] at this
 exact this
theorem FM.recs (h : FM st lst hs) : lst.recs = (hs.drop lst.gone).map frk := by
 unfold LSt.recs
 rw [List.map_drop, h.key, ← List.map_drop]
theorem FM.ok (h : FM st lst hs) (ho : lst.Ok) : st.Ok := by
 obtain ⟨h0, h1, e, -, he, hop, hg⟩ := h.cut
 have hlen := h.len
 have hl1 : h1.length = st.ents.length := by have := congrArg List.length he; simpa using this
 have hlen2 : hs.length = h0.length + h1.length := by rw [e, List.length_append]
 have hgo := ho.gone
 refine ⟨by rw [← h.segs]; exact ho.segs, fun en hen => ?_, by omega, fun i hi hc => ?_⟩
 ·have : some en.x ∈ h1.map (·.2) := by rw [he]; exact List.mem_map.2 ⟨en, hen, rfl⟩
  obtain ⟨a, ha, hax⟩ := List.mem_map.1 this
  refine h.may a.1 en.x ?_
  rw [e]
  obtain ⟨p, y⟩ := a
  simp only at hax
  subst hax
  exact List.mem_append_right _ ha
 ·have hd : (lst.hist.drop (h0.length + i)).map LRec.key = (h1.drop i).map frk := by
   rw [List.map_drop, h.key, e, List.map_append, List.drop_append, List.map_drop]
   rw [List.drop_eq_nil_of_le (by simp), List.nil_append, List.length_map]
   congr 1; omega
  have := costs_le (lst.hist.drop (h0.length + i)) (h1.drop i) (st.ents.drop i) hd (fun p x hx => h.may p x (by rw [e]; exact List.mem_append_right _ (List.mem_of_mem_drop hx)))
   (by rw [List.map_drop, he, List.map_drop]) (by rw [← List.drop_drop, List.map_drop, hop, List.map_drop])
  have := ho.kept (h0.length + i) (by omega) (by rw [h.segs]; omega)
  omega
theorem sp_plain (h1 : List FRec) (es : List FEnt) (he : h1.map (·.2) = es.map fun e => some e.x) (k : ByteArray) : (sp h1 k).map (·.2) = (fLast es 0 k).bind fun x => if x.gone then none else some x := by
 obtain ⟨n, hn⟩ : ∃ n, h1.length = n := ⟨_, rfl⟩
 induction n generalizing h1 es with
 | zero =>
  have : h1 = [] := List.eq_nil_of_length_eq_zero hn
  subst this
  cases es with
  | nil => rfl
  | cons e es => simp at he
 | succ n ih =>
  obtain ⟨a, b, rfl⟩ := snoc_is h1 (fun e => by rw [e] at hn; simp at hn)
  obtain ⟨c, d, rfl⟩ := snoc_is es (fun e => by rw [e] at he; simp at he)
  rw [List.map_append, List.map_append] at he
  have hl : (a.map (·.2)).length = (c.map fun e => some e.x).length := by
   have := congrArg List.length he
   simpa using this
  obtain ⟨e1, e2⟩ := List.append_inj he hl
  have hi := ih a c e1 (by simpa using hn)
  rw [sp_snoc, fLast_snoc]
  obtain ⟨q, y⟩ := b
  simp only [List.map_cons, List.map_nil, List.cons.injEq, and_true] at e2
  subst e2
  show (if d.x.key = k then (if d.x.gone then none else some (q, d.x)) else sp a k).map (·.2) = _
  by_cases hk : d.x.key = k
  ·rw [if_pos hk, if_pos hk]
   show _ = (if d.x.gone then none else some d.x)
   cases d.x.gone <;> rfl
  ·rw [if_neg hk, if_neg hk]; exact hi
theorem FM.at_ (h : FM st lst hs) (k : ByteArray) : st.at_ k = (sp (hs.drop lst.gone) k).map (·.2) := by
 obtain ⟨h0, h1, e, hc, he, hop, hg⟩ := h.cut
 have hf : fLast st.ents st.gone k = fLast (st.ents.drop st.gone) 0 k := by unfold fLast; rw [List.drop_zero]
 unfold FSt.at_
 rw [hf, ← sp_plain (h1.drop st.gone) (st.ents.drop st.gone) (by rw [List.map_drop, he, List.map_drop]) k]
 congr 1
 rw [e, List.drop_append, hg]
 rcases hc with rfl | ⟨a, p, rfl⟩
 ·rw [List.drop_nil, List.nil_append]
 ·by_cases hl : lst.gone ≤ a.length
  ·have e0 : lst.gone - (a ++ [(p, none)]).length = 0 := by simp; omega
   rw [e0, List.drop_zero, List.drop_append_of_le_length hl, sp_cut]
  ·have e1 : (a ++ [(p, (none : Option It))]).drop lst.gone = [] := List.drop_eq_nil_of_le (by simp; omega)
   rw [e1, List.nil_append]
theorem FM.add (h : FM st lst hs) {x : It} (hx : x.may = true) {p pos g f y : Nat} (hg : lst.gone ≤ g) (hy : y ≤ lst.next + 1048576) (hold : st.age + 1 ≤ 30000) :
  ∃ g', st.gone ≤ g' ∧ FM ⟨st.place, st.segs, st.ents ++ [⟨x, 0⟩], g', st.age + 1⟩ ⟨p, lst.place, lst.segs, lst.hist ++ [⟨pos, x.bytes, 0⟩], g, f, y⟩ (hs ++ [(pos, some x)]) := by
 obtain ⟨h0, h1, e, hc, he, hop, hgo⟩ := h.cut
 have hlen := h.len
 have hlen2 : hs.length = h0.length + h1.length := by rw [e, List.length_append]
 refine ⟨g - h0.length, by omega, ?_, fun q z hz => ?_, ⟨h0, h1 ++ [(pos, some x)], by rw [e, List.append_assoc], hc, by simp [he], ?_, rfl⟩, h.place, h.segs, by have := h.age; simp; omega, by have := h.next; simp only; omega, hold⟩
 ·simp only [List.map_append, h.key]; rfl
 ·rcases List.mem_append.1 hz with hz | hz
  ·exact h.may q z hz
  ·cases List.mem_singleton.1 hz; exact hx
 ·simp only
  rw [List.drop_append_of_le_length (by omega), List.map_append, hop, List.map_append]
  rfl
theorem FM.wiped (h : FM st lst hs) {p pos g f y : Nat} (hg : g ≤ lst.hist.length + 1) (hy : y ≤ lst.next + 1048576) (hold : st.age + 1 ≤ 30000) :
  FM ⟨st.place, st.segs, [], 0, st.age + 1⟩ ⟨p, lst.place, lst.segs, lst.hist ++ [⟨pos, [0], 0⟩], g, f, y⟩ (hs ++ [(pos, none)]) := by
 have hlen := h.len
 refine ⟨?_, fun q z hz => ?_, ⟨hs ++ [(pos, none)], [], by simp, .inr ⟨hs, pos, rfl⟩, rfl, ?_, ?_⟩, h.place, h.segs, by have := h.age; simp; omega, by have := h.next; simp only; omega, hold⟩
 ·simp only [List.map_append, h.key]; rfl
 ·rcases List.mem_append.1 hz with hz | hz
  ·exact h.may q z hz
  ·cases List.mem_singleton.1 hz
 ·rw [List.drop_eq_nil_of_le (by simp; omega)]; rfl
 ·simp only [List.length_append, List.length_cons, List.length_nil]; omega
theorem opened_key (l : List LRec) : (opened l).map LRec.key = l.map LRec.key := by
 by_cases hl : l = []
 ·subst hl; rfl
 ·obtain ⟨a, r, rfl⟩ := snoc_is l hl
  rw [opened_snoc]; simp [LRec.key]
theorem opened_length (l : List LRec) : (opened l).length = l.length := by
 have := congrArg List.length (opened_key l)
 simpa using this
theorem opened_opens (l : List LRec) (n : Nat) (es : List FEnt) (h : (l.drop n).map (·.opens) = es.map (·.opens)) : ((opened l).drop n).map (·.opens) = (fopened es).map (·.opens) := by
 by_cases hl : l = []
 ·subst hl
  cases es with
  | nil => show (([] : List LRec).drop n).map _ = _; rw [List.drop_nil]; rfl
  | cons e es => simp at h
 ·obtain ⟨a, r, rfl⟩ := snoc_is l hl
  rw [opened_snoc]
  by_cases hn : n ≤ a.length
  ·rw [List.drop_append_of_le_length hn] at h ⊢
   obtain ⟨c, d, rfl⟩ := snoc_is es (fun e => by rw [e] at h; simp at h)
   rw [fopened_snoc]
   rw [List.map_append, List.map_append] at h ⊢
   have hh : ((a.drop n).map (·.opens)).length = (c.map (·.opens)).length := by
    have := congrArg List.length h
    simpa using this
   obtain ⟨e1, e2⟩ := List.append_inj h hh
   simp only [List.map_cons, List.map_nil, List.cons.injEq, and_true] at e2
   rw [e1]
   simp [e2]
  ·rw [List.drop_eq_nil_of_le (by simp; omega)] at h ⊢
   cases es with
   | nil => rfl
   | cons e es => simp at h
theorem fopened_x (l : List FEnt) : (fopened l).map (fun e => some e.x) = l.map fun e => some e.x := by
 by_cases hl : l = []
 ·subst hl; rfl
 ·obtain ⟨a, r, rfl⟩ := snoc_is l hl
  rw [fopened_snoc]; simp
theorem FM.opened (h : FM st lst hs) {p f y : Nat} (hy : y ≤ lst.next + 1048576) (hold : st.age + 1 ≤ 30000) :
  FM ⟨st.place, st.segs, fopened st.ents, st.gone, st.age + 1⟩ ⟨p, lst.place, lst.segs, opened lst.hist, lst.gone, f, y⟩ hs := by
 obtain ⟨h0, h1, e, hc, he, hop, hgo⟩ := h.cut
 refine ⟨by simp only; rw [opened_key]; exact h.key, h.may, ⟨h0, h1, e, hc, by simp only; rw [fopened_x]; exact he, opened_opens _ _ _ hop, hgo⟩, h.place, h.segs, by have := h.age; simp only; rw [opened_length]; omega, by have := h.next; simp only; omega, hold⟩
theorem pos_ge {hist : List LRec} {hs : List FRec} (h : hist.map (·.pos) = hs.map (·.1)) {P : Nat → Prop} (n : Nat) (hp : ∀ r ∈ hist.drop n, P r.pos) : ∀ a ∈ hs.drop n, P a.1 := by
 intro a ha
 have : a.1 ∈ (hs.drop n).map (·.1) := List.mem_map.2 ⟨a, ha, rfl⟩
 rw [List.map_drop, ← h, ← List.map_drop] at this
 obtain ⟨r, hr, e⟩ := List.mem_map.1 this
 rw [← e]; exact hp r hr
theorem pos_lt {hist : List LRec} {hs : List FRec} (h : hist.map (·.pos) = hs.map (·.1)) {P : Nat → Prop} (n : Nat) (hp : ∀ r ∈ hist.take n, P r.pos) : ∀ a ∈ hs.take n, P a.1 := by
 intro a ha
 have : a.1 ∈ (hs.take n).map (·.1) := List.mem_map.2 ⟨a, ha, rfl⟩
 rw [List.map_take, ← h, ← List.map_take] at this
 obtain ⟨r, hr, e⟩ := List.mem_map.1 this
 rw [← e]; exact hp r hr
theorem ix_kept {ix : IxSt} {hs : List FRec} {a : FRec} {n g g' f f' : Nat} (h : IxSays ix (hs.drop g ++ [a]) n) (hgl : g ≤ hs.length) (hg : g ≤ g') (h1 : ∀ r ∈ hs.drop g, f ≤ r.1) (ha : f ≤ a.1) (h2 : ∀ r ∈ (hs ++ [a]).take g', r.1 < f') (h3 : ∀ r ∈ (hs ++ [a]).drop g', f' ≤ r.1) :
  (f' = f → IxSays ix ((hs ++ [a]).drop g') n) ∧ IxSays (ixBelow ix (f' : Int)) ((hs ++ [a]).drop g') n := by
 have e : hs.drop g ++ [a] = (hs ++ [a]).drop g := by rw [List.drop_append_of_le_length hgl]
 rw [e] at h
 have e2 : (hs ++ [a]).drop g = ((hs ++ [a]).drop g).take (g' - g) ++ (hs ++ [a]).drop g' := by
  have := List.take_append_drop (g' - g) ((hs ++ [a]).drop g)
  rw [List.drop_drop, show g + (g' - g) = g' by omega] at this
  exact this.symm
 have h4 : ∀ r ∈ ((hs ++ [a]).drop g).take (g' - g), r.1 < f' := by
  intro r hr
  refine h2 r ?_
  rw [← List.drop_take] at hr
  exact List.mem_of_mem_drop hr
 refine ⟨fun hf => ?_, ?_⟩
 ·have : ((hs ++ [a]).drop g).take (g' - g) = [] := by
   refine List.eq_nil_iff_forall_not_mem.2 fun r hr => ?_
   have h5 := h4 r hr
   have h6 : f ≤ r.1 := by
    have hm := List.mem_of_mem_take hr
    rw [List.drop_append_of_le_length hgl] at hm
    rcases List.mem_append.1 hm with hm | hm
    ·exact h1 r hm
    ·rw [List.mem_singleton.1 hm]; exact ha
   omega
  rw [e2, this, List.nil_append] at h
  exact h
 ·rw [e2] at h
  exact h.below f' h4 h3
end
end Go.Proofs.YticophaepapjoaaGreatDoor
namespace Go.Proofs.YticophaepapjoaaGreatDoor
open Go Go.RowKit Go.Joins
def cfoot (q : Nat) (Fl Fi : Foot) : Foot := ⟨fun b => b = q ∨ Fl.M b ∨ Fi.M b, fun b => Fl.I b ∨ Fi.I b⟩
theorem cfoot_all {q : Nat} {Fl Fi : Foot} {b : Nat} : (cfoot q Fl Fi).all b ↔ b = q ∨ Fl.all b ∨ Fi.all b := by
 unfold cfoot Foot.all
 constructor
 ·rintro ((h | h | h) | (h | h))
  ·exact .inl h
  ·exact .inr (.inl (.inl h))
  ·exact .inr (.inr (.inl h))
  ·exact .inr (.inl (.inr h))
  ·exact .inr (.inr (.inr h))
 ·rintro (h | (h | h) | (h | h))
  ·exact .inl (.inl h)
  ·exact .inl (.inr (.inl h))
  ·exact .inr (.inl h)
  ·exact .inl (.inr (.inr h))
  ·exact .inr (.inr h)
def CBlk (w : World) (q lq iq : Nat) (lo : Int) : Prop := w.heap[q]? = some (.cells #[.pointer (some ⟨lq, 0, none⟩), .pointer (some ⟨iq, 0, none⟩), .int .i64 lo] 92 (0, 0))
section
variable {w w' : World} {q lq iq : Nat} {lo : Int} {G : Nat → Prop}
theorem CBlk.keep (h : CBlk w q lq iq lo) (hk : Keeps G w w') (hq : G q) : CBlk w' q lq iq lo := (hk.block q hq (Array.getElem?_eq_some_iff.1 h).1).trans h
theorem CBlk.lt (h : CBlk w q lq iq lo) : q < w.heap.size := (Array.getElem?_eq_some_iff.1 h).1
theorem CBlk.c0 (h : CBlk w q lq iq lo) : w.cell? ⟨q, 0, none⟩ = some (.pointer (some ⟨lq, 0, none⟩)) := (cell_of_block h 0).trans rfl
theorem CBlk.c1 (h : CBlk w q lq iq lo) : w.cell? ⟨q, 1, none⟩ = some (.pointer (some ⟨iq, 0, none⟩)) := (cell_of_block h 1).trans rfl
theorem CBlk.c2 (h : CBlk w q lq iq lo) : w.cell? ⟨q, 2, none⟩ = some (.int .i64 lo) := (cell_of_block h 2).trans rfl
theorem CBlk.f (h : CBlk w q lq iq lo) (i : Nat) : w.frozen? ⟨q, i, none⟩ = false := unfrozen_of_block h i
theorem CBlk.set1 (h : CBlk w q lq iq lo) (iq' : Nat) : CBlk (w.setCell ⟨q, 1, none⟩ (.pointer (some ⟨iq', 0, none⟩))) q lq iq' lo := (block_setCell h _).trans rfl
theorem CBlk.set2 (h : CBlk w q lq iq lo) (lo' : Int) : CBlk (w.setCell ⟨q, 2, none⟩ (.int .i64 lo')) q lq iq lo' := (block_setCell h _).trans rfl
end
structure CAt (S : Slog2) (I : IndexOK) (w : World) (p q lq iq : Nat) (Fl Fi : Foot) (lo : Int) (lst : LSt) (ix : IxSt) (s : SDev) : Prop where
 blk : CBlk w q lq iq lo
 l : S.rep w lq Fl lst s
 i : I.rep w iq Fi ix
 on : lst.dev = p
 ap : Apart Fl Fi
 ql : ¬ Fl.all q
 qi : ¬ Fi.all q
section
variable {S : Slog2} {I : IndexOK} {w w' : World} {p q lq iq : Nat} {Fl Fi : Foot} {lo : Int} {lst : LSt} {ix : IxSt} {s : SDev}
theorem CAt.keep (h : CAt S I w p q lq iq Fl Fi lo lst ix s) (hk : Keeps (cfoot q Fl Fi).all w w') : CAt S I w' p q lq iq Fl Fi lo lst ix s :=
 ⟨h.blk.keep hk (cfoot_all.2 (.inl rfl)), S.keep h.l (hk.mono fun _b _ hb => cfoot_all.2 (.inr (.inl hb))), I.keep h.i (hk.mono fun _b _ hb => cfoot_all.2 (.inr (.inr hb))), h.on, h.ap, h.ql, h.qi⟩
theorem CAt.kp (h : CAt S I w p q lq iq Fl Fi lo lst ix s) (hk : Kp w w') : CAt S I w' p q lq iq Fl Fi lo lst ix s := h.keep (hk.mono fun _ _ _ => trivial)
theorem CAt.lt (h : CAt S I w p q lq iq Fl Fi lo lst ix s) : ∀ b, (cfoot q Fl Fi).all b → b < w.heap.size := fun b hb => by
 rcases cfoot_all.1 hb with rfl | hb | hb
 ·exact h.blk.lt
 ·exact S.lt h.l b hb
 ·exact I.lt h.i b hb
end
def flashRep (S : Slog2) (I : IndexOK) (w : World) (p q : Nat) (Fs : Foot) (st : FSt) (s : SDev) : Prop :=
 ∃ (lq iq : Nat) (Fl Fi : Foot) (lo : Int) (lst : LSt) (ix : IxSt) (hs : List FRec), Fs = cfoot q Fl Fi ∧ CAt S I w p q lq iq Fl Fi lo lst ix s ∧ FM st lst hs ∧ IxSays ix (hs.drop lst.gone) st.age
def flashDisk (S : Slog2) (st : FSt) (rows : List (List UInt8)) : Prop := ∃ (lst : LSt) (hs : List FRec), S.disk lst rows ∧ FM st lst hs
section
variable {S : Slog2} {I : IndexOK} {w w' : World} {p q : Nat} {Fs : Foot} {st : FSt} {s s' : SDev}
theorem frep_wf (h : flashRep S I w p q Fs st s) : st.Ok := by
 obtain ⟨lq, iq, Fl, Fi, lo, lst, ix, hs, rfl, hc, hm, -⟩ := h
 exact hm.ok (S.wf hc.l)
theorem frep_age (h : flashRep S I w p q Fs st s) : st.age ≤ 30000 := by
 obtain ⟨lq, iq, Fl, Fi, lo, lst, ix, hs, rfl, hc, hm, -⟩ := h
 exact hm.old
theorem frep_lt (h : flashRep S I w p q Fs st s) : ∀ b, Fs.all b → b < w.heap.size := by
 obtain ⟨lq, iq, Fl, Fi, lo, lst, ix, hs, rfl, hc, hm, -⟩ := h
 exact hc.lt
theorem frep_keep (h : flashRep S I w p q Fs st s) (hk : Keeps Fs.all w w') : flashRep S I w' p q Fs st s := by
 obtain ⟨lq, iq, Fl, Fi, lo, lst, ix, hs, rfl, hc, hm⟩ := h
 exact ⟨lq, iq, Fl, Fi, lo, lst, ix, hs, rfl, hc.keep hk, hm⟩
theorem FM.has {lst : LSt} {hs : List FRec} (hm : FM st lst hs) (i : Nat) : lst.has i ↔ st.has i := by
 unfold LSt.has FSt.has
 rw [hm.place, hm.segs]
theorem frep_other (h : flashRep S I w p q Fs st s) (hl : s'.now.length = s.now.length) (ho : ∀ i, st.has i → s'.now.getD i [] = s.now.getD i []) : flashRep S I w p q Fs st s' := by
 obtain ⟨lq, iq, Fl, Fi, lo, lst, ix, hs, rfl, hc, hm, hx⟩ := h
 exact ⟨lq, iq, Fl, Fi, lo, lst, ix, hs, rfl, { hc with l := S.other hc.l hl fun i hi => ho i ((hm.has i).1 hi) }, hm, hx⟩
theorem FGo.trans {w w1 w2 : World} {F F1 F2 Fs1 Fs2 : Foot} {s s1 s2 : SDev} {st1 : FSt} {n m : Nat} (h : FGo w w1 F F1 Fs Fs1 s s1 st n) (k : FGo w1 w2 F1 F2 Fs1 Fs2 s1 s2 st1 m) (hst : ∀ i, st1.has i ↔ st.has i) : FGo w w2 F F2 Fs Fs2 s s2 st (n + m) := by
 have hsz := h.k.size
 have all1 : ∀ b, F1.all b → F.all b ∨ w.heap.size ≤ b := fun b hb => by
  rcases hb with hb | hb
  ·rcases h.f1 b hb with h1 | h1
   ·exact .inl (.inl h1)
   ·exact .inr h1
  ·exact h.f2 b hb
 have all2 : ∀ b, Fs1.all b → Fs.all b ∨ w.heap.size ≤ b := fun b hb => by
  rcases hb with hb | hb
  ·rcases h.f3 b hb with h1 | h1
   ·exact .inl (.inl h1)
   ·exact .inr h1
  ·exact h.f4 b hb
 refine ⟨k.ap, ⟨k.k.os.trans h.k.os, k.k.tape.trans h.k.tape, k.k.output.trans h.k.output, Nat.le_trans hsz k.k.size, fun b hb hlt => ?_⟩, fun b hb => ?_, fun b hb => ?_, fun b hb => ?_, fun b hb => ?_, k.len.trans h.len, fun i hi => (k.out i fun hh => hi ((hst i).1 hh)).trans (h.out i hi), ?_⟩
 ·refine (k.k.block b ⟨fun hm => ?_, fun hm => ?_⟩ (Nat.lt_of_lt_of_le hlt hsz)).trans (h.k.block b hb hlt)
  ·rcases h.f1 b hm with h1 | h1
   ·exact hb.1 h1
   ·omega
  ·rcases h.f3 b hm with h1 | h1
   ·exact hb.2 h1
   ·omega
 ·rcases k.f1 b hb with h1 | h1
  ·exact h.f1 b h1
  ·exact .inr (Nat.le_trans hsz h1)
 ·rcases k.f2 b hb with h1 | h1
  ·exact all1 b h1
  ·exact .inr (Nat.le_trans hsz h1)
 ·rcases k.f3 b hb with h1 | h1
  ·exact h.f3 b h1
  ·exact .inr (Nat.le_trans hsz h1)
 ·rcases k.f4 b hb with h1 | h1
  ·exact all2 b h1
  ·exact .inr (Nat.le_trans hsz h1)
 ·have := h.calls; have := k.calls; omega
end
structure Cb (S : Slog2) (I : IndexOK) (W w : World) (p q : Nat) (F Fs : Foot) (s : SDev) (st : FSt) : Prop where
 d : DAt w p F s
 r : flashRep S I w p q Fs st s
 ap : Apart F Fs
 kp : Kp W w
 gf : ∀ b, F.all b → W.heap.size ≤ b
 gs : ∀ b, Fs.all b → W.heap.size ≤ b
 room : st.place + 8 * st.segs ≤ s.now.length
section
variable {S : Slog2} {I : IndexOK} {W w w' : World} {p q : Nat} {F F' Fs Fs' : Foot} {st st' : FSt} {s s' : SDev} {n : Nat}
theorem Cb.keep (h : Cb S I W w p q F Fs s st) (hk : Kp w w') : Cb S I W w' p q F Fs s st :=
 ⟨h.d.keep (hk.mono fun _ _ _ => trivial), frep_keep h.r (hk.mono fun _ _ _ => trivial), h.ap, h.kp.trans hk, h.gf, h.gs, h.room⟩
theorem Cb.moved (h : Cb S I W w p q F Fs s st) (hd : DAt w' p F' s') (hr : flashRep S I w' p q Fs' st' s') (hpl : st'.place = st.place) (hsg : st'.segs = st.segs) (hgo : FGo w w' F F' Fs Fs' s s' st n) : Cb S I W w' p q F' Fs' s' st' := by
 have hsz := h.kp.size
 refine ⟨hd, hr, hgo.ap, ?_, fun b hb => ?_, fun b hb => ?_, by rw [hpl, hsg, hgo.len]; exact h.room⟩
 ·exact ⟨hgo.k.os.trans h.kp.os, hgo.k.tape.trans h.kp.tape, hgo.k.output.trans h.kp.output, Nat.le_trans hsz hgo.k.size, fun b _ hb =>
   (hgo.k.block b ⟨fun hm => by have := h.gf b (.inl hm); omega, fun hm => by have := h.gs b (.inl hm); omega⟩ (by omega)).trans (h.kp.block b trivial hb)⟩
 ·rcases hb with hb | hb
  ·rcases hgo.f1 b hb with h1 | h1
   ·exact h.gf b (.inl h1)
   ·omega
  ·rcases hgo.f2 b hb with h1 | h1
   ·exact h.gf b h1
   ·omega
 ·rcases hb with hb | hb
  ·rcases hgo.f3 b hb with h1 | h1
   ·exact h.gs b (.inl h1)
   ·omega
  ·rcases hgo.f4 b hb with h1 | h1
   ·exact h.gs b h1
   ·omega
theorem FGo.still (h : Cb S I W w p q F Fs s st) (hk : Kp w w') : FGo w w' F F Fs Fs s s st 0 :=
 ⟨h.ap, hk.mono fun _ _ _ => trivial, fun _ hb => .inl hb, fun _ hb => .inl (.inr hb), fun _ hb => .inl hb, fun _ hb => .inl (.inr hb), rfl, fun _ _ => rfl, Nat.le_add_right _ _⟩
end
end Go.Proofs.YticophaepapjoaaGreatDoor
namespace Go.Proofs.YticophaepapjoaaGreatDoor
open Go Go.RowKit
section
variable {P : Program} {ops : Array Oper} {Q : Exit → Act → World → Prop} {R : World → World → Prop} {V : Nat → World → Value → Prop} {a0 : Act} {w0 : World} {G : Nat → Option Bool} {St : Bool → World → Prop} {Rk : World → World → Prop} {k : Nat}
theorem wp_region_past {id : Nat} {w : World} (k : Nat) (St : Bool → World → Prop) (Rk : World → World → Prop) (G : Nat → Option Bool) (hm : P.follows .mixedOrders = true)
  (hV : ∀ i w w' v, Kp w w' → V i w v → V i w' v) (hS : ∀ b w w', Kp w w' → St b w → St b w') (hVk : ∀ i, i ≠ k → (∀ js, chained ops k i js = false) → ∀ w w' v, Rk w w' → V i w v → V i w' v)
  (hfit : fitsG G ops a0.tmps.size = true) (hk : k < ops.size) (hG : ∀ g c, G g = some c → ∀ w v, V g w v → v = .bool c) (hU : ∀ (i : Nat) (o : Oper), ops[i]? = some o → wantsG G o = false → i ≠ k ∧ V i = IsV undef) (hw : St false w.drew)
  (loc : ∀ (i : Nat) (o : Oper), ops[i]? = some o → wantsG G o = true → ∀ a w, Leans (fun _ _ => True) V ops a0 w0 i a w →
   if i = k then (St false w → o.wp P a w (fun a' w' => ∃ v, a' = a.put o.dst v ∧ Rk w w' ∧ St true w' ∧ V i w' v) Q)
   else (∀ b, St b w → (∀ js, chained ops k i js = true → b = true) → (∀ js, chained ops i k js = true → b = false) → o.wp P a w (fun a' w' => ∃ v, a' = a.put o.dst v ∧ Kp w w' ∧ V i w' v) Q))
  (done : ∀ vs w, St true w → vs.length = ops.size → (∀ i d, dstOf ops i = some d → V i w (vs.getD i undef)) → Q .normal (putAll a0 (ops.toList.map (·.dst)) vs) w) :
  (Code.region id ops true).wp P Q a0 w := by
 have look : ∀ (i : Nat) (o : Oper), ops[i]? = some o → (∀ g b, o.guard = some (g, b) → waits ops i g = true ∧ (dstOf ops g).isSome = true ∧ ((G g).isSome = true ∨ ∃ o', ops[g]? = some o' ∧ wantsG G o' = false)) ∧ (∀ e ∈ o.after, Region.binds .any e = true → e.on < i) ∧ (∀ d, o.dst = some d → d < a0.tmps.size) ∧ (∀ j, i ≠ j → ∀ d, o.dst = some d → dstOf ops j ≠ some d) := by
  intro i o ho
  have hi : i < ops.size := (Array.getElem?_eq_some_iff.1 ho).1
  have h := List.all_eq_true.1 hfit i (List.mem_range.2 hi)
  simp only [ho, Option.all_some, Bool.and_eq_true] at h
  obtain ⟨⟨⟨h1, h2⟩, h3⟩, h4⟩ := h
  refine ⟨fun g b hgb => ?_, fun e he hb => ?_, fun d hd => ?_, fun j hj d hd hx => ?_⟩
  ·rw [hgb] at h1
   simp only [Bool.and_eq_true, Bool.or_eq_true] at h1
   refine ⟨h1.1.1, h1.1.2, h1.2.imp (fun hx => hx) fun hx => ?_⟩
   cases ho' : ops[g]? with
   | none => rw [ho'] at hx; cases hx
   | some o' =>
    rw [ho'] at hx
    exact ⟨o', rfl, by simpa using hx⟩
  ·have := Array.all_eq_true_iff_forall_mem.1 h2 e he
   simpa [hb] using this
  ·rw [hd] at h3; simpa using h3
  ·have hjs : j < ops.size := by
    rcases Nat.lt_or_ge j ops.size with h' | h'
    ·exact h'
    ·simp [dstOf, Array.getElem?_eq_none h'] at hx
   have := List.all_eq_true.1 h4 j (List.mem_range.2 hjs)
   rw [hd, hx] at this
   simp [hj] at this
 have some_of : ∀ i d, dstOf ops i = some d → ∃ o, ops[i]? = some o ∧ o.dst = some d := fun i d h => by
  unfold dstOf at h
  cases ho : ops[i]? with
  | none => simp [ho] at h
  | some o => exact ⟨o, rfl, by simpa [ho] using h⟩
 have hd : ∀ i j d, dstOf ops i = some d → dstOf ops j = some d → i = j := by
  intro i j d hi hj
  obtain ⟨o, ho, hd⟩ := some_of i d hi
  exact Classical.byContradiction fun hne => (look i o ho).2.2.2 j hne d hd hj
 have hb : ∀ i d, dstOf ops i = some d → d < a0.tmps.size := by
  intro i d hi
  obtain ⟨o, ho, hd⟩ := some_of i d hi
  exact (look i o ho).2.2.1 d hd
 have hac : ∀ i j, waits ops i j = true → j < i := by
  intro i j h
  obtain ⟨o, ho, e, he, hb, rfl⟩ := (waits_iff i j).1 h
  exact (look i o ho).2.1 e he hb
 have fin : ∀ (l : Array Bool) (a : Act) (w' : World), (∀ i, i < ops.size → l.getD i false = true) → StandsAt (fun _ _ => True) V ops a0 w0 l a w' → St (l.getD k false) w' → Q .normal a w' := by
  intro l a w' hall h hs
  rw [hall k hk] at hs
  have hlen : ((ops.toList.map (·.dst)).map (slotOf a)).length = ops.size := by simp
  have hq := done ((ops.toList.map (·.dst)).map (slotOf a)) w' hs hlen (fun i d hid => by
   obtain ⟨o, ho, hd⟩ := some_of i d hid
   have hi : i < ops.size := (Array.getElem?_eq_some_iff.1 ho).1
   have hv := h.val i d (hall i hi) hid
   have e : ((ops.toList.map (·.dst)).map (slotOf a)).getD i undef = a.tmps.getD d undef := by
    rw [List.getD_eq_getElem?_getD, List.getElem?_map, List.getElem?_map, Array.getElem?_toList, ho]
    simp [hd, slotOf]
   rw [e]; exact hv)
  rw [← putAll_of a _ a0 h.defers h.tmps ?_ ?_] at hq
  ·exact hq
  ·intro d hd
   obtain ⟨o, ho, hod⟩ := List.mem_map.1 hd
   obtain ⟨i, hi, rfl⟩ := List.getElem_of_mem ho
   exact (look i ops[i] (by simp at hi; simp [hi])).2.2.1 d (by simpa using hod)
  ·intro t ht
   refine h.old t fun i _ hid => ht ?_
   obtain ⟨o, ho, hd⟩ := some_of i t hid
   refine List.mem_map.2 ⟨o, ?_, hd⟩
   rw [← Array.mem_def]
   exact Array.mem_of_getElem? ho
 have go : ∀ (fuel : Nat) (l : Array Bool) (a : Act) (w : World), (leftOver ops.size l).length ≤ fuel → StandsAt (fun _ _ => True) V ops a0 w0 l a w → St (l.getD k false) w → wpAny P .any ops Q fuel l a w := by
  intro fuel
  induction fuel with
  | zero =>
   intro l a w hf h hs
   have hn : leftOver ops.size l = [] := List.eq_nil_of_length_eq_zero (by omega)
   have hnot : ∀ i, i < ops.size → l.getD i false = true := fun i hi => by
    have hm : i ∉ leftOver ops.size l := by rw [hn]; simp
    have hl' : i < l.size := by rw [h.size]; exact hi
    unfold leftOver at hm
    simp only [List.mem_filter, List.mem_range, hi, true_and, Array.getD, hl'] at hm ⊢
    simpa using hm
   refine ⟨?_, fin l a w hnot h hs⟩
   refine List.eq_nil_iff_forall_not_mem.2 fun i hi => ?_
   have hm := (mem_ready.1 hi).1
   have hx := getD_false_of hm
   rw [hnot i (by rw [← h.size]; exact hx.2)] at hx
   exact absurd hx.1 (by simp)
  | succ fuel ih =>
   intro l a w hf h hs
   refine ⟨fun hr => fin l a w (all_listed hac h.size hr) h hs, fun i hi => ?_⟩
   obtain ⟨hl, o, ho, hall⟩ := mem_ready.1 hi
   have hwt : ∀ j, waits ops i j = true → l.getD j false = true := fun j hj => by
    obtain ⟨o', ho', e, he, hb', rfl⟩ := (waits_iff i j).1 hj
    rw [ho] at ho'; cases ho'
    exact hall e he hb'
   have hdst : o.dst = dstOf ops i := by simp [dstOf, ho]
   have hleft : (leftOver ops.size (l.setIfInBounds i true)).length ≤ fuel := by
    have := leftOver_set ops.size l i (by rw [← h.size]; exact (getD_false_of hl).2) hl
    omega
   have hwant := wanted_is (h.leans hl hwt) (fun j d hj => by rw [h.tmps]; exact hb j d hj) (look i o ho).1 hG (fun i o ho hw => (hU i o ho hw).2)
   have hset : ∀ (hne : i ≠ k), (l.setIfInBounds i true).getD k false = l.getD k false := fun hne => getD_set_ne false hne
   have hloc := loc i o ho
   unfold wpOp
   cases hwo : wantsG G o
   ·rw [hwo] at hwant
    obtain ⟨hne, hu⟩ := hU i o ho hwo
    simp only [ho, hwant, Bool.false_eq_true, if_false]
    rw [hdst]
    exact ih _ _ _ hleft (h.step' trivial (fun _ => trivial) hd hb hl (fun _ _ _ hh => hh) hwt (by rw [hu]; rfl)) (by rw [hset hne]; exact hs)
   ·rw [hwo] at hwant
    simp only [ho, hwant, if_true]
    have hlc := hloc hwo a w (h.leans hl hwt)
    by_cases hik : i = k
    ·subst hik
     rw [if_pos rfl] at hlc
     have hlf := (getD_false_of hl).1
     rw [hlf] at hs
     refine .inl (Oper.wp_mono (fun a' w' hk' => ?_) (hlc hs))
     obtain ⟨v, rfl, hr, hst, hv⟩ := hk'
     rw [hdst]
     refine ih _ _ _ hleft (h.step' trivial (fun _ => trivial) hd hb hl (fun j u hj hu => ?_) hwt hv) (by
      have : (l.setIfInBounds i true).getD i false = true := by simp [(getD_false_of hl).2]
      rw [this]; exact hst)
     exact hVk j (fun e => by subst e; rw [hj] at hlf; cases hlf) (fun js => by
      cases hc : chained ops i j js with
      | false => rfl
      | true =>
       have := chained_listed (k := i) h js j (fun m hm => h.down j m hj hm) hc
       rw [hlf] at this
       cases this) w w' u hr hu
    ·rw [if_neg hik] at hlc
     refine .inl (Oper.wp_mono (fun a' w' hk' => ?_) (hlc _ hs (fun js hbh => chained_listed h js i hwt hbh) (fun js hbh => by
      cases hlk : l.getD k false with
      | false => rfl
      | true =>
       have := chained_listed (k := i) h js k (fun m hm => h.down k m hlk hm) hbh
       rw [(getD_false_of hl).1] at this
       cases this)))
     obtain ⟨v, rfl, hr, hv⟩ := hk'
     rw [hdst]
     exact ih _ _ _ hleft (h.step' trivial (fun _ => trivial) hd hb hl (fun j u _ hu => hV j w w' u hr hu) hwt hv) (by rw [hset hik]; exact hS _ _ _ hr hs)
 refine wp_region_any hm ?_
 refine go ops.size _ a0 _ ?_ ?_ ?_
 ·refine Nat.le_trans (List.length_filter_le _ _) ?_
  simp
 ·refine ⟨by simp, trivial, rfl, rfl, fun _ _ => rfl, ?_, ?_⟩
  ·intro i d h; exact absurd h (by simp [Array.getD])
  ·intro i j h; exact absurd h (by simp [Array.getD])
 ·have : (Array.replicate ops.size false).getD k false = false := by simp [Array.getD]
  rw [this]; exact hw
end
end Go.Proofs.YticophaepapjoaaGreatDoor
