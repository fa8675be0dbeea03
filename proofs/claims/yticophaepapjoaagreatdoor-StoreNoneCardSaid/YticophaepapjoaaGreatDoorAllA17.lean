/-
  InvSlot, InvTwo, InvOneIn, SlgExtOps, SlgExtLog: texts of mine, joined.
-/
import Derived.Test.YticophaepapjoaaGreatDoorAllA02
import Derived.OrdersIn
import Derived.TacticsIn
import Derived.RangeFuncCalls
import Derived.Test.YticophaepapjoaaGreatDoorAllA15
import Derived.Test.YticophaepapjoaaGreatDoorAllA16
namespace Go.Proofs.YticophaepapjoaaGreatDoor
open Go Go.RowKit
section
variable {P : Program} {ops : Array Oper} {Q : Exit → Act → World → Prop} {V : Nat → World → Value → Prop} {a0 : Act} {w0 : World}
theorem slotOf_put {a : Act} {v : Value} (hd : ∀ i j d, dstOf ops i = some d → dstOf ops j = some d → i = j) (hb : ∀ i d, dstOf ops i = some d → d < a.tmps.size) {i A : Nat} (hA : ∃ d, dstOf ops A = some d) (hne : i ≠ A) :
  slotOf (a.put (dstOf ops i) v) (dstOf ops A) = slotOf a (dstOf ops A) := by
 obtain ⟨d, hd'⟩ := hA
 rw [hd']
 cases hx : dstOf ops i with
 | none => rfl
 | some d' =>
  show (a.put (some d') v).tmps.getD d undef = a.tmps.getD d undef
  rw [getD_put (hb i d' hx), if_neg (fun h => hne (hd i A d (by rw [hx, h]) hd'))]
theorem wp_region_slot {id : Nat} {w : World} (k A : Nat) (St : Bool → Value → World → Prop) (Rk : World → World → Prop) (G : Nat → Option Bool) (hm : P.follows .mixedOrders = true)
  (hV : ∀ i w w' v, Kp w w' → V i w v → V i w' v) (hS : ∀ b u w w', Kp w w' → St b u w → St b u w') (hF : ∀ u u' w, St false u w → St false u' w) (hA : ∃ d, dstOf ops A = some d) (hkA : waits ops k A = true) (hAk : A ≠ k) (hVk : ∀ i, i ≠ k → ∀ w w' v, Rk w w' → V i w v → V i w' v)
  (hfit : fitsG G ops a0.tmps.size = true) (hk : k < ops.size) (hG : ∀ g c, G g = some c → ∀ w v, V g w v → v = .bool c) (hU : ∀ (i : Nat) (o : Oper), ops[i]? = some o → wantsG G o = false → i ≠ k ∧ V i = IsV undef) (hw : ∀ u, St false u w.drew)
  (loc : ∀ (i : Nat) (o : Oper), ops[i]? = some o → wantsG G o = true → ∀ a w, Leans (fun _ _ => True) V ops a0 w0 i a w →
   if i = k then (St false (slotOf a (dstOf ops A)) w → o.wp P a w (fun a' w' => ∃ v, a' = a.put o.dst v ∧ Rk w w' ∧ St true (slotOf a (dstOf ops A)) w' ∧ V i w' v) Q)
   else (∀ b, St b (slotOf a (dstOf ops A)) w → (∀ js, chained ops k i js = true → b = true) → o.wp P a w (fun a' w' => ∃ v, a' = a.put o.dst v ∧ Kp w w' ∧ V i w' v) Q))
  (done : ∀ vs w, St true (vs.getD A undef) w → vs.length = ops.size → (∀ i d, dstOf ops i = some d → V i w (vs.getD i undef)) → Q .normal (putAll a0 (ops.toList.map (·.dst)) vs) w) :
  (Code.region id ops true).wp P Q a0 w := by
 have look : ∀ (i : Nat) (o : Oper), ops[i]? = some o → (∀ g b, o.guard = some (g, b) → waits ops i g = true ∧ (dstOf ops g).isSome = true ∧ ((G g).isSome = true ∨ ∃ o', ops[g]? = some o' ∧ wantsG G o' = false)) ∧ (∀ e ∈ o.after, Region.binds .any e = true → e.on < i) ∧ (∀ d, o.dst = some d → d < a0.tmps.size) ∧ (∀ j, i ≠ j → ∀ d, o.dst = some d → dstOf ops j ≠ some d) := by
  intro i o ho
  have hi : i < ops.size := (Array.getElem?_eq_some_iff.1 ho).1
  have h := List.all_eq_true.1 hfit i (List.mem_range.2 hi)
  simp only [ho, Option.all_some, Bool.and_eq_true] at h
  obtain ⟨⟨⟨h1, h2⟩, h3⟩, h4⟩ := h
  refine ⟨fun g b hgb => ?_, fun e he hb => ?_, fun d hd => ?_, fun j hj d hd hx => ?_⟩
  ·rw [hgb] at h1
   simp only [Bool.and_eq_true, Bool.or_eq_true] at h1
   refine ⟨h1.1.1, h1.1.2, h1.2.imp (fun hx => hx) fun hx => ?_⟩
   cases ho' : ops[g]? with
   | none => rw [ho'] at hx; cases hx
   | some o' =>
    rw [ho'] at hx
    exact ⟨o', rfl, by simpa using hx⟩
  ·have := Array.all_eq_true_iff_forall_mem.1 h2 e he
   simpa [hb] using this
  ·rw [hd] at h3; simpa using h3
  ·have hjs : j < ops.size := by
    rcases Nat.lt_or_ge j ops.size with h' | h'
    ·exact h'
    ·simp [dstOf, Array.getElem?_eq_none h'] at hx
   have := List.all_eq_true.1 h4 j (List.mem_range.2 hjs)
   rw [hd, hx] at this
   simp [hj] at this
 have some_of : ∀ i d, dstOf ops i = some d → ∃ o, ops[i]? = some o ∧ o.dst = some d := fun i d h => by
  unfold dstOf at h
  cases ho : ops[i]? with
  | none => simp [ho] at h
  | some o => exact ⟨o, rfl, by simpa [ho] using h⟩
 have hd : ∀ i j d, dstOf ops i = some d → dstOf ops j = some d → i = j := by
  intro i j d hi hj
  obtain ⟨o, ho, hd⟩ := some_of i d hi
  exact Classical.byContradiction fun hne => (look i o ho).2.2.2 j hne d hd hj
 have hb : ∀ i d, dstOf ops i = some d → d < a0.tmps.size := by
  intro i d hi
  obtain ⟨o, ho, hd⟩ := some_of i d hi
  exact (look i o ho).2.2.1 d hd
 have hac : ∀ i j, waits ops i j = true → j < i := by
  intro i j h
  obtain ⟨o, ho, e, he, hb, rfl⟩ := (waits_iff i j).1 h
  exact (look i o ho).2.1 e he hb
 have fin : ∀ (l : Array Bool) (a : Act) (w' : World), (∀ i, i < ops.size → l.getD i false = true) → StandsAt (fun _ _ => True) V ops a0 w0 l a w' → St (l.getD k false) (slotOf a (dstOf ops A)) w' → Q .normal a w' := by
  intro l a w' hall h hs
  rw [hall k hk] at hs
  have hlen : ((ops.toList.map (·.dst)).map (slotOf a)).length = ops.size := by simp
  have es : ((ops.toList.map (·.dst)).map (slotOf a)).getD A undef = slotOf a (dstOf ops A) := by
   obtain ⟨dA, hdA⟩ := hA
   obtain ⟨o, ho, hd⟩ := some_of A dA hdA
   rw [List.getD_eq_getElem?_getD, List.getElem?_map, List.getElem?_map, Array.getElem?_toList, ho]
   simp [hd, hdA, slotOf]
  rw [← es] at hs
  have hq := done ((ops.toList.map (·.dst)).map (slotOf a)) w' hs hlen (fun i d hid => by
   obtain ⟨o, ho, hd⟩ := some_of i d hid
   have hi : i < ops.size := (Array.getElem?_eq_some_iff.1 ho).1
   have hv := h.val i d (hall i hi) hid
   have e : ((ops.toList.map (·.dst)).map (slotOf a)).getD i undef = a.tmps.getD d undef := by
    rw [List.getD_eq_getElem?_getD, List.getElem?_map, List.getElem?_map, Array.getElem?_toList, ho]
    simp [hd, slotOf]
   rw [e]; exact hv)
  rw [← putAll_of a _ a0 h.defers h.tmps ?_ ?_] at hq
  ·exact hq
  ·intro d hd
   obtain ⟨o, ho, hod⟩ := List.mem_map.1 hd
   obtain ⟨i, hi, rfl⟩ := List.getElem_of_mem ho
   exact (look i ops[i] (by simp at hi; simp [hi])).2.2.1 d (by simpa using hod)
  ·intro t ht
   refine h.old t fun i _ hid => ht ?_
   obtain ⟨o, ho, hd⟩ := some_of i t hid
   refine List.mem_map.2 ⟨o, ?_, hd⟩
   rw [← Array.mem_def]
   exact Array.mem_of_getElem? ho
 have go : ∀ (fuel : Nat) (l : Array Bool) (a : Act) (w : World), (leftOver ops.size l).length ≤ fuel → StandsAt (fun _ _ => True) V ops a0 w0 l a w → St (l.getD k false) (slotOf a (dstOf ops A)) w → wpAny P .any ops Q fuel l a w := by
  intro fuel
  induction fuel with
  | zero =>
   intro l a w hf h hs
   have hn : leftOver ops.size l = [] := List.eq_nil_of_length_eq_zero (by omega)
   have hnot : ∀ i, i < ops.size → l.getD i false = true := fun i hi => by
    have hm : i ∉ leftOver ops.size l := by rw [hn]; simp
    have hl' : i < l.size := by rw [h.size]; exact hi
    unfold leftOver at hm
    simp only [List.mem_filter, List.mem_range, hi, true_and, Array.getD, hl'] at hm ⊢
    simpa using hm
   refine ⟨?_, fin l a w hnot h hs⟩
   refine List.eq_nil_iff_forall_not_mem.2 fun i hi => ?_
   have hm := (mem_ready.1 hi).1
   have hx := getD_false_of hm
   rw [hnot i (by rw [← h.size]; exact hx.2)] at hx
   exact absurd hx.1 (by simp)
  | succ fuel ih =>
   intro l a w hf h hs
   refine ⟨fun hr => fin l a w (all_listed hac h.size hr) h hs, fun i hi => ?_⟩
   obtain ⟨hl, o, ho, hall⟩ := mem_ready.1 hi
   have hwt : ∀ j, waits ops i j = true → l.getD j false = true := fun j hj => by
    obtain ⟨o', ho', e, he, hb', rfl⟩ := (waits_iff i j).1 hj
    rw [ho] at ho'; cases ho'
    exact hall e he hb'
   have hdst : o.dst = dstOf ops i := by simp [dstOf, ho]
   have hleft : (leftOver ops.size (l.setIfInBounds i true)).length ≤ fuel := by
    have := leftOver_set ops.size l i (by rw [← h.size]; exact (getD_false_of hl).2) hl
    omega
   have hwant := wanted_is (h.leans hl hwt) (fun j d hj => by rw [h.tmps]; exact hb j d hj) (look i o ho).1 hG (fun i o ho hw => (hU i o ho hw).2)
   have hset : ∀ (hne : i ≠ k), (l.setIfInBounds i true).getD k false = l.getD k false := fun hne => getD_set_ne false hne
   have hb' : ∀ i d, dstOf ops i = some d → d < a.tmps.size := fun i d h' => by rw [h.tmps]; exact hb i d h'
   have hslot : ∀ (v : Value) (W : World), i ≠ k → St (l.getD k false) (slotOf a (dstOf ops A)) W → St (l.getD k false) (slotOf (a.put (dstOf ops i) v) (dstOf ops A)) W := fun v W hne hs => by
    by_cases hiA : i = A
    ·have hlk : l.getD k false = false := by
      cases hx : l.getD k false with
      | false => rfl
      | true =>
       have := h.down k A hx hkA
       rw [← hiA, (getD_false_of hl).1] at this; cases this
     rw [hlk] at hs ⊢
     exact hF _ _ _ hs
    ·rw [slotOf_put hd hb' hA hiA]; exact hs
   have hloc := loc i o ho
   unfold wpOp
   cases hwo : wantsG G o
   ·rw [hwo] at hwant
    obtain ⟨hne, hu⟩ := hU i o ho hwo
    simp only [ho, hwant, Bool.false_eq_true, if_false]
    rw [hdst]
    exact ih _ _ _ hleft (h.step' trivial (fun _ => trivial) hd hb hl (fun _ _ _ hh => hh) hwt (by rw [hu]; rfl)) (by rw [hset hne]; exact hslot _ _ hne hs)
   ·rw [hwo] at hwant
    simp only [ho, hwant, if_true]
    have hlc := hloc hwo a w (h.leans hl hwt)
    by_cases hik : i = k
    ·subst hik
     rw [if_pos rfl] at hlc
     have hlf := (getD_false_of hl).1
     rw [hlf] at hs
     refine .inl (Oper.wp_mono (fun a' w' hk' => ?_) (hlc hs))
     obtain ⟨v, rfl, hr, hst, hv⟩ := hk'
     rw [hdst]
     refine ih _ _ _ hleft (h.step' trivial (fun _ => trivial) hd hb hl (fun j u hj hu => ?_) hwt hv) (by
      have : (l.setIfInBounds i true).getD i false = true := by simp [(getD_false_of hl).2]
      rw [this, slotOf_put hd hb' hA (Ne.symm hAk)]; exact hst)
     exact hVk j (fun e => by subst e; rw [hj] at hlf; cases hlf) w w' u hr hu
    ·rw [if_neg hik] at hlc
     refine .inl (Oper.wp_mono (fun a' w' hk' => ?_) (hlc _ hs (fun js hbh => chained_listed h js i hwt hbh)))
     obtain ⟨v, rfl, hr, hv⟩ := hk'
     rw [hdst]
     exact ih _ _ _ hleft (h.step' trivial (fun _ => trivial) hd hb hl (fun j u _ hu => hV j w w' u hr hu) hwt hv) (by rw [hset hik]; exact hslot _ _ hik (hS _ _ _ _ hr hs))
 refine wp_region_any hm ?_
 refine go ops.size _ a0 _ ?_ ?_ ?_
 ·refine Nat.le_trans (List.length_filter_le _ _) ?_
  simp
 ·refine ⟨by simp, trivial, rfl, rfl, fun _ _ => rfl, ?_, ?_⟩
  ·intro i d h; exact absurd h (by simp [Array.getD])
  ·intro i j h; exact absurd h (by simp [Array.getD])
 ·have : (Array.replicate ops.size false).getD k false = false := by simp [Array.getD]
  rw [this]; exact hw _
end
section
variable {P : Program} {ops : Array Oper} {Q : Exit → Act → World → Prop} {V : Nat → World → Value → Prop} {a0 : Act} {w0 : World}
theorem wp_region_two {id : Nat} {w : World} (k1 k2 : Nat) (St : Bool → Bool → World → Prop) (R1 R2 : World → World → Prop) (G : Nat → Option Bool) (hm : P.follows .mixedOrders = true)
  (hV : ∀ i w w' v, Kp w w' → V i w v → V i w' v) (hS : ∀ b c w w', Kp w w' → St b c w → St b c w') (hV1 : ∀ i, i ≠ k1 → ∀ w w' v, R1 w w' → V i w v → V i w' v) (hV2 : ∀ i, i ≠ k2 → ∀ w w' v, R2 w w' → V i w v → V i w' v) (h12 : waits ops k2 k1 = true)
  (hfit : fitsG G ops a0.tmps.size = true) (hk1 : k1 < ops.size) (hk2 : k2 < ops.size) (hG : ∀ g c, G g = some c → ∀ w v, V g w v → v = .bool c) (hU : ∀ (i : Nat) (o : Oper), ops[i]? = some o → wantsG G o = false → (i ≠ k1 ∧ i ≠ k2) ∧ V i = IsV undef) (hw : St false false w.drew)
  (loc : ∀ (i : Nat) (o : Oper), ops[i]? = some o → wantsG G o = true → ∀ a w, Leans (fun _ _ => True) V ops a0 w0 i a w →
   if i = k1 then (St false false w → o.wp P a w (fun a' w' => ∃ v, a' = a.put o.dst v ∧ R1 w w' ∧ St true false w' ∧ V i w' v) Q)
   else if i = k2 then (St true false w → o.wp P a w (fun a' w' => ∃ v, a' = a.put o.dst v ∧ R2 w w' ∧ St true true w' ∧ V i w' v) Q)
   else (∀ b c, St b c w → (∀ js, chained ops k1 i js = true → b = true) → (∀ js, chained ops i k1 js = true → b = false) → o.wp P a w (fun a' w' => ∃ v, a' = a.put o.dst v ∧ Kp w w' ∧ V i w' v) Q))
  (done : ∀ vs w, St true true w → vs.length = ops.size → (∀ i d, dstOf ops i = some d → V i w (vs.getD i undef)) → Q .normal (putAll a0 (ops.toList.map (·.dst)) vs) w) :
  (Code.region id ops true).wp P Q a0 w := by
 have look : ∀ (i : Nat) (o : Oper), ops[i]? = some o → (∀ g b, o.guard = some (g, b) → waits ops i g = true ∧ (dstOf ops g).isSome = true ∧ ((G g).isSome = true ∨ ∃ o', ops[g]? = some o' ∧ wantsG G o' = false)) ∧ (∀ e ∈ o.after, Region.binds .any e = true → e.on < i) ∧ (∀ d, o.dst = some d → d < a0.tmps.size) ∧ (∀ j, i ≠ j → ∀ d, o.dst = some d → dstOf ops j ≠ some d) := by
  intro i o ho
  have hi : i < ops.size := (Array.getElem?_eq_some_iff.1 ho).1
  have h := List.all_eq_true.1 hfit i (List.mem_range.2 hi)
  simp only [ho, Option.all_some, Bool.and_eq_true] at h
  obtain ⟨⟨⟨h1, h2⟩, h3⟩, h4⟩ := h
  refine ⟨fun g b hgb => ?_, fun e he hb => ?_, fun d hd => ?_, fun j hj d hd hx => ?_⟩
  ·rw [hgb] at h1
   simp only [Bool.and_eq_true, Bool.or_eq_true] at h1
   refine ⟨h1.1.1, h1.1.2, h1.2.imp (fun hx => hx) fun hx => ?_⟩
   cases ho' : ops[g]? with
   | none => rw [ho'] at hx; cases hx
   | some o' =>
    rw [ho'] at hx
    exact ⟨o', rfl, by simpa using hx⟩
  ·have := Array.all_eq_true_iff_forall_mem.1 h2 e he
   simpa [hb] using this
  ·rw [hd] at h3; simpa using h3
  ·have hjs : j < ops.size := by
    rcases Nat.lt_or_ge j ops.size with h' | h'
    ·exact h'
    ·simp [dstOf, Array.getElem?_eq_none h'] at hx
   have := List.all_eq_true.1 h4 j (List.mem_range.2 hjs)
   rw [hd, hx] at this
   simp [hj] at this
 have some_of : ∀ i d, dstOf ops i = some d → ∃ o, ops[i]? = some o ∧ o.dst = some d := fun i d h => by
  unfold dstOf at h
  cases ho : ops[i]? with
  | none => simp [ho] at h
  | some o => exact ⟨o, rfl, by simpa [ho] using h⟩
 have hd : ∀ i j d, dstOf ops i = some d → dstOf ops j = some d → i = j := by
  intro i j d hi hj
  obtain ⟨o, ho, hd⟩ := some_of i d hi
  exact Classical.byContradiction fun hne => (look i o ho).2.2.2 j hne d hd hj
 have hb : ∀ i d, dstOf ops i = some d → d < a0.tmps.size := by
  intro i d hi
  obtain ⟨o, ho, hd⟩ := some_of i d hi
  exact (look i o ho).2.2.1 d hd
 have hac : ∀ i j, waits ops i j = true → j < i := by
  intro i j h
  obtain ⟨o, ho, e, he, hb, rfl⟩ := (waits_iff i j).1 h
  exact (look i o ho).2.1 e he hb
 have fin : ∀ (l : Array Bool) (a : Act) (w' : World), (∀ i, i < ops.size → l.getD i false = true) → StandsAt (fun _ _ => True) V ops a0 w0 l a w' → St (l.getD k1 false) (l.getD k2 false) w' → Q .normal a w' := by
  intro l a w' hall h hs
  rw [hall k1 hk1, hall k2 hk2] at hs
  have hlen : ((ops.toList.map (·.dst)).map (slotOf a)).length = ops.size := by simp
  have hq := done ((ops.toList.map (·.dst)).map (slotOf a)) w' hs hlen (fun i d hid => by
   obtain ⟨o, ho, hd⟩ := some_of i d hid
   have hi : i < ops.size := (Array.getElem?_eq_some_iff.1 ho).1
   have hv := h.val i d (hall i hi) hid
   have e : ((ops.toList.map (·.dst)).map (slotOf a)).getD i undef = a.tmps.getD d undef := by
    rw [List.getD_eq_getElem?_getD, List.getElem?_map, List.getElem?_map, Array.getElem?_toList, ho]
    simp [hd, slotOf]
   rw [e]; exact hv)
  rw [← putAll_of a _ a0 h.defers h.tmps ?_ ?_] at hq
  ·exact hq
  ·intro d hd
   obtain ⟨o, ho, hod⟩ := List.mem_map.1 hd
   obtain ⟨i, hi, rfl⟩ := List.getElem_of_mem ho
   exact (look i ops[i] (by simp at hi; simp [hi])).2.2.1 d (by simpa using hod)
  ·intro t ht
   refine h.old t fun i _ hid => ht ?_
   obtain ⟨o, ho, hd⟩ := some_of i t hid
   refine List.mem_map.2 ⟨o, ?_, hd⟩
   rw [← Array.mem_def]
   exact Array.mem_of_getElem? ho
 have go : ∀ (fuel : Nat) (l : Array Bool) (a : Act) (w : World), (leftOver ops.size l).length ≤ fuel → StandsAt (fun _ _ => True) V ops a0 w0 l a w → St (l.getD k1 false) (l.getD k2 false) w → wpAny P .any ops Q fuel l a w := by
  intro fuel
  induction fuel with
  | zero =>
   intro l a w hf h hs
   have hn : leftOver ops.size l = [] := List.eq_nil_of_length_eq_zero (by omega)
   have hnot : ∀ i, i < ops.size → l.getD i false = true := fun i hi => by
    have hm : i ∉ leftOver ops.size l := by rw [hn]; simp
    have hl' : i < l.size := by rw [h.size]; exact hi
    unfold leftOver at hm
    simp only [List.mem_filter, List.mem_range, hi, true_and, Array.getD, hl'] at hm ⊢
    simpa using hm
   refine ⟨?_, fin l a w hnot h hs⟩
   refine List.eq_nil_iff_forall_not_mem.2 fun i hi => ?_
   have hm := (mem_ready.1 hi).1
   have hx := getD_false_of hm
   rw [hnot i (by rw [← h.size]; exact hx.2)] at hx
   exact absurd hx.1 (by simp)
  | succ fuel ih =>
   intro l a w hf h hs
   refine ⟨fun hr => fin l a w (all_listed hac h.size hr) h hs, fun i hi => ?_⟩
   obtain ⟨hl, o, ho, hall⟩ := mem_ready.1 hi
   have hwt : ∀ j, waits ops i j = true → l.getD j false = true := fun j hj => by
    obtain ⟨o', ho', e, he, hb', rfl⟩ := (waits_iff i j).1 hj
    rw [ho] at ho'; cases ho'
    exact hall e he hb'
   have hdst : o.dst = dstOf ops i := by simp [dstOf, ho]
   have hleft : (leftOver ops.size (l.setIfInBounds i true)).length ≤ fuel := by
    have := leftOver_set ops.size l i (by rw [← h.size]; exact (getD_false_of hl).2) hl
    omega
   have hwant := wanted_is (h.leans hl hwt) (fun j d hj => by rw [h.tmps]; exact hb j d hj) (look i o ho).1 hG (fun i o ho hw => (hU i o ho hw).2)
   have hset : ∀ k, i ≠ k → (l.setIfInBounds i true).getD k false = l.getD k false := fun k hne => getD_set_ne false hne
   have hself : (l.setIfInBounds i true).getD i false = true := by simp [(getD_false_of hl).2]
   have hloc := loc i o ho
   unfold wpOp
   cases hwo : wantsG G o
   ·rw [hwo] at hwant
    obtain ⟨hne, hu⟩ := hU i o ho hwo
    simp only [ho, hwant, Bool.false_eq_true, if_false]
    rw [hdst]
    exact ih _ _ _ hleft (h.step' trivial (fun _ => trivial) hd hb hl (fun _ _ _ hh => hh) hwt (by rw [hu]; rfl)) (by rw [hset _ hne.1, hset _ hne.2]; exact hs)
   ·rw [hwo] at hwant
    simp only [ho, hwant, if_true]
    have hlc := hloc hwo a w (h.leans hl hwt)
    by_cases hi1 : i = k1
    ·subst hi1
     rw [if_pos rfl] at hlc
     have hlf := (getD_false_of hl).1
     have hl2 : l.getD k2 false = false := by
      cases hx : l.getD k2 false with
      | false => rfl
      | true =>
       have := h.down k2 i hx h12
       rw [hlf] at this; cases this
     have hne : i ≠ k2 := fun e => by
      have h1 := hac k2 i h12
      omega
     rw [hlf, hl2] at hs
     refine .inl (Oper.wp_mono (fun a' w' hk' => ?_) (hlc hs))
     obtain ⟨v, rfl, hr, hst, hv⟩ := hk'
     rw [hdst]
     refine ih _ _ _ hleft (h.step' trivial (fun _ => trivial) hd hb hl (fun j u hj hu => ?_) hwt hv) (by
      rw [hself, hset _ hne, hl2]; exact hst)
     exact hV1 j (fun e => by subst e; rw [hj] at hlf; cases hlf) w w' u hr hu
    ·rw [if_neg hi1] at hlc
     by_cases hi2 : i = k2
     ·subst hi2
      rw [if_pos rfl] at hlc
      have hlf := (getD_false_of hl).1
      have hl1 := hwt k1 h12
      rw [hlf, hl1] at hs
      refine .inl (Oper.wp_mono (fun a' w' hk' => ?_) (hlc hs))
      obtain ⟨v, rfl, hr, hst, hv⟩ := hk'
      rw [hdst]
      refine ih _ _ _ hleft (h.step' trivial (fun _ => trivial) hd hb hl (fun j u hj hu => ?_) hwt hv) (by
       rw [hself, hset _ hi1, hl1]; exact hst)
      exact hV2 j (fun e => by subst e; rw [hj] at hlf; cases hlf) w w' u hr hu
     ·rw [if_neg hi2] at hlc
      refine .inl (Oper.wp_mono (fun a' w' hk' => ?_) (hlc _ _ hs (fun js hbh => chained_listed h js i hwt hbh) (fun js hbh => ?_)))
      ·obtain ⟨v, rfl, hr, hv⟩ := hk'
       rw [hdst]
       exact ih _ _ _ hleft (h.step' trivial (fun _ => trivial) hd hb hl (fun j u _ hu => hV j w w' u hr hu) hwt hv) (by rw [hset _ hi1, hset _ hi2]; exact hS _ _ _ _ hr hs)
      ·cases hx : l.getD k1 false with
       | false => rfl
       | true =>
        have := chained_listed h js k1 (fun j hj => h.down k1 j hx hj) hbh
        rw [(getD_false_of hl).1] at this; cases this
 refine wp_region_any hm ?_
 refine go ops.size _ a0 _ ?_ ?_ ?_
 ·refine Nat.le_trans (List.length_filter_le _ _) ?_
  simp
 ·refine ⟨by simp, trivial, rfl, rfl, fun _ _ => rfl, ?_, ?_⟩
  ·intro i d h; exact absurd h (by simp [Array.getD])
  ·intro i j h; exact absurd h (by simp [Array.getD])
 ·have : ∀ k, (Array.replicate ops.size false).getD k false = false := fun k => by simp [Array.getD]
  rw [this, this]; exact hw
end
section
variable {P : Program} {ops : Array Oper} {Q : Exit → Act → World → Prop} {V : Nat → World → Value → Prop} {a0 : Act} {w0 : World} {G : Nat → Option Bool} {St : Bool → World → Prop} {Rk : World → World → Prop} {k : Nat}
theorem rowsIn_wide' {n : Nat} {row : String} {args : Array Value} {w : World} {R : Value → World → Prop} (h : Rows P row args w R) : RowsIn Fence.wide n P row args w R := fun c cs _ =>
 let ⟨v, w', r, s⟩ := h c cs
 ⟨v, w', r, stepsIn_wide.2 s⟩
theorem wpIn_round_of_wp {n l : Nat} {o : Oper} {a : Act} {w : World} {K : Act → World → Prop} (hd : ∀ c, o.op ≠ .defer c) (hh : o.wp P a w K Q) : o.wpIn (Fence.wide.inRound l) n P a w K Q := by
 refine ⟨fun _ _ => trivial, ?_⟩
 show o.uponIn (Fence.wide.inRound l) n P a K Q ((o.semAt (some l) a.eval).run P w)
 rw [Oper.semAt_some l a.eval o hd]
 unfold Oper.wp at hh
 have hdep : ((Fence.wide.inRound l).depth.isSome = true → 1 ≤ n) := fun h => by cases h
 generalize (execOp a.eval o).run P w = r at hh ⊢
 cases r with
 | ok x w' =>
  cases x with
  | value v => exact hh
  | skip => exact hh
  | «defer» d => exact hh
  | enter f args => exact ⟨hdep, CallsIn.inRound l (callsIn_wide.2 hh)⟩
  | row row args => exact ⟨hdep, rowsIn_wide' hh⟩
  | _ => exact hh.elim
 | halt x w' => cases x <;> exact hh
theorem wpIn_region_one {n lp id : Nat} {w : World} (k : Nat) (St : Bool → World → Prop) (Rk : World → World → Prop) (G : Nat → Option Bool) (hm : P.follows .mixedOrders = true) (hnd : ∀ o ∈ ops, ∀ c, o.op ≠ .defer c)
  (hV : ∀ i w w' v, Kp w w' → V i w v → V i w' v) (hS : ∀ b w w', Kp w w' → St b w → St b w') (hVk : ∀ i, i ≠ k → ∀ w w' v, Rk w w' → V i w v → V i w' v)
  (hfit : fitsG G ops a0.tmps.size = true) (hk : k < ops.size) (hG : ∀ g c, G g = some c → ∀ w v, V g w v → v = .bool c) (hU : ∀ (i : Nat) (o : Oper), ops[i]? = some o → wantsG G o = false → i ≠ k ∧ V i = IsV undef) (hw : St false w.drew)
  (loc : ∀ (i : Nat) (o : Oper), ops[i]? = some o → wantsG G o = true → ∀ a w, Leans (fun _ _ => True) V ops a0 w0 i a w →
   if i = k then (St false w → o.wp P a w (fun a' w' => ∃ v, a' = a.put o.dst v ∧ Rk w w' ∧ St true w' ∧ V i w' v) Q)
   else (∀ b, St b w → (∀ js, chained ops k i js = true → b = true) → o.wp P a w (fun a' w' => ∃ v, a' = a.put o.dst v ∧ Kp w w' ∧ V i w' v) Q))
  (done : ∀ vs w, St true w → vs.length = ops.size → (∀ i d, dstOf ops i = some d → V i w (vs.getD i undef)) → Q .normal (putAll a0 (ops.toList.map (·.dst)) vs) w) :
  (Code.region id ops true).wpIn (Fence.wide.inRound lp) n P Q a0 w := by
 have look : ∀ (i : Nat) (o : Oper), ops[i]? = some o → (∀ g b, o.guard = some (g, b) → waits ops i g = true ∧ (dstOf ops g).isSome = true ∧ ((G g).isSome = true ∨ ∃ o', ops[g]? = some o' ∧ wantsG G o' = false)) ∧ (∀ e ∈ o.after, Region.binds .any e = true → e.on < i) ∧ (∀ d, o.dst = some d → d < a0.tmps.size) ∧ (∀ j, i ≠ j → ∀ d, o.dst = some d → dstOf ops j ≠ some d) := by
  intro i o ho
  have hi : i < ops.size := (Array.getElem?_eq_some_iff.1 ho).1
  have h := List.all_eq_true.1 hfit i (List.mem_range.2 hi)
  simp only [ho, Option.all_some, Bool.and_eq_true] at h
  obtain ⟨⟨⟨h1, h2⟩, h3⟩, h4⟩ := h
  refine ⟨fun g b hgb => ?_, fun e he hb => ?_, fun d hd => ?_, fun j hj d hd hx => ?_⟩
  ·rw [hgb] at h1
   simp only [Bool.and_eq_true, Bool.or_eq_true] at h1
   refine ⟨h1.1.1, h1.1.2, h1.2.imp (fun hx => hx) fun hx => ?_⟩
   cases ho' : ops[g]? with
   | none => rw [ho'] at hx; cases hx
   | some o' =>
    rw [ho'] at hx
    exact ⟨o', rfl, by simpa using hx⟩
  ·have := Array.all_eq_true_iff_forall_mem.1 h2 e he
   simpa [hb] using this
  ·rw [hd] at h3; simpa using h3
  ·have hjs : j < ops.size := by
    rcases Nat.lt_or_ge j ops.size with h' | h'
    ·exact h'
    ·simp [dstOf, Array.getElem?_eq_none h'] at hx
   have := List.all_eq_true.1 h4 j (List.mem_range.2 hjs)
   rw [hd, hx] at this
   simp [hj] at this
 have some_of : ∀ i d, dstOf ops i = some d → ∃ o, ops[i]? = some o ∧ o.dst = some d := fun i d h => by
  unfold dstOf at h
  cases ho : ops[i]? with
  | none => simp [ho] at h
  | some o => exact ⟨o, rfl, by simpa [ho] using h⟩
 have hd : ∀ i j d, dstOf ops i = some d → dstOf ops j = some d → i = j := by
  intro i j d hi hj
  obtain ⟨o, ho, hd⟩ := some_of i d hi
  exact Classical.byContradiction fun hne => (look i o ho).2.2.2 j hne d hd hj
 have hb : ∀ i d, dstOf ops i = some d → d < a0.tmps.size := by
  intro i d hi
  obtain ⟨o, ho, hd⟩ := some_of i d hi
  exact (look i o ho).2.2.1 d hd
 have hac : ∀ i j, waits ops i j = true → j < i := by
  intro i j h
  obtain ⟨o, ho, e, he, hb, rfl⟩ := (waits_iff i j).1 h
  exact (look i o ho).2.1 e he hb
 have fin : ∀ (l : Array Bool) (a : Act) (w' : World), (∀ i, i < ops.size → l.getD i false = true) → StandsAt (fun _ _ => True) V ops a0 w0 l a w' → St (l.getD k false) w' → Q .normal a w' := by
  intro l a w' hall h hs
  rw [hall k hk] at hs
  have hlen : ((ops.toList.map (·.dst)).map (slotOf a)).length = ops.size := by simp
  have hq := done ((ops.toList.map (·.dst)).map (slotOf a)) w' hs hlen (fun i d hid => by
   obtain ⟨o, ho, hd⟩ := some_of i d hid
   have hi : i < ops.size := (Array.getElem?_eq_some_iff.1 ho).1
   have hv := h.val i d (hall i hi) hid
   have e : ((ops.toList.map (·.dst)).map (slotOf a)).getD i undef = a.tmps.getD d undef := by
    rw [List.getD_eq_getElem?_getD, List.getElem?_map, List.getElem?_map, Array.getElem?_toList, ho]
    simp [hd, slotOf]
   rw [e]; exact hv)
  rw [← putAll_of a _ a0 h.defers h.tmps ?_ ?_] at hq
  ·exact hq
  ·intro d hd
   obtain ⟨o, ho, hod⟩ := List.mem_map.1 hd
   obtain ⟨i, hi, rfl⟩ := List.getElem_of_mem ho
   exact (look i ops[i] (by simp at hi; simp [hi])).2.2.1 d (by simpa using hod)
  ·intro t ht
   refine h.old t fun i _ hid => ht ?_
   obtain ⟨o, ho, hd⟩ := some_of i t hid
   refine List.mem_map.2 ⟨o, ?_, hd⟩
   rw [← Array.mem_def]
   exact Array.mem_of_getElem? ho
 have go : ∀ (fuel : Nat) (l : Array Bool) (a : Act) (w : World), (leftOver ops.size l).length ≤ fuel → StandsAt (fun _ _ => True) V ops a0 w0 l a w → St (l.getD k false) w → wpAnyIn (Fence.wide.inRound lp) n P .any ops Q fuel l a w := by
  intro fuel
  induction fuel with
  | zero =>
   intro l a w hf h hs
   have hn : leftOver ops.size l = [] := List.eq_nil_of_length_eq_zero (by omega)
   have hnot : ∀ i, i < ops.size → l.getD i false = true := fun i hi => by
    have hm : i ∉ leftOver ops.size l := by rw [hn]; simp
    have hl' : i < l.size := by rw [h.size]; exact hi
    unfold leftOver at hm
    simp only [List.mem_filter, List.mem_range, hi, true_and, Array.getD, hl'] at hm ⊢
    simpa using hm
   refine ⟨?_, fin l a w hnot h hs⟩
   refine List.eq_nil_iff_forall_not_mem.2 fun i hi => ?_
   have hm := (mem_ready.1 hi).1
   have hx := getD_false_of hm
   rw [hnot i (by rw [← h.size]; exact hx.2)] at hx
   exact absurd hx.1 (by simp)
  | succ fuel ih =>
   intro l a w hf h hs
   refine ⟨fun hr => fin l a w (all_listed hac h.size hr) h hs, fun i hi => ?_⟩
   obtain ⟨hl, o, ho, hall⟩ := mem_ready.1 hi
   have hwt : ∀ j, waits ops i j = true → l.getD j false = true := fun j hj => by
    obtain ⟨o', ho', e, he, hb', rfl⟩ := (waits_iff i j).1 hj
    rw [ho] at ho'; cases ho'
    exact hall e he hb'
   have hdst : o.dst = dstOf ops i := by simp [dstOf, ho]
   have hleft : (leftOver ops.size (l.setIfInBounds i true)).length ≤ fuel := by
    have := leftOver_set ops.size l i (by rw [← h.size]; exact (getD_false_of hl).2) hl
    omega
   have hwant := wanted_is (h.leans hl hwt) (fun j d hj => by rw [h.tmps]; exact hb j d hj) (look i o ho).1 hG (fun i o ho hw => (hU i o ho hw).2)
   have hset : ∀ (hne : i ≠ k), (l.setIfInBounds i true).getD k false = l.getD k false := fun hne => getD_set_ne false hne
   have hloc := loc i o ho
   unfold wpOpIn
   cases hwo : wantsG G o
   ·rw [hwo] at hwant
    obtain ⟨hne, hu⟩ := hU i o ho hwo
    simp only [ho, hwant, Bool.false_eq_true, if_false]
    rw [hdst]
    exact ⟨fun _ _ => trivial, ih _ _ _ hleft (h.step' trivial (fun _ => trivial) hd hb hl (fun _ _ _ hh => hh) hwt (by rw [hu]; rfl)) (by rw [hset hne]; exact hs)⟩
   ·rw [hwo] at hwant
    simp only [ho, hwant, if_true]
    have hlc := hloc hwo a w (h.leans hl hwt)
    by_cases hik : i = k
    ·subst hik
     rw [if_pos rfl] at hlc
     have hlf := (getD_false_of hl).1
     rw [hlf] at hs
     refine wpIn_round_of_wp (hnd o (Array.mem_of_getElem? ho)) (Oper.wp_mono (fun a' w' hk' => ?_) (hlc hs))
     obtain ⟨v, rfl, hr, hst, hv⟩ := hk'
     rw [hdst]
     refine ih _ _ _ hleft (h.step' trivial (fun _ => trivial) hd hb hl (fun j u hj hu => ?_) hwt hv) (by
      have : (l.setIfInBounds i true).getD i false = true := by simp [(getD_false_of hl).2]
      rw [this]; exact hst)
     exact hVk j (fun e => by subst e; rw [hj] at hlf; cases hlf) w w' u hr hu
    ·rw [if_neg hik] at hlc
     refine wpIn_round_of_wp (hnd o (Array.mem_of_getElem? ho)) (Oper.wp_mono (fun a' w' hk' => ?_) (hlc _ hs (fun js hbh => chained_listed h js i hwt hbh)))
     obtain ⟨v, rfl, hr, hv⟩ := hk'
     rw [hdst]
     exact ih _ _ _ hleft (h.step' trivial (fun _ => trivial) hd hb hl (fun j u _ hu => hV j w w' u hr hu) hwt hv) (by rw [hset hik]; exact hS _ _ _ hr hs)
 refine wpIn_region_any hm ?_
 refine go ops.size _ a0 _ ?_ ?_ ?_
 ·refine Nat.le_trans (List.length_filter_le _ _) ?_
  simp
 ·refine ⟨by simp, trivial, rfl, rfl, fun _ _ => rfl, ?_, ?_⟩
  ·intro i d h; exact absurd h (by simp [Array.getD])
  ·intro i j h; exact absurd h (by simp [Array.getD])
 ·have : (Array.replicate ops.size false).getD k false = false := by simp [Array.getD]
  rw [this]; exact hw
end
end Go.Proofs.YticophaepapjoaaGreatDoor
namespace Go.Proofs.YticophaepapjoaaGreatDoor
open Go Go.RowKit Go.Joins Go.Shelf
section
variable {w : World} {o : Oper} {a : Act} {Q : Exit → Act → World → Prop} {x y : Operand}
theorem kp_lenK {A : Option Addr} {n c : Nat} (ho : o.op = .call { callee := .builtin .len, args := #[x], argTypes := #[135] }) (hx : a.eval x = .slice A n c) : o.wp Tryz.prog a w (fun a' w' => ∃ v, a' = a.put o.dst v ∧ Kp w w' ∧ IsV (.int .i64 (n : Int)) w' v) Q := by
 refine kp_yield (v := .int .i64 (n : Int)) ?_ (Keeps.refl _ _) rfl
 generalize a.eval = ρ at hx
 unfold execOp
 go_simp
theorem kp_lenB {A : Option Addr} {n c : Nat} (ho : o.op = .call { callee := .builtin .len, args := #[x], argTypes := #[64] }) (hx : a.eval x = .slice A n c) : o.wp Tryz.prog a w (fun a' w' => ∃ v, a' = a.put o.dst v ∧ Kp w w' ∧ IsV (.int .i64 (n : Int)) w' v) Q := by
 refine kp_yield (v := .int .i64 (n : Int)) ?_ (Keeps.refl _ _) rfl
 generalize a.eval = ρ at hx
 unfold execOp
 go_simp
theorem kp_sub1 {m : Nat} (hm : m ≤ 1000000) (ho : o.op = .binOp .sub 3 x (.const (.int .i64 1)) 3) (hx : a.eval x = .int .i64 ((m + 1 : Nat) : Int)) : o.wp Tryz.prog a w (fun a' w' => ∃ v, a' = a.put o.dst v ∧ Kp w w' ∧ IsV (.int .i64 (m : Int)) w' v) Q := by
 refine kp_yield (v := .int .i64 (m : Int)) ?_ (Keeps.refl _ _) rfl
 have hc : a.eval (.const (.int .i64 1)) = .int .i64 1 := rfl
 have e : IntKind.i64.wrap (((m + 1 : Nat) : Int) - 1) = (m : Int) := by rw [IntKind.wrap_i64]; omega
 generalize a.eval = ρ at hx hc
 unfold execOp
 generalize ((m + 1 : Nat) : Int) = z at hx e
 go_simp
theorem kp_subN {m n k : Nat} (hm : m ≤ 1000000) (hn : n ≤ m) (hk : k = m - n) (ho : o.op = .binOp .sub 3 x y 3) (hx : a.eval x = .int .i64 (m : Int)) (hy : a.eval y = .int .i64 (n : Int)) : o.wp Tryz.prog a w (fun a' w' => ∃ v, a' = a.put o.dst v ∧ Kp w w' ∧ IsV (.int .i64 (k : Int)) w' v) Q := by
 refine kp_yield (v := .int .i64 (k : Int)) ?_ (Keeps.refl _ _) rfl
 have e : IntKind.i64.wrap ((m : Int) - (n : Int)) = (k : Int) := by rw [IntKind.wrap_i64]; omega
 clear hk hn hm
 generalize a.eval = ρ at hx hy
 unfold execOp
 go_simp
theorem kp_rem53 {m k : Nat} (hm : m ≤ 1000000) (hk : k = m % 53) (ho : o.op = .binOp .rem 3 x (.const (.int .i64 53)) 3) (hx : a.eval x = .int .i64 (m : Int)) : o.wp Tryz.prog a w (fun a' w' => ∃ v, a' = a.put o.dst v ∧ Kp w w' ∧ IsV (.int .i64 (k : Int)) w' v) Q := by
 refine kp_yield (v := .int .i64 (k : Int)) ?_ (Keeps.refl _ _) rfl
 have hc : a.eval (.const (.int .i64 53)) = .int .i64 53 := rfl
 have e1 : (m : Int).tmod 53 = (k : Int) := by rw [Int.tmod_eq_emod_of_nonneg (by omega)]; omega
 have e : IntKind.i64.wrap (k : Int) = (k : Int) := by rw [IntKind.wrap_i64]; omega
 clear hk
 generalize a.eval = ρ at hx hc
 unfold execOp
 go_simp
theorem kp_addN {m n : Nat} (hm : m + n ≤ 1000000) (ho : o.op = .binOp .add 3 x y 3) (hx : a.eval x = .int .i64 (m : Int)) (hy : a.eval y = .int .i64 (n : Int)) : o.wp Tryz.prog a w (fun a' w' => ∃ v, a' = a.put o.dst v ∧ Kp w w' ∧ IsV (.int .i64 ((m + n : Nat) : Int)) w' v) Q := by
 refine kp_yield (v := .int .i64 ((m + n : Nat) : Int)) ?_ (Keeps.refl _ _) rfl
 have e : IntKind.i64.wrap ((m : Int) + (n : Int)) = ((m + n : Nat) : Int) := by rw [IntKind.wrap_i64]; omega
 clear hm
 generalize ((m + n : Nat) : Int) = z at e ⊢
 generalize a.eval = ρ at hx hy
 unfold execOp
 go_simp
theorem kp_idxK {g n c m : Nat} (hmn : m < n) (ho : o.op = .indexAddr 135 x y) (hx : a.eval x = .slice (some ⟨g, 0, none⟩) n c) (hy : a.eval y = .int .i64 (m : Int)) : o.wp Tryz.prog a w (fun a' w' => ∃ v, a' = a.put o.dst v ∧ Kp w w' ∧ IsV (.pointer (some ⟨g, m * 3, none⟩)) w' v) Q := by
 refine kp_yield (v := .pointer (some ⟨g, m * 3, none⟩)) ?_ (Keeps.refl _ _) rfl
 generalize a.eval = ρ at hx hy
 unfold execOp
 go_simp
theorem kp_allocPG (ho : o.op = .alloc 209) : o.wp Tryz.prog a w (fun a' w' => ∃ v, a' = a.put o.dst v ∧ Kp w w' ∧ (v = .pointer (some ⟨w.heap.size, 0, none⟩) ∧ w' = w.alloc (.cells #[.pointer none] 209))) Q := by
 refine kp_yield (V := fun w' v => v = .pointer (some ⟨w.heap.size, 0, none⟩) ∧ w' = w.alloc (.cells #[.pointer none] 209)) (v := .pointer (some ⟨w.heap.size, 0, none⟩)) (w' := w.alloc (.cells #[.pointer none] 209)) ?_ ((Keeps.refl _ w).alloc _) ⟨rfl, rfl⟩
 unfold execOp
 go_simp
theorem kp_oneI {n : Int} (ho : o.op = .buildSlice 66 1 #[(0, x)]) (hx : a.eval x = .int .i64 n) : o.wp Tryz.prog a w (fun a' w' => ∃ v, a' = a.put o.dst v ∧ Kp w w' ∧ (v = .slice (some ⟨w.heap.size, 0, none⟩) 1 1 ∧ w' = w.alloc (.cells #[.int .i64 n] 3))) Q := by
 refine kp_yield (V := fun w' v => v = .slice (some ⟨w.heap.size, 0, none⟩) 1 1 ∧ w' = w.alloc (.cells #[.int .i64 n] 3)) (v := .slice (some ⟨w.heap.size, 0, none⟩) 1 1) (w' := w.alloc (.cells #[.int .i64 n] 3)) ?_ ((Keeps.refl _ w).alloc _) ⟨rfl, rfl⟩
 generalize a.eval = ρ at hx
 unfold execOp
 go_simp
theorem kp_fG2at {g j : Nat} (ho : o.op = .fieldAddr 179 x 2) (hx : a.eval x = .pointer (some ⟨g, j, none⟩)) : o.wp Tryz.prog a w (fun a' w' => ∃ v, a' = a.put o.dst v ∧ Kp w w' ∧ IsV (.pointer (some ⟨g, j + 2, none⟩)) w' v) Q := by
 refine kp_yield (v := .pointer (some ⟨g, j + 2, none⟩)) ?_ (Keeps.refl _ _) rfl
 generalize a.eval = ρ at hx
 unfold execOp
 go_simp
theorem cells_1 {v : Value} (h : v.oneCell' = true) : v.cells = #[v] := by
 cases v <;> first | rfl | simp [Value.oneCell'] at h
theorem run_store1 {P : Program} (e : TypeId) (hi : (P.info? e).map (·.size) = some 1) (p : Addr) (v u : Value) (hv : v.oneCell' = true) (w : World) (hc : w.cell? p = some u) (hf : w.frozen? p = false) :
  (storeVar e p v).run P w = .ok () (w.setCell p v) := by
 obtain ⟨ie, hie, hs⟩ := Option.map_eq_some_iff.1 hi
 simp [storeVar, cells_1 hv, sizeOf, typeInfo, hie, hs, storeCells, run_store P _ _ v _ hv, Addr.add_zero', hc, hf, Result.andThen]
theorem one_cell {P : Program} (ty : TypeId) (ho : o.op = .store ty x y) (hi : (P.info? ty).map (·.size) = some 1) (p : Addr) (v u : Value) (hv : v.oneCell' = true) (hc : w.cell? p = some u) (hf : w.frozen? p = false) (hx : a.eval x = .pointer (some p)) (hy : a.eval y = v) :
  o.wp P a w (fun a' w' => ∃ v', a' = a.put o.dst v' ∧ w' = w.setCell p v) Q := by
 unfold Oper.wp execOp
 simp only [ho, hx, hy, Instr.storeAt, Instr.sureAddr, Sem.run_bind, Sem.run_pure, Result.andThen_ok, run_store1 ty hi p v u hv w hc hf]
 exact ⟨_, rfl, rfl⟩
end
def IsPB (w : World) (b : Nat) : Prop := ∃ v : Value, w.heap[b]? = some (.cells #[v] 209 (0, 0))
theorem IsPB.kp {w w' : World} {b : Nat} (h : Kp w w') (hi : IsPB w b) : IsPB w' b := by
 obtain ⟨v, hb⟩ := hi
 exact ⟨v, (h.block b trivial (Array.getElem?_eq_some_iff.1 hb).1).trans hb⟩
def PBV (n0 : Nat) : World → Value → Prop := fun w v => ∃ b, v = .pointer (some ⟨b, 0, none⟩) ∧ IsPB w b ∧ n0 ≤ b
def RX (w w' : World) : Prop := ∀ b, IsPB w b → IsPB w' b
def VX (n0 q g m k3 : Nat) : Nat → World → Value → Prop
 | 0 => IsV (.pointer (some ⟨q, 0, none⟩))
 | 1 => IsV (.pointer (some ⟨q, 0, none⟩))
 | 2 => IsV (.pointer (some ⟨q, 3, none⟩))
 | 3 => IsV (.slice (some ⟨g, 0, none⟩) (m + 1) k3)
 | 4 => IsV (.pointer (some ⟨q, 0, none⟩))
 | 5 => IsV (.pointer (some ⟨q, 0, none⟩))
 | 6 => IsV (.pointer (some ⟨q, 3, none⟩))
 | 7 => IsV (.slice (some ⟨g, 0, none⟩) (m + 1) k3)
 | 8 => IsV (.int .i64 ((m + 1 : Nat) : Int))
 | 9 => IsV (.int .i64 (m : Int))
 | 10 => IsV (.pointer (some ⟨g, m * 3, none⟩))
 | 11 => PBV n0
 | _ => fun _ _ => True
theorem VX_any {n0 q g m k3 : Nat} (i : Nat) (w w' : World) (v : Value) (h : ∀ b, IsPB w b → IsPB w' b) (hv : VX n0 q g m k3 i w v) : VX n0 q g m k3 i w' v := by
 match i, hv with
 | 0, hv => exact hv
 | 1, hv => exact hv
 | 2, hv => exact hv
 | 3, hv => exact hv
 | 4, hv => exact hv
 | 5, hv => exact hv
 | 6, hv => exact hv
 | 7, hv => exact hv
 | 8, hv => exact hv
 | 9, hv => exact hv
 | 10, hv => exact hv
 | 11, hv => obtain ⟨b, e, hi, hb⟩ := hv; exact ⟨b, e, h b hi, hb⟩
 | n + 12, _ => trivial
def SX (w0 : World) (pv : Value) : Bool → Value → World → Prop
 | false, _, w => Kp w0 w
 | true, u, w => Kp w0 w ∧ ∃ b, u = .pointer (some ⟨b, 0, none⟩) ∧ w0.heap.size ≤ b ∧ w.heap[b]? = some (.cells #[pv] 209 (0, 0))
theorem SX.kp0 {w0 w : World} {pv : Value} {b : Bool} {u : Value} (h : SX w0 pv b u w) : Kp w0 w := by
 cases b
 ·exact h
 ·exact h.1
theorem SX.keep {w0 w w' : World} {pv : Value} {b : Bool} {u : Value} (h : SX w0 pv b u w) (hk : Kp w w') : SX w0 pv b u w' := by
 cases b
 ·exact h.trans hk
 ·obtain ⟨h0, b, e, hb, hc⟩ := h
  exact ⟨h0.trans hk, b, e, hb, (hk.block b trivial (Array.getElem?_eq_some_iff.1 hc).1).trans hc⟩
def piece (x : List UInt8) (j : Nat) : List UInt8 := (x.drop (53 * j)).take 53
theorem piece_len (x : List UInt8) (j : Nat) : (piece x j).length = chLen x.length j := by unfold piece chLen; rw [List.length_take, List.length_drop]
theorem piece_row {w : World} {g : Nat} {F : Nat → Prop} {x : List UInt8} (h : Row w (some ⟨g, 0, none⟩) F (bcells x)) (j : Nat) : Row w (some ⟨g, 0 + 53 * j, none⟩) F (bcells (piece x j)) := by
 intro hne
 have hx : bcells x ≠ [] := fun e => hne (by
  have : x = [] := by cases x with
   | nil => rfl
   | cons a l => cases e
  subst this
  simp [piece, bcells])
 obtain ⟨b, o, e, hF, hc⟩ := h hx
 injection e with e
 injection e with e1 e2
 subst e1 e2
 refine ⟨_, _, rfl, hF, fun i v hv => ?_⟩
 have h1 : (bcells x)[53 * j + i]? = some v := by
  unfold bcells piece at hv
  unfold bcells
  rw [List.getElem?_map] at hv ⊢
  rw [List.getElem?_take] at hv
  split at hv
  ·rw [List.getElem?_drop] at hv; exact hv
  ·cases hv
 have := hc _ v h1
 rw [Nat.zero_add] at this ⊢
 exact this
def putsL (s : SDev) (at_ nu : Nat) (x : List UInt8) (pre : List Nat) : SDev := pre.zipIdx.foldl (fun s yi => s.write (at_ + yi.2) (encL (nu + yi.2) (piece x yi.1))) s
theorem putsL_snoc (s : SDev) (at_ nu : Nat) (x : List UInt8) (pre : List Nat) (y : Nat) : putsL s at_ nu x (pre ++ [y]) = (putsL s at_ nu x pre).write (at_ + pre.length) (encL (nu + pre.length) (piece x y)) := by
 unfold putsL
 rw [List.zipIdx_append, List.foldl_append]
 simp
def SDev.puts (s : SDev) (at_ nu : Nat) (x : List UInt8) : Nat → SDev
 | 0 => s
 | m + 1 => (SDev.puts s at_ nu x m).write (at_ + m) (encL (nu + m) (piece x m))
theorem putsL_range (s : SDev) (at_ nu : Nat) (x : List UInt8) (m : Nat) : putsL s at_ nu x (List.range m) = s.puts at_ nu x m := by
 induction m with
 | zero => rfl
 | succ m ih => rw [List.range_succ, putsL_snoc, ih, List.length_range]; rfl
theorem putsL_len (s : SDev) (at_ nu : Nat) (x : List UInt8) (pre : List Nat) : (putsL s at_ nu x pre).now.length = s.now.length ∧ (putsL s at_ nu x pre).calls = s.calls + pre.length := by
 have : ∀ (pre : List Nat) (k : Nat) (s : SDev), ((pre.zipIdx k).foldl (fun s yi => s.write (at_ + yi.2) (encL (nu + yi.2) (piece x yi.1))) s).now.length = s.now.length ∧ ((pre.zipIdx k).foldl (fun s yi => s.write (at_ + yi.2) (encL (nu + yi.2) (piece x yi.1))) s).calls = s.calls + pre.length := by
  intro pre
  induction pre with
  | nil => intro k s; exact ⟨rfl, rfl⟩
  | cons y pre ih =>
   intro k s
   rw [List.zipIdx_cons, List.foldl_cons]
   obtain ⟨h1, h2⟩ := ih (k + 1) (s.write (at_ + k) (encL (nu + k) (piece x y)))
   have e1 : (s.write (at_ + k) (encL (nu + k) (piece x y))).now.length = s.now.length := by simp [SDev.write]
   have e2 : (s.write (at_ + k) (encL (nu + k) (piece x y))).calls = s.calls + 1 := rfl
   exact ⟨h1.trans e1, by rw [h2, e2, List.length_cons]; omega⟩
 exact this pre 0 s
theorem keeps_on {G H : Nat → Prop} {w W w' : World} (h : Keeps G w W) (hk : Keeps H W w') (hG : ∀ b, b < w.heap.size → G b → H b) : Keeps G w w' :=
 ⟨hk.os.trans h.os, hk.tape.trans h.tape, hk.output.trans h.output, Nat.le_trans h.size hk.size, fun b hb hl => (hk.block b (hG b hl hb) (Nat.lt_of_lt_of_le hl h.size)).trans (h.block b hb hl)⟩
def chV (gx L x : Nat) : Value := .slice (some ⟨gx, 0 + 53 * x, none⟩) (chLen L x) (chLen L x)
def a1 (a : Act) (gx L x : Nat) : Act := { tmps := (a.tmps.setIfInBounds 35 (chV gx L x)).setIfInBounds 8 (chV gx L x), defers := [] }
set_option maxRecDepth 100000 in
theorem chunks_loop {gop : Operand} {assign body : Code} {Q : Exit → Act → World → Prop} {a : Act} {w : World} (Bs Bn gx L cx : Nat) (hg : a.eval gop = .func (.func 172) #[] #[.pointer (some ⟨Bs, 0, none⟩), .pointer (some ⟨Bn, 0, none⟩)]) (hlc : L ≤ cx) (hlm : L ≤ 1000000000000)
  (hBs : w.cell? ⟨Bs, 0, none⟩ = some (.slice (some ⟨gx, 0, none⟩) L cx)) (hBn : w.cell? ⟨Bn, 0, none⟩ = some (.int .i64 53)) (I : List Nat → World → Prop) (hI : OwnFrom w.heap.size I) (h0 : I [] w)
  (hassign : ∀ (l : Nat) (x : Nat) (W : World) (K : Act → World → Prop), K (a1 a gx L x) W →
   assign.wpIn (Fence.wide.inRound l) (6 - 1 - 1) Tryz.prog (Exit.then K (fun _ _ _ => False)) { tmps := a.tmps.setIfInBounds 35 (chV gx L x), defers := [] } W)
  (hbody : ∀ (l : Nat) (pre : List Nat) (x : Nat) (W : World), I pre W → pre.length < chunks L → body.wpIn (Fence.wide.inRound l) (6 - 1 - 1) Tryz.prog (ownPostG w.heap.size (KpB Bs Bn) I (fun _ _ _ => False) (pre ++ [x]) W) (a1 a gx L x) W)
  (hdone : ∀ (D : Nat) (W : World), w.heap.size ≤ D → I (List.range (chunks L)) W → W.heap[D]? = some (.deferred (some [])) → Q .normal { a with defers := { target := .collected D, args := #[] } :: a.defers } W) :
  (Code.rangeFunc gop #[35] assign body).wpIn Fence.wide 6 Tryz.prog Q a w := by
 have l1 := World.block_lt_of_cell? w _ hBs
 have l2 := World.block_lt_of_cell? w _ hBn
 simp only at l1 l2
 have ef : ∀ x, ((#[35] : Array Tmp).zip (encCh gx 0 L x)).foldl (fun t (p, v) => t.setIfInBounds p v) a.tmps = a.tmps.setIfInBounds 35 (chV gx L x) := fun x => by simp [encCh, chV]
 refine wpIn_rangeFunc_ownG rfl (by omega) (gf := 172) (lb := #[.pointer (some ⟨Bs, 0, none⟩), .pointer (some ⟨Bn, 0, none⟩)]) hg trivial (enters_of Tryz.func172 (by kernel_rfl) rfl)
  (chunk_stops Fence.wide 5 trivial rfl (by omega) Bs Bn gx 0 L cx hlc hlm w hBs hBn) (fun h k => h.trans k) (fun W l o o' hl _ _ _ => ?_) (Below.refl _ _) (fun _ => rfl)
  I (fun _ _ _ => False) hI (fun _ _ _ _ _ hs _ _ => hs) h0 (a1 a gx L) (fun l x W K hK => by rw [ef x]; exact hassign l x W K hK) hbody (fun D xs W hD hS hi hdef => ?_) (fun _ _ _ _ _ _ h _ => h.elim)
 ·exact (Keeps.of_grown (grownBy_putObj' W l o') fun b hb _ hn => by
   injection hb with hb
   rcases hn with rfl | rfl <;> omega)
 ·rw [hS] at hi
  exact hdone D W hD hi hdef
def VBy (q g j : Nat) (sv : Value) (k : Nat) (cv : Value) (ct : ByteArray) : Nat → World → Value → Prop
 | 0 => IsV (.pointer (some ⟨q, 0, none⟩))
 | 1 => IsV (.pointer (some ⟨g, j, none⟩))
 | 2 => IsV (.pointer (some ⟨g, j, none⟩))
 | 3 => IsV sv
 | 4 => IsV (.int .i64 (k : Int))
 | 5 => IsV cv
 | 6 => IsV (.string ct)
 | 7 => IsV (.int .i64 0)
 | 8 => IsV (.int .i64 0)
 | _ => fun _ _ => True
theorem VBy_any {q g j : Nat} {sv : Value} {k : Nat} {cv : Value} {ct : ByteArray} (i : Nat) (w w' : World) (v : Value) (hv : VBy q g j sv k cv ct i w v) : VBy q g j sv k cv ct i w' v := by
 match i, hv with
 | 0, hv => exact hv
 | 1, hv => exact hv
 | 2, hv => exact hv
 | 3, hv => exact hv
 | 4, hv => exact hv
 | 5, hv => exact hv
 | 6, hv => exact hv
 | 7, hv => exact hv
 | 8, hv => exact hv
 | n + 9, _ => trivial
def SB (W : World) (p : Nat) (F : Foot) (s s' : SDev) : Bool → World → Prop
 | false, w => DAt w p F s ∧ Kp W w
 | true, w => DAt w p F s' ∧ Keeps (fun b => ¬ F.M b) W w
theorem SB.keep {W w w' : World} {p : Nat} {F : Foot} {s s' : SDev} {b : Bool} (hs : SB W p F s s' b w) (h : Kp w w') : SB W p F s s' b w' := by
 cases b
 ·exact ⟨hs.1.keep (h.mono fun _ _ _ => trivial), hs.2.trans h⟩
 ·exact ⟨hs.1.keep (h.mono fun _ _ _ => trivial), hs.2.trans (h.mono fun _ _ _ => trivial)⟩
theorem SB.kp {W w : World} {p : Nat} {F : Foot} {s s' : SDev} {b : Bool} (hs : SB W p F s s' b w) : Keeps (fun b => ¬ F.M b) W w := by
 cases b
 ·exact hs.2.mono fun _ _ _ => trivial
 ·exact hs.2
def noDefer (ops : Array Oper) : Bool := ops.all fun o => match o.op with | .defer _ => false | _ => true
theorem noDefer_is {ops : Array Oper} (h : noDefer ops = true) : ∀ o ∈ ops, ∀ c, o.op ≠ .defer c := fun o ho c e => by
 have := Array.all_eq_true_iff_forall_mem.1 h o ho
 rw [e] at this
 cases this
theorem one_lay {w : World} {o : Oper} {a : Act} {Q : Exit → Act → World → Prop} {X : World → Value → Prop} {f : FuncId} {args : Array Value} {C : Ending → World → Prop} (e : (execOp a.eval o).run Tryz.prog w = .ok (.enter f args) w) (hc : Calls Tryz.prog f args w C)
  (hv : ∀ e' w', C e' w' → ∃ v, e' = .returned v ∧ X w' v) : o.wp Tryz.prog a w (fun a' w' => ∃ v, a' = a.put o.dst v ∧ X w' v) Q := by
 unfold Oper.wp
 rw [e]
 refine hc.mono ?_
 intro e' w' h
 obtain ⟨v, rfl, hx⟩ := hv e' w' h
 exact ⟨v, rfl, hx⟩
theorem segC_last (ks : List Seg) (sg sg' : Seg) (Es0 : List Value) (E v : Value) (h : Es0.length = ks.length) (h1 : sg'.slot = sg.slot) (h2 : sg'.first = sg.first) : (segC (ks ++ [sg]) (Es0 ++ [E])).set (ks.length * 3 + 2) v = segC (ks ++ [sg']) (Es0 ++ [v]) := by
 rw [segC_append _ _ _ _ h, segC_append _ _ _ _ h]
 have hl := segC_len ks Es0 h
 rw [List.set_append, if_neg (by omega), hl, Nat.add_sub_cancel_left]
 simp [segC, Seg.cells, h1, h2]
theorem log_extended {W wN W1 wE : World} {q p i n sl left nx g k3 left' : Nat} {F : Foot} {ks : List Seg} {sg : Seg} {tl : List UInt8} {T T' : Value} {Es0 : List Value} {E v : Value} {Z : Nat → Prop} (r : LRec) (hL : LogAt W q F p i n (ks ++ [sg]) sl left nx tl (.slice (some ⟨g, 0, none⟩) (ks.length + 1) k3) T (Es0 ++ [E]))
  (hkN : Keeps (fun b => b ≠ q) W wN) (hbN : LBlk wN q p i n (.slice (some ⟨g, 0, none⟩) (ks.length + 1) k3) sl left' T' nx)
  (hk1 : Keeps (fun b => E.ownBlock ≠ some b) wN W1) (hv : W1.ownsRow 0 3 1 v (sg.recs ++ [r]).length (endsC (sg.recs ++ [r]))) (hvn : v.ownBlock = E.ownBlock ∨ ∃ b, v.ownBlock = some b ∧ wN.heap.size ≤ b)
  (hkE : Keeps (fun b => ¬ Z b) (W1.setCell ⟨g, ks.length * 3 + 2, none⟩ v) wE) (hbr : ∀ b, F.M b → ¬ Z b) (hbr2 : ∀ b, Z b → b < wN.heap.size)
  (I : Nat → Prop) (tl' : List UInt8) (hI : ∀ b, I b → b < wE.heap.size) (hIN : ∀ b, I b → b < wN.heap.size) (hIF : ∀ b, I b → ¬ F.M b) (ht : ∃ A c, T' = .slice A tl'.length c ∧ tl'.length ≤ c ∧ c ≤ maxLen ∧ Row wE A I (bcells tl')) :
  LogAt wE q ⟨hasB q (.slice (some ⟨g, 0, none⟩) (ks.length + 1) k3) (Es0 ++ [v]), I⟩ p i n (ks ++ [⟨sg.slot, sg.first, sg.recs ++ [r]⟩]) sl left' nx tl' (.slice (some ⟨g, 0, none⟩) (ks.length + 1) k3) T' (Es0 ++ [v]) := by
 have hel : Es0.length = ks.length := by have := hL.ends.len; simp at this; exact this
 have hlt := hL.lt
 have hMg : F.M g := hL.mkk g rfl
 have hME : ∀ b, E.ownBlock = some b → F.M b := fun b e => hL.me E (by simp) b e
 have hoE : ∀ b, E.ownBlock = some b → b ≠ q ∧ b ≠ g := fun b e => by
  have := hL.ends.out E (by simp) b e
  exact ⟨fun h => this (.inl h), fun h => this (.inr (by rw [h]; rfl))⟩
 have hgq : g ≠ q := hL.kq g rfl
 have hsN := hkN.size
 have hvg : ∀ b, v.ownBlock = some b → b ≠ g ∧ b ≠ q ∧ ¬ Z b := fun b e => by
  rcases hvn with h | ⟨c, hc, hle⟩
  ·rw [h] at e
   exact ⟨(hoE b e).2, (hoE b e).1, hbr b (hME b e)⟩
  ·rw [hc] at e; injection e with e
   have h1 := hlt g (.inl hMg)
   have h2 := hlt q (.inl hL.mq)
   exact ⟨by omega, by omega, fun hz => by have := hbr2 b hz; omega⟩
 have hkg : Keeps (fun b => b ≠ g) W1 (W1.setCell ⟨g, ks.length * 3 + 2, none⟩ v) := (Keeps.refl _ W1).setCell (.inr fun hn => hn rfl) _
 have hqlt : q < wN.heap.size := Nat.lt_of_lt_of_le (hlt q (.inl hL.mq)) hsN
 have hall : ∀ b, b < W.heap.size → b ≠ q → E.ownBlock ≠ some b → b ≠ g → ¬ Z b → wE.heap[b]? = W.heap[b]? := fun b h1 h2 h3 h4 h5 =>
  (hkE.block b h5 (by have := hkg.size; have := hk1.size; omega)).trans ((hkg.block b h4 (by have := hk1.size; omega)).trans ((hk1.block b h3 (by omega)).trans (hkN.block b h2 h1)))
 have hmid : LogMid wE q p i n (ks ++ [⟨sg.slot, sg.first, sg.recs ++ [r]⟩]) sl left' nx (.slice (some ⟨g, 0, none⟩) (ks.length + 1) k3) T' (Es0 ++ [v]) := by
  refine ⟨?_, ?_, ⟨?_, ?_, ?_, ?_⟩, hL.kq⟩
  ·have e1 := (hk1.block q (fun e => (hoE q e).1 rfl) hqlt).trans hbN
   have e2 := (hkg.block q (Ne.symm hgq) (by have := hk1.size; omega)).trans e1
   exact (hkE.block q (hbr q hL.mq) (by have := hkg.size; have := hk1.size; omega)).trans e2
  ·have h0 := hkN.own hL.row fun b hb => hL.kq b hb
   have h1 := hk1.own h0 fun b hb e => (hoE b e).2 (by injection hb with hb; exact hb.symm)
   rw [List.length_append, List.length_singleton] at h1 ⊢
   have h2 := (h1.stored (ks.length * 3 + 2) v).1
   rw [segC_last ks sg ⟨sg.slot, sg.first, sg.recs ++ [r]⟩ Es0 E v hel rfl rfl] at h2
   exact hkE.own h2 fun b hb => by injection hb with hb; rw [← hb]; exact hbr g hMg
  ·simp [hel]
  ·intro j hj
   by_cases hjm : j < ks.length
   ·have e1 : (ks ++ [(⟨sg.slot, sg.first, sg.recs ++ [r]⟩ : Seg)])[j] = ks[j] := List.getElem_append_left hjm
    have e2 : (Es0 ++ [v])[j]'(by simp [hel]; omega) = Es0[j]'(by omega) := List.getElem_append_left (by omega)
    rw [e1, e2]
    have h0 := hL.ends.own j (by simp; omega)
    rw [List.getElem_append_left hjm, List.getElem_append_left (by omega)] at h0
    have hmem : Es0[j]'(by omega) ∈ Es0 ++ [E] := List.mem_append_left _ (List.getElem_mem _)
    have hap : ∀ b, (Es0[j]'(by omega)).ownBlock = some b → E.ownBlock ≠ some b := fun b e e2 => (List.pairwise_append.1 hL.ends.two).2.2 _ (List.getElem_mem _) E (by simp) b e e2
    have hout := fun b e => hL.ends.out _ hmem b e
    have hk : Keeps (fun b => b ≠ q ∧ E.ownBlock ≠ some b ∧ b ≠ g ∧ ¬ Z b) W wE := keeps_on (keeps_on (keeps_on (hkN.mono fun _ _ hb => hb.1) hk1 fun _ _ hb => hb.2.1) hkg fun _ _ hb => hb.2.2.1) hkE fun _ _ hb => hb.2.2.2
    exact hk.own h0 fun b e => ⟨fun e' => hout b e (.inl e'), hap b e, fun e' => hout b e (.inr (by rw [e']; rfl)), hbr b (hL.me _ hmem b e)⟩
   ·have hj' : j = ks.length := by simp at hj; omega
    subst hj'
    rw [List.getElem_concat_length rfl, List.getElem_concat_length hel.symm]
    exact hkE.own (hkg.own hv fun b e => (hvg b e).1) fun b e => (hvg b e).2.2
  ·intro X hX b e hx
   rcases List.mem_append.1 hX with hX | hX
   ·exact hL.ends.out X (List.mem_append_left _ hX) b e hx
   ·rw [List.mem_singleton.1 hX] at e
    have := hvg b e
    rcases hx with hx | hx
    ·exact this.2.1 hx
    ·injection hx with hx; exact this.1 hx.symm
  ·have h2 := List.pairwise_append.1 hL.ends.two
   refine List.pairwise_append.2 ⟨h2.1, by simp, fun a ha b hb => ?_⟩
   rw [List.mem_singleton.1 hb]
   intro y e1 e2
   rcases hvn with h | ⟨c, hc, hle⟩
   ·exact h2.2.2 a ha E (by simp) y e1 (by rw [← h]; exact e2)
   ·rw [hc] at e2; injection e2 with e2
    have := hlt y (.inl (hL.me a (List.mem_append_left _ ha) y e1))
    omega
 refine hmid.at_ I hI (fun b hb hi => ?_) ht
 rcases hb with rfl | hb | ⟨X, hX, hb⟩
 ·exact hIF _ hi hL.mq
 ·exact hIF b hi (hL.mkk b hb)
 ·rcases List.mem_append.1 hX with hX | hX
  ·exact hIF b hi (hL.me X (List.mem_append_left _ hX) b hb)
  ·rw [List.mem_singleton.1 hX] at hb
   rcases hvn with h | ⟨c, hc, hle⟩
   ·exact hIF b hi (hME b (by rw [← h]; exact hb))
   ·rw [hc] at hb; injection hb with hb
    have := hIN b hi
    omega
end Go.Proofs.YticophaepapjoaaGreatDoor
