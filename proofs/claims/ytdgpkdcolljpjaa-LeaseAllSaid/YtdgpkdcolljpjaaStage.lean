/-
  A REGION THAT DRAWS ITS ORDER AND HOLDS TWO CALLS THAT WRITE ('d.Write(..) != r.Write(..)'), BY STAGES (my own text; it knows no program): what the world says ahead of both, behind either, behind both; every other operation only reads; each is looked at once; the order does not matter.
  Conditions: no operation is guarded; no two write one slot; each waits only for earlier ones.
-/
import Derived.Test.YtdgpkdcolljpjaaInv
namespace Go.Proofs.Ytdgpkdcolljpjaa
open Go Go.RowKit

section
variable {P : Program} {ops : Array Oper} {Q : Exit → Act → World → Prop} {V : Nat → Value → Value → Value → Prop} {S : Bool → Bool → Value → Value → World → Prop} {A B : Nat} {a0 : Act}

/-- What lies in an operation's slot. -/
def slotAt (ops : Array Oper) (a : Act) (i : Nat) : Value := slotOf a (dstOf ops i)
structure Stands (V : Nat → Value → Value → Value → Prop) (S : Bool → Bool → Value → Value → World → Prop) (A B : Nat) (ops : Array Oper) (a0 : Act) (l : Array Bool) (a : Act) (w : World) : Prop where
  size : l.size = ops.size
  defers : a.defers = a0.defers
  tmps : a.tmps.size = a0.tmps.size
  old : ∀ t, (∀ i, l.getD i false = true → dstOf ops i ≠ some t) → a.tmps.getD t undef = a0.tmps.getD t undef
  val : ∀ i d, i ≠ A → i ≠ B → l.getD i false = true → dstOf ops i = some d → V i (slotAt ops a A) (slotAt ops a B) (a.tmps.getD d undef)
  stg : S (l.getD A false) (l.getD B false) (slotAt ops a A) (slotAt ops a B) w
  down : ∀ i j, l.getD i false = true → waits ops i j = true → l.getD j false = true

/-- What operation i may lean on when it comes up. -/
structure LeansS (V : Nat → Value → Value → Value → Prop) (S : Bool → Bool → Value → Value → World → Prop) (A B : Nat) (ops : Array Oper) (a0 : Act) (i : Nat) (la lb : Bool) (a : Act) (w : World) : Prop where
  stg : S la lb (slotAt ops a A) (slotAt ops a B) w
  wa : waits ops i A = true → la = true
  wb : waits ops i B = true → lb = true
  val : ∀ j d, j ≠ A → j ≠ B → waits ops i j = true → dstOf ops j = some d → V j (slotAt ops a A) (slotAt ops a B) (a.eval (.tmp d))
  old : ∀ t, ((List.range ops.size).all fun k => dstOf ops k != some t || waits ops k i || k == i) = true → a.eval (.tmp t) = a0.eval (.tmp t)

theorem Stands.leans {l : Array Bool} {a : Act} {w : World} {i : Nat} (h : Stands V S A B ops a0 l a w) (hl : l.getD i true = false)
    (hw : ∀ j, waits ops i j = true → l.getD j false = true) : LeansS V S A B ops a0 i (l.getD A false) (l.getD B false) a w where
  stg := h.stg
  wa hj := hw A hj
  wb hj := hw B hj
  val j d h1 h2 hj hd := h.val j d h1 h2 (hw j hj) hd
  old t ht := h.old t fun k hk hd => by
    have hks : k < ops.size := by
      rcases Nat.lt_or_ge k ops.size with h' | h'
      · exact h'
      · simp [dstOf, Array.getElem?_eq_none h'] at hd
    have := List.all_eq_true.1 ht k (List.mem_range.2 hks)
    simp only [hd, bne_self_eq_false, Bool.false_or, Bool.or_eq_true, beq_iff_eq] at this
    have hf := (getD_false_of hl).1
    rcases this with h1 | h1
    · rw [h.down k i hk h1] at hf; cases hf
    · subst h1; rw [hk] at hf; cases hf

/-- What one operation must do: a reader (0), the one call (1), the other one (2). -/
def Does (V : Nat → Value → Value → Value → Prop) (S : Bool → Bool → Value → Value → World → Prop) (A B i : Nat) (la lb : Bool) (va vb : Value) (_w : World) (v : Value) (w' : World) : Prop :=
  if i = A then S true lb v vb w' else if i = B then S la true va v w' else V i va vb v ∧ S la lb va vb w'

theorem slot_put {a : Act} {v : Value} (hd : ∀ i j d, dstOf ops i = some d → dstOf ops j = some d → i = j) (hb : ∀ i d, dstOf ops i = some d → d < a.tmps.size) {i j : Nat} (hj : ∃ d, dstOf ops j = some d) :
    slotAt ops (a.put (dstOf ops i) v) j = if j = i then v else slotAt ops a j := by
  obtain ⟨d, hd'⟩ := hj
  unfold slotAt slotOf
  rw [hd']
  by_cases e : j = i
  · subst e
    rw [if_pos rfl, hd']
    show (a.put (some d) v).tmps.getD d undef = v
    rw [getD_put (hb j d hd'), if_pos rfl]
  · rw [if_neg e]
    cases hx : dstOf ops i with
    | none => rfl
    | some d' =>
      show (a.put (some d') v).tmps.getD d undef = _
      rw [getD_put (hb i d' hx), if_neg (fun h => e (hd j i d hd' (by rw [hx, h])))]

theorem Stands.step (hVA : ∀ i va va' vb v, waits ops i A = false → V i va vb v → V i va' vb v) (hVB : ∀ i va vb vb' v, waits ops i B = false → V i va vb v → V i va vb' v) (hd : ∀ i j d, dstOf ops i = some d → dstOf ops j = some d → i = j) (hb : ∀ i d, dstOf ops i = some d → d < a0.tmps.size) (hA : ∃ d, dstOf ops A = some d) (hB : ∃ d, dstOf ops B = some d) (hAB : A ≠ B)
    {l : Array Bool} {a : Act} {w w' : World} {i : Nat} {v : Value} (h : Stands V S A B ops a0 l a w) (hl : l.getD i true = false)
    (hw : ∀ j, waits ops i j = true → l.getD j false = true) (hv : Does V S A B i (l.getD A false) (l.getD B false) (slotAt ops a A) (slotAt ops a B) w v w') :
    Stands V S A B ops a0 (l.setIfInBounds i true) (a.put (dstOf ops i) v) w' := by
  have hi := (getD_false_of hl).2
  have hset : (l.setIfInBounds i true).getD i false = true := by simp [hi]
  have hsa : ∀ j, j ≠ i → (l.setIfInBounds i true).getD j false = l.getD j false := fun j hj => getD_set_ne false (Ne.symm hj)
  have hb' : ∀ i d, dstOf ops i = some d → d < a.tmps.size := fun i d h' => by rw [h.tmps]; exact hb i d h'
  refine ⟨by simp [h.size], ?_, ?_, ?_, ?_, ?_, ?_⟩
  · cases hx : dstOf ops i <;> simp [Act.put, h.defers]
  · cases hx : dstOf ops i <;> simp [Act.put, h.tmps]
  · intro t ht
    have old := h.old t fun k hk => ht k (getD_set_true hk)
    cases hx : dstOf ops i with
    | none => exact old
    | some d =>
      rw [getD_put (hb' i d hx), if_neg (fun e => ht i hset (by rw [hx, e]))]
      exact old
  · intro k d hkA hkB hk hkd
    rw [slot_put hd hb' hA, slot_put hd hb' hB]
    by_cases hki : k = i
    · subst hki
      rw [if_neg (Ne.symm hkA), if_neg (Ne.symm hkB), hkd, getD_put (hb' k d hkd), if_pos rfl]
      unfold Does at hv
      rw [if_neg hkA, if_neg hkB] at hv
      exact hv.1
    · have hkl := getD_true_set hk hki
      have hval := h.val k d hkA hkB hkl hkd
      have hsame : (a.put (dstOf ops i) v).tmps.getD d undef = a.tmps.getD d undef := by
        cases hx : dstOf ops i with
        | none => rfl
        | some d' => rw [getD_put (hb' i d' hx), if_neg (fun e => hki (hd k i d hkd (by rw [hx, e])))]
      rw [hsame]
      have hfi := (getD_false_of hl).1
      by_cases e1 : A = i
      · have hwk : waits ops k A = false := by
          cases hx : waits ops k A with
          | false => rfl
          | true => have := h.down k A hkl hx; rw [e1, hfi] at this; cases this
        rw [if_pos e1, if_neg (fun e2 => hAB (by rw [e1, e2]))]
        exact hVA k _ _ _ _ hwk hval
      · rw [if_neg e1]
        by_cases e2 : B = i
        · have hwk : waits ops k B = false := by
            cases hx : waits ops k B with
            | false => rfl
            | true => have := h.down k B hkl hx; rw [e2, hfi] at this; cases this
          rw [if_pos e2]
          exact hVB k _ _ _ _ hwk hval
        · rw [if_neg e2]; exact hval
  · rw [slot_put hd hb' hA, slot_put hd hb' hB]
    unfold Does at hv
    by_cases e1 : i = A
    · rw [if_pos e1] at hv
      subst e1
      rw [if_pos rfl, if_neg (Ne.symm hAB), hset, hsa B (Ne.symm hAB)]
      exact hv
    · rw [if_neg e1] at hv
      rw [if_neg (Ne.symm e1), hsa A (Ne.symm e1)]
      by_cases e2 : i = B
      · rw [if_pos e2] at hv
        subst e2
        rw [if_pos rfl, hset]
        exact hv
      · rw [if_neg e2] at hv
        rw [if_neg (Ne.symm e2), hsa B (Ne.symm e2)]
        exact hv.2
  · intro k j hk hkj
    by_cases hki : k = i
    · subst hki; exact getD_set_true (hw j hkj)
    · exact getD_set_true (h.down k j (getD_true_set hk hki) hkj)

theorem wpAny_stage (hVA : ∀ i va va' vb v, waits ops i A = false → V i va vb v → V i va' vb v) (hVB : ∀ i va vb vb' v, waits ops i B = false → V i va vb v → V i va vb' v) (hd : ∀ i j d, dstOf ops i = some d → dstOf ops j = some d → i = j) (hb : ∀ i d, dstOf ops i = some d → d < a0.tmps.size) (hA : ∃ d, dstOf ops A = some d) (hB : ∃ d, dstOf ops B = some d) (hAB : A ≠ B)
    (hg : ∀ (i : Nat) (o : Oper), ops[i]? = some o → o.guard = none) (hac : ∀ i j, waits ops i j = true → j < i)
    (loc : ∀ (i : Nat) (o : Oper), ops[i]? = some o → ∀ la lb a w, (i = A → la = false) → (i = B → lb = false) → LeansS V S A B ops a0 i la lb a w → o.wp P a w (fun a' w' => ∃ v, a' = a.put o.dst v ∧ Does V S A B i la lb (slotAt ops a A) (slotAt ops a B) w v w') Q)
    (done : ∀ l a w, (∀ i, i < ops.size → l.getD i false = true) → Stands V S A B ops a0 l a w → Q .normal a w) :
    ∀ (fuel : Nat) (l : Array Bool) (a : Act) (w : World), (leftOver ops.size l).length ≤ fuel → Stands V S A B ops a0 l a w → wpAny P .any ops Q fuel l a w := by
  intro fuel
  induction fuel with
  | zero =>
    intro l a w hf h
    have hn : leftOver ops.size l = [] := List.eq_nil_of_length_eq_zero (by omega)
    have hnot : ∀ i, i < ops.size → l.getD i false = true := fun i hi => by
      have hm : i ∉ leftOver ops.size l := by rw [hn]; simp
      have hl' : i < l.size := by rw [h.size]; exact hi
      unfold leftOver at hm
      simp only [List.mem_filter, List.mem_range, hi, true_and, Array.getD, hl'] at hm ⊢
      simpa using hm
    refine ⟨?_, done l a w hnot h⟩
    refine List.eq_nil_iff_forall_not_mem.2 fun i hi => ?_
    have hm := (mem_ready.1 hi).1
    have hx := getD_false_of hm
    rw [hnot i (by rw [← h.size]; exact hx.2)] at hx
    exact absurd hx.1 (by simp)
  | succ fuel ih =>
    intro l a w hf h
    refine ⟨fun hr => done l a w (all_listed hac h.size hr) h, fun i hi => ?_⟩
    obtain ⟨hl, o, ho, hall⟩ := mem_ready.1 hi
    have hw : ∀ j, waits ops i j = true → l.getD j false = true := fun j hj => by
      obtain ⟨o', ho', e, he, hb', rfl⟩ := (waits_iff i j).1 hj
      rw [ho] at ho'; cases ho'
      exact hall e he hb'
    have hdst : o.dst = dstOf ops i := by simp [dstOf, ho]
    have hwant : Region.wanted o (yielded ops a.tmps) = true := by
      unfold Region.wanted; rw [hg i o ho]
    unfold wpOp
    simp only [ho, hwant, if_true]
    have hfi := (getD_false_of hl).1
    refine .inl (Oper.wp_mono (fun a' w' hk => ?_) (loc i o ho _ _ a w (fun e => by rw [← e]; exact hfi) (fun e => by rw [← e]; exact hfi) (h.leans hl hw)))
    obtain ⟨v, rfl, hv⟩ := hk
    rw [hdst]
    refine ih _ _ _ ?_ (h.step hVA hVB hd hb hA hB hAB hl hw hv)
    have := leftOver_set ops.size l i (by rw [← h.size]; exact (getD_false_of hl).2) hl
    omega

/-- THE LAW. -/
theorem wp_region_stage {id : Nat} {w : World} (hVA : ∀ i va va' vb v, waits ops i A = false → V i va vb v → V i va' vb v) (hVB : ∀ i va vb vb' v, waits ops i B = false → V i va vb v → V i va vb' v) (hm : P.follows .mixedOrders = true) (hfit : fits ops a0.tmps.size = true) (hA : (dstOf ops A).isSome = true) (hB : (dstOf ops B).isSome = true) (hAB : A ≠ B)
    (h0 : S false false (slotAt ops a0 A) (slotAt ops a0 B) w.drew)
    (loc : ∀ (i : Nat) (o : Oper), ops[i]? = some o → ∀ la lb a w, (i = A → la = false) → (i = B → lb = false) → LeansS V S A B ops a0 i la lb a w → o.wp P a w (fun a' w' => ∃ v, a' = a.put o.dst v ∧ Does V S A B i la lb (slotAt ops a A) (slotAt ops a B) w v w') Q)
    (done : ∀ vs w, vs.length = ops.size → (∀ i d, i ≠ A → i ≠ B → dstOf ops i = some d → V i (vs.getD A undef) (vs.getD B undef) (vs.getD i undef)) → S true true (vs.getD A undef) (vs.getD B undef) w → Q .normal (putAll a0 (ops.toList.map (·.dst)) vs) w) :
    (Code.region id ops true).wp P Q a0 w := by
  have look : ∀ (i : Nat) (o : Oper), ops[i]? = some o → o.guard = none ∧ (∀ e ∈ o.after, Region.binds .any e = true → e.on < i) ∧ (∀ d, o.dst = some d → d < a0.tmps.size) ∧ (∀ j, i ≠ j → ∀ d, o.dst = some d → dstOf ops j ≠ some d) := by
    intro i o ho
    have hi : i < ops.size := (Array.getElem?_eq_some_iff.1 ho).1
    have h := List.all_eq_true.1 hfit i (List.mem_range.2 hi)
    simp only [ho, Option.all_some, Bool.and_eq_true, Option.isNone_iff_eq_none] at h
    obtain ⟨⟨⟨h1, h2⟩, h3⟩, h4⟩ := h
    refine ⟨h1, fun e he hb => ?_, fun d hd => ?_, fun j hj d hd hx => ?_⟩
    · have := Array.all_eq_true_iff_forall_mem.1 h2 e he
      simpa [hb] using this
    · rw [hd] at h3; simpa using h3
    · have hjs : j < ops.size := by
        rcases Nat.lt_or_ge j ops.size with h' | h'
        · exact h'
        · simp [dstOf, Array.getElem?_eq_none h'] at hx
      have := List.all_eq_true.1 h4 j (List.mem_range.2 hjs)
      rw [hd, hx] at this
      simp [hj] at this
  have some_of : ∀ i d, dstOf ops i = some d → ∃ o, ops[i]? = some o ∧ o.dst = some d := fun i d h => by
    unfold dstOf at h
    cases ho : ops[i]? with
    | none => simp [ho] at h
    | some o => exact ⟨o, rfl, by simpa [ho] using h⟩
  have hA' : ∃ d, dstOf ops A = some d := Option.isSome_iff_exists.1 hA
  have hB' : ∃ d, dstOf ops B = some d := Option.isSome_iff_exists.1 hB
  have hd : ∀ i j d, dstOf ops i = some d → dstOf ops j = some d → i = j := fun i j d hi hj => by
    obtain ⟨o, ho, hd⟩ := some_of i d hi
    exact Classical.byContradiction fun hne => (look i o ho).2.2.2 j hne d hd hj
  refine wp_region_any hm ?_
  refine wpAny_stage (V := V) (S := S) (A := A) (B := B) (a0 := a0) hVA hVB hd ?_ hA' hB' hAB (fun i o ho => (look i o ho).1) ?_ loc ?_ ops.size _ a0 _ ?_ ?_
  · intro i d hi
    obtain ⟨o, ho, hd⟩ := some_of i d hi
    exact (look i o ho).2.2.1 d hd
  · intro i j h
    obtain ⟨o, ho, e, he, hb, rfl⟩ := (waits_iff i j).1 h
    exact (look i o ho).2.1 e he hb
  · intro l a w' hall h
    have hlen : ((ops.toList.map (·.dst)).map (slotOf a)).length = ops.size := by simp
    have hget : ∀ i d, dstOf ops i = some d → ((ops.toList.map (·.dst)).map (slotOf a)).getD i undef = a.tmps.getD d undef := fun i d hid => by
      obtain ⟨o, ho, hd⟩ := some_of i d hid
      rw [List.getD_eq_getElem?_getD, List.getElem?_map, List.getElem?_map, Array.getElem?_toList, ho]
      simp [hd, slotOf]
    have hlt : ∀ i, (∃ d, dstOf ops i = some d) → i < ops.size := fun i ⟨d, hid⟩ => by
      obtain ⟨o, ho, _⟩ := some_of i d hid
      exact (Array.getElem?_eq_some_iff.1 ho).1
    have hsl : ∀ i, (∃ d, dstOf ops i = some d) → ((ops.toList.map (·.dst)).map (slotOf a)).getD i undef = slotAt ops a i := fun i ⟨d, hid⟩ => by
      rw [hget i d hid]; unfold slotAt slotOf; rw [hid]
    have hq := done ((ops.toList.map (·.dst)).map (slotOf a)) w' hlen (fun i d h1 h2 hid => by
      rw [hget i d hid, hsl A hA', hsl B hB']; exact h.val i d h1 h2 (hall i (hlt i ⟨d, hid⟩)) hid) (by
      rw [hsl A hA', hsl B hB']
      have := h.stg
      rwa [hall A (hlt A hA'), hall B (hlt B hB')] at this)
    rw [← putAll_of a _ a0 h.defers h.tmps ?_ ?_] at hq
    · exact hq
    · intro d hd
      obtain ⟨o, ho, hod⟩ := List.mem_map.1 hd
      obtain ⟨i, hi, rfl⟩ := List.getElem_of_mem ho
      exact (look i ops[i] (by simp at hi; simp [hi])).2.2.1 d (by simpa using hod)
    · intro t ht
      refine h.old t fun i _ hid => ht ?_
      obtain ⟨o, ho, hd⟩ := some_of i t hid
      refine List.mem_map.2 ⟨o, ?_, hd⟩
      rw [← Array.mem_def]
      exact Array.mem_of_getElem? ho
  · refine Nat.le_trans (List.length_filter_le _ _) ?_
    simp
  · have hz : ∀ i, (Array.replicate ops.size false).getD i false = false := fun i => by simp [Array.getD]
    refine ⟨by simp, rfl, rfl, fun _ _ => rfl, ?_, ?_, ?_⟩
    · intro i d _ _ h; exact absurd h (by simp [Array.getD])
    · rw [hz A, hz B]; exact h0
    · intro i j h; exact absurd h (by simp [Array.getD])
/-- The operations one behind the other. -/
theorem eachS_of {p : Nat → Oper → Prop} {ops : Array Oper} (h : Each p 0 ops.toList) (i : Nat) (o : Oper) (ho : ops[i]? = some o) : p i o := each_of h i o ho
end

end Go.Proofs.Ytdgpkdcolljpjaa
