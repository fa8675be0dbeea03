/-
  A REGION THAT DRAWS ITS ORDER, BY ANY STATE (my own text; it knows no program): 'St listed act world' says all; each operation is looked at once, from any state in which all that it waits for is done; no guards. It serves where several operations write, side by side, and some of them have no slot.
-/
import Derived.Test.YtfhhobinpmbgmaaDoorAllInvs
namespace Go.Proofs.YtfhhobinpmbgmaaDoor
open Go Go.RowKit

section
variable {P : Program} {ops : Array Oper} {Q : Exit → Act → World → Prop} {a0 : Act} {St : Array Bool → Act → World → Prop}

theorem wpAny_st (hgd : ∀ (i : Nat) (o : Oper), ops[i]? = some o → o.guard = none) (hac : ∀ i j, waits ops i j = true → j < i)
    (loc : ∀ (i : Nat) (o : Oper), ops[i]? = some o → ∀ l a w, l.size = ops.size → l.getD i false = false → (∀ j, waits ops i j = true → l.getD j false = true) → St l a w → o.wp P a w (fun a' w' => St (l.setIfInBounds i true) a' w') Q)
    (done : ∀ l a w, l.size = ops.size → (∀ i, i < ops.size → l.getD i false = true) → St l a w → Q .normal a w) :
    ∀ (fuel : Nat) (l : Array Bool) (a : Act) (w : World), (leftOver ops.size l).length ≤ fuel → l.size = ops.size → St l a w → wpAny P .any ops Q fuel l a w := by
  intro fuel
  induction fuel with
  | zero =>
    intro l a w hf hs h
    have hn : leftOver ops.size l = [] := List.eq_nil_of_length_eq_zero (by omega)
    have hnot : ∀ i, i < ops.size → l.getD i false = true := fun i hi => by
      have hm : i ∉ leftOver ops.size l := by rw [hn]; simp
      have hl' : i < l.size := by rw [hs]; exact hi
      unfold leftOver at hm
      simp only [List.mem_filter, List.mem_range, hi, true_and, Array.getD, hl'] at hm ⊢
      simpa using hm
    refine ⟨?_, done l a w hs hnot h⟩
    refine List.eq_nil_iff_forall_not_mem.2 fun i hi => ?_
    have hm := (mem_ready.1 hi).1
    have hx := getD_false_of hm
    rw [hnot i (by rw [← hs]; exact hx.2)] at hx
    exact absurd hx.1 (by simp)
  | succ fuel ih =>
    intro l a w hf hs h
    refine ⟨fun hr => done l a w hs (all_listed hac hs hr) h, fun i hi => ?_⟩
    obtain ⟨hl, o, ho, hall⟩ := mem_ready.1 hi
    have hw : ∀ j, waits ops i j = true → l.getD j false = true := fun j hj => by
      obtain ⟨o', ho', e, he, hb', rfl⟩ := (waits_iff i j).1 hj
      rw [ho] at ho'; cases ho'
      exact hall e he hb'
    have hleft : (leftOver ops.size (l.setIfInBounds i true)).length ≤ fuel := by
      have := leftOver_set ops.size l i (by rw [← hs]; exact (getD_false_of hl).2) hl
      omega
    unfold wpOp
    simp only [ho, Region.wanted, hgd i o ho, if_true]
    refine .inl (Oper.wp_mono (fun a' w' hk => ?_) (loc i o ho l a w hs (getD_false_of hl).1 hw h))
    exact ih _ _ _ hleft (by simp [hs]) hk

/-- The checks, by reckoning. -/
def fitsAny (ops : Array Oper) : Bool := (List.range ops.size).all fun i => (ops[i]?).all fun o => o.guard.isNone && o.after.all fun e => !Region.binds .any e || decide (e.on < i)
/-- THE LAW. -/
theorem wp_region_st {id : Nat} {w : World} (St : Array Bool → Act → World → Prop) (hm : P.follows .mixedOrders = true) (hfit : fitsAny ops = true) (h0 : St (Array.replicate ops.size false) a0 w.drew)
    (loc : ∀ (i : Nat) (o : Oper), ops[i]? = some o → ∀ l a w, l.size = ops.size → l.getD i false = false → (∀ j, waits ops i j = true → l.getD j false = true) → St l a w → o.wp P a w (fun a' w' => St (l.setIfInBounds i true) a' w') Q)
    (done : ∀ l a w, l.size = ops.size → (∀ i, i < ops.size → l.getD i false = true) → St l a w → Q .normal a w) : (Code.region id ops true).wp P Q a0 w := by
  have look : ∀ (i : Nat) (o : Oper), ops[i]? = some o → o.guard = none ∧ ∀ e ∈ o.after, Region.binds .any e = true → e.on < i := by
    intro i o ho
    have hi : i < ops.size := (Array.getElem?_eq_some_iff.1 ho).1
    have h := List.all_eq_true.1 hfit i (List.mem_range.2 hi)
    simp only [ho, Option.all_some, Bool.and_eq_true, Option.isNone_iff_eq_none] at h
    refine ⟨h.1, fun e he hb => ?_⟩
    have := Array.all_eq_true_iff_forall_mem.1 h.2 e he
    simpa [hb] using this
  refine wp_region_any hm ?_
  refine wpAny_st (St := St) (fun i o ho => (look i o ho).1) ?_ loc done ops.size _ a0 _ ?_ ?_ h0
  · intro i j h
    obtain ⟨o, ho, e, he, hb, rfl⟩ := (waits_iff i j).1 h
    exact (look i o ho).2 e he hb
  · refine Nat.le_trans (List.length_filter_le _ _) ?_
    simp
  · simp
end

end Go.Proofs.YtfhhobinpmbgmaaDoor
