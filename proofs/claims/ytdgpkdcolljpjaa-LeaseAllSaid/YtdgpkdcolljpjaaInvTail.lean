/-
  A REGION THAT DRAWS ITS ORDER, WHOSE LAST OPERATIONS WAIT FOR ALL AHEAD OF THEM (my own text; it knows no program): the head by an invariant, as in the text InvG; the tail in its order, as a list.
-/
import Derived.Test.YtdgpkdcolljpjaaInvG
import Derived.StillTail
namespace Go.Proofs.Ytdgpkdcolljpjaa
open Go Go.RowKit

section
variable {P : Program} {ops : Array Oper} {Q : Exit → Act → World → Prop} {R : World → World → Prop} {V : Nat → World → Value → Prop} {a0 : Act} {w0 : World} {G : Nat → Option Bool}

theorem wpAny_up {md : Region.Mode} : ∀ (f : Nat) (l : Array Bool) (a : Act) (w : World), wpAny P md ops Q f l a w → wpAny P md ops Q (f + 1) l a w := by
  intro f
  induction f with
  | zero => intro l a w h; exact ⟨fun _ => h.2, fun i hi => by rw [h.1] at hi; cases hi⟩
  | succ f ih => intro l a w h; exact ⟨h.1, fun i hi => wpOp_mono (fun a' w' h' => ih _ a' w' h') (h.2 i hi)⟩
theorem wpAny_ups {md : Region.Mode} {l : Array Bool} {a : Act} {w : World} (f g : Nat) (h : wpAny P md ops Q g l a w) : wpAny P md ops Q (f + g) l a w := by
  induction f with
  | zero => rw [Nat.zero_add]; exact h
  | succ f ih => rw [show f + 1 + g = f + g + 1 by omega]; exact wpAny_up _ _ _ _ ih
/-- Does operation i wait for j, by steps? -/
def reaches (ops : Array Oper) : Nat → Nat → Nat → Bool
  | 0, i, j => waits ops i j
  | f + 1, i, j => waits ops i j || (List.range ops.size).any fun k => waits ops i k && reaches ops f k j
theorem StandsAt.reach {l : Array Bool} {a : Act} {w : World} (h : StandsAt R V ops a0 w0 l a w) : ∀ (f i j : Nat), (∀ k, waits ops i k = true → l.getD k false = true) → reaches ops f i j = true → l.getD j false = true := by
  intro f
  induction f with
  | zero => intro i j hw hr; exact hw j hr
  | succ f ih =>
    intro i j hw hr
    unfold reaches at hr
    rw [Bool.or_eq_true] at hr
    rcases hr with hr | hr
    · exact hw j hr
    · obtain ⟨k, _, hk⟩ := List.any_eq_true.1 hr
      rw [Bool.and_eq_true] at hk
      exact ih k j (fun m hm => h.down k m (hw k hk.1) hm) hk.2
/-- The first n are done. -/
def headDone (n m : Nat) : Array Bool := (List.replicate n true ++ List.replicate (m - n) false).toArray
theorem head_is {n : Nat} {l : Array Bool} (hn : n ≤ ops.size) (hs : l.size = ops.size) (h1 : ∀ i, i < n → l.getD i false = true) (h2 : ∀ i, n ≤ i → i < ops.size → l.getD i true = false) : l = headDone n ops.size := by
  apply Array.ext
  · simp [headDone]; omega
  · intro i hi hi2
    have his : i < ops.size := by rw [← hs]; exact hi
    by_cases h : i < n
    · have e := h1 i h
      simp [hi] at e
      simp [headDone, h, e]
    · have e := h2 i (by omega) his
      simp [hi] at e
      have hr : n ≤ i := by omega
      simp [headDone, hr, e, List.getElem_append_right]
/-- The values of these operations are pointers to blocks of their own, one by one. -/
def OwnBlocks (Fr : Nat → Bool) (ops : Array Oper) (l : Array Bool) (a : Act) : Prop := ∀ i j di dj gi gj, Fr i = true → Fr j = true → i ≠ j → l.getD i false = true → l.getD j false = true → dstOf ops i = some di → dstOf ops j = some dj →
  a.tmps.getD di undef = .pointer (some ⟨gi, 0, none⟩) → a.tmps.getD dj undef = .pointer (some ⟨gj, 0, none⟩) → gi ≠ gj
theorem OwnBlocks.step {Fr : Nat → Bool} {l : Array Bool} {a : Act} {w : World} {i : Nat} {v : Value} (hd : ∀ i j d, dstOf ops i = some d → dstOf ops j = some d → i = j) (hb : ∀ i d, dstOf ops i = some d → d < a0.tmps.size)
    (hlow : ∀ j, Fr j = true → ∀ w v g, V j w v → v = .pointer (some ⟨g, 0, none⟩) → g < w.heap.size) (h : StandsAt R V ops a0 w0 l a w) (ho : OwnBlocks Fr ops l a)
    (hv : Fr i = true → ∀ g, v = .pointer (some ⟨g, 0, none⟩) → w.heap.size ≤ g) (hl : l.getD i true = false) : OwnBlocks Fr ops (l.setIfInBounds i true) (a.put (dstOf ops i) v) := by
  have val : ∀ k d, k ≠ i → dstOf ops k = some d → (a.put (dstOf ops i) v).tmps.getD d undef = a.tmps.getD d undef := fun k d hk hkd => by
    cases hx : dstOf ops i with
    | none => rfl
    | some d' => rw [getD_put (by rw [h.tmps]; exact hb i d' hx), if_neg (fun e => hk (hd k i d hkd (by rw [hx, e])))]
  have vali : ∀ d, dstOf ops i = some d → (a.put (dstOf ops i) v).tmps.getD d undef = v := fun d hx => by
    rw [hx, getD_put (by rw [h.tmps]; exact hb i d hx), if_pos rfl]
  intro p q dp dq gp gq fp fq hpq lp lq hdp hdq vp vq
  by_cases hp : p = i
  · subst hp
    have hq : q ≠ p := fun e => hpq e.symm
    rw [val q dq hq hdq] at vq
    rw [vali dp hdp] at vp
    have h1 := hv fp gp vp
    have h2 := hlow q fq w _ gq (h.val q dq (getD_true_set lq hq) hdq) vq
    omega
  · rw [val p dp hp hdp] at vp
    by_cases hq : q = i
    · subst hq
      rw [vali dq hdq] at vq
      have h1 := hv fq gq vq
      have h2 := hlow p fp w _ gp (h.val p dp (getD_true_set lp hp) hdp) vp
      omega
    · rw [val q dq hq hdq] at vq
      exact ho p q dp dq gp gq fp fq hpq (getD_true_set lp hp) (getD_true_set lq hq) hdp hdq vp vq
theorem wpAny_invT (Fr : Nat → Bool) (n : Nat) (hn : n ≤ ops.size) (hRr : ∀ w, R w w) (hR : ∀ a b c, R a b → R b c → R a c) (hV : ∀ i w w' v, R w w' → V i w v → V i w' v)
    (hd : ∀ i j d, dstOf ops i = some d → dstOf ops j = some d → i = j) (hb : ∀ i d, dstOf ops i = some d → d < a0.tmps.size)
    (hg : ∀ (i : Nat) (o : Oper), ops[i]? = some o → ∀ g b, o.guard = some (g, b) → waits ops i g = true ∧ (dstOf ops g).isSome = true ∧ ((G g).isSome = true ∨ ∃ o', ops[g]? = some o' ∧ wantsG G o' = false)) (hG : ∀ g c, G g = some c → ∀ w v, V g w v → v = .bool c)
    (hU : ∀ (i : Nat) (o : Oper), ops[i]? = some o → wantsG G o = false → V i = IsV undef) (hac : ∀ i j, waits ops i j = true → j < i)
    (ht : ∀ i j, n ≤ i → i < ops.size → j < n → reaches ops 2 i j = true)
    (hlow : ∀ j, Fr j = true → ∀ w v g, V j w v → v = .pointer (some ⟨g, 0, none⟩) → g < w.heap.size)
    (loc : ∀ (i : Nat) (o : Oper), i < n → ops[i]? = some o → wantsG G o = true → ∀ a w, Leans R V ops a0 w0 i a w → o.wp P a w (fun a' w' => ∃ v, a' = a.put o.dst v ∧ R w w' ∧ V i w' v ∧ (Fr i = true → ∀ g, v = .pointer (some ⟨g, 0, none⟩) → w.heap.size ≤ g)) Q)
    (done : ∀ a w, StandsAt R V ops a0 w0 (headDone n ops.size) a w → OwnBlocks Fr ops (headDone n ops.size) a → wpAny P .any ops Q (ops.size - n) (headDone n ops.size) a w) :
    ∀ (fuel : Nat) (l : Array Bool) (a : Act) (w : World), (leftOver n l).length ≤ fuel → (∀ i, n ≤ i → i < ops.size → l.getD i true = false) → StandsAt R V ops a0 w0 l a w → OwnBlocks Fr ops l a → wpAny P .any ops Q (fuel + (ops.size - n)) l a w := by
  intro fuel
  induction fuel with
  | zero =>
    intro l a w hf h0 h hob
    have hnil : leftOver n l = [] := List.eq_nil_of_length_eq_zero (by omega)
    have hall : ∀ i, i < n → l.getD i false = true := fun i hi => by
      have hm : i ∉ leftOver n l := by rw [hnil]; simp
      have hl' : i < l.size := by rw [h.size]; omega
      unfold leftOver at hm
      simp only [List.mem_filter, List.mem_range, hi, true_and, Array.getD, hl'] at hm ⊢
      simpa using hm
    obtain rfl := head_is hn h.size hall h0
    rw [Nat.zero_add]
    exact done a w h hob
  | succ fuel ih =>
    intro l a w hf h0 h hob
    by_cases hnil : leftOver n l = []
    · have hall : ∀ i, i < n → l.getD i false = true := fun i hi => by
        have hm : i ∉ leftOver n l := by rw [hnil]; simp
        have hl' : i < l.size := by rw [h.size]; omega
        unfold leftOver at hm
        simp only [List.mem_filter, List.mem_range, hi, true_and, Array.getD, hl'] at hm ⊢
        simpa using hm
      obtain rfl := head_is hn h.size hall h0
      exact wpAny_ups _ _ (done a w h hob)
    · obtain ⟨j0, hj0⟩ := List.exists_mem_of_ne_nil _ hnil
      unfold leftOver at hj0
      rw [List.mem_filter, List.mem_range] at hj0
      have hj0f : l.getD j0 true = false := by simpa using hj0.2
      rw [show fuel + 1 + (ops.size - n) = (fuel + (ops.size - n)) + 1 by omega]
      refine ⟨fun hr => ?_, fun i hi => ?_⟩
      · have := all_listed hac h.size hr j0 (by omega)
        have h3 := (getD_false_of hj0f).1
        rw [this] at h3; cases h3
      · obtain ⟨hl, o, ho, hall⟩ := mem_ready.1 hi
        have hw : ∀ j, waits ops i j = true → l.getD j false = true := fun j hj => by
          obtain ⟨o', ho', e, he, hb', rfl⟩ := (waits_iff i j).1 hj
          rw [ho] at ho'; cases ho'
          exact hall e he hb'
        have his : i < ops.size := by rw [← h.size]; exact (getD_false_of hl).2
        have hin : i < n := by
          rcases Nat.lt_or_ge i n with h' | h'
          · exact h'
          · have h3 := h.reach 2 i j0 hw (ht i j0 h' his hj0.1)
            have h4 := (getD_false_of hj0f).1
            rw [h3] at h4; cases h4
        have hdst : o.dst = dstOf ops i := by simp [dstOf, ho]
        have hleft : (leftOver n (l.setIfInBounds i true)).length ≤ fuel := by
          have := leftOver_set n l i hin hl
          omega
        have h0' : ∀ k, n ≤ k → k < ops.size → (l.setIfInBounds i true).getD k true = false := fun k hk hks => by
          rw [getD_set_ne true (by omega)]
          exact h0 k hk hks
        have hwant := wanted_is (h.leans hl hw) (fun j d hj => by rw [h.tmps]; exact hb j d hj) (hg i o ho) hG hU
        unfold wpOp
        cases hwo : wantsG G o
        · rw [hwo] at hwant
          simp only [ho, hwant, Bool.false_eq_true, if_false]
          rw [hdst]
          exact ih _ _ _ hleft h0' (h.step hR hV hd hb hl hw (hRr w) (by rw [hU i o ho hwo]; rfl)) (OwnBlocks.step hd hb hlow h hob (fun _ g e => by cases e) hl)
        · rw [hwo] at hwant
          simp only [ho, hwant, if_true]
          refine .inl (Oper.wp_mono (fun a' w' hk => ?_) (loc i o hin ho hwo a w (h.leans hl hw)))
          obtain ⟨v, rfl, hr, hv, hfr⟩ := hk
          rw [hdst]
          exact ih _ _ _ hleft h0' (h.step hR hV hd hb hl hw hr hv) (OwnBlocks.step hd hb hlow h hob hfr hl)

/-- THE LAW. -/
theorem wp_region_tailB {id : Nat} {w : World} (Fr : Nat → Bool) (n : Nat) (G : Nat → Option Bool) (hm : P.follows .mixedOrders = true) (hn : n ≤ ops.size) (hRr : ∀ w, R w w) (hR : ∀ a b c, R a b → R b c → R a c) (hV : ∀ i w w' v, R w w' → V i w v → V i w' v)
    (hfit : fitsG G ops a0.tmps.size = true) (hG : ∀ g c, G g = some c → ∀ w v, V g w v → v = .bool c) (hU : ∀ (i : Nat) (o : Oper), ops[i]? = some o → wantsG G o = false → V i = IsV undef)
    (ht : ((List.range ops.size).all fun i => decide (i < n) || (List.range n).all fun j => reaches ops 2 i j) = true) (hsq : Region.seqB .any ops (ops.size - n) n (headDone n ops.size) = true) (hw : R w0 w.drew)
    (hlow : ∀ j, Fr j = true → ∀ w v g, V j w v → v = .pointer (some ⟨g, 0, none⟩) → g < w.heap.size)
    (loc : ∀ (i : Nat) (o : Oper), i < n → ops[i]? = some o → wantsG G o = true → ∀ a w, Leans R V ops a0 w0 i a w → o.wp P a w (fun a' w' => ∃ v, a' = a.put o.dst v ∧ R w w' ∧ V i w' v ∧ (Fr i = true → ∀ g, v = .pointer (some ⟨g, 0, none⟩) → w.heap.size ≤ g)) Q)
    (done : ∀ vs w, R w0 w → vs.length = n → (∀ i j gi gj, Fr i = true → Fr j = true → i ≠ j → i < n → j < n → (dstOf ops i).isSome = true → (dstOf ops j).isSome = true → vs.getD i undef = .pointer (some ⟨gi, 0, none⟩) → vs.getD j undef = .pointer (some ⟨gj, 0, none⟩) → gi ≠ gj) → (∀ i d, i < n → dstOf ops i = some d → V i w (vs.getD i undef)) → wpList P ops Q (ops.toList.drop n) (putAll a0 ((ops.toList.take n).map (·.dst)) vs) w) :
    (Code.region id ops true).wp P Q a0 w := by
  have look : ∀ (i : Nat) (o : Oper), ops[i]? = some o → (∀ g b, o.guard = some (g, b) → waits ops i g = true ∧ (dstOf ops g).isSome = true ∧ ((G g).isSome = true ∨ ∃ o', ops[g]? = some o' ∧ wantsG G o' = false)) ∧ (∀ e ∈ o.after, Region.binds .any e = true → e.on < i) ∧ (∀ d, o.dst = some d → d < a0.tmps.size) ∧ (∀ j, i ≠ j → ∀ d, o.dst = some d → dstOf ops j ≠ some d) := by
    intro i o ho
    have hi : i < ops.size := (Array.getElem?_eq_some_iff.1 ho).1
    have h := List.all_eq_true.1 hfit i (List.mem_range.2 hi)
    simp only [ho, Option.all_some, Bool.and_eq_true] at h
    obtain ⟨⟨⟨h1, h2⟩, h3⟩, h4⟩ := h
    refine ⟨fun g b hgb => ?_, fun e he hb => ?_, fun d hd => ?_, fun j hj d hd hx => ?_⟩
    · rw [hgb] at h1
      simp only [Bool.and_eq_true, Bool.or_eq_true] at h1
      refine ⟨h1.1.1, h1.1.2, h1.2.imp (fun hx => hx) fun hx => ?_⟩
      cases ho' : ops[g]? with
      | none => rw [ho'] at hx; cases hx
      | some o' =>
        rw [ho'] at hx
        exact ⟨o', rfl, by simpa using hx⟩
    · have := Array.all_eq_true_iff_forall_mem.1 h2 e he
      simpa [hb] using this
    · rw [hd] at h3; simpa using h3
    · have hjs : j < ops.size := by
        rcases Nat.lt_or_ge j ops.size with h' | h'
        · exact h'
        · simp [dstOf, Array.getElem?_eq_none h'] at hx
      have := List.all_eq_true.1 h4 j (List.mem_range.2 hjs)
      rw [hd, hx] at this
      simp [hj] at this
  have some_of : ∀ i d, dstOf ops i = some d → ∃ o, ops[i]? = some o ∧ o.dst = some d := fun i d h => by
    unfold dstOf at h
    cases ho : ops[i]? with
    | none => simp [ho] at h
    | some o => exact ⟨o, rfl, by simpa [ho] using h⟩
  have key := wpAny_invT (P := P) (Q := Q) (R := R) (V := V) (a0 := a0) (w0 := w0) (G := G) Fr n hn hRr hR hV
    (fun i j d hi hj => by
      obtain ⟨o, ho, hd⟩ := some_of i d hi
      exact Classical.byContradiction fun hne => (look i o ho).2.2.2 j hne d hd hj)
    (fun i d hi => by
      obtain ⟨o, ho, hd⟩ := some_of i d hi
      exact (look i o ho).2.2.1 d hd)
    (fun i o ho => (look i o ho).1) hG hU
    (fun i j h => by
      obtain ⟨o, ho, e, he, hb, rfl⟩ := (waits_iff i j).1 h
      exact (look i o ho).2.1 e he hb)
    (fun i j h1 h2 h3 => by
      have h4 := List.all_eq_true.1 ht i (List.mem_range.2 h2)
      rw [decide_eq_false (by omega), Bool.false_or] at h4
      exact List.all_eq_true.1 h4 j (List.mem_range.2 h3))
    hlow loc
    (fun a w' h hob => by
      have hlen : (((ops.toList.take n).map (·.dst)).map (slotOf a)).length = n := by simp; omega
      have hget : ∀ i, i < n → (headDone n ops.size).getD i false = true := fun i hi => by
        have : i < n + (ops.size - n) := by omega
        simp [headDone, this, hi]
      have hgetF : ∀ i, (headDone n ops.size).getD i false = true → i < n := fun i hi => by
        rcases Nat.lt_or_ge i n with h' | h'
        · exact h'
        · exfalso
          unfold headDone at hi
          simp only [Array.getD, List.size_toArray, List.length_append, List.length_replicate] at hi
          split at hi
          · simp [h', List.getElem_append_right] at hi
          · cases hi
      have hval : ∀ i d, i < n → dstOf ops i = some d → (((ops.toList.take n).map (·.dst)).map (slotOf a)).getD i undef = a.tmps.getD d undef := fun i d hin hid => by
        obtain ⟨o, ho, hd⟩ := some_of i d hid
        rw [List.getD_eq_getElem?_getD, List.getElem?_map, List.getElem?_map, List.getElem?_take_of_lt hin, Array.getElem?_toList, ho]
        simp [hd, slotOf]
      have hq := done (((ops.toList.take n).map (·.dst)).map (slotOf a)) w' h.rel hlen (fun i j gi gj fi fj hij hi hj si sj vi vj => by
        obtain ⟨di, hdi⟩ := Option.isSome_iff_exists.1 si
        obtain ⟨dj, hdj⟩ := Option.isSome_iff_exists.1 sj
        rw [hval i di hi hdi] at vi
        rw [hval j dj hj hdj] at vj
        exact hob i j di dj gi gj fi fj hij (hget i hi) (hget j hj) hdi hdj vi vj) (fun i d hin hid => by
        obtain ⟨o, ho, hd⟩ := some_of i d hid
        have hv := h.val i d (hget i hin) hid
        have e : (((ops.toList.take n).map (·.dst)).map (slotOf a)).getD i undef = a.tmps.getD d undef := by
          rw [List.getD_eq_getElem?_getD, List.getElem?_map, List.getElem?_map, List.getElem?_take_of_lt hin, Array.getElem?_toList, ho]
          simp [hd, slotOf]
        rw [e]; exact hv)
      rw [← putAll_of a _ a0 h.defers h.tmps ?_ ?_] at hq
      · have hs2 := wpAny_of_seq (P := P) (md := .any) (ops := ops) (Q' := Q) (ops.toList.drop n) n (headDone n ops.size) a w' (fun j => by simp [List.getElem?_drop]) (by rw [List.length_drop, Array.length_toList]; exact hsq) hq
        rw [List.length_drop, Array.length_toList] at hs2
        exact hs2
      · intro d hd
        obtain ⟨o, ho, hod⟩ := List.mem_map.1 hd
        obtain ⟨i, hi, rfl⟩ := List.getElem_of_mem (List.mem_of_mem_take ho)
        exact (look i ops[i] (by simp at hi; simp [hi])).2.2.1 d (by simpa using hod)
      · intro t ht
        refine h.old t fun i hli hid => ht ?_
        obtain ⟨o, ho, hd⟩ := some_of i t hid
        refine List.mem_map.2 ⟨o, ?_, hd⟩
        have hin := hgetF i hli
        refine List.mem_of_getElem? (i := i) ?_
        rw [List.getElem?_take_of_lt hin, Array.getElem?_toList]
        exact ho)
    n (Array.replicate ops.size false) a0 w.drew
    (Nat.le_trans (List.length_filter_le _ _) (by simp))
    (fun i _ hi => by simp [Array.getD, hi])
    ⟨by simp, hw, rfl, rfl, fun _ _ => rfl, fun i d h => absurd h (by simp [Array.getD]), fun i j h => absurd h (by simp [Array.getD])⟩
    (fun i j di dj gi gj _ _ _ h => absurd h (by simp [Array.getD]))
  rw [show n + (ops.size - n) = ops.size by omega] at key
  exact wp_region_any hm key
/-- Without such blocks. -/
theorem wp_region_tail {id : Nat} {w : World} (n : Nat) (G : Nat → Option Bool) (hm : P.follows .mixedOrders = true) (hn : n ≤ ops.size) (hRr : ∀ w, R w w) (hR : ∀ a b c, R a b → R b c → R a c) (hV : ∀ i w w' v, R w w' → V i w v → V i w' v)
    (hfit : fitsG G ops a0.tmps.size = true) (hG : ∀ g c, G g = some c → ∀ w v, V g w v → v = .bool c) (hU : ∀ (i : Nat) (o : Oper), ops[i]? = some o → wantsG G o = false → V i = IsV undef)
    (ht : ((List.range ops.size).all fun i => decide (i < n) || (List.range n).all fun j => reaches ops 2 i j) = true) (hsq : Region.seqB .any ops (ops.size - n) n (headDone n ops.size) = true) (hw : R w0 w.drew)
    (loc : ∀ (i : Nat) (o : Oper), i < n → ops[i]? = some o → wantsG G o = true → ∀ a w, Leans R V ops a0 w0 i a w → o.wp P a w (fun a' w' => ∃ v, a' = a.put o.dst v ∧ R w w' ∧ V i w' v) Q)
    (done : ∀ vs w, R w0 w → vs.length = n → (∀ i d, i < n → dstOf ops i = some d → V i w (vs.getD i undef)) → wpList P ops Q (ops.toList.drop n) (putAll a0 ((ops.toList.take n).map (·.dst)) vs) w) :
    (Code.region id ops true).wp P Q a0 w :=
  wp_region_tailB (fun _ => false) n G hm hn hRr hR hV hfit hG hU ht hsq hw (fun _ h => by cases h) (fun i o hi ho hwo a w L => Oper.wp_mono (fun _ _ ⟨v, e, hr, hv⟩ => ⟨v, e, hr, hv, fun h => by cases h⟩) (loc i o hi ho hwo a w L)) fun vs w hr hl _ hv => done vs w hr hl hv
end

end Go.Proofs.Ytdgpkdcolljpjaa
