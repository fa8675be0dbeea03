/-
  PtOk, InvMem: texts of mine, joined.
-/
import Derived.Test.YtemkjodkmehffaaGreatDoorAllM02
import Derived.Deep.CutRange
namespace Go.Proofs.YtemkjodkmehffaaGreatDoor
open Go Go.RowKit Go.Joins
def lastN (l : List Int) (k : Nat) : Int := if k = 0 then 0 else l.getD (k - 1) 0
theorem nodeB_no1 {l : List Int} {k : Nat} {x : Int} (hg : l.getD k 0 = x) (h : x ≤ lastN l k) : nodeB l k = false := by
 unfold lastN at h
 unfold nodeB
 rw [hg]
 split at h
 ·have : decide (1 ≤ x) = false := by simp; omega
  rw [this]; rfl
 ·rename_i h0
  have h1 : decide (k = 0) = false := by simpa using h0
  have h2 : decide (l.getD (k - 1) 0 < x) = false := decide_eq_false (by omega)
  rw [h1, h2]; simp
theorem nodeB_no5 {l : List Int} {k : Nat} {x : Int} (hg : l.getD k 0 = x) (h : 5 < x) : nodeB l k = false := by
 unfold nodeB
 rw [hg]
 have : decide (x ≤ 5) = false := by simp; omega
 rw [this]; simp
theorem nodeB_yes {l : List Int} {k : Nat} {x : Int} (hg : l.getD k 0 = x) (h : lastN l k < x) (h5 : x ≤ 5) (hb : ∀ j, j < k → nodeB l j = true) : nodeB l k = true := by
 unfold lastN at h
 split at h
 ·rename_i h0
  unfold nodeB
  rw [hg]
  simp [h0]
  omega
 ·rename_i h0
  have h1 := hb (k - 1) (by omega)
  unfold nodeB at h1 ⊢
  rw [hg]
  simp only [Bool.and_eq_true, Bool.or_eq_true, decide_eq_true_eq] at h1 ⊢
  exact ⟨by omega, h5, .inr h⟩
theorem lastN_succ {l : List Int} {k : Nat} {x : Int} (hg : l.getD k 0 = x) : lastN l (k + 1) = x := by
 unfold lastN
 rw [if_neg (by omega)]
 exact hg
set_option maxRecDepth 100000 in
set_option maxHeartbeats 1000000 in
theorem may_any (w : World) (A : Option Addr) (c : Nat) (l : List Int) (hr : Row w A (fun _ => True) (l.map (Value.int .i64))) (hl : l.length ≤ c) (hc : c ≤ maxLen) :
  Calls Tryz.prog 49 #[.slice A l.length c] w fun e w' => e = .returned (.bool (nodesB l)) ∧ Kp w w' := by
 have HR := Lib.hid hr
 unfold maxLen at hc
 clear hr
 go_enter Tryz.func49, Tryz.ntmps49
 go_wp2_with fail
 go_loopw [3, 8] (fun v i wr => ∃ (k : Nat) (z : Int), k ≤ l.length ∧ i = .int .i64 (k : Int) ∧ v = .int .i64 z ∧ Hid (z = lastN l k) ∧ Hid (∀ j, j < k → nodeB l j = true) ∧ Hid (Kp w wr)) (fun _ i _ => l.length - (intOf i).toNat)
 case atStart => exact ⟨0, 0, Nat.zero_le _, rfl, rfl, Lib.hid rfl, Lib.hid (fun j hj => absurd hj (Nat.not_lt_zero _)), Lib.hid (Keeps.refl _ _)⟩
 case round =>
  obtain ⟨k, z, hk, rfl, rfl, HZ, HJ, HW⟩ := hrel
  by_cases hlt : k < l.length
  ·have hlt' : (k : Int) < (l.length : Int) := by omega
   obtain ⟨b, o, rfl, -, c0⟩ := HR.out.at_ (k := k) (by simpa using hlt)
   rw [List.getElem_map] at c0
   replace c0 := HW.out.cell c0 trivial
   have hg : l.getD k 0 = l[k] := by rw [List.getD_eq_getElem?_getD, List.getElem?_eq_getElem hlt]; rfl
   have HG := Lib.hid hg
   generalize l[k] = x at c0 HG
   clear hg
   have hcs : decide (x ≤ z) = true ∨ (decide (x ≤ z) = false ∧ decide (5 < x) = true) ∨ (decide (x ≤ z) = false ∧ decide (5 < x) = false) := by
    cases decide (x ≤ z) <;> cases decide (5 < x) <;> simp
   rcases hcs with t | ⟨t, t1⟩ | ⟨t, t1⟩
   ·have HN := Lib.hid (nodesB_no hlt (nodeB_no1 HG.out (by rw [← HZ.out]; exact of_decide_eq_true t)))
    go_wp2_with fail
    go_ret
    exact ⟨by rw [HN.out]; rfl, HW.out⟩
   ·have HN := Lib.hid (nodesB_no hlt (nodeB_no5 HG.out (of_decide_eq_true t1)))
    go_wp2_with fail
    go_ret
    exact ⟨by rw [HN.out]; rfl, HW.out⟩
   ·have HJ2 := Lib.hid (show ∀ j, j < k + 1 → nodeB l j = true from fun j hj => by
     rcases Nat.lt_or_ge j k with h | h
     ·exact HJ.out j h
     ·obtain rfl : j = k := by omega
      exact nodeB_yes HG.out (by rw [← HZ.out]; have := of_decide_eq_false t; omega) (by have := of_decide_eq_false t1; omega) HJ.out)
    have HZ2 := Lib.hid (show x = lastN l (k + 1) from (lastN_succ HG.out).symm)
    clear HJ HZ HG
    go_wp2_with fail
    go_roundw
    case rel => exact ⟨k + 1, x, hlt, by go_num, rfl, HZ2, HJ2, HW⟩
    case measure => simp [intOf]; omega
  ·obtain rfl : k = l.length := by omega
   have hlt' : ¬ ((l.length : Int) < (l.length : Int)) := by omega
   have HN := Lib.hid (show nodesB l = decide (0 < l.length) from by
    cases h0 : decide (0 < l.length) with
    | true => exact nodesB_iff.2 ⟨of_decide_eq_true h0, HJ.out⟩
    | false => unfold nodesB; rw [h0]; rfl)
   clear hlt HJ HZ
   go_wp2_with fail
   go_ret
   exact ⟨by rw [HN.out]; rfl, HW.out⟩
end Go.Proofs.YtemkjodkmehffaaGreatDoor
namespace Go.Proofs.YtemkjodkmehffaaGreatDoor
open Go Go.RowKit
section
variable {P : Program} {ops : Array Oper} {Q : Exit → Act → World → Prop} {a0 : Act} {w0 : World}
theorem putAll_same : ∀ (ds : List (Option Tmp)) (a : Act) (vs us : List Value), vs.length = ds.length → us.length = ds.length → (∀ i d, ds[i]? = some (some d) → vs.getD i undef = us.getD i undef) → putAll a ds vs = putAll a ds us
 | [], _, vs, us, _, _, _ => by cases vs <;> cases us <;> rfl
 | d :: ds, a, [], _, h, _, _ => by simp at h
 | d :: ds, a, _ :: _, [], _, h, _ => by simp at h
 | d :: ds, a, v :: vs, u :: us, h1, h2, h3 => by
  have ih := fun a => putAll_same ds a vs us (by simpa using h1) (by simpa using h2) fun i d hd => by simpa using h3 (i + 1) d (by simpa using hd)
  cases d with
  | none => exact ih _
  | some d =>
   have e : v = u := by simpa using h3 0 d rfl
   subst e
   exact ih _
theorem wp_region_mem {id : Nat} {w : World} (vals : List Value) (ks : List Nat) (M : (Nat → Bool) → World → Prop) (G : Nat → Option Bool) (hm : P.follows .mixedOrders = true) (hlen : vals.length = ops.size)
  (hM : ∀ f g w, (∀ k, ks.contains k = true → f k = g k) → M f w → M g w) (hS : ∀ f w w', Kp w w' → M f w → M f w')
  (hfit : fitsG G ops a0.tmps.size = true) (hks : (ks.all fun k => decide (k < ops.size)) = true) (hG : ∀ g c, G g = some c → vals.getD g undef = .bool c)
  (hU : ∀ (i : Nat) (o : Oper), ops[i]? = some o → wantsG G o = false → ks.contains i = false ∧ vals.getD i undef = undef) (hw : M (fun _ => false) w.drew)
  (loc : ∀ (i : Nat) (o : Oper), ops[i]? = some o → wantsG G o = true → ∀ a w, Leans (fun _ _ => True) (fun j => IsV (vals.getD j undef)) ops a0 w0 i a w → ∀ f, M f w → f i = false → (∀ k js, chained ops k i js = true → f k = true) → (∀ k js, chained ops i k js = true → f k = false) →
   if ks.contains i = true then o.wp P a w (fun a' w' => ∃ v, a' = a.put o.dst v ∧ M (fun k => if k = i then true else f k) w' ∧ IsV (vals.getD i undef) w' v) Q
   else o.wp P a w (fun a' w' => ∃ v, a' = a.put o.dst v ∧ Kp w w' ∧ IsV (vals.getD i undef) w' v) Q)
  (done : ∀ w, M (fun _ => true) w → Q .normal (putAll a0 (ops.toList.map (·.dst)) vals) w) :
  (Code.region id ops true).wp P Q a0 w := by
 have look : ∀ (i : Nat) (o : Oper), ops[i]? = some o → (∀ g b, o.guard = some (g, b) → waits ops i g = true ∧ (dstOf ops g).isSome = true ∧ ((G g).isSome = true ∨ ∃ o', ops[g]? = some o' ∧ wantsG G o' = false)) ∧ (∀ e ∈ o.after, Region.binds .any e = true → e.on < i) ∧ (∀ d, o.dst = some d → d < a0.tmps.size) ∧ (∀ j, i ≠ j → ∀ d, o.dst = some d → dstOf ops j ≠ some d) := by
  intro i o ho
  have hi : i < ops.size := (Array.getElem?_eq_some_iff.1 ho).1
  have h := List.all_eq_true.1 hfit i (List.mem_range.2 hi)
  simp only [ho, Option.all_some, Bool.and_eq_true] at h
  obtain ⟨⟨⟨h1, h2⟩, h3⟩, h4⟩ := h
  refine ⟨fun g b hgb => ?_, fun e he hb => ?_, fun d hd => ?_, fun j hj d hd hx => ?_⟩
  ·rw [hgb] at h1
   simp only [Bool.and_eq_true, Bool.or_eq_true] at h1
   refine ⟨h1.1.1, h1.1.2, h1.2.imp (fun hx => hx) fun hx => ?_⟩
   cases ho' : ops[g]? with
   | none => rw [ho'] at hx; cases hx
   | some o' =>
    rw [ho'] at hx
    exact ⟨o', rfl, by simpa using hx⟩
  ·have := Array.all_eq_true_iff_forall_mem.1 h2 e he
   simpa [hb] using this
  ·rw [hd] at h3; simpa using h3
  ·have hjs : j < ops.size := by
    rcases Nat.lt_or_ge j ops.size with h' | h'
    ·exact h'
    ·simp [dstOf, Array.getElem?_eq_none h'] at hx
   have := List.all_eq_true.1 h4 j (List.mem_range.2 hjs)
   rw [hd, hx] at this
   simp [hj] at this
 have some_of : ∀ i d, dstOf ops i = some d → ∃ o, ops[i]? = some o ∧ o.dst = some d := fun i d h => by
  unfold dstOf at h
  cases ho : ops[i]? with
  | none => simp [ho] at h
  | some o => exact ⟨o, rfl, by simpa [ho] using h⟩
 have hd : ∀ i j d, dstOf ops i = some d → dstOf ops j = some d → i = j := by
  intro i j d hi hj
  obtain ⟨o, ho, hd⟩ := some_of i d hi
  exact Classical.byContradiction fun hne => (look i o ho).2.2.2 j hne d hd hj
 have hb : ∀ i d, dstOf ops i = some d → d < a0.tmps.size := by
  intro i d hi
  obtain ⟨o, ho, hd⟩ := some_of i d hi
  exact (look i o ho).2.2.1 d hd
 have hac : ∀ i j, waits ops i j = true → j < i := by
  intro i j h
  obtain ⟨o, ho, e, he, hb, rfl⟩ := (waits_iff i j).1 h
  exact (look i o ho).2.1 e he hb
 have hkm : ∀ k, ks.contains k = true → k < ops.size := fun k hk => by
  have := List.all_eq_true.1 hks k (by simpa using hk)
  simpa using this
 have hVU : ∀ (i : Nat) (o : Oper), ops[i]? = some o → wantsG G o = false → (fun j => IsV (vals.getD j undef)) i = IsV undef := fun i o ho hw => by
  show IsV (vals.getD i undef) = _
  rw [(hU i o ho hw).2]
 have fin : ∀ (l : Array Bool) (a : Act) (w' : World), (∀ i, i < ops.size → l.getD i false = true) → StandsAt (fun _ _ => True) (fun j => IsV (vals.getD j undef)) ops a0 w0 l a w' → M (fun k => l.getD k false) w' → Q .normal a w' := by
  intro l a w' hall h hs
  have hq := done w' (hM _ _ _ (fun k hk => hall k (hkm k hk)) hs)
  have e : putAll a0 (ops.toList.map (·.dst)) vals = putAll a0 (ops.toList.map (·.dst)) ((ops.toList.map (·.dst)).map (slotOf a)) := by
   refine putAll_same _ _ _ _ (by simp [hlen]) (by simp) fun i d hid => ?_
   rw [List.getElem?_map, Array.getElem?_toList] at hid
   cases ho : ops[i]? with
   | none => rw [ho] at hid; cases hid
   | some o =>
    rw [ho] at hid
    have hod : o.dst = some d := by simpa using hid
    have hi : i < ops.size := (Array.getElem?_eq_some_iff.1 ho).1
    have hdo : dstOf ops i = some d := by simp [dstOf, ho, hod]
    have hv : a.tmps.getD d undef = vals.getD i undef := h.val i d (hall i hi) hdo
    rw [← hv, List.getD_eq_getElem?_getD, List.getElem?_map, List.getElem?_map, Array.getElem?_toList, ho]
    simp [hod, slotOf]
  rw [e, ← putAll_of a _ a0 h.defers h.tmps ?_ ?_] at hq
  ·exact hq
  ·intro d hd
   obtain ⟨o, ho, hod⟩ := List.mem_map.1 hd
   obtain ⟨i, hi, rfl⟩ := List.getElem_of_mem ho
   exact (look i ops[i] (by simp at hi; simp [hi])).2.2.1 d (by simpa using hod)
  ·intro t ht
   refine h.old t fun i _ hid => ht ?_
   obtain ⟨o, ho, hd⟩ := some_of i t hid
   refine List.mem_map.2 ⟨o, ?_, hd⟩
   rw [← Array.mem_def]
   exact Array.mem_of_getElem? ho
 have go : ∀ (fuel : Nat) (l : Array Bool) (a : Act) (w : World), (leftOver ops.size l).length ≤ fuel → StandsAt (fun _ _ => True) (fun j => IsV (vals.getD j undef)) ops a0 w0 l a w → M (fun k => l.getD k false) w → wpAny P .any ops Q fuel l a w := by
  intro fuel
  induction fuel with
  | zero =>
   intro l a w hf h hs
   have hn : leftOver ops.size l = [] := List.eq_nil_of_length_eq_zero (by omega)
   have hnot : ∀ i, i < ops.size → l.getD i false = true := fun i hi => by
    have hm : i ∉ leftOver ops.size l := by rw [hn]; simp
    have hl' : i < l.size := by rw [h.size]; exact hi
    unfold leftOver at hm
    simp only [List.mem_filter, List.mem_range, hi, true_and, Array.getD, hl'] at hm ⊢
    simpa using hm
   refine ⟨?_, fin l a w hnot h hs⟩
   refine List.eq_nil_iff_forall_not_mem.2 fun i hi => ?_
   have hm := (mem_ready.1 hi).1
   have hx := getD_false_of hm
   rw [hnot i (by rw [← h.size]; exact hx.2)] at hx
   exact absurd hx.1 (by simp)
  | succ fuel ih =>
   intro l a w hf h hs
   refine ⟨fun hr => fin l a w (all_listed hac h.size hr) h hs, fun i hi => ?_⟩
   obtain ⟨hl, o, ho, hall⟩ := mem_ready.1 hi
   have hwt : ∀ j, waits ops i j = true → l.getD j false = true := fun j hj => by
    obtain ⟨o', ho', e, he, hb', rfl⟩ := (waits_iff i j).1 hj
    rw [ho] at ho'; cases ho'
    exact hall e he hb'
   have hdst : o.dst = dstOf ops i := by simp [dstOf, ho]
   have hleft : (leftOver ops.size (l.setIfInBounds i true)).length ≤ fuel := by
    have := leftOver_set ops.size l i (by rw [← h.size]; exact (getD_false_of hl).2) hl
    omega
   have hwant := wanted_is (h.leans hl hwt) (fun j d hj => by rw [h.tmps]; exact hb j d hj) (look i o ho).1 (fun g c hg w v hv => (show v = vals.getD g undef from hv).trans (hG g c hg)) hVU
   have hset : ∀ k, i ≠ k → (l.setIfInBounds i true).getD k false = l.getD k false := fun k hne => getD_set_ne false hne
   have hself : (l.setIfInBounds i true).getD i false = true := by simp [(getD_false_of hl).2]
   have hloc := loc i o ho
   unfold wpOp
   cases hwo : wantsG G o
   ·rw [hwo] at hwant
    obtain ⟨hne, hu⟩ := hU i o ho hwo
    simp only [ho, hwant, Bool.false_eq_true, if_false]
    rw [hdst]
    refine ih _ _ _ hleft (h.step' trivial (fun _ => trivial) hd hb hl (fun _ _ _ hh => hh) hwt (by rw [hu]; rfl)) (hM _ _ _ (fun k hk => (hset k fun e => ?_).symm) hs)
    subst e
    rw [hne] at hk; cases hk
   ·rw [hwo] at hwant
    simp only [ho, hwant, if_true]
    have hlc := hloc hwo a w (h.leans hl hwt) (fun k => l.getD k false) hs (getD_false_of hl).1 (fun k js hbh => chained_listed h js i hwt hbh) (fun k js hbh => by
     cases hx : l.getD k false with
     | false => rfl
     | true =>
      have := chained_listed h js k (fun j hj => h.down k j hx hj) hbh
      rw [(getD_false_of hl).1] at this; cases this)
    cases hc : ks.contains i with
    | true =>
     rw [if_pos hc] at hlc
     refine .inl (Oper.wp_mono (fun a' w' hk' => ?_) hlc)
     obtain ⟨v, rfl, hr, hv⟩ := hk'
     rw [hdst]
     refine ih _ _ _ hleft (h.step' trivial (fun _ => trivial) hd hb hl (fun j u _ hu => hu) hwt hv) (hM _ _ _ (fun k _ => ?_) hr)
     by_cases e : k = i
     ·subst e; simp [(getD_false_of hl).2]
     ·simp only [e, if_false]; exact (hset k fun e2 => e e2.symm).symm
    | false =>
     rw [if_neg (by rw [hc]; simp)] at hlc
     refine .inl (Oper.wp_mono (fun a' w' hk' => ?_) hlc)
     obtain ⟨v, rfl, hr, hv⟩ := hk'
     rw [hdst]
     refine ih _ _ _ hleft (h.step' trivial (fun _ => trivial) hd hb hl (fun j u _ hu => hu) hwt hv) (hM _ _ _ (fun k hk => (hset k fun e => ?_).symm) (hS _ _ _ hr hs))
     subst e
     rw [hc] at hk; cases hk
 refine wp_region_any hm ?_
 refine go ops.size _ a0 _ ?_ ?_ ?_
 ·refine Nat.le_trans (List.length_filter_le _ _) ?_
  simp
 ·refine ⟨by simp, trivial, rfl, rfl, fun _ _ => rfl, ?_, ?_⟩
  ·intro i d h; exact absurd h (by simp [Array.getD])
  ·intro i j h; exact absurd h (by simp [Array.getD])
 ·refine hM _ _ _ (fun k _ => ?_) hw
  simp [Array.getD]
end
end Go.Proofs.YtemkjodkmehffaaGreatDoor
