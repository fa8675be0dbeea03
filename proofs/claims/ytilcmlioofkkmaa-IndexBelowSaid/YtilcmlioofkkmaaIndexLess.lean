/-
  AN INDEX WHOSE KEYS ARE NAMES OF THE NUMBERS BELOW N: how many lie below a place, and what stays.
-/
import Derived.Test.YtilcmlioofkkmaaIndexNums
namespace Go.Proofs.Ytilcmlioofkkmaa
open Go Go.RowKit

/-- How many of the numbers below N lie below the place. -/
def lessN (f : Nat → Option Int) (p : Int) (N : Nat) : Nat := ((List.range N).filter fun i => decide ((f i).getD 0 < p)).length
theorem lessN_succ (f : Nat → Option Int) (p : Int) (N : Nat) : lessN f p (N + 1) = lessN f p N + (if (f N).getD 0 < p then 1 else 0) := by
  unfold lessN
  rw [List.range_succ, List.filter_append, List.length_append]
  by_cases h : (f N).getD 0 < p <;> simp [h]
section
variable {js : List (Nat × Int)} {st : IxSt} {f : Nat → Option Int} {n N : Nat}
theorem len_parts {α : Type} (g : α → Bool) (l : List α) : (l.filter g).length + (l.filter fun x => !g x).length = l.length := by
  induction l with
  | nil => rfl
  | cons a l ih =>
    simp only [List.filter_cons, List.length_cons]
    cases g a <;> simp <;> omega
theorem nGet_mem (hd : (js.map (·.1)).Nodup) (x : Nat × Int) (hx : x ∈ js) : nGet js x.1 = some x.2 := by
  unfold nGet
  induction js with
  | nil => cases hx
  | cons a js ih =>
    rw [List.map_cons, List.nodup_cons] at hd
    rw [List.find?_cons]
    by_cases h : a.1 = x.1
    · rcases List.mem_cons.1 hx with rfl | hx
      · simp
      · exact absurd (List.mem_map.2 ⟨x, hx, h.symm⟩) hd.1
    · rcases List.mem_cons.1 hx with rfl | hx
      · exact absurd rfl h
      · rw [decide_eq_false h]
        exact ih hd.2 hx
theorem keys_range (hd : (js.map (·.1)).Nodup) (h : ∀ i, (nGet js i).isSome = decide (i < N)) : (js.map (·.1)).Perm (List.range N) := by
  refine (List.perm_ext_iff_of_nodup hd List.nodup_range).2 fun i => ?_
  rw [List.mem_range]
  constructor
  · intro hi
    obtain ⟨x, hx, rfl⟩ := List.mem_map.1 hi
    have := h x.1
    rw [nGet_mem hd x hx] at this
    simpa using this.symm
  · intro hi
    have := h i
    rw [decide_eq_true hi] at this
    obtain ⟨v, hv⟩ := Option.isSome_iff_exists.1 this
    unfold nGet at hv
    obtain ⟨x, hx, -⟩ := Option.map_eq_some_iff.1 hv
    exact List.mem_map.2 ⟨x, List.mem_of_find?_eq_some hx, by simpa using List.find?_some hx⟩
theorem NSt.below (h : NSt st f n) (hN : ∀ i, (f i).isSome = decide (i < N)) (p : Int) :
    st.length = N ∧ (ixBelow st p).length + lessN f p N = N ∧ NSt (ixBelow st p) (fun i => (f i).bind fun v => if p ≤ v then some v else none) (ixBelow st p).length := by
  obtain ⟨js, rfl, hs, hd, hf, hl⟩ := h.ex
  have hp := keys_range hd fun i => by rw [hf]; exact hN i
  have hlen : js.length = N := by simpa using hp.length_eq
  have hb : ixBelow (nm js) p = nm (js.filter fun x => decide (p ≤ x.2)) := by
    unfold ixBelow nm
    rw [List.filter_map]
    rfl
  have hv : ∀ x ∈ js, f x.1 = some x.2 := fun x hx => (hf x.1).symm.trans (nGet_mem hd x hx)
  have hcount : (js.filter fun x => decide (p ≤ x.2)).length + lessN f p N = js.length := by
    have e1 : (js.filter fun x => !decide (p ≤ x.2)).length = lessN f p N := by
      have e2 : (js.filter fun x => !decide (p ≤ x.2)) = js.filter ((fun i => decide ((f i).getD 0 < p)) ∘ (·.1)) := by
        refine List.filter_congr fun x hx => ?_
        show _ = decide ((f x.1).getD 0 < p)
        rw [hv x hx]
        show _ = decide (x.2 < p)
        by_cases h : p ≤ x.2
        · simp [h]
        · simp [h]; omega
      rw [e2]
      have e3 := (hp.filter fun i => decide ((f i).getD 0 < p)).length_eq
      rw [List.filter_map, List.length_map] at e3
      exact e3
    rw [← e1]
    exact len_parts _ js
  refine ⟨by simp [nm, hlen], ?_, ⟨js.filter fun x => decide (p ≤ x.2), hb, fun x hx => hs x (List.mem_filter.1 hx).1, (List.Sublist.map _ List.filter_sublist).nodup hd, ?_, by rw [hb]; simp [nm]⟩⟩
  · rw [hb]
    simp only [nm, List.length_map]
    omega
  · intro i
    have hd' : ((js.filter fun x => decide (p ≤ x.2)).map (·.1)).Nodup := (List.Sublist.map _ List.filter_sublist).nodup hd
    cases hfi : f i with
    | none =>
      have hno := nGet_none ((hf i).trans hfi)
      cases hg : nGet (js.filter fun x => decide (p ≤ x.2)) i with
      | none => rfl
      | some v =>
        unfold nGet at hg
        obtain ⟨x, hx, -⟩ := Option.map_eq_some_iff.1 hg
        exact absurd (by simpa using List.find?_some hx) (hno x (List.mem_filter.1 (List.mem_of_find?_eq_some hx)).1)
    | some v =>
      have hm : (i, v) ∈ js := by
        have hg := (hf i).trans hfi
        unfold nGet at hg
        obtain ⟨x, hx, e⟩ := Option.map_eq_some_iff.1 hg
        have e1 : x.1 = i := by simpa using List.find?_some hx
        have hxm := List.mem_of_find?_eq_some hx
        rw [← e1, ← e]
        exact hxm
      show _ = if p ≤ v then some v else none
      by_cases hpv : p ≤ v
      · rw [if_pos hpv]
        exact nGet_mem hd' (i, v) (List.mem_filter.2 ⟨hm, decide_eq_true hpv⟩)
      · rw [if_neg hpv]
        cases hg : nGet (js.filter fun x => decide (p ≤ x.2)) i with
        | none => rfl
        | some u =>
          unfold nGet at hg
          obtain ⟨x, hx, -⟩ := Option.map_eq_some_iff.1 hg
          have e1 : x.1 = i := by simpa using List.find?_some hx
          have hxm := List.mem_filter.1 (List.mem_of_find?_eq_some hx)
          have e2 := hv x hxm.1
          rw [e1, hfi] at e2
          injection e2 with e2
          have := of_decide_eq_true hxm.2
          omega
theorem nGet_again (k : Nat) (p : Int) (i : Nat) : nGet (js.map fun x => if x.1 = k then (x.1, p) else x) i = if i = k then (nGet js i).map fun _ => p else nGet js i := by
  unfold nGet
  induction js with
  | nil => simp
  | cons a js ih =>
    rw [List.map_cons, List.find?_cons, List.find?_cons]
    by_cases h : a.1 = k
    · rw [if_pos h]
      by_cases hi : a.1 = i
      · have : i = k := hi.symm.trans h
        simp [hi, this]
      · have : i ≠ k := fun e => hi (h.trans e.symm)
        simp only [hi, decide_false]
        rw [ih, if_neg this]
    · rw [if_neg h]
      by_cases hi : a.1 = i
      · have : i ≠ k := fun e => h (hi.trans e)
        simp [hi, this]
      · simp only [hi, decide_false]
        exact ih
theorem NSt.again (h : NSt st f n) {k : Nat} (hk : k ≤ 17575) {v : Int} (hv : f k = some v) (p : Int) : NSt (ixPut st (nameZ k) p) (upd f k (some p)) n := by
  have hg := h.get hk
  obtain ⟨js, rfl, hs, hd, hf, hl⟩ := h.ex
  have hkeys : (js.map fun x => if x.1 = k then (x.1, p) else x).map (·.1) = js.map (·.1) := by
    rw [List.map_map]
    refine List.map_congr_left fun x _ => ?_
    show (if x.1 = k then (x.1, p) else x).1 = x.1
    by_cases e : x.1 = k <;> simp [e]
  refine ⟨js.map fun x => if x.1 = k then (x.1, p) else x, ?_, ?_, ?_, ?_, by simp [hl]⟩
  · unfold ixPut
    rw [hg, hv, if_pos (show (some v).isSome = true from rfl)]
    unfold nm
    rw [List.map_map, List.map_map]
    refine List.map_congr_left fun x hx => ?_
    show (if isK (nameZ k) (nameZ x.1, x.2) then (nameZ x.1, p) else (nameZ x.1, x.2)) = _
    rw [isK_name (hs x hx) hk]
    by_cases e : x.1 = k <;> simp [e]
  · intro x hx
    obtain ⟨y, hy, rfl⟩ := List.mem_map.1 hx
    have := hs y hy
    by_cases e : y.1 = k <;> simp [e] <;> omega
  · rw [hkeys]; exact hd
  · intro i
    rw [nGet_again, hf]
    unfold upd
    by_cases e : i = k
    · subst e; simp [hv]
    · simp [e]
end

end Go.Proofs.Ytilcmlioofkkmaa
