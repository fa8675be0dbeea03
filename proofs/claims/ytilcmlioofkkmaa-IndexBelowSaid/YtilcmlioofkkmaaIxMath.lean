/-
  THE MATHEMATICS OF A TABLE WITH OPEN ADDRESSES (layer 8, landed index): slots as a function of their number, round a ring of n; adding, freeing with keys that move into the hole, looking up. It knows no memory.
-/
import Derived.Test.YtilcmlioofkkmaaIndexIf
namespace Go.Proofs.Ytilcmlioofkkmaa
open Go Go.RowKit

structure Sl where
  key : ByteArray
  hash : Int
  pos : Int
  full : Bool
def Sl.zero : Sl := ⟨⟨#[]⟩, 0, 0, false⟩
abbrev Tab := Nat → Sl
def setT (T : Tab) (i : Nat) (s : Sl) : Tab := fun j => if j = i then s else T j
def ent (s : Sl) : IxSt := if s.full then [(s.key, s.pos)] else []
def ents (T : Tab) (n : Nat) : IxSt := (List.range n).flatMap fun i => ent (T i)
/-- d steps round from i; how many steps it is from i to k. -/
def nx (n i d : Nat) : Nat := if i + d < n then i + d else i + d - n
def way (n i k : Nat) : Nat := if i ≤ k then k - i else k + n - i

section
variable {n i j k d e f : Nat} {T T' : Tab} {s : Sl} {st : IxSt}
theorem nx_c (n i d : Nat) : (i + d < n ∧ nx n i d = i + d) ∨ (n ≤ i + d ∧ nx n i d = i + d - n) := by
  unfold nx; split <;> omega
theorem way_c (n i k : Nat) : (i ≤ k ∧ way n i k = k - i) ∨ (k < i ∧ way n i k = k + n - i) := by
  unfold way; split <;> omega
theorem nx_lt (hi : i < n) (hd : d ≤ n) : nx n i d < n := by have := nx_c n i d; omega
theorem way_lt (hi : i < n) (hk : k < n) : way n i k < n := by have := way_c n i k; omega
theorem nx_way (hi : i < n) (hk : k < n) : nx n i (way n i k) = k := by
  have := way_c n i k
  have := nx_c n i (way n i k)
  omega
theorem way_nx (hi : i < n) (hd : d < n) : way n i (nx n i d) = d := by
  have := nx_c n i d
  have := way_c n i (nx n i d)
  omega
theorem nx_one (hi : i < n) (hd : d + 1 < n) : nx n (nx n i d) 1 = nx n i (d + 1) := by
  have := nx_c n i d
  have := nx_c n (nx n i d) 1
  have := nx_c n i (d + 1)
  omega
theorem nx_zero (hi : i < n) : nx n i 0 = i := by have := nx_c n i 0; omega
theorem way_self (n i : Nat) : way n i i = 0 := by have := way_c n i i; omega

theorem setT_at (T : Tab) (i : Nat) (s : Sl) : setT T i s i = s := by simp [setT]
theorem setT_ne (T : Tab) (s : Sl) (h : j ≠ i) : setT T i s j = T j := by simp [setT, h]
theorem setT_two (T : Tab) (i : Nat) (s u : Sl) : setT (setT T i s) i u = setT T i u := by
  funext j; unfold setT; split <;> rfl
theorem ents_succ (T : Tab) (n : Nat) : ents T (n + 1) = ents T n ++ ent (T n) := by
  unfold ents; rw [List.range_succ, List.flatMap_append]; simp
theorem ents_congr (h : ∀ i, i < n → T i = T' i) : ents T n = ents T' n := by
  induction n with
  | zero => rfl
  | succ n ih => rw [ents_succ, ents_succ, ih fun i hi => h i (by omega), h n (by omega)]
theorem ents_take (hi : i < n) : (ents T n).Perm (ent (T i) ++ ents (setT T i Sl.zero) n) := by
  induction n with
  | zero => omega
  | succ n ih =>
    rw [ents_succ, ents_succ]
    by_cases h : i = n
    · subst h
      rw [setT_at, ents_congr (T := setT T i Sl.zero) (T' := T) fun j hj => setT_ne _ _ (by omega)]
      have : ent Sl.zero = [] := rfl
      rw [this, List.append_nil]
      exact List.perm_append_comm
    · rw [setT_ne _ _ (by omega), ← List.append_assoc]
      exact (ih (by omega)).append_right _
theorem ents_mem (hi : i < n) (hf : (T i).full = true) : ((T i).key, (T i).pos) ∈ ents T n := by
  refine (ents_take hi).symm.subset ?_
  simp [ent, hf]
theorem ents_of {x : ByteArray × Int} (h : x ∈ ents T n) : ∃ i, i < n ∧ (T i).full = true ∧ x = ((T i).key, (T i).pos) := by
  unfold ents at h
  rw [List.mem_flatMap] at h
  obtain ⟨i, hi, hx⟩ := h
  unfold ent at hx
  refine ⟨i, List.mem_range.1 hi, ?_⟩
  split at hx
  · rename_i hf
    exact ⟨hf, by simpa using hx⟩
  · cases hx
theorem ents_len (T : Tab) (n : Nat) : (ents T n).length ≤ n := by
  induction n with
  | zero => simp [ents]
  | succ n ih =>
    rw [ents_succ, List.length_append]
    have : (ent (T n)).length ≤ 1 := by unfold ent; split <;> simp
    omega
theorem ents_all (h : ∀ i, i < n → (T i).full = true) : (ents T n).length = n := by
  induction n with
  | zero => simp [ents]
  | succ n ih =>
    rw [ents_succ, List.length_append, ih fun i hi => h i (by omega)]
    simp [ent, h n (by omega)]
theorem free_slot (h : (ents T n).length < n) : ∃ f, f < n ∧ (T f).full = false := by
  refine Classical.byContradiction fun hn => ?_
  have : (ents T n).length = n := ents_all fun i hi => by
    cases hf : (T i).full with
    | true => rfl
    | false => exact absurd ⟨i, hi, hf⟩ hn
  omega
/-- No two slots hold one key. -/
theorem ents_apart (hnd : ((ents T n).map (·.1)).Nodup) (hi : i < n) (hj : j < n) (hfi : (T i).full = true) (hfj : (T j).full = true) (h : (T i).key = (T j).key) : i = j := by
  refine Classical.byContradiction fun hne => ?_
  have hp := ((ents_take (T := T) hi).map (·.1)).nodup_iff.1 hnd
  have hm : ((T j).key, (T j).pos) ∈ ents (setT T i Sl.zero) n := by
    have := ents_mem (T := setT T i Sl.zero) hj (by rw [setT_ne _ _ (Ne.symm hne)]; exact hfj)
    rwa [setT_ne _ _ (Ne.symm hne)] at this
  have e : ent (T i) = [((T i).key, (T i).pos)] := by simp [ent, hfi]
  rw [e, List.map_append, List.map_cons, List.map_nil, List.singleton_append, List.nodup_cons] at hp
  exact hp.1 (h ▸ List.mem_map.2 ⟨_, hm, rfl⟩)
end

/-! ### Keys -/
section
variable {st st' : IxSt} {k : ByteArray} {p : Int} {x : ByteArray × Int}
theorem isK_iff : isK k x = true ↔ x.1 = k := by
  unfold isK
  rw [beq_iff_eq]
  refine ⟨fun h => ByteArray.ext ?_, fun h => by rw [h]⟩
  exact Array.toList_inj.1 h
theorem isK_not : isK k x = false ↔ x.1 ≠ k := by
  cases h : isK k x with
  | true => simp [isK_iff.1 h]
  | false => simp; exact fun e => by rw [isK_iff.2 e] at h; cases h
theorem ixGet_mem (h : ixGet st k = some p) : (k, p) ∈ st := by
  unfold ixGet at h
  obtain ⟨x, hx, e⟩ := Option.map_eq_some_iff.1 h
  have e1 := isK_iff.1 (List.find?_some hx)
  have := List.mem_of_find?_eq_some hx
  rw [← e1, ← e]
  exact this
theorem ixGet_of (hnd : (st.map (·.1)).Nodup) (h : (k, p) ∈ st) : ixGet st k = some p := by
  unfold ixGet
  induction st with
  | nil => cases h
  | cons a st ih =>
    rw [List.map_cons, List.nodup_cons] at hnd
    rw [List.find?_cons]
    by_cases ha : a.1 = k
    · rw [isK_iff.2 ha]
      rcases List.mem_cons.1 h with rfl | h
      · rfl
      · exact absurd (List.mem_map.2 ⟨_, h, ha.symm⟩) hnd.1
    · rw [isK_not.2 ha]
      rcases List.mem_cons.1 h with rfl | h
      · exact absurd rfl ha
      · exact ih hnd.2 h
theorem ixGet_none : ixGet st k = none ↔ ∀ x ∈ st, x.1 ≠ k := by
  unfold ixGet
  rw [Option.map_eq_none_iff, List.find?_eq_none]
  exact ⟨fun h x hx e => h x hx (isK_iff.2 e), fun h x hx e => h x hx (isK_iff.1 e)⟩
theorem ixGet_perm (hp : st.Perm st') (hnd : (st.map (·.1)).Nodup) : ixGet st k = ixGet st' k := by
  have hnd' := (hp.map (·.1)).nodup_iff.1 hnd
  cases h : ixGet st k with
  | none =>
    symm
    rw [ixGet_none] at h ⊢
    exact fun x hx => h x (hp.symm.subset hx)
  | some p => exact (ixGet_of hnd' (hp.subset (ixGet_mem h))).symm
theorem ixDrop_perm (hp : st.Perm st') : (ixDrop st k).Perm (ixDrop st' k) := hp.filter _
theorem ixBelow_perm (hp : st.Perm st') : (ixBelow st p).Perm (ixBelow st' p) := hp.filter _
theorem ixDrop_cons (hnd : (((k, p) :: st).map (·.1)).Nodup) : ixDrop ((k, p) :: st) k = st := by
  rw [List.map_cons, List.nodup_cons] at hnd
  unfold ixDrop
  rw [List.filter_cons, show isK k (k, p) = true from isK_iff.2 rfl]
  simp only [Bool.not_true, Bool.false_eq_true, if_false]
  rw [List.filter_eq_self]
  intro x hx
  rw [isK_not.2 fun e => hnd.1 (List.mem_map.2 ⟨x, hx, e⟩)]
  rfl
theorem ixPut_new (h : ixGet st k = none) : ixPut st k p = st ++ [(k, p)] := by simp [ixPut, h]
theorem ixPut_keys (st : IxSt) (k : ByteArray) (p : Int) (hs : (ixGet st k).isSome = true) : (ixPut st k p).map (·.1) = st.map (·.1) := by
  unfold ixPut
  rw [if_pos hs, List.map_map]
  refine List.map_congr_left fun x _ => ?_
  show (if isK k x then (x.1, p) else x).1 = x.1
  split <;> rfl
theorem ixPut_nodup (hnd : (st.map (·.1)).Nodup) : ((ixPut st k p).map (·.1)).Nodup := by
  cases hg : ixGet st k with
  | some v => rw [ixPut_keys st k p (by rw [hg]; rfl)]; exact hnd
  | none =>
    rw [ixPut_new hg, List.map_append, List.nodup_append]
    refine ⟨hnd, by simp, ?_⟩
    intro a ha b hb
    obtain ⟨x, hx, rfl⟩ := List.mem_map.1 ha
    simp at hb
    subst hb
    exact ixGet_none.1 hg x hx
theorem ixDrop_nodup (hnd : (st.map (·.1)).Nodup) : ((ixDrop st k).map (·.1)).Nodup := (List.Sublist.map _ List.filter_sublist).nodup hnd
theorem ixBelow_nodup (hnd : (st.map (·.1)).Nodup) : ((ixBelow st p).map (·.1)).Nodup := (List.Sublist.map _ List.filter_sublist).nodup hnd
/-- A key that was put again. -/
theorem ixPut_again {q : Int} {rest : IxSt} (hp : st.Perm ((k, q) :: rest)) (hnd : (st.map (·.1)).Nodup) : (ixPut st k p).Perm ((k, p) :: rest) := by
  have hnd' := (hp.map (·.1)).nodup_iff.1 hnd
  have hg : ixGet st k = some q := ixGet_of hnd (hp.symm.subset List.mem_cons_self)
  unfold ixPut
  rw [hg, if_pos (show (some q).isSome = true from rfl)]
  refine (hp.map _).trans ?_
  rw [List.map_cons, show isK k (k, q) = true from isK_iff.2 rfl, if_pos rfl]
  rw [List.map_cons, List.nodup_cons] at hnd'
  have : rest.map (fun x => if isK k x then (x.1, p) else x) = rest := by
    refine (List.map_congr_left fun x hx => ?_).trans (List.map_id rest)
    rw [isK_not.2 fun e => hnd'.1 (List.mem_map.2 ⟨x, hx, e⟩)]
    rfl
  rw [this]
theorem ixPut_i64 (hs : ∀ x ∈ st, i64 x.2) (hp : i64 p) : ∀ x ∈ ixPut st k p, i64 x.2 := by
  intro x hx
  unfold ixPut at hx
  split at hx
  · obtain ⟨y, hy, rfl⟩ := List.mem_map.1 hx
    split
    · exact hp
    · exact hs y hy
  · rcases List.mem_append.1 hx with h | h
    · exact hs x h
    · simp at h; subst h; exact hp
end
theorem ixDrop_i64 {st : IxSt} {k : ByteArray} (hs : ∀ x ∈ st, i64 x.2) : ∀ x ∈ ixDrop st k, i64 x.2 := fun x hx => hs x (List.mem_filter.1 hx).1
theorem ixBelow_i64 {st : IxSt} {p : Int} (hs : ∀ x ∈ st, i64 x.2) : ∀ x ∈ ixBelow st p, i64 x.2 := fun x hx => hs x (List.mem_filter.1 hx).1

end Go.Proofs.Ytilcmlioofkkmaa
