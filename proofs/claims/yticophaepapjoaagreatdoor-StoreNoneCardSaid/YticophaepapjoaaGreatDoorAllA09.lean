/-
  IxMath, FlMath, RowZ, SlogIf, Slog2, FlRep, ItemRef, ItemLive: texts of mine, joined.
-/
import Derived.Test.YticophaepapjoaaGreatDoorAllA08
import Derived.Test.YticophaepapjoaaGreatDoorAllA01
import Derived.Test.YticophaepapjoaaGreatDoorWords
import Derived.Laws.OwnMore
import Derived.Lib.SmallJoins
import Derived.Test.YticophaepapjoaaGreatDoorAllA02
import Derived.WalkSpells
namespace Go.Proofs.YticophaepapjoaaGreatDoor
open Go Go.RowKit
structure Sl where
 key : ByteArray
 hash : Int
 pos : Int
 full : Bool
def Sl.zero : Sl := ⟨⟨#[]⟩, 0, 0, false⟩
abbrev Tab := Nat → Sl
def setT (T : Tab) (i : Nat) (s : Sl) : Tab := fun j => if j = i then s else T j
def ent (s : Sl) : IxSt := if s.full then [(s.key, s.pos)] else []
def ents (T : Tab) (n : Nat) : IxSt := (List.range n).flatMap fun i => ent (T i)
def nx (n i d : Nat) : Nat := if i + d < n then i + d else i + d - n
def way (n i k : Nat) : Nat := if i ≤ k then k - i else k + n - i
section
variable {n i j k d e f : Nat} {T T' : Tab} {s : Sl} {st : IxSt}
theorem nx_c (n i d : Nat) : (i + d < n ∧ nx n i d = i + d) ∨ (n ≤ i + d ∧ nx n i d = i + d - n) := by
 unfold nx; split <;> omega
theorem way_c (n i k : Nat) : (i ≤ k ∧ way n i k = k - i) ∨ (k < i ∧ way n i k = k + n - i) := by
 unfold way; split <;> omega
theorem nx_lt (hi : i < n) (hd : d ≤ n) : nx n i d < n := by have := nx_c n i d; omega
theorem way_lt (hi : i < n) (hk : k < n) : way n i k < n := by have := way_c n i k; omega
theorem nx_way (hi : i < n) (hk : k < n) : nx n i (way n i k) = k := by
 have := way_c n i k
 have := nx_c n i (way n i k)
 omega
theorem way_nx (hi : i < n) (hd : d < n) : way n i (nx n i d) = d := by
 have := nx_c n i d
 have := way_c n i (nx n i d)
 omega
theorem nx_one (hi : i < n) (hd : d + 1 < n) : nx n (nx n i d) 1 = nx n i (d + 1) := by
 have := nx_c n i d
 have := nx_c n (nx n i d) 1
 have := nx_c n i (d + 1)
 omega
theorem nx_zero (hi : i < n) : nx n i 0 = i := by have := nx_c n i 0; omega
theorem way_self (n i : Nat) : way n i i = 0 := by have := way_c n i i; omega
theorem setT_at (T : Tab) (i : Nat) (s : Sl) : setT T i s i = s := by simp [setT]
theorem setT_ne (T : Tab) (s : Sl) (h : j ≠ i) : setT T i s j = T j := by simp [setT, h]
theorem setT_two (T : Tab) (i : Nat) (s u : Sl) : setT (setT T i s) i u = setT T i u := by
 funext j; unfold setT; split <;> rfl
theorem ents_succ (T : Tab) (n : Nat) : ents T (n + 1) = ents T n ++ ent (T n) := by
 unfold ents; rw [List.range_succ, List.flatMap_append]; simp
theorem ents_congr (h : ∀ i, i < n → T i = T' i) : ents T n = ents T' n := by
 induction n with
 | zero => rfl
 | succ n ih => rw [ents_succ, ents_succ, ih fun i hi => h i (by omega), h n (by omega)]
theorem ents_take (hi : i < n) : (ents T n).Perm (ent (T i) ++ ents (setT T i Sl.zero) n) := by
 induction n with
 | zero => omega
 | succ n ih =>
  rw [ents_succ, ents_succ]
  by_cases h : i = n
  ·subst h
   rw [setT_at, ents_congr (T := setT T i Sl.zero) (T' := T) fun j hj => setT_ne _ _ (by omega)]
   have : ent Sl.zero = [] := rfl
   rw [this, List.append_nil]
   exact List.perm_append_comm
  ·rw [setT_ne _ _ (by omega), ← List.append_assoc]
   exact (ih (by omega)).append_right _
theorem ents_mem (hi : i < n) (hf : (T i).full = true) : ((T i).key, (T i).pos) ∈ ents T n := by
 refine (ents_take hi).symm.subset ?_
 simp [ent, hf]
theorem ents_of {x : ByteArray × Int} (h : x ∈ ents T n) : ∃ i, i < n ∧ (T i).full = true ∧ x = ((T i).key, (T i).pos) := by
 unfold ents at h
 rw [List.mem_flatMap] at h
 obtain ⟨i, hi, hx⟩ := h
 unfold ent at hx
 refine ⟨i, List.mem_range.1 hi, ?_⟩
 split at hx
 ·rename_i hf
  exact ⟨hf, by simpa using hx⟩
 ·cases hx
theorem ents_len (T : Tab) (n : Nat) : (ents T n).length ≤ n := by
 induction n with
 | zero => simp [ents]
 | succ n ih =>
  rw [ents_succ, List.length_append]
  have : (ent (T n)).length ≤ 1 := by unfold ent; split <;> simp
  omega
theorem ents_all (h : ∀ i, i < n → (T i).full = true) : (ents T n).length = n := by
 induction n with
 | zero => simp [ents]
 | succ n ih =>
  rw [ents_succ, List.length_append, ih fun i hi => h i (by omega)]
  simp [ent, h n (by omega)]
theorem free_slot (h : (ents T n).length < n) : ∃ f, f < n ∧ (T f).full = false := by
 refine Classical.byContradiction fun hn => ?_
 have : (ents T n).length = n := ents_all fun i hi => by
  cases hf : (T i).full with
  | true => rfl
  | false => exact absurd ⟨i, hi, hf⟩ hn
 omega
end
section
variable {st st' : IxSt} {k : ByteArray} {p : Int} {x : ByteArray × Int}
theorem isK_iff : isK k x = true ↔ x.1 = k := by
 unfold isK
 rw [beq_iff_eq]
 refine ⟨fun h => ByteArray.ext ?_, fun h => by rw [h]⟩
 exact Array.toList_inj.1 h
theorem isK_not : isK k x = false ↔ x.1 ≠ k := by
 cases h : isK k x with
 | true => simp [isK_iff.1 h]
 | false => simp; exact fun e => by rw [isK_iff.2 e] at h; cases h
theorem ixGet_mem (h : ixGet st k = some p) : (k, p) ∈ st := by
 unfold ixGet at h
 obtain ⟨x, hx, e⟩ := Option.map_eq_some_iff.1 h
 have e1 := isK_iff.1 (List.find?_some hx)
 have := List.mem_of_find?_eq_some hx
 rw [← e1, ← e]
 exact this
theorem ixGet_of (hnd : (st.map (·.1)).Nodup) (h : (k, p) ∈ st) : ixGet st k = some p := by
 unfold ixGet
 induction st with
 | nil => cases h
 | cons a st ih =>
  rw [List.map_cons, List.nodup_cons] at hnd
  rw [List.find?_cons]
  by_cases ha : a.1 = k
  ·rw [isK_iff.2 ha]
   rcases List.mem_cons.1 h with rfl | h
   ·rfl
   ·exact absurd (List.mem_map.2 ⟨_, h, ha.symm⟩) hnd.1
  ·rw [isK_not.2 ha]
   rcases List.mem_cons.1 h with rfl | h
   ·exact absurd rfl ha
   ·exact ih hnd.2 h
theorem ixGet_none : ixGet st k = none ↔ ∀ x ∈ st, x.1 ≠ k := by
 unfold ixGet
 rw [Option.map_eq_none_iff, List.find?_eq_none]
 exact ⟨fun h x hx e => h x hx (isK_iff.2 e), fun h x hx e => h x hx (isK_iff.1 e)⟩
theorem ixDrop_perm (hp : st.Perm st') : (ixDrop st k).Perm (ixDrop st' k) := hp.filter _
theorem ixBelow_perm (hp : st.Perm st') : (ixBelow st p).Perm (ixBelow st' p) := hp.filter _
theorem ixDrop_cons (hnd : (((k, p) :: st).map (·.1)).Nodup) : ixDrop ((k, p) :: st) k = st := by
 rw [List.map_cons, List.nodup_cons] at hnd
 unfold ixDrop
 rw [List.filter_cons, show isK k (k, p) = true from isK_iff.2 rfl]
 simp only [Bool.not_true, Bool.false_eq_true, if_false]
 rw [List.filter_eq_self]
 intro x hx
 rw [isK_not.2 fun e => hnd.1 (List.mem_map.2 ⟨x, hx, e⟩)]
 rfl
theorem ixPut_new (h : ixGet st k = none) : ixPut st k p = st ++ [(k, p)] := by simp [ixPut, h]
theorem ixPut_keys (st : IxSt) (k : ByteArray) (p : Int) (hs : (ixGet st k).isSome = true) : (ixPut st k p).map (·.1) = st.map (·.1) := by
 unfold ixPut
 rw [if_pos hs, List.map_map]
 refine List.map_congr_left fun x _ => ?_
 show (if isK k x then (x.1, p) else x).1 = x.1
 split <;> rfl
theorem ixPut_nodup (hnd : (st.map (·.1)).Nodup) : ((ixPut st k p).map (·.1)).Nodup := by
 cases hg : ixGet st k with
 | some v => rw [ixPut_keys st k p (by rw [hg]; rfl)]; exact hnd
 | none =>
  rw [ixPut_new hg, List.map_append, List.nodup_append]
  refine ⟨hnd, by simp, ?_⟩
  intro a ha b hb
  obtain ⟨x, hx, rfl⟩ := List.mem_map.1 ha
  simp at hb
  subst hb
  exact ixGet_none.1 hg x hx
theorem ixDrop_nodup (hnd : (st.map (·.1)).Nodup) : ((ixDrop st k).map (·.1)).Nodup := (List.Sublist.map _ List.filter_sublist).nodup hnd
theorem ixBelow_nodup (hnd : (st.map (·.1)).Nodup) : ((ixBelow st p).map (·.1)).Nodup := (List.Sublist.map _ List.filter_sublist).nodup hnd
theorem ixPut_again {q : Int} {rest : IxSt} (hp : st.Perm ((k, q) :: rest)) (hnd : (st.map (·.1)).Nodup) : (ixPut st k p).Perm ((k, p) :: rest) := by
 have hnd' := (hp.map (·.1)).nodup_iff.1 hnd
 have hg : ixGet st k = some q := ixGet_of hnd (hp.symm.subset List.mem_cons_self)
 unfold ixPut
 rw [hg, if_pos (show (some q).isSome = true from rfl)]
 refine (hp.map _).trans ?_
 rw [List.map_cons, show isK k (k, q) = true from isK_iff.2 rfl, if_pos rfl]
 rw [List.map_cons, List.nodup_cons] at hnd'
 have : rest.map (fun x => if isK k x then (x.1, p) else x) = rest := by
  refine (List.map_congr_left fun x hx => ?_).trans (List.map_id rest)
  rw [isK_not.2 fun e => hnd'.1 (List.mem_map.2 ⟨x, hx, e⟩)]
  rfl
 rw [this]
theorem ixPut_i64 (hs : ∀ x ∈ st, i64 x.2) (hp : i64 p) : ∀ x ∈ ixPut st k p, i64 x.2 := by
 intro x hx
 unfold ixPut at hx
 split at hx
 ·obtain ⟨y, hy, rfl⟩ := List.mem_map.1 hx
  split
  ·exact hp
  ·exact hs y hy
 ·rcases List.mem_append.1 hx with h | h
  ·exact hs x h
  ·simp at h; subst h; exact hp
end
theorem ixDrop_i64 {st : IxSt} {k : ByteArray} (hs : ∀ x ∈ st, i64 x.2) : ∀ x ∈ ixDrop st k, i64 x.2 := fun x hx => hs x (List.mem_filter.1 hx).1
theorem ixBelow_i64 {st : IxSt} {p : Int} (hs : ∀ x ∈ st, i64 x.2) : ∀ x ∈ ixBelow st p, i64 x.2 := fun x hx => hs x (List.mem_filter.1 hx).1
end Go.Proofs.YticophaepapjoaaGreatDoor
namespace Go.Proofs.YticophaepapjoaaGreatDoor
open Go
abbrev FRec := Nat × Option It
def bodyO : Option It → List UInt8
 | none => [0]
 | some x => x.bytes
def frk (a : FRec) : Nat × List UInt8 := (a.1, bodyO a.2)
def spStep (k : ByteArray) (o : Option (Nat × It)) (a : FRec) : Option (Nat × It) :=
 match a.2 with
 | none => none
 | some x => if x.key = k then (if x.gone then none else some (a.1, x)) else o
def sp (l : List FRec) (k : ByteArray) : Option (Nat × It) := l.foldl (spStep k) none
theorem sp_snoc (l : List FRec) (a : FRec) (k : ByteArray) : sp (l ++ [a]) k = spStep k (sp l k) a := by simp [sp, List.foldl_append]
theorem fold_mem (k : ByteArray) (l : List FRec) (o : Option (Nat × It)) (p : Nat) (x : It) (h : l.foldl (spStep k) o = some (p, x)) : o = some (p, x) ∨ ((p, some x) ∈ l ∧ x.key = k ∧ x.gone = false) := by
 induction l generalizing o with
 | nil => exact .inl h
 | cons a l ih =>
  rcases ih _ h with h1 | ⟨h1, h2⟩
  ·obtain ⟨q, y⟩ := a
   cases y with
   | none => cases h1
   | some y =>
    change (if y.key = k then (if y.gone then none else some (q, y)) else o) = _ at h1
    by_cases hk : y.key = k
    ·rw [if_pos hk] at h1
     cases hg : y.gone with
     | true => rw [hg] at h1; cases h1
     | false =>
      rw [hg] at h1
      cases h1
      exact .inr ⟨List.mem_cons_self, hk, hg⟩
    ·rw [if_neg hk] at h1
     exact .inl h1
  ·exact .inr ⟨List.mem_cons_of_mem _ h1, h2⟩
theorem sp_mem {l : List FRec} {k : ByteArray} {p : Nat} {x : It} (h : sp l k = some (p, x)) : (p, some x) ∈ l ∧ x.key = k ∧ x.gone = false := by
 rcases fold_mem k l none p x h with h1 | h1
 ·cases h1
 ·exact h1
def above (f : Nat) (y : Nat × It) : Bool := decide (f ≤ y.1)
theorem fold_filter (f : Nat) (k : ByteArray) (l : List FRec) (hl : ∀ a ∈ l, f ≤ a.1) (o o' : Option (Nat × It)) (h : o.filter (above f) = o') : (l.foldl (spStep k) o).filter (above f) = l.foldl (spStep k) o' := by
 induction l generalizing o o' with
 | nil => exact h
 | cons a l ih =>
  refine ih (fun b hb => hl b (List.mem_cons_of_mem _ hb)) _ _ ?_
  have ha := hl a List.mem_cons_self
  obtain ⟨q, y⟩ := a
  cases y with
  | none => rfl
  | some y =>
   show (if y.key = k then (if y.gone then none else some (q, y)) else o).filter (above f) = (if y.key = k then (if y.gone then none else some (q, y)) else o')
   by_cases hk : y.key = k
   ·rw [if_pos hk, if_pos hk]
    cases y.gone
    ·have : above f (q, y) = true := decide_eq_true ha
     simp [Option.filter, this]
    ·rfl
   ·rw [if_neg hk, if_neg hk]; exact h
theorem sp_below (f : Nat) (k : ByteArray) (a b : List FRec) (ha : ∀ r ∈ a, r.1 < f) (hb : ∀ r ∈ b, f ≤ r.1) : (sp (a ++ b) k).filter (above f) = sp b k := by
 unfold sp
 rw [List.foldl_append]
 refine fold_filter f k b hb _ _ ?_
 cases h : a.foldl (spStep k) none with
 | none => rfl
 | some y =>
  obtain ⟨p, x⟩ := y
  rcases fold_mem k a none p x h with h1 | ⟨h1, -⟩
  ·cases h1
  ·have h2 : p < f := ha _ h1
   have : above f (p, x) = false := decide_eq_false (by omega)
   simp [Option.filter, this]
theorem sp_cut (a : List FRec) (p : Nat) (l : List FRec) (k : ByteArray) : sp (a ++ [(p, none)] ++ l) k = sp l k := by
 unfold sp
 rw [List.foldl_append, List.foldl_append]
 rfl
section
variable {st : IxSt} {k k' : ByteArray} {p f : Int}
theorem isK_self (k : ByteArray) (p : Int) : isK k (k, p) = true := isK_iff.2 rfl
theorem ixGet_put (hnd : (st.map (·.1)).Nodup) : ixGet (ixPut st k p) k' = if k = k' then some p else ixGet st k' := by
 have hn := ixPut_nodup (k := k) (p := p) hnd
 by_cases h : (ixGet st k).isSome = true
 ·have e : ixPut st k p = st.map (fun x => if isK k x then (x.1, p) else x) := by unfold ixPut; rw [if_pos h]
  obtain ⟨q, hq⟩ := Option.isSome_iff_exists.1 h
  by_cases hk : k = k'
  ·subst hk
   rw [if_pos rfl]
   refine ixGet_of hn ?_
   rw [e]
   exact List.mem_map.2 ⟨(k, q), ixGet_mem hq, by rw [if_pos (isK_self k q)]⟩
  ·rw [if_neg hk]
   cases hg : ixGet st k' with
   | none =>
    rw [ixGet_none] at hg ⊢
    intro x hx
    rw [e] at hx
    obtain ⟨y, hy, rfl⟩ := List.mem_map.1 hx
    have := hg y hy
    split <;> exact this
   | some r =>
    refine ixGet_of hn ?_
    rw [e]
    refine List.mem_map.2 ⟨(k', r), ixGet_mem hg, ?_⟩
    rw [if_neg (fun hh => hk (isK_iff.1 hh).symm)]
 ·have h0 : ixGet st k = none := by simpa using h
  rw [ixPut_new h0]
  rw [ixPut_new h0] at hn
  by_cases hk : k = k'
  ·subst hk
   rw [if_pos rfl]
   exact ixGet_of hn (by simp)
  ·rw [if_neg hk]
   cases hg : ixGet st k' with
   | none =>
    rw [ixGet_none] at hg ⊢
    intro x hx
    rcases List.mem_append.1 hx with hx | hx
    ·exact hg x hx
    ·rw [List.mem_singleton.1 hx]; exact hk
   | some r => exact ixGet_of hn (List.mem_append_left _ (ixGet_mem hg))
theorem ixGet_drop (hnd : (st.map (·.1)).Nodup) : ixGet (ixDrop st k) k' = if k = k' then none else ixGet st k' := by
 have hn := ixDrop_nodup (k := k) hnd
 by_cases hk : k = k'
 ·subst hk
  rw [if_pos rfl, ixGet_none]
  intro x hx
  have := (List.mem_filter.1 hx).2
  intro e
  rw [isK_iff.2 e] at this
  cases this
 ·rw [if_neg hk]
  cases hg : ixGet st k' with
  | none =>
   rw [ixGet_none] at hg ⊢
   exact fun x hx => hg x (List.mem_filter.1 hx).1
  | some r =>
   refine ixGet_of hn (List.mem_filter.2 ⟨ixGet_mem hg, ?_⟩)
   rw [isK_not.2 (fun e => hk e.symm)]
   rfl
theorem ixGet_below (hnd : (st.map (·.1)).Nodup) : ixGet (ixBelow st f) k = (ixGet st k).filter fun q => decide (f ≤ q) := by
 have hn := ixBelow_nodup (p := f) hnd
 cases hg : ixGet st k with
 | none =>
  rw [ixGet_none] at hg
  show _ = none
  rw [ixGet_none]
  exact fun x hx => hg x (List.mem_filter.1 hx).1
 | some r =>
  by_cases hr : f ≤ r
  ·rw [Option.filter_some_pos (by simpa using hr)]
   exact ixGet_of hn (List.mem_filter.2 ⟨ixGet_mem hg, by simpa using hr⟩)
  ·rw [Option.filter_some_neg (by simpa using hr), ixGet_none]
   intro x hx e
   have h1 := (List.mem_filter.1 hx).1
   have h2 : f ≤ x.2 := by simpa using (List.mem_filter.1 hx).2
   obtain ⟨a, b⟩ := x
   subst e
   have := ixGet_of hnd h1
   rw [hg] at this
   cases this
   exact hr h2
end
structure IxSays (ix : IxSt) (l : List FRec) (n : Nat) : Prop where
 nd : (ix.map (·.1)).Nodup
 len : ix.length ≤ n
 is : ∀ k, ixGet ix k = (sp l k).map fun a => (a.1 : Int)
section
variable {ix : IxSt} {l : List FRec} {n : Nat}
theorem IxSays.nil : IxSays [] [] 0 := ⟨List.nodup_nil, Nat.le_refl _, fun _ => rfl⟩
theorem IxSays.more (h : IxSays ix l n) {m : Nat} (hm : n ≤ m) : IxSays ix l m := ⟨h.nd, Nat.le_trans h.len hm, h.is⟩
theorem IxSays.wipe (l : List FRec) (n p : Nat) : IxSays [] (l ++ [(p, none)]) n := ⟨List.nodup_nil, Nat.zero_le _, fun k => by rw [sp_snoc]; rfl⟩
theorem flput_len (st : IxSt) (k : ByteArray) (p : Int) : (ixPut st k p).length ≤ st.length + 1 := by
 unfold ixPut
 split
 ·rw [List.length_map]; omega
 ·simp
theorem IxSays.put (h : IxSays ix l n) {x : It} (hx : x.gone = false) (p : Nat) : IxSays (ixPut ix x.key (p : Int)) (l ++ [(p, some x)]) (n + 1) := by
 refine ⟨ixPut_nodup h.nd, Nat.le_trans (flput_len _ _ _) (Nat.succ_le_succ h.len), fun k => ?_⟩
 rw [ixGet_put h.nd, sp_snoc]
 show _ = (if x.key = k then (if x.gone then none else some (p, x)) else sp l k).map _
 by_cases hk : x.key = k
 ·rw [if_pos hk, if_pos hk, hx]; rfl
 ·rw [if_neg hk, if_neg hk]; exact h.is k
theorem IxSays.drop (h : IxSays ix l n) {x : It} (hx : x.gone = true) (p : Nat) : IxSays (ixDrop ix x.key) (l ++ [(p, some x)]) (n + 1) := by
 refine ⟨ixDrop_nodup h.nd, Nat.le_trans (List.length_filter_le _ _) (Nat.le_succ_of_le h.len), fun k => ?_⟩
 rw [ixGet_drop h.nd, sp_snoc]
 show _ = (if x.key = k then (if x.gone then none else some (p, x)) else sp l k).map _
 by_cases hk : x.key = k
 ·rw [if_pos hk, if_pos hk, hx]; rfl
 ·rw [if_neg hk, if_neg hk]; exact h.is k
theorem IxSays.below {a b : List FRec} (h : IxSays ix (a ++ b) n) (f : Nat) (ha : ∀ r ∈ a, r.1 < f) (hb : ∀ r ∈ b, f ≤ r.1) : IxSays (ixBelow ix (f : Int)) b n := by
 refine ⟨ixBelow_nodup h.nd, Nat.le_trans (List.length_filter_le _ _) h.len, fun k => ?_⟩
 rw [ixGet_below h.nd, h.is k, ← sp_below f k a b ha hb]
 cases sp (a ++ b) k with
 | none => rfl
 | some y =>
  by_cases hy : f ≤ y.1
  ·have h1 : above f y = true := decide_eq_true hy
   have h2 : decide ((f : Int) ≤ (y.1 : Int)) = true := decide_eq_true (by omega)
   rw [Option.filter_some_pos (by exact h1)]
   exact Option.filter_some_pos (by exact h2)
  ·have h1 : ¬ above f y = true := fun h => hy (of_decide_eq_true h)
   have h2 : ¬ decide ((f : Int) ≤ (y.1 : Int)) = true := fun h => hy (by have := of_decide_eq_true h; omega)
   rw [Option.filter_some_neg (eq_false_of_ne_true h1)]
   exact Option.filter_some_neg (eq_false_of_ne_true h2)
end
theorem opened_snoc (l : List LRec) (r : LRec) : opened (l ++ [r]) = l ++ [⟨r.pos, r.body, r.opens + 1⟩] := by
 induction l with
 | nil => rfl
 | cons a l ih =>
  cases l with
  | nil => rfl
  | cons b l => show a :: opened ((b :: l) ++ [r]) = _; rw [ih]; rfl
theorem fopened_snoc (l : List FEnt) (e : FEnt) : fopened (l ++ [e]) = l ++ [⟨e.x, e.opens + 1⟩] := by
 induction l with
 | nil => rfl
 | cons a l ih =>
  cases l with
  | nil => rfl
  | cons b l => show a :: fopened ((b :: l) ++ [e]) = _; rw [ih]; rfl
theorem snoc_is {α : Type} (l : List α) (h : l ≠ []) : ∃ a b, l = a ++ [b] := ⟨l.dropLast, l.getLast h, (List.dropLast_concat_getLast h).symm⟩
theorem It.bytes_le {x : It} (h : x.may = true) : x.bytes.length ≤ x.key.size + x.val.size + 20 := by
 have m := It.may_is h
 have f := x.flag_bd
 have kx : x.key.data.toList.length = x.key.size := by simp
 have vx : x.val.data.toList.length = x.val.size := by simp
 have z : ∀ n : Int, 0 ≤ n → zig n = (2 * n).toNat := fun n hn => by unfold zig; rw [if_neg (by omega)]
 have h1 : (putZ (x.key.data.toList.length : Int)).length ≤ 1 := vin_len 0 _ (by rw [z _ (by omega)]; omega)
 have h2 : (putZ (x.val.data.toList.length : Int)).length ≤ 2 := vin_len 1 _ (by rw [z _ (by omega)]; omega)
 have h3 := putZ_len x.till (by omega) (by omega)
 have h4 : (putZ x.flag).length ≤ 1 := vin_len 0 _ (by rw [z _ (by omega)]; omega)
 unfold It.bytes putT
 simp only [List.length_append]
 omega
structure FM (st : FSt) (lst : LSt) (hs : List FRec) : Prop where
 key : lst.hist.map LRec.key = hs.map frk
 may : ∀ p x, (p, some x) ∈ hs → x.may = true
 cut : ∃ h0 h1, hs = h0 ++ h1 ∧ (h0 = [] ∨ ∃ a p, h0 = a ++ [(p, none)]) ∧ h1.map (·.2) = st.ents.map (fun e => some e.x) ∧ (lst.hist.drop h0.length).map (·.opens) = st.ents.map (·.opens) ∧ st.gone = lst.gone - h0.length
 place : lst.place = st.place
 segs : lst.segs = st.segs
 age : lst.hist.length ≤ st.age
 next : lst.next ≤ 1048576 * st.age
 old : st.age ≤ 30000
theorem costs_le (tl : List LRec) (h1 : List FRec) (es : List FEnt) (hk : tl.map LRec.key = h1.map frk) (hm : ∀ p x, (p, some x) ∈ h1 → x.may = true) (he : h1.map (·.2) = es.map fun e => some e.x) (ho : tl.map (·.opens) = es.map (·.opens)) : costs tl ≤ fcosts es := by
 induction tl generalizing h1 es with
 | nil => exact Nat.zero_le _
 | cons r tl ih =>
  cases h1 with
  | nil => simp at hk
  | cons a h1 =>
   cases es with
   | nil => simp at he
   | cons e es =>
    simp only [List.map_cons, List.cons.injEq] at hk he ho
    have := ih h1 es hk.2 (fun p x hx => hm p x (List.mem_cons_of_mem _ hx)) he.2 ho.2
    have hb : r.body = e.x.bytes := by
     have := hk.1
     unfold LRec.key frk at this
     rw [he.1] at this
     injection this
    have hx : e.x.may = true := hm a.1 e.x (by obtain ⟨p, y⟩ := a; simp only at he; rw [he.1]; exact List.mem_cons_self)
    have hl := It.bytes_le hx
    have e1 : costs (r :: tl) = r.cost + costs tl := by simp [costs]
    have e2 : fcosts (e :: es) = e.cost + fcosts es := by simp [fcosts]
    rw [e1, e2]
    unfold LRec.cost FEnt.cost
    rw [hb, ho.1]
    omega
section
variable {st : FSt} {lst : LSt} {hs : List FRec}
theorem FM.len (h : FM st lst hs) : lst.hist.length = hs.length := by have := congrArg List.length h.key; simpa using this
theorem FM.pos (h : FM st lst hs) : lst.hist.map (·.pos) = hs.map (·.1) := by
 have := congrArg (List.map Prod.fst) h.key
 rw [List.map_map, List.map_map] at this
 exact this
theorem FM.recs (h : FM st lst hs) : lst.recs = (hs.drop lst.gone).map frk := by
 unfold LSt.recs
 rw [List.map_drop, h.key, ← List.map_drop]
theorem FM.ok (h : FM st lst hs) (ho : lst.Ok) : st.Ok := by
 obtain ⟨h0, h1, e, -, he, hop, hg⟩ := h.cut
 have hlen := h.len
 have hl1 : h1.length = st.ents.length := by have := congrArg List.length he; simpa using this
 have hlen2 : hs.length = h0.length + h1.length := by rw [e, List.length_append]
 have hgo := ho.gone
 refine ⟨by rw [← h.segs]; exact ho.segs, fun en hen => ?_, by omega, fun i hi hc => ?_⟩
 ·have : some en.x ∈ h1.map (·.2) := by rw [he]; exact List.mem_map.2 ⟨en, hen, rfl⟩
  obtain ⟨a, ha, hax⟩ := List.mem_map.1 this
  refine h.may a.1 en.x ?_
  rw [e]
  obtain ⟨p, y⟩ := a
  simp only at hax
  subst hax
  exact List.mem_append_right _ ha
 ·have hd : (lst.hist.drop (h0.length + i)).map LRec.key = (h1.drop i).map frk := by
   rw [List.map_drop, h.key, e, List.map_append, List.drop_append, List.map_drop]
   rw [List.drop_eq_nil_of_le (by simp), List.nil_append, List.length_map]
   congr 1; omega
  have := costs_le (lst.hist.drop (h0.length + i)) (h1.drop i) (st.ents.drop i) hd (fun p x hx => h.may p x (by rw [e]; exact List.mem_append_right _ (List.mem_of_mem_drop hx)))
   (by rw [List.map_drop, he, List.map_drop]) (by rw [← List.drop_drop, List.map_drop, hop, List.map_drop])
  have := ho.kept (h0.length + i) (by omega) (by rw [h.segs]; omega)
  omega
theorem sp_plain (h1 : List FRec) (es : List FEnt) (he : h1.map (·.2) = es.map fun e => some e.x) (k : ByteArray) : (sp h1 k).map (·.2) = (fLast es 0 k).bind fun x => if x.gone then none else some x := by
 obtain ⟨n, hn⟩ : ∃ n, h1.length = n := ⟨_, rfl⟩
 induction n generalizing h1 es with
 | zero =>
  have : h1 = [] := List.eq_nil_of_length_eq_zero hn
  subst this
  cases es with
  | nil => rfl
  | cons e es => simp at he
 | succ n ih =>
  obtain ⟨a, b, rfl⟩ := snoc_is h1 (fun e => by rw [e] at hn; simp at hn)
  obtain ⟨c, d, rfl⟩ := snoc_is es (fun e => by rw [e] at he; simp at he)
  rw [List.map_append, List.map_append] at he
  have hl : (a.map (·.2)).length = (c.map fun e => some e.x).length := by
   have := congrArg List.length he
   simpa using this
  obtain ⟨e1, e2⟩ := List.append_inj he hl
  have hi := ih a c e1 (by simpa using hn)
  rw [sp_snoc, fLast_snoc]
  obtain ⟨q, y⟩ := b
  simp only [List.map_cons, List.map_nil, List.cons.injEq, and_true] at e2
  subst e2
  show (if d.x.key = k then (if d.x.gone then none else some (q, d.x)) else sp a k).map (·.2) = _
  by_cases hk : d.x.key = k
  ·rw [if_pos hk, if_pos hk]
   show _ = (if d.x.gone then none else some d.x)
   cases d.x.gone <;> rfl
  ·rw [if_neg hk, if_neg hk]; exact hi
theorem FM.at_ (h : FM st lst hs) (k : ByteArray) : st.at_ k = (sp (hs.drop lst.gone) k).map (·.2) := by
 obtain ⟨h0, h1, e, hc, he, hop, hg⟩ := h.cut
 have hf : fLast st.ents st.gone k = fLast (st.ents.drop st.gone) 0 k := by unfold fLast; rw [List.drop_zero]
 unfold FSt.at_
 rw [hf, ← sp_plain (h1.drop st.gone) (st.ents.drop st.gone) (by rw [List.map_drop, he, List.map_drop]) k]
 congr 1
 rw [e, List.drop_append, hg]
 rcases hc with rfl | ⟨a, p, rfl⟩
 ·rw [List.drop_nil, List.nil_append]
 ·by_cases hl : lst.gone ≤ a.length
  ·have e0 : lst.gone - (a ++ [(p, none)]).length = 0 := by simp; omega
   rw [e0, List.drop_zero, List.drop_append_of_le_length hl, sp_cut]
  ·have e1 : (a ++ [(p, (none : Option It))]).drop lst.gone = [] := List.drop_eq_nil_of_le (by simp; omega)
   rw [e1, List.nil_append]
theorem FM.add (h : FM st lst hs) {x : It} (hx : x.may = true) {p pos g f y : Nat} (hg : lst.gone ≤ g) (hy : y ≤ lst.next + 1048576) (hold : st.age + 1 ≤ 30000) :
  ∃ g', st.gone ≤ g' ∧ FM ⟨st.place, st.segs, st.ents ++ [⟨x, 0⟩], g', st.age + 1⟩ ⟨p, lst.place, lst.segs, lst.hist ++ [⟨pos, x.bytes, 0⟩], g, f, y⟩ (hs ++ [(pos, some x)]) := by
 obtain ⟨h0, h1, e, hc, he, hop, hgo⟩ := h.cut
 have hlen := h.len
 have hlen2 : hs.length = h0.length + h1.length := by rw [e, List.length_append]
 refine ⟨g - h0.length, by omega, ?_, fun q z hz => ?_, ⟨h0, h1 ++ [(pos, some x)], by rw [e, List.append_assoc], hc, by simp [he], ?_, rfl⟩, h.place, h.segs, by have := h.age; simp; omega, by have := h.next; simp only; omega, hold⟩
 ·simp only [List.map_append, h.key]; rfl
 ·rcases List.mem_append.1 hz with hz | hz
  ·exact h.may q z hz
  ·cases List.mem_singleton.1 hz; exact hx
 ·simp only
  rw [List.drop_append_of_le_length (by omega), List.map_append, hop, List.map_append]
  rfl
theorem FM.wiped (h : FM st lst hs) {p pos g f y : Nat} (hg : g ≤ lst.hist.length + 1) (hy : y ≤ lst.next + 1048576) (hold : st.age + 1 ≤ 30000) :
  FM ⟨st.place, st.segs, [], 0, st.age + 1⟩ ⟨p, lst.place, lst.segs, lst.hist ++ [⟨pos, [0], 0⟩], g, f, y⟩ (hs ++ [(pos, none)]) := by
 have hlen := h.len
 refine ⟨?_, fun q z hz => ?_, ⟨hs ++ [(pos, none)], [], by simp, .inr ⟨hs, pos, rfl⟩, rfl, ?_, ?_⟩, h.place, h.segs, by have := h.age; simp; omega, by have := h.next; simp only; omega, hold⟩
 ·simp only [List.map_append, h.key]; rfl
 ·rcases List.mem_append.1 hz with hz | hz
  ·exact h.may q z hz
  ·cases List.mem_singleton.1 hz
 ·rw [List.drop_eq_nil_of_le (by simp; omega)]; rfl
 ·simp only [List.length_append, List.length_cons, List.length_nil]; omega
theorem opened_key (l : List LRec) : (opened l).map LRec.key = l.map LRec.key := by
 by_cases hl : l = []
 ·subst hl; rfl
 ·obtain ⟨a, r, rfl⟩ := snoc_is l hl
  rw [opened_snoc]; simp [LRec.key]
theorem opened_length (l : List LRec) : (opened l).length = l.length := by
 have := congrArg List.length (opened_key l)
 simpa using this
theorem opened_opens (l : List LRec) (n : Nat) (es : List FEnt) (h : (l.drop n).map (·.opens) = es.map (·.opens)) : ((opened l).drop n).map (·.opens) = (fopened es).map (·.opens) := by
 by_cases hl : l = []
 ·subst hl
  cases es with
  | nil => show (([] : List LRec).drop n).map _ = _; rw [List.drop_nil]; rfl
  | cons e es => simp at h
 ·obtain ⟨a, r, rfl⟩ := snoc_is l hl
  rw [opened_snoc]
  by_cases hn : n ≤ a.length
  ·rw [List.drop_append_of_le_length hn] at h ⊢
   obtain ⟨c, d, rfl⟩ := snoc_is es (fun e => by rw [e] at h; simp at h)
   rw [fopened_snoc]
   rw [List.map_append, List.map_append] at h ⊢
   have hh : ((a.drop n).map (·.opens)).length = (c.map (·.opens)).length := by
    have := congrArg List.length h
    simpa using this
   obtain ⟨e1, e2⟩ := List.append_inj h hh
   simp only [List.map_cons, List.map_nil, List.cons.injEq, and_true] at e2
   rw [e1]
   simp [e2]
  ·rw [List.drop_eq_nil_of_le (by simp; omega)] at h ⊢
   cases es with
   | nil => rfl
   | cons e es => simp at h
theorem fopened_x (l : List FEnt) : (fopened l).map (fun e => some e.x) = l.map fun e => some e.x := by
 by_cases hl : l = []
 ·subst hl; rfl
 ·obtain ⟨a, r, rfl⟩ := snoc_is l hl
  rw [fopened_snoc]; simp
theorem FM.opened (h : FM st lst hs) {p f y : Nat} (hy : y ≤ lst.next + 1048576) (hold : st.age + 1 ≤ 30000) :
  FM ⟨st.place, st.segs, fopened st.ents, st.gone, st.age + 1⟩ ⟨p, lst.place, lst.segs, opened lst.hist, lst.gone, f, y⟩ hs := by
 obtain ⟨h0, h1, e, hc, he, hop, hgo⟩ := h.cut
 refine ⟨by simp only; rw [opened_key]; exact h.key, h.may, ⟨h0, h1, e, hc, by simp only; rw [fopened_x]; exact he, opened_opens _ _ _ hop, hgo⟩, h.place, h.segs, by have := h.age; simp only; rw [opened_length]; omega, by have := h.next; simp only; omega, hold⟩
theorem pos_ge {hist : List LRec} {hs : List FRec} (h : hist.map (·.pos) = hs.map (·.1)) {P : Nat → Prop} (n : Nat) (hp : ∀ r ∈ hist.drop n, P r.pos) : ∀ a ∈ hs.drop n, P a.1 := by
 intro a ha
 have : a.1 ∈ (hs.drop n).map (·.1) := List.mem_map.2 ⟨a, ha, rfl⟩
 rw [List.map_drop, ← h, ← List.map_drop] at this
 obtain ⟨r, hr, e⟩ := List.mem_map.1 this
 rw [← e]; exact hp r hr
theorem pos_lt {hist : List LRec} {hs : List FRec} (h : hist.map (·.pos) = hs.map (·.1)) {P : Nat → Prop} (n : Nat) (hp : ∀ r ∈ hist.take n, P r.pos) : ∀ a ∈ hs.take n, P a.1 := by
 intro a ha
 have : a.1 ∈ (hs.take n).map (·.1) := List.mem_map.2 ⟨a, ha, rfl⟩
 rw [List.map_take, ← h, ← List.map_take] at this
 obtain ⟨r, hr, e⟩ := List.mem_map.1 this
 rw [← e]; exact hp r hr
theorem ix_kept {ix : IxSt} {hs : List FRec} {a : FRec} {n g g' f f' : Nat} (h : IxSays ix (hs.drop g ++ [a]) n) (hgl : g ≤ hs.length) (hg : g ≤ g') (h1 : ∀ r ∈ hs.drop g, f ≤ r.1) (ha : f ≤ a.1) (h2 : ∀ r ∈ (hs ++ [a]).take g', r.1 < f') (h3 : ∀ r ∈ (hs ++ [a]).drop g', f' ≤ r.1) :
  (f' = f → IxSays ix ((hs ++ [a]).drop g') n) ∧ IxSays (ixBelow ix (f' : Int)) ((hs ++ [a]).drop g') n := by
 have e : hs.drop g ++ [a] = (hs ++ [a]).drop g := by rw [List.drop_append_of_le_length hgl]
 rw [e] at h
 have e2 : (hs ++ [a]).drop g = ((hs ++ [a]).drop g).take (g' - g) ++ (hs ++ [a]).drop g' := by
  have := List.take_append_drop (g' - g) ((hs ++ [a]).drop g)
  rw [List.drop_drop, show g + (g' - g) = g' by omega] at this
  exact this.symm
 have h4 : ∀ r ∈ ((hs ++ [a]).drop g).take (g' - g), r.1 < f' := by
  intro r hr
  refine h2 r ?_
  rw [← List.drop_take] at hr
  exact List.mem_of_mem_drop hr
 refine ⟨fun hf => ?_, ?_⟩
 ·have : ((hs ++ [a]).drop g).take (g' - g) = [] := by
   refine List.eq_nil_iff_forall_not_mem.2 fun r hr => ?_
   have h5 := h4 r hr
   have h6 : f ≤ r.1 := by
    have hm := List.mem_of_mem_take hr
    rw [List.drop_append_of_le_length hgl] at hm
    rcases List.mem_append.1 hm with hm | hm
    ·exact h1 r hm
    ·rw [List.mem_singleton.1 hm]; exact ha
   omega
  rw [e2, this, List.nil_append] at h
  exact h
 ·rw [e2] at h
  exact h.below f' h4 h3
end
end Go.Proofs.YticophaepapjoaaGreatDoor
namespace Go.Proofs.YticophaepapjoaaGreatDoor
open Go Go.RowKit Go.Joins
section
variable {W W' : World} {base : Nat} {e : TypeId} {k : IntKind} {v : Value} {n c g : Nat} {F : Nat → Prop}
theorem own_cap {A : Option Addr} {xs : List Value} (h : W.ownsRow base e 1 (.slice A n c) n xs) : n ≤ c ∧ c ≤ maxLen ∧ (A = none → c = 0) := by
 rcases h.2 with ⟨h', h0⟩ | ⟨g', cap', cur, h', _, _, h1, h2, _⟩
 ·injection h' with a1 a2 a3
  subst a2 a3
  exact ⟨Nat.le_refl _, Nat.zero_le _, fun _ => rfl⟩
 ·injection h' with a1 a2 a3
  subst a1 a3
  exact ⟨h1, h2, fun h => by cases h⟩
end
def Mine (w : World) (k : IntKind) (A : Option Addr) (n : Nat) : Prop := 0 < n → ∃ (g o : Nat) (cur : Array Value) (t : TypeId) (fr : Nat × Nat), A = some ⟨g, o, none⟩ ∧ w.heap[g]? = some (.cells cur t fr) ∧ ∀ i, i < n → (∃ z : Int, cur[o + i]? = some (.int k z)) ∧ w.frozen? ⟨g, o + i, none⟩ = false
def RecsAt (w : World) (A : Option Addr) (G : Nat → Prop) (l : List (Nat × List UInt8)) : Prop :=
 l ≠ [] → ∃ b o, A = some ⟨b, o, none⟩ ∧ G b ∧ ∀ i (hi : i < l.length), w.cell? ⟨b, o + i * 2, none⟩ = some (.int .i64 ((l[i].1 : Nat) : Int)) ∧
  ∃ B c, w.cell? ⟨b, o + i * 2 + 1, none⟩ = some (.slice B l[i].2.length c) ∧ Row w B G (bcells l[i].2)
structure SlogOK where
 T : World → Prop
 tk : ∀ {w w' : World}, T w → Keeps (fun _ => True) w w' → T w'
 rep : World → Nat → Foot → LSt → SDev → Prop
 disk : LSt → List (List UInt8) → Prop
 wf : ∀ {w q F st s}, rep w q F st s → st.Ok
 lt : ∀ {w q F st s}, rep w q F st s → ∀ b, F.all b → b < w.heap.size
 keep : ∀ {w w' q F st s}, rep w q F st s → Keeps F.all w w' → rep w' q F st s
 other : ∀ {w q F st s s'}, rep w q F st s → s'.now.length = s.now.length → (∀ i, st.has i → s'.now.getD i [] = s.now.getD i []) → rep w q F st s'
 diskKeep : ∀ {st rows rows'}, disk st rows → rows'.length = rows.length → (∀ i, st.has i → rows'.getD i [] = rows.getD i []) → disk st rows'
 openNew : ∀ (w : World) (p : Nat) (F : Foot) (s : SDev), DAt w p F s → T w → ∀ (i n : Nat), 3 ≤ n → n ≤ 200 → i + 8 * n ≤ s.now.length → (∀ j, i ≤ j → j < i + 8 * n → s.now.getD j [] = blank) →
  Calls Tryz.prog 96 #[.pointer (some ⟨p, 0, none⟩), .int .i64 i, .int .i64 n] w fun e w' => ∃ (q : Nat) (Fs : Foot) (f x : Nat), e = .returned (.tuple #[.pointer (some ⟨q, 0, none⟩), .int .i64 0]) ∧
   rep w' q Fs ⟨p, i, n, [], 0, f, x⟩ s ∧ x ≤ 1048576 ∧ (∀ b, Fs.all b → w.heap.size ≤ b) ∧ Keeps (fun _ => True) w w'
 openOld : ∀ (w : World) (p : Nat) (F : Foot) (s : SDev) (st : LSt), DAt w p F s → T w → disk st s.now → st.place + 8 * st.segs ≤ s.now.length → st.next ≤ 137438953472 →
  Calls Tryz.prog 96 #[.pointer (some ⟨p, 0, none⟩), .int .i64 st.place, .int .i64 st.segs] w fun e w' => ∃ (q : Nat) (Fs : Foot) (f x : Nat), e = .returned (.tuple #[.pointer (some ⟨q, 0, none⟩), .int .i64 0]) ∧
   rep w' q Fs ⟨p, st.place, st.segs, opened st.hist, st.gone, f, x⟩ s ∧ x ≤ st.next + 1048576 ∧ (∀ b, Fs.all b → w.heap.size ≤ b) ∧ Keeps (fun _ => True) w w'
 openNo : ∀ (w : World) (p : Nat) (F : Foot) (s : SDev), DAt w p F s → T w → ∀ (i n : Int), -9223372036854775808 ≤ i → i < 9223372036854775808 → -9223372036854775808 ≤ n → n < 9223372036854775808 → (i < 0 ∨ n < 3 ∨ 200 < n ∨ (s.now.length : Int) < i + 8 * n) →
  Calls Tryz.prog 96 #[.pointer (some ⟨p, 0, none⟩), .int .i64 i, .int .i64 n] w fun e w' => (∃ v, e = .returned (.tuple #[v, .int .i64 4])) ∧ Keeps (fun _ => True) w w'
 append : ∀ (W w : World) (p q : Nat) (F Fs : Foot) (s : SDev) (st : LSt), DAt w p F s → rep w q Fs st s → st.dev = p → Apart F Fs → T W → Keeps (fun _ => True) W w → (∀ b, F.all b → W.heap.size ≤ b) → (∀ b, Fs.all b → W.heap.size ≤ b) → st.place + 8 * st.segs ≤ s.now.length → s.calls ≤ 549755813888 → st.next ≤ 137438953472 →
  ∀ (A : Option Addr) (c : Nat) (G : Nat → Prop) (l : List UInt8), Row w A G (bcells l) → (∀ b, G b → ¬ F.all b) → (∀ b, G b → ¬ Fs.all b) → l.length ≤ c → c ≤ maxLen → 1 ≤ l.length → l.length ≤ 300 →
  Calls Tryz.prog 71 #[.pointer (some ⟨q, 0, none⟩), .slice A l.length c] w fun e w' => ∃ (x : Nat) (F' Fs' : Foot) (s' : SDev) (g f n : Nat), e = .returned (.tuple #[.int .i64 (x : Int), .int .i64 0]) ∧ DAt w' p F' s' ∧ rep w' q Fs' ⟨p, st.place, st.segs, st.hist ++ [⟨x, l, 0⟩], g, f, n⟩ s' ∧ st.gone ≤ g ∧ st.next ≤ x ∧ n ≤ st.next + 1048576 ∧
   s'.now.length = s.now.length ∧ (∀ i, ¬ st.has i → s'.now.getD i [] = s.now.getD i []) ∧ s'.calls ≤ s.calls + 1000 ∧
   Apart F' Fs' ∧ Keeps (fun b => ¬ F.M b ∧ ¬ Fs.M b) w w' ∧ (∀ b, F'.M b → F.M b ∨ w.heap.size ≤ b) ∧ (∀ b, F'.I b → F.all b ∨ w.heap.size ≤ b) ∧ (∀ b, Fs'.M b → Fs.M b ∨ w.heap.size ≤ b) ∧ (∀ b, Fs'.I b → Fs.all b ∨ w.heap.size ≤ b)
 appendNo : ∀ (w : World) (q : Nat) (Fs : Foot) (s : SDev) (st : LSt), rep w q Fs st s → ∀ (A : Option Addr) (c : Nat) (G : Nat → Prop) (l : List UInt8), Row w A G (bcells l) → l.length ≤ c → c ≤ maxLen → (l.length < 1 ∨ 300 < l.length) →
  Calls Tryz.prog 71 #[.pointer (some ⟨q, 0, none⟩), .slice A l.length c] w fun e w' => e = .returned (.tuple #[.int .i64 0, .int .i64 1]) ∧ Keeps (fun _ => True) w w'
 flush : ∀ (W w : World) (p q : Nat) (F Fs : Foot) (s : SDev) (st : LSt), DAt w p F s → rep w q Fs st s → st.dev = p → Apart F Fs → T W → Keeps (fun _ => True) W w → (∀ b, F.all b → W.heap.size ≤ b) → (∀ b, Fs.all b → W.heap.size ≤ b) → st.place + 8 * st.segs ≤ s.now.length → s.calls ≤ 549755813888 →
  Calls Tryz.prog 46 #[.pointer (some ⟨q, 0, none⟩)] w fun e w' => e = .returned (.int .i64 0) ∧ ∃ (F' Fs' : Foot) (rows : List (List UInt8)) (k : Nat), DAt w' p F' (SDev.still rows k) ∧ rep w' q Fs' st (SDev.still rows k) ∧ disk st rows ∧
   rows.length = s.now.length ∧ (∀ i, ¬ st.has i → rows.getD i [] = s.now.getD i []) ∧ k ≤ s.calls + 1000 ∧
   Apart F' Fs' ∧ Keeps (fun b => ¬ F.M b ∧ ¬ Fs.M b) w w' ∧ (∀ b, F'.M b → F.M b ∨ w.heap.size ≤ b) ∧ (∀ b, F'.I b → F.all b ∨ w.heap.size ≤ b) ∧ (∀ b, Fs'.M b → Fs.M b ∨ w.heap.size ≤ b) ∧ (∀ b, Fs'.I b → Fs.all b ∨ w.heap.size ≤ b)
 read : ∀ (w : World) (p q : Nat) (F Fs : Foot) (s : SDev) (st : LSt), DAt w p F s → rep w q Fs st s → st.dev = p → Apart F Fs → T w → st.place + 8 * st.segs ≤ s.now.length → ∀ (x : Nat) (l : List UInt8), (x, l) ∈ st.recs →
  Calls Tryz.prog 85 #[.pointer (some ⟨q, 0, none⟩), .int .i64 (x : Int)] w fun e w' => ∃ A c, e = .returned (.tuple #[.slice A l.length c, .int .i64 0]) ∧ l.length ≤ c ∧ c ≤ maxLen ∧ Row w' A (fun b => w.heap.size ≤ b ∧ b < w'.heap.size) (bcells l) ∧ Mine w' .u8 A l.length ∧ Keeps (fun _ => True) w w'
 all : ∀ (w : World) (p q : Nat) (F Fs : Foot) (s : SDev) (st : LSt), DAt w p F s → rep w q Fs st s → st.dev = p → Apart F Fs → T w → st.place + 8 * st.segs ≤ s.now.length →
  Calls Tryz.prog 97 #[.pointer (some ⟨q, 0, none⟩)] w fun e w' => ∃ A c, e = .returned (.slice A st.recs.length c) ∧ RecsAt w' A (fun b => w.heap.size ≤ b ∧ b < w'.heap.size) st.recs ∧ Keeps (fun _ => True) w w'
 firstIs : ∀ (w : World) (q : Nat) (Fs : Foot) (s : SDev) (st : LSt), rep w q Fs st s → T w →
  Calls Tryz.prog 70 #[.pointer (some ⟨q, 0, none⟩)] w fun e w' => e = .returned (.int .i64 (st.first : Int)) ∧ Keeps (fun _ => True) w w'
 nextIs : ∀ (w : World) (q : Nat) (Fs : Foot) (s : SDev) (st : LSt), rep w q Fs st s → T w →
  Calls Tryz.prog 52 #[.pointer (some ⟨q, 0, none⟩)] w fun e w' => e = .returned (.int .i64 (st.next : Int)) ∧ Keeps (fun _ => True) w w'
 appendNil : ∀ (w : World) (v : Value), (∃ A n c, v = .slice A n c ∧ n ≤ maxLen) → Calls Tryz.prog 71 #[.pointer none, v] w fun e w' => (∃ u, e = .returned (.tuple #[u, .int .i64 8])) ∧ Keeps (fun _ => True) w w'
 readNil : ∀ (w : World), Calls Tryz.prog 85 #[.pointer none, .int .i64 1] w fun e w' => (∃ u, e = .returned (.tuple #[u, .int .i64 8])) ∧ Keeps (fun _ => True) w w'
 flushNil : ∀ (w : World), Calls Tryz.prog 46 #[.pointer none] w fun e w' => e = .returned (.int .i64 8) ∧ Keeps (fun _ => True) w w'
 allNil : ∀ (w : World), Calls Tryz.prog 97 #[.pointer none] w fun e w' => (∃ A c, e = .returned (.slice A 0 c)) ∧ Keeps (fun _ => True) w w'
 firstNil : ∀ (w : World), Calls Tryz.prog 70 #[.pointer none] w fun e w' => e = .returned (.int .i64 0) ∧ Keeps (fun _ => True) w w'
 nextNil : ∀ (w : World), Calls Tryz.prog 52 #[.pointer none] w fun e w' => e = .returned (.int .i64 0) ∧ Keeps (fun _ => True) w w'
theorem costs_append (a b : List LRec) : costs (a ++ b) = costs a + costs b := by simp [costs]
def RecsC (w : World) (A : Option Addr) (G : Nat → Prop) (l : List (Nat × List UInt8)) : Prop :=
 l ≠ [] → ∃ b o, A = some ⟨b, o, none⟩ ∧ G b ∧ ∀ i (hi : i < l.length), w.cell? ⟨b, o + i * 2, none⟩ = some (.int .i64 ((l[i].1 : Nat) : Int)) ∧
  ∃ B c, w.cell? ⟨b, o + i * 2 + 1, none⟩ = some (.slice B l[i].2.length c) ∧ l[i].2.length ≤ c ∧ c ≤ maxLen ∧ Row w B G (bcells l[i].2)
structure Slog2 extends SlogOK where
 past : ∀ {w : World} {q : Nat} {F : Foot} {st : LSt} {s : SDev}, rep w q F st s → st.first ≤ st.next ∧ ∀ r ∈ st.hist.take st.gone, r.pos < st.first
 first2 : ∀ (w : World) (q : Nat) (F : Foot) (s : SDev) (st : LSt), rep w q F st s → Calls Tryz.prog 70 #[.pointer (some ⟨q, 0, none⟩)] w fun e w' => e = .returned (.int .i64 (st.first : Int)) ∧ w' = w
 all2 : ∀ (w : World) (p q : Nat) (F Fs : Foot) (s : SDev) (st : LSt), DAt w p F s → rep w q Fs st s → st.dev = p → T w → st.place + 8 * st.segs ≤ s.now.length →
  Calls Tryz.prog 97 #[.pointer (some ⟨q, 0, none⟩)] w fun e w' => ∃ A c, e = .returned (.slice A st.recs.length c) ∧ st.recs.length ≤ c ∧ c ≤ maxLen ∧ RecsC w' A (fun b => w.heap.size ≤ b ∧ b < w'.heap.size) st.recs ∧ Keeps (fun _ => True) w w'
 next2 : ∀ (w : World) (q : Nat) (F : Foot) (s : SDev) (st : LSt), rep w q F st s → Calls Tryz.prog 52 #[.pointer (some ⟨q, 0, none⟩)] w fun e w' => e = .returned (.int .i64 (st.next : Int)) ∧ w' = w
def cfoot (q : Nat) (Fl Fi : Foot) : Foot := ⟨fun b => b = q ∨ Fl.M b ∨ Fi.M b, fun b => Fl.I b ∨ Fi.I b⟩
theorem cfoot_all {q : Nat} {Fl Fi : Foot} {b : Nat} : (cfoot q Fl Fi).all b ↔ b = q ∨ Fl.all b ∨ Fi.all b := by
 unfold cfoot Foot.all
 constructor
 ·rintro ((h | h | h) | (h | h))
  ·exact .inl h
  ·exact .inr (.inl (.inl h))
  ·exact .inr (.inr (.inl h))
  ·exact .inr (.inl (.inr h))
  ·exact .inr (.inr (.inr h))
 ·rintro (h | (h | h) | (h | h))
  ·exact .inl (.inl h)
  ·exact .inl (.inr (.inl h))
  ·exact .inr (.inl h)
  ·exact .inl (.inr (.inr h))
  ·exact .inr (.inr h)
def CBlk (w : World) (q lq iq : Nat) (lo : Int) : Prop := w.heap[q]? = some (.cells #[.pointer (some ⟨lq, 0, none⟩), .pointer (some ⟨iq, 0, none⟩), .int .i64 lo] 92 (0, 0))
section
variable {w w' : World} {q lq iq : Nat} {lo : Int} {G : Nat → Prop}
theorem CBlk.keep (h : CBlk w q lq iq lo) (hk : Keeps G w w') (hq : G q) : CBlk w' q lq iq lo := (hk.block q hq (Array.getElem?_eq_some_iff.1 h).1).trans h
theorem CBlk.lt (h : CBlk w q lq iq lo) : q < w.heap.size := (Array.getElem?_eq_some_iff.1 h).1
theorem CBlk.c0 (h : CBlk w q lq iq lo) : w.cell? ⟨q, 0, none⟩ = some (.pointer (some ⟨lq, 0, none⟩)) := (cell_of_block h 0).trans rfl
theorem CBlk.c1 (h : CBlk w q lq iq lo) : w.cell? ⟨q, 1, none⟩ = some (.pointer (some ⟨iq, 0, none⟩)) := (cell_of_block h 1).trans rfl
theorem CBlk.c2 (h : CBlk w q lq iq lo) : w.cell? ⟨q, 2, none⟩ = some (.int .i64 lo) := (cell_of_block h 2).trans rfl
theorem CBlk.f (h : CBlk w q lq iq lo) (i : Nat) : w.frozen? ⟨q, i, none⟩ = false := unfrozen_of_block h i
theorem CBlk.set1 (h : CBlk w q lq iq lo) (iq' : Nat) : CBlk (w.setCell ⟨q, 1, none⟩ (.pointer (some ⟨iq', 0, none⟩))) q lq iq' lo := (block_setCell h _).trans rfl
theorem CBlk.set2 (h : CBlk w q lq iq lo) (lo' : Int) : CBlk (w.setCell ⟨q, 2, none⟩ (.int .i64 lo')) q lq iq lo' := (block_setCell h _).trans rfl
end
structure CAt (S : Slog2) (I : IndexOK) (w : World) (p q lq iq : Nat) (Fl Fi : Foot) (lo : Int) (lst : LSt) (ix : IxSt) (s : SDev) : Prop where
 blk : CBlk w q lq iq lo
 l : S.rep w lq Fl lst s
 i : I.rep w iq Fi ix
 on : lst.dev = p
 ap : Apart Fl Fi
 ql : ¬ Fl.all q
 qi : ¬ Fi.all q
section
variable {S : Slog2} {I : IndexOK} {w w' : World} {p q lq iq : Nat} {Fl Fi : Foot} {lo : Int} {lst : LSt} {ix : IxSt} {s : SDev}
theorem CAt.keep (h : CAt S I w p q lq iq Fl Fi lo lst ix s) (hk : Keeps (cfoot q Fl Fi).all w w') : CAt S I w' p q lq iq Fl Fi lo lst ix s :=
 ⟨h.blk.keep hk (cfoot_all.2 (.inl rfl)), S.keep h.l (hk.mono fun b _ hb => cfoot_all.2 (.inr (.inl hb))), I.keep h.i (hk.mono fun b _ hb => cfoot_all.2 (.inr (.inr hb))), h.on, h.ap, h.ql, h.qi⟩
theorem CAt.kp (h : CAt S I w p q lq iq Fl Fi lo lst ix s) (hk : Kp w w') : CAt S I w' p q lq iq Fl Fi lo lst ix s := h.keep (hk.mono fun _ _ _ => trivial)
theorem CAt.lt (h : CAt S I w p q lq iq Fl Fi lo lst ix s) : ∀ b, (cfoot q Fl Fi).all b → b < w.heap.size := fun b hb => by
 rcases cfoot_all.1 hb with rfl | hb | hb
 ·exact h.blk.lt
 ·exact S.lt h.l b hb
 ·exact I.lt h.i b hb
end
def flashRep (S : Slog2) (I : IndexOK) (w : World) (p q : Nat) (Fs : Foot) (st : FSt) (s : SDev) : Prop :=
 ∃ (lq iq : Nat) (Fl Fi : Foot) (lo : Int) (lst : LSt) (ix : IxSt) (hs : List FRec), Fs = cfoot q Fl Fi ∧ CAt S I w p q lq iq Fl Fi lo lst ix s ∧ FM st lst hs ∧ IxSays ix (hs.drop lst.gone) st.age
def flashDisk (S : Slog2) (st : FSt) (rows : List (List UInt8)) : Prop := ∃ (lst : LSt) (hs : List FRec), S.disk lst rows ∧ FM st lst hs
section
variable {S : Slog2} {I : IndexOK} {w w' : World} {p q : Nat} {Fs : Foot} {st : FSt} {s s' : SDev}
theorem frep_wf (h : flashRep S I w p q Fs st s) : st.Ok := by
 obtain ⟨lq, iq, Fl, Fi, lo, lst, ix, hs, rfl, hc, hm, -⟩ := h
 exact hm.ok (S.wf hc.l)
theorem frep_age (h : flashRep S I w p q Fs st s) : st.age ≤ 30000 := by
 obtain ⟨lq, iq, Fl, Fi, lo, lst, ix, hs, rfl, hc, hm, -⟩ := h
 exact hm.old
theorem frep_lt (h : flashRep S I w p q Fs st s) : ∀ b, Fs.all b → b < w.heap.size := by
 obtain ⟨lq, iq, Fl, Fi, lo, lst, ix, hs, rfl, hc, hm, -⟩ := h
 exact hc.lt
theorem frep_keep (h : flashRep S I w p q Fs st s) (hk : Keeps Fs.all w w') : flashRep S I w' p q Fs st s := by
 obtain ⟨lq, iq, Fl, Fi, lo, lst, ix, hs, rfl, hc, hm⟩ := h
 exact ⟨lq, iq, Fl, Fi, lo, lst, ix, hs, rfl, hc.keep hk, hm⟩
theorem FM.has {lst : LSt} {hs : List FRec} (hm : FM st lst hs) (i : Nat) : lst.has i ↔ st.has i := by
 unfold LSt.has FSt.has
 rw [hm.place, hm.segs]
theorem frep_other (h : flashRep S I w p q Fs st s) (hl : s'.now.length = s.now.length) (ho : ∀ i, st.has i → s'.now.getD i [] = s.now.getD i []) : flashRep S I w p q Fs st s' := by
 obtain ⟨lq, iq, Fl, Fi, lo, lst, ix, hs, rfl, hc, hm, hx⟩ := h
 exact ⟨lq, iq, Fl, Fi, lo, lst, ix, hs, rfl, { hc with l := S.other hc.l hl fun i hi => ho i ((hm.has i).1 hi) }, hm, hx⟩
theorem fdisk_keep {rows rows' : List (List UInt8)} (h : flashDisk S st rows) (hl : rows'.length = rows.length) (ho : ∀ i, st.has i → rows'.getD i [] = rows.getD i []) : flashDisk S st rows' := by
 obtain ⟨lst, hs, hd, hm⟩ := h
 exact ⟨lst, hs, S.diskKeep hd hl fun i hi => ho i ((hm.has i).1 hi), hm⟩
theorem FGo.trans {w w1 w2 : World} {F F1 F2 Fs1 Fs2 : Foot} {s s1 s2 : SDev} {st1 : FSt} {n m : Nat} (h : FGo w w1 F F1 Fs Fs1 s s1 st n) (k : FGo w1 w2 F1 F2 Fs1 Fs2 s1 s2 st1 m) (hst : ∀ i, st1.has i ↔ st.has i) : FGo w w2 F F2 Fs Fs2 s s2 st (n + m) := by
 have hsz := h.k.size
 have all1 : ∀ b, F1.all b → F.all b ∨ w.heap.size ≤ b := fun b hb => by
  rcases hb with hb | hb
  ·rcases h.f1 b hb with h1 | h1
   ·exact .inl (.inl h1)
   ·exact .inr h1
  ·exact h.f2 b hb
 have all2 : ∀ b, Fs1.all b → Fs.all b ∨ w.heap.size ≤ b := fun b hb => by
  rcases hb with hb | hb
  ·rcases h.f3 b hb with h1 | h1
   ·exact .inl (.inl h1)
   ·exact .inr h1
  ·exact h.f4 b hb
 refine ⟨k.ap, ⟨k.k.os.trans h.k.os, k.k.tape.trans h.k.tape, k.k.output.trans h.k.output, Nat.le_trans hsz k.k.size, fun b hb hlt => ?_⟩, fun b hb => ?_, fun b hb => ?_, fun b hb => ?_, fun b hb => ?_, k.len.trans h.len, fun i hi => (k.out i fun hh => hi ((hst i).1 hh)).trans (h.out i hi), ?_⟩
 ·refine (k.k.block b ⟨fun hm => ?_, fun hm => ?_⟩ (Nat.lt_of_lt_of_le hlt hsz)).trans (h.k.block b hb hlt)
  ·rcases h.f1 b hm with h1 | h1
   ·exact hb.1 h1
   ·omega
  ·rcases h.f3 b hm with h1 | h1
   ·exact hb.2 h1
   ·omega
 ·rcases k.f1 b hb with h1 | h1
  ·exact h.f1 b h1
  ·exact .inr (Nat.le_trans hsz h1)
 ·rcases k.f2 b hb with h1 | h1
  ·exact all1 b h1
  ·exact .inr (Nat.le_trans hsz h1)
 ·rcases k.f3 b hb with h1 | h1
  ·exact h.f3 b h1
  ·exact .inr (Nat.le_trans hsz h1)
 ·rcases k.f4 b hb with h1 | h1
  ·exact all2 b h1
  ·exact .inr (Nat.le_trans hsz h1)
 ·have := h.calls; have := k.calls; omega
end
structure Cb (S : Slog2) (I : IndexOK) (W w : World) (p q : Nat) (F Fs : Foot) (s : SDev) (st : FSt) : Prop where
 d : DAt w p F s
 r : flashRep S I w p q Fs st s
 ap : Apart F Fs
 kp : Kp W w
 gf : ∀ b, F.all b → W.heap.size ≤ b
 gs : ∀ b, Fs.all b → W.heap.size ≤ b
 room : st.place + 8 * st.segs ≤ s.now.length
section
variable {S : Slog2} {I : IndexOK} {W w w' : World} {p q : Nat} {F F' Fs Fs' : Foot} {st st' : FSt} {s s' : SDev} {n : Nat}
theorem Cb.keep (h : Cb S I W w p q F Fs s st) (hk : Kp w w') : Cb S I W w' p q F Fs s st :=
 ⟨h.d.keep (hk.mono fun _ _ _ => trivial), frep_keep h.r (hk.mono fun _ _ _ => trivial), h.ap, h.kp.trans hk, h.gf, h.gs, h.room⟩
theorem Cb.moved (h : Cb S I W w p q F Fs s st) (hd : DAt w' p F' s') (hr : flashRep S I w' p q Fs' st' s') (hpl : st'.place = st.place) (hsg : st'.segs = st.segs) (hgo : FGo w w' F F' Fs Fs' s s' st n) : Cb S I W w' p q F' Fs' s' st' := by
 have hsz := h.kp.size
 refine ⟨hd, hr, hgo.ap, ?_, fun b hb => ?_, fun b hb => ?_, by rw [hpl, hsg, hgo.len]; exact h.room⟩
 ·exact ⟨hgo.k.os.trans h.kp.os, hgo.k.tape.trans h.kp.tape, hgo.k.output.trans h.kp.output, Nat.le_trans hsz hgo.k.size, fun b _ hb =>
   (hgo.k.block b ⟨fun hm => by have := h.gf b (.inl hm); omega, fun hm => by have := h.gs b (.inl hm); omega⟩ (by omega)).trans (h.kp.block b trivial hb)⟩
 ·rcases hb with hb | hb
  ·rcases hgo.f1 b hb with h1 | h1
   ·exact h.gf b (.inl h1)
   ·omega
  ·rcases hgo.f2 b hb with h1 | h1
   ·exact h.gf b h1
   ·omega
 ·rcases hb with hb | hb
  ·rcases hgo.f3 b hb with h1 | h1
   ·exact h.gs b (.inl h1)
   ·omega
  ·rcases hgo.f4 b hb with h1 | h1
   ·exact h.gs b h1
   ·omega
theorem FGo.still (h : Cb S I W w p q F Fs s st) (hk : Kp w w') : FGo w w' F F Fs Fs s s st 0 :=
 ⟨h.ap, hk.mono fun _ _ _ => trivial, fun _ hb => .inl hb, fun _ hb => .inl (.inr hb), fun _ hb => .inl hb, fun _ hb => .inl (.inr hb), rfl, fun _ _ => rfl, Nat.le_add_right _ _⟩
end
theorem str_same (a b : ByteArray) : (a.toList == b.toList) = decide (a = b) := by
 by_cases h : a = b
 ·subst h; simp
 ·have : a.toList ≠ b.toList := fun e => h (by
   rw [Lib.toList_data, Lib.toList_data] at e
   exact data_inj e)
  simp [h, this]
theorem size_zero {s : ByteArray} : s = ⟨#[]⟩ ↔ s.size = 0 := by
 constructor
 ·rintro rfl; rfl
 ·intro h
  obtain ⟨d⟩ := s
  have : d.size = 0 := h
  rw [Array.size_eq_zero_iff] at this
  rw [this]
set_option maxHeartbeats 1000000 in
theorem imay (w : World) (x : It) (hx : x.fits) :
  Calls Tryz.prog 42 #[.agg #[.string x.key, .string x.val, .int .i64 x.till, .bool x.gone]] w fun e w' => e = .returned (.bool x.may) ∧ Keeps (fun _ => True) w w' := by
 obtain ⟨hk, hv, ht1, ht2⟩ := hx
 have cases_ : (decide ((x.key.size : Int) < 1) = true ∧ x.may = false) ∨
   (decide ((x.key.size : Int) < 1) = false ∧ decide ((40 : Int) < (x.key.size : Int)) = true ∧ x.may = false) ∨
   (decide ((x.key.size : Int) < 1) = false ∧ decide ((40 : Int) < (x.key.size : Int)) = false ∧ x.gone = true ∧ (x.val.toList == []) = false ∧ x.may = false) ∨
   (decide ((x.key.size : Int) < 1) = false ∧ decide ((40 : Int) < (x.key.size : Int)) = false ∧ x.gone = true ∧ (x.val.toList == []) = true ∧ (x.till == 0) = false ∧ x.may = false) ∨
   (decide ((x.key.size : Int) < 1) = false ∧ decide ((40 : Int) < (x.key.size : Int)) = false ∧ x.gone = true ∧ (x.val.toList == []) = true ∧ (x.till == 0) = true ∧ x.may = true) ∨
   (decide ((x.key.size : Int) < 1) = false ∧ decide ((40 : Int) < (x.key.size : Int)) = false ∧ x.gone = false ∧ decide ((x.val.size : Int) ≤ 200) = false ∧ x.may = false) ∨
   (decide ((x.key.size : Int) < 1) = false ∧ decide ((40 : Int) < (x.key.size : Int)) = false ∧ x.gone = false ∧ decide ((x.val.size : Int) ≤ 200) = true ∧ decide ((0 : Int) ≤ x.till) = false ∧ x.may = false) ∨
   (decide ((x.key.size : Int) < 1) = false ∧ decide ((40 : Int) < (x.key.size : Int)) = false ∧ x.gone = false ∧ decide ((x.val.size : Int) ≤ 200) = true ∧ decide ((0 : Int) ≤ x.till) = true ∧ decide (x.till ≤ 1099511627776) = false ∧ x.may = false) ∨
   (decide ((x.key.size : Int) < 1) = false ∧ decide ((40 : Int) < (x.key.size : Int)) = false ∧ x.gone = false ∧ decide ((x.val.size : Int) ≤ 200) = true ∧ decide ((0 : Int) ≤ x.till) = true ∧ decide (x.till ≤ 1099511627776) = true ∧ x.may = true) := by
  have e1 : decide ((x.val.size : Int) ≤ 200) = decide (x.val.size ≤ 200) := decide_eq_decide.2 (by omega)
  have e2 : (x.val.toList == []) = decide (x.val.size = 0) := by
   have h := str_same x.val ⟨#[]⟩
   rw [show ByteArray.toList ⟨#[]⟩ = [] from by rw [Lib.toList_data]] at h
   exact h.trans (decide_eq_decide.2 size_zero)
  have e3 : (x.till == 0) = decide (x.till = 0) := rfl
  have e4 : decide ((x.key.size : Int) < 1) = !decide (1 ≤ x.key.size) := by
   by_cases h : 1 ≤ x.key.size
   ·simp [h]; omega
   ·simp [h]; omega
  have e5 : decide ((40 : Int) < (x.key.size : Int)) = !decide (x.key.size ≤ 40) := by
   by_cases h : x.key.size ≤ 40
   ·simp [h]; omega
   ·simp [h]; omega
  have h6 : decide (x.val.size = 0) = true → decide (x.val.size ≤ 200) = true := by simp only [decide_eq_true_eq]; omega
  have h7 : decide (x.till = 0) = true → decide ((0 : Int) ≤ x.till) = true ∧ decide (x.till ≤ 1099511627776) = true := by simp only [decide_eq_true_eq]; omega
  rw [e1, e2, e3, e4, e5]
  unfold It.may
  generalize decide (1 ≤ x.key.size) = b0 at *
  generalize decide (x.key.size ≤ 40) = b1 at *
  generalize decide (x.val.size ≤ 200) = b2 at *
  generalize decide ((0 : Int) ≤ x.till) = b3 at *
  generalize decide (x.till ≤ 1099511627776) = b4 at *
  generalize decide (x.val.size = 0) = b5 at *
  generalize decide (x.till = 0) = b6 at *
  generalize x.gone = b7
  clear e1 e2 e3 e4 e5 hk hv ht1 ht2
  revert b0 b1 b2 b3 b4 b5 b6 b7
  decide
 obtain ⟨key, val, till, gone⟩ := x
 simp only at *
 have HM := Lib.hid (show (⟨key, val, till, gone⟩ : It).may = (⟨key, val, till, gone⟩ : It).may from rfl)
 generalize (⟨key, val, till, gone⟩ : It).may = m at *
 clear HM
 rcases cases_ with ⟨t1, rfl⟩ | ⟨t1, t2, rfl⟩ | ⟨t1, t2, rfl, t3, rfl⟩ | ⟨t1, t2, rfl, t3, t4, rfl⟩ | ⟨t1, t2, rfl, t3, t4, rfl⟩ | ⟨t1, t2, rfl, t3, rfl⟩ | ⟨t1, t2, rfl, t3, t4, rfl⟩ | ⟨t1, t2, rfl, t3, t4, t5, rfl⟩ | ⟨t1, t2, rfl, t3, t4, t5, rfl⟩
 all_goals
  go_enter Tryz.func42, Tryz.ntmps42
  go_wp2_with fail
  go_ret
  exact ⟨by first | rfl | (rw [← t5]; rfl) | (rw [← t4]; rfl), (Keeps.refl _ _).alloc _⟩
set_option maxHeartbeats 1000000 in
theorem ilive (w : World) (x : It) (hx : x.fits) (now : Int) (hn1 : -9223372036854775808 ≤ now) (hn2 : now < 9223372036854775808) :
  Calls Tryz.prog 58 #[.agg #[.string x.key, .string x.val, .int .i64 x.till, .bool x.gone], .int .i64 now] w fun e w' => e = .returned (.bool (x.live now)) ∧ Keeps (fun _ => True) w w' := by
 have RM := fun w => imay w x hx
 obtain ⟨hk, hv, ht1, ht2⟩ := hx
 have hc : (x.may = false ∧ x.live now = false) ∨ (x.may = true ∧ x.gone = true ∧ x.live now = false) ∨ (x.may = true ∧ x.gone = false ∧ (x.till == 0) = true ∧ x.live now = true) ∨
   (x.may = true ∧ x.gone = false ∧ (x.till == 0) = false ∧ decide (now < x.till) = true ∧ x.live now = true) ∨ (x.may = true ∧ x.gone = false ∧ (x.till == 0) = false ∧ decide (now < x.till) = false ∧ x.live now = false) := by
  have e3 : (x.till == 0) = decide (x.till = 0) := rfl
  rw [e3]
  unfold It.live
  generalize x.may = b1
  generalize x.gone = b2
  generalize decide (x.till = 0) = b3
  generalize decide (now < x.till) = b4
  revert b1 b2 b3 b4
  decide
 obtain ⟨key, val, till, gone⟩ := x
 simp only at *
 generalize (⟨key, val, till, gone⟩ : It).live now = m at *
 generalize (⟨key, val, till, gone⟩ : It).may = q at *
 rcases hc with ⟨rfl, rfl⟩ | ⟨rfl, rfl, rfl⟩ | ⟨rfl, rfl, t1, rfl⟩ | ⟨rfl, rfl, t1, t2, rfl⟩ | ⟨rfl, rfl, t1, t2, rfl⟩
 all_goals
  go_enter Tryz.func58, Tryz.ntmps58
  go_wp2_with fail
  refine (RM _).mono ?_
  rintro e w1 ⟨rfl, hk1⟩
  have hc2 := hk1.cell (p := ⟨w.heap.size, 2, none⟩) (v := .int .i64 till) ((cell_of_block (heap_alloc_new w _) 2).trans rfl) trivial
  have hc3 := hk1.cell (p := ⟨w.heap.size, 3, none⟩) (v := .bool _) ((cell_of_block (heap_alloc_new w _) 3).trans rfl) trivial
  have HK := Lib.hid (((Keeps.refl (fun _ => True) w).alloc _).trans hk1)
  clear hk1
  go_wp2_with fail
  go_ret
  exact ⟨by first | rfl | (rw [← t2]; rfl), HK.out⟩
end Go.Proofs.YticophaepapjoaaGreatDoor
