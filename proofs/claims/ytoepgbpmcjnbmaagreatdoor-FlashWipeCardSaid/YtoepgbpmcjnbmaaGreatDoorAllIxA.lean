/- Texts of one proof, behind one another: each says above its part what it proves and on which conditions. -/
import Derived.Test.YtoepgbpmcjnbmaaGreatDoorAllBase
import Derived.Test.YtoepgbpmcjnbmaaGreatDoorAllCalc
import Derived.Lib.Hide
import Derived.Test.YtoepgbpmcjnbmaaGreatDoorAllInvs
import Derived.Lib.SmallJoins
import Derived.BigQuiet
import Derived.Test.YtoepgbpmcjnbmaaGreatDoorAllMixs
/-
  WHAT THE PROGRAM'S INDEX KEEPS (the face of layer 8), whatever its table is made of.
-/
section
namespace Go.Proofs.YtoepgbpmcjnbmaaGreatDoor
open Go Go.RowKit
abbrev IxSt := List (ByteArray × Int)
def isK (k : ByteArray) (x : ByteArray × Int) : Bool := x.1.data.toList == k.data.toList
def ixGet (st : IxSt) (k : ByteArray) : Option Int := (st.find? (isK k)).map (·.2)
def ixPut (st : IxSt) (k : ByteArray) (p : Int) : IxSt := if (ixGet st k).isSome then st.map (fun x => if isK k x then (x.1, p) else x) else st ++ [(k, p)]
def ixDrop (st : IxSt) (k : ByteArray) : IxSt := st.filter fun x => !isK k x
def ixBelow (st : IxSt) (p : Int) : IxSt := st.filter fun x => decide (p ≤ x.2)
def i64 (p : Int) : Prop := -9223372036854775808 ≤ p ∧ p < 9223372036854775808
structure IndexOK where
  T : World → Prop
  tk : ∀ {w w' : World}, T w → Keeps (fun _ => True) w w' → T w'
  rep : World → Nat → Foot → IxSt → Prop
  lt : ∀ {w q F st}, rep w q F st → ∀ b, F.all b → b < w.heap.size
  keep : ∀ {w w' q F st}, rep w q F st → Keeps F.all w w' → rep w' q F st
  new : ∀ w : World, T w → Calls Tryz.prog 32 #[] w fun e w' => ∃ (q : Nat) (F : Foot), e = .returned (.pointer (some ⟨q, 0, none⟩)) ∧ rep w' q F [] ∧ (∀ b, F.all b → w.heap.size ≤ b) ∧ Keeps (fun _ => True) w w'
  put : ∀ (W w : World) (q : Nat) (F : Foot) (st : IxSt), rep w q F st → T W → Keeps (fun _ => True) W w → (∀ b, F.all b → W.heap.size ≤ b) → st.length ≤ 32768 → ∀ (k : ByteArray) (p : Int), k.size ≤ 1000000 → i64 p →
    Calls Tryz.prog 63 #[.pointer (some ⟨q, 0, none⟩), .string k, .int .i64 p] w fun e w' => e = .returned (.int .i64 ((ixGet st k).getD 0)) ∧ ∃ F' : Foot, rep w' q F' (ixPut st k p) ∧ Step F F' w w'
  get : ∀ (w : World) (q : Nat) (F : Foot) (st : IxSt), rep w q F st → T w → st.length ≤ 32768 → ∀ k : ByteArray, k.size ≤ 1000000 →
    Calls Tryz.prog 38 #[.pointer (some ⟨q, 0, none⟩), .string k] w fun e w' => e = .returned (.tuple #[.int .i64 ((ixGet st k).getD 0), .bool (ixGet st k).isSome]) ∧ Keeps (fun _ => True) w w'
  drop : ∀ (W w : World) (q : Nat) (F : Foot) (st : IxSt), rep w q F st → T W → Keeps (fun _ => True) W w → (∀ b, F.all b → W.heap.size ≤ b) → st.length ≤ 32768 → ∀ k : ByteArray, k.size ≤ 1000000 →
    Calls Tryz.prog 62 #[.pointer (some ⟨q, 0, none⟩), .string k] w fun e w' => e = .returned (.bool (ixGet st k).isSome) ∧ ∃ F' : Foot, rep w' q F' (ixDrop st k) ∧ Step F F' w w'
  below : ∀ (W w : World) (q : Nat) (F : Foot) (st : IxSt), rep w q F st → T W → Keeps (fun _ => True) W w → (∀ b, F.all b → W.heap.size ≤ b) → st.length ≤ 32768 → ∀ p : Int, i64 p →
    Calls Tryz.prog 67 #[.pointer (some ⟨q, 0, none⟩), .int .i64 p] w fun e w' => e = .returned (.int .i64 ((st.length - (ixBelow st p).length : Nat) : Int)) ∧ ∃ F' : Foot, rep w' q F' (ixBelow st p) ∧ Step F F' w w'
  keys : ∀ (w : World) (q : Nat) (F : Foot) (st : IxSt), rep w q F st → T w → st.length ≤ 32768 →
    Calls Tryz.prog 45 #[.pointer (some ⟨q, 0, none⟩)] w fun e w' => ∃ (A : Option Addr) (c : Nat) (ks : List ByteArray), e = .returned (.slice A st.length c) ∧ ks.Perm (st.map (·.1)) ∧ Rising ks ∧ st.length ≤ c ∧ c ≤ maxLen ∧
      Row w' A (fun b => w.heap.size ≤ b ∧ b < w'.heap.size) (ks.map Value.string) ∧ Keeps (fun _ => True) w w'
  putNil : ∀ (w : World) (k : ByteArray) (p : Int), Calls Tryz.prog 63 #[.pointer none, .string k, .int .i64 p] w fun e w' => e = .returned (.int .i64 0) ∧ Keeps (fun _ => True) w w'
  getNil : ∀ (w : World) (k : ByteArray), Calls Tryz.prog 38 #[.pointer none, .string k] w fun e w' => e = .returned (.tuple #[.int .i64 0, .bool false]) ∧ Keeps (fun _ => True) w w'
  dropNil : ∀ (w : World) (k : ByteArray), Calls Tryz.prog 62 #[.pointer none, .string k] w fun e w' => e = .returned (.bool false) ∧ Keeps (fun _ => True) w w'
  belowNil : ∀ (w : World) (p : Int), Calls Tryz.prog 67 #[.pointer none, .int .i64 p] w fun e w' => e = .returned (.int .i64 0) ∧ Keeps (fun _ => True) w w'
  keysNil : ∀ w : World, Calls Tryz.prog 45 #[.pointer none] w fun e w' => ∃ (A : Option Addr) (c : Nat), e = .returned (.slice A 0 c) ∧ Keeps (fun _ => True) w w'
structure Ix (S : IndexOK) (W w : World) (q : Nat) (F : Foot) (st : IxSt) : Prop where
  r : S.rep w q F st
  gs : ∀ b, F.all b → W.heap.size ≤ b
  kp : Keeps (fun _ => True) W w
section
variable {S : IndexOK} {W w w' : World} {q : Nat} {F F' : Foot} {st st' : IxSt}
theorem Ix.keep (h : Ix S W w q F st) (hk : Keeps (fun _ => True) w w') : Ix S W w' q F st := ⟨S.keep h.r (hk.mono fun _ _ _ => trivial), h.gs, h.kp.trans hk⟩
theorem Ix.step (h : Ix S W w q F st) (hr : S.rep w' q F' st') (hs : Step F F' w w') : Ix S W w' q F' st' :=
  ⟨hr, fun b hb => by
    rcases hs.all b hb with h1 | h1
    · exact h.gs b h1
    · exact Nat.le_trans h.kp.size h1, hs.old (fun b hb => h.gs b (.inl hb)) h.kp⟩
theorem ix_new (S : IndexOK) (hT : S.T W) (hk : Keeps (fun _ => True) W w) :
    Calls Tryz.prog 32 #[] w fun e w' => ∃ (q : Nat) (F : Foot), e = .returned (.pointer (some ⟨q, 0, none⟩)) ∧ Ix S W w' q F [] := by
  refine (S.new w (S.tk hT hk)).mono ?_
  rintro e w' ⟨q, F, rfl, hr, hF, hk'⟩
  exact ⟨q, F, rfl, hr, fun b hb => Nat.le_trans hk.size (hF b hb), hk.trans hk'⟩
theorem ix_put (hT : S.T W) (h : Ix S W w q F st) (hl : st.length ≤ 32768) (k : ByteArray) (p : Int) (hk : k.size ≤ 1000000) (hp : i64 p) (v : Int) (hv : v = (ixGet st k).getD 0) (st' : IxSt) (hst : st' = ixPut st k p) :
    Calls Tryz.prog 63 #[.pointer (some ⟨q, 0, none⟩), .string k, .int .i64 p] w fun e w' => e = .returned (.int .i64 v) ∧ ∃ F' : Foot, Ix S W w' q F' st' := by
  subst hv; subst hst
  refine (S.put W w q F st h.r hT h.kp h.gs hl k p hk hp).mono ?_
  rintro e w' ⟨rfl, F', hr, hs⟩
  exact ⟨rfl, F', h.step hr hs⟩
theorem ix_get (hT : S.T W) (h : Ix S W w q F st) (hl : st.length ≤ 32768) (k : ByteArray) (hk : k.size ≤ 1000000) (v : Int) (b : Bool) (hv : v = (ixGet st k).getD 0) (hb : b = (ixGet st k).isSome) :
    Calls Tryz.prog 38 #[.pointer (some ⟨q, 0, none⟩), .string k] w fun e w' => e = .returned (.tuple #[.int .i64 v, .bool b]) ∧ Ix S W w' q F st := by
  subst hv; subst hb
  refine (S.get w q F st h.r (S.tk hT h.kp) hl k hk).mono ?_
  rintro e w' ⟨rfl, hk'⟩
  exact ⟨rfl, h.keep hk'⟩
theorem ix_drop (hT : S.T W) (h : Ix S W w q F st) (hl : st.length ≤ 32768) (k : ByteArray) (hk : k.size ≤ 1000000) (b : Bool) (hb : b = (ixGet st k).isSome) (st' : IxSt) (hst : st' = ixDrop st k) :
    Calls Tryz.prog 62 #[.pointer (some ⟨q, 0, none⟩), .string k] w fun e w' => e = .returned (.bool b) ∧ ∃ F' : Foot, Ix S W w' q F' st' := by
  subst hb; subst hst
  refine (S.drop W w q F st h.r hT h.kp h.gs hl k hk).mono ?_
  rintro e w' ⟨rfl, F', hr, hs⟩
  exact ⟨rfl, F', h.step hr hs⟩
theorem ix_below (hT : S.T W) (h : Ix S W w q F st) (hl : st.length ≤ 32768) (p : Int) (hp : i64 p) (v : Int) (hv : v = ((st.length - (ixBelow st p).length : Nat) : Int)) (st' : IxSt) (hst : st' = ixBelow st p) :
    Calls Tryz.prog 67 #[.pointer (some ⟨q, 0, none⟩), .int .i64 p] w fun e w' => e = .returned (.int .i64 v) ∧ ∃ F' : Foot, Ix S W w' q F' st' := by
  subst hv; subst hst
  refine (S.below W w q F st h.r hT h.kp h.gs hl p hp).mono ?_
  rintro e w' ⟨rfl, F', hr, hs⟩
  exact ⟨rfl, F', h.step hr hs⟩
end
end Go.Proofs.YtoepgbpmcjnbmaaGreatDoor
end
/-
  THE MATHEMATICS OF A TABLE WITH OPEN ADDRESSES (layer 8, landed index): slots as a function of their number, round a ring of n; adding, freeing with keys that move into the hole, looking up. It knows no memory.
-/
section
namespace Go.Proofs.YtoepgbpmcjnbmaaGreatDoor
open Go Go.RowKit
structure Sl where
  key : ByteArray
  hash : Int
  pos : Int
  full : Bool
def Sl.zero : Sl := ⟨⟨#[]⟩, 0, 0, false⟩
abbrev Tab := Nat → Sl
def setT (T : Tab) (i : Nat) (s : Sl) : Tab := fun j => if j = i then s else T j
def ent (s : Sl) : IxSt := if s.full then [(s.key, s.pos)] else []
def ents (T : Tab) (n : Nat) : IxSt := (List.range n).flatMap fun i => ent (T i)
def nx (n i d : Nat) : Nat := if i + d < n then i + d else i + d - n
def way (n i k : Nat) : Nat := if i ≤ k then k - i else k + n - i
section
variable {n i j k d e f : Nat} {T T' : Tab} {s : Sl} {st : IxSt}
theorem nx_c (n i d : Nat) : (i + d < n ∧ nx n i d = i + d) ∨ (n ≤ i + d ∧ nx n i d = i + d - n) := by
  unfold nx; split <;> omega
theorem way_c (n i k : Nat) : (i ≤ k ∧ way n i k = k - i) ∨ (k < i ∧ way n i k = k + n - i) := by
  unfold way; split <;> omega
theorem nx_lt (hi : i < n) (hd : d ≤ n) : nx n i d < n := by have := nx_c n i d; omega
theorem way_lt (hi : i < n) (hk : k < n) : way n i k < n := by have := way_c n i k; omega
theorem nx_way (hi : i < n) (hk : k < n) : nx n i (way n i k) = k := by
  have := way_c n i k
  have := nx_c n i (way n i k)
  omega
theorem way_nx (hi : i < n) (hd : d < n) : way n i (nx n i d) = d := by
  have := nx_c n i d
  have := way_c n i (nx n i d)
  omega
theorem nx_one (hi : i < n) (hd : d + 1 < n) : nx n (nx n i d) 1 = nx n i (d + 1) := by
  have := nx_c n i d
  have := nx_c n (nx n i d) 1
  have := nx_c n i (d + 1)
  omega
theorem nx_zero (hi : i < n) : nx n i 0 = i := by have := nx_c n i 0; omega
theorem way_self (n i : Nat) : way n i i = 0 := by have := way_c n i i; omega
theorem setT_at (T : Tab) (i : Nat) (s : Sl) : setT T i s i = s := by simp [setT]
theorem setT_ne (T : Tab) (s : Sl) (h : j ≠ i) : setT T i s j = T j := by simp [setT, h]
theorem setT_two (T : Tab) (i : Nat) (s u : Sl) : setT (setT T i s) i u = setT T i u := by
  funext j; unfold setT; split <;> rfl
theorem ents_succ (T : Tab) (n : Nat) : ents T (n + 1) = ents T n ++ ent (T n) := by
  unfold ents; rw [List.range_succ, List.flatMap_append]; simp
theorem ents_congr (h : ∀ i, i < n → T i = T' i) : ents T n = ents T' n := by
  induction n with
  | zero => rfl
  | succ n ih => rw [ents_succ, ents_succ, ih fun i hi => h i (by omega), h n (by omega)]
theorem ents_take (hi : i < n) : (ents T n).Perm (ent (T i) ++ ents (setT T i Sl.zero) n) := by
  induction n with
  | zero => omega
  | succ n ih =>
    rw [ents_succ, ents_succ]
    by_cases h : i = n
    · subst h
      rw [setT_at, ents_congr (T := setT T i Sl.zero) (T' := T) fun j hj => setT_ne _ _ (by omega)]
      have : ent Sl.zero = [] := rfl
      rw [this, List.append_nil]
      exact List.perm_append_comm
    · rw [setT_ne _ _ (by omega), ← List.append_assoc]
      exact (ih (by omega)).append_right _
theorem ents_mem (hi : i < n) (hf : (T i).full = true) : ((T i).key, (T i).pos) ∈ ents T n := by
  refine (ents_take hi).symm.subset ?_
  simp [ent, hf]
theorem ents_of {x : ByteArray × Int} (h : x ∈ ents T n) : ∃ i, i < n ∧ (T i).full = true ∧ x = ((T i).key, (T i).pos) := by
  unfold ents at h
  rw [List.mem_flatMap] at h
  obtain ⟨i, hi, hx⟩ := h
  unfold ent at hx
  refine ⟨i, List.mem_range.1 hi, ?_⟩
  split at hx
  · rename_i hf
    exact ⟨hf, by simpa using hx⟩
  · cases hx
theorem ents_len (T : Tab) (n : Nat) : (ents T n).length ≤ n := by
  induction n with
  | zero => simp [ents]
  | succ n ih =>
    rw [ents_succ, List.length_append]
    have : (ent (T n)).length ≤ 1 := by unfold ent; split <;> simp
    omega
theorem ents_all (h : ∀ i, i < n → (T i).full = true) : (ents T n).length = n := by
  induction n with
  | zero => simp [ents]
  | succ n ih =>
    rw [ents_succ, List.length_append, ih fun i hi => h i (by omega)]
    simp [ent, h n (by omega)]
theorem free_slot (h : (ents T n).length < n) : ∃ f, f < n ∧ (T f).full = false := by
  refine Classical.byContradiction fun hn => ?_
  have : (ents T n).length = n := ents_all fun i hi => by
    cases hf : (T i).full with
    | true => rfl
    | false => exact absurd ⟨i, hi, hf⟩ hn
  omega
theorem ents_apart (hnd : ((ents T n).map (·.1)).Nodup) (hi : i < n) (hj : j < n) (hfi : (T i).full = true) (hfj : (T j).full = true) (h : (T i).key = (T j).key) : i = j := by
  refine Classical.byContradiction fun hne => ?_
  have hp := ((ents_take (T := T) hi).map (·.1)).nodup_iff.1 hnd
  have hm : ((T j).key, (T j).pos) ∈ ents (setT T i Sl.zero) n := by
    have := ents_mem (T := setT T i Sl.zero) hj (by rw [setT_ne _ _ (Ne.symm hne)]; exact hfj)
    rwa [setT_ne _ _ (Ne.symm hne)] at this
  have e : ent (T i) = [((T i).key, (T i).pos)] := by simp [ent, hfi]
  rw [e, List.map_append, List.map_cons, List.map_nil, List.singleton_append, List.nodup_cons] at hp
  exact hp.1 (h ▸ List.mem_map.2 ⟨_, hm, rfl⟩)
end
/-! ### Keys -/
section
variable {st st' : IxSt} {k : ByteArray} {p : Int} {x : ByteArray × Int}
theorem isK_iff : isK k x = true ↔ x.1 = k := by
  unfold isK
  rw [beq_iff_eq]
  refine ⟨fun h => ByteArray.ext ?_, fun h => by rw [h]⟩
  exact Array.toList_inj.1 h
theorem isK_not : isK k x = false ↔ x.1 ≠ k := by
  cases h : isK k x with
  | true => simp [isK_iff.1 h]
  | false => simp; exact fun e => by rw [isK_iff.2 e] at h; cases h
theorem ixGet_mem (h : ixGet st k = some p) : (k, p) ∈ st := by
  unfold ixGet at h
  obtain ⟨x, hx, e⟩ := Option.map_eq_some_iff.1 h
  have e1 := isK_iff.1 (List.find?_some hx)
  have := List.mem_of_find?_eq_some hx
  rw [← e1, ← e]
  exact this
theorem ixGet_of (hnd : (st.map (·.1)).Nodup) (h : (k, p) ∈ st) : ixGet st k = some p := by
  unfold ixGet
  induction st with
  | nil => cases h
  | cons a st ih =>
    rw [List.map_cons, List.nodup_cons] at hnd
    rw [List.find?_cons]
    by_cases ha : a.1 = k
    · rw [isK_iff.2 ha]
      rcases List.mem_cons.1 h with rfl | h
      · rfl
      · exact absurd (List.mem_map.2 ⟨_, h, ha.symm⟩) hnd.1
    · rw [isK_not.2 ha]
      rcases List.mem_cons.1 h with rfl | h
      · exact absurd rfl ha
      · exact ih hnd.2 h
theorem ixGet_none : ixGet st k = none ↔ ∀ x ∈ st, x.1 ≠ k := by
  unfold ixGet
  rw [Option.map_eq_none_iff, List.find?_eq_none]
  exact ⟨fun h x hx e => h x hx (isK_iff.2 e), fun h x hx e => h x hx (isK_iff.1 e)⟩
theorem ixGet_perm (hp : st.Perm st') (hnd : (st.map (·.1)).Nodup) : ixGet st k = ixGet st' k := by
  have hnd' := (hp.map (·.1)).nodup_iff.1 hnd
  cases h : ixGet st k with
  | none =>
    symm
    rw [ixGet_none] at h ⊢
    exact fun x hx => h x (hp.symm.subset hx)
  | some p => exact (ixGet_of hnd' (hp.subset (ixGet_mem h))).symm
theorem ixDrop_perm (hp : st.Perm st') : (ixDrop st k).Perm (ixDrop st' k) := hp.filter _
theorem ixBelow_perm (hp : st.Perm st') : (ixBelow st p).Perm (ixBelow st' p) := hp.filter _
theorem ixDrop_cons (hnd : (((k, p) :: st).map (·.1)).Nodup) : ixDrop ((k, p) :: st) k = st := by
  rw [List.map_cons, List.nodup_cons] at hnd
  unfold ixDrop
  rw [List.filter_cons, show isK k (k, p) = true from isK_iff.2 rfl]
  simp only [Bool.not_true, Bool.false_eq_true, if_false]
  rw [List.filter_eq_self]
  intro x hx
  rw [isK_not.2 fun e => hnd.1 (List.mem_map.2 ⟨x, hx, e⟩)]
  rfl
theorem ixPut_new (h : ixGet st k = none) : ixPut st k p = st ++ [(k, p)] := by simp [ixPut, h]
theorem ixPut_keys (st : IxSt) (k : ByteArray) (p : Int) (hs : (ixGet st k).isSome = true) : (ixPut st k p).map (·.1) = st.map (·.1) := by
  unfold ixPut
  rw [if_pos hs, List.map_map]
  refine List.map_congr_left fun x _ => ?_
  show (if isK k x then (x.1, p) else x).1 = x.1
  split <;> rfl
theorem ixPut_nodup (hnd : (st.map (·.1)).Nodup) : ((ixPut st k p).map (·.1)).Nodup := by
  cases hg : ixGet st k with
  | some v => rw [ixPut_keys st k p (by rw [hg]; rfl)]; exact hnd
  | none =>
    rw [ixPut_new hg, List.map_append, List.nodup_append]
    refine ⟨hnd, by simp, ?_⟩
    intro a ha b hb
    obtain ⟨x, hx, rfl⟩ := List.mem_map.1 ha
    simp at hb
    subst hb
    exact ixGet_none.1 hg x hx
theorem ixDrop_nodup (hnd : (st.map (·.1)).Nodup) : ((ixDrop st k).map (·.1)).Nodup := (List.Sublist.map _ List.filter_sublist).nodup hnd
theorem ixBelow_nodup (hnd : (st.map (·.1)).Nodup) : ((ixBelow st p).map (·.1)).Nodup := (List.Sublist.map _ List.filter_sublist).nodup hnd
theorem ixPut_again {q : Int} {rest : IxSt} (hp : st.Perm ((k, q) :: rest)) (hnd : (st.map (·.1)).Nodup) : (ixPut st k p).Perm ((k, p) :: rest) := by
  have hnd' := (hp.map (·.1)).nodup_iff.1 hnd
  have hg : ixGet st k = some q := ixGet_of hnd (hp.symm.subset List.mem_cons_self)
  unfold ixPut
  rw [hg, if_pos (show (some q).isSome = true from rfl)]
  refine (hp.map _).trans ?_
  rw [List.map_cons, show isK k (k, q) = true from isK_iff.2 rfl, if_pos rfl]
  rw [List.map_cons, List.nodup_cons] at hnd'
  have : rest.map (fun x => if isK k x then (x.1, p) else x) = rest := by
    refine (List.map_congr_left fun x hx => ?_).trans (List.map_id rest)
    rw [isK_not.2 fun e => hnd'.1 (List.mem_map.2 ⟨x, hx, e⟩)]
    rfl
  rw [this]
theorem ixPut_i64 (hs : ∀ x ∈ st, i64 x.2) (hp : i64 p) : ∀ x ∈ ixPut st k p, i64 x.2 := by
  intro x hx
  unfold ixPut at hx
  split at hx
  · obtain ⟨y, hy, rfl⟩ := List.mem_map.1 hx
    split
    · exact hp
    · exact hs y hy
  · rcases List.mem_append.1 hx with h | h
    · exact hs x h
    · simp at h; subst h; exact hp
end
theorem ixDrop_i64 {st : IxSt} {k : ByteArray} (hs : ∀ x ∈ st, i64 x.2) : ∀ x ∈ ixDrop st k, i64 x.2 := fun x hx => hs x (List.mem_filter.1 hx).1
theorem ixBelow_i64 {st : IxSt} {p : Int} (hs : ∀ x ∈ st, i64 x.2) : ∀ x ∈ ixBelow st p, i64 x.2 := fun x hx => hs x (List.mem_filter.1 hx).1
end Go.Proofs.YtoepgbpmcjnbmaaGreatDoor
end
/-
  A TABLE WITH OPEN ADDRESSES THAT IS IN ORDER: what a search finds in it; a key more; a key less, with those behind it moved into the hole.
-/
section
namespace Go.Proofs.YtoepgbpmcjnbmaaGreatDoor
open Go Go.RowKit
structure TabOk (h : ByteArray → Nat) (T : Tab) (n : Nat) (st : IxSt) : Prop where
  perm : (ents T n).Perm st
  nd : (st.map (·.1)).Nodup
  hash : ∀ i, i < n → (T i).full = true → (T i).hash = (h (T i).key : Int)
  path : ∀ i, i < n → (T i).full = true → ∀ d, d ≤ way n (h (T i).key % n) i → (T (nx n (h (T i).key % n) d)).full = true
  room : st.length < n
section
variable {h : ByteArray → Nat} {T : Tab} {n i k d e f : Nat} {st : IxSt} {key : ByteArray} {p : Int}
theorem TabOk.pos (H : TabOk h T n st) : 0 < n := by have := H.room; omega
theorem TabOk.nde (H : TabOk h T n st) : ((ents T n).map (·.1)).Nodup := (H.perm.map (·.1)).nodup_iff.2 H.nd
theorem TabOk.free (H : TabOk h T n st) : ∃ f, f < n ∧ (T f).full = false := free_slot (by rw [H.perm.length_eq]; exact H.room)
theorem TabOk.len (H : TabOk h T n st) : st.length ≤ n := by have := H.room; omega
theorem TabOk.of_perm {st' : IxSt} (H : TabOk h T n st) (hp : st.Perm st') : TabOk h T n st' :=
  ⟨H.perm.trans hp, (hp.map (·.1)).nodup_iff.1 H.nd, H.hash, H.path, by rw [← hp.length_eq]; exact H.room⟩
structure Seen (h : ByteArray → Nat) (T : Tab) (n : Nat) (key : ByteArray) (d i : Nat) : Prop where
  dn : d < n
  at_ : i = nx n (h key % n) d
  full : ∀ e, e < d → (T (nx n (h key % n) e)).full = true
  none : ∀ e, e < d → (T (nx n (h key % n) e)).key ≠ key
theorem Seen.start (hn : 0 < n) (key : ByteArray) : Seen h T n key 0 (h key % n) :=
  ⟨hn, (nx_zero (Nat.mod_lt _ hn)).symm, fun _ he => by omega, fun _ he => by omega⟩
theorem Seen.lt (S : Seen h T n key d i) : i < n := by
  rw [S.at_]
  exact nx_lt (Nat.mod_lt _ (by have := S.dn; omega)) (by have := S.dn; omega)
theorem Seen.way (S : Seen h T n key d i) : way n (h key % n) i = d := by
  rw [S.at_]
  exact way_nx (Nat.mod_lt _ (by have := S.dn; omega)) S.dn
theorem Seen.next (S : Seen h T n key d i) (hf : f < n) (hff : (T f).full = false) (hi : (T i).full = true) (hk : (T i).key ≠ key) : Seen h T n key (d + 1) (nx n i 1) := by
  have hn : 0 < n := by omega
  have hm := Nat.mod_lt (h key) hn
  have hd : d + 1 < n := by
    refine Classical.byContradiction fun hh => ?_
    have hw := way_lt hm hf
    have hx := nx_way hm hf
    rcases Nat.lt_or_ge (Go.Proofs.YtoepgbpmcjnbmaaGreatDoor.way n (h key % n) f) d with h1 | h1
    · have := S.full _ h1
      rw [hx, hff] at this; cases this
    · have : Go.Proofs.YtoepgbpmcjnbmaaGreatDoor.way n (h key % n) f = d := by have := S.dn; omega
      rw [this, ← S.at_] at hx
      rw [hx, hff] at hi; cases hi
  refine ⟨hd, ?_, fun e he => ?_, fun e he => ?_⟩
  · rw [S.at_, nx_one hm hd]
  · rcases Nat.lt_or_ge e d with h1 | h1
    · exact S.full e h1
    · have : e = d := by omega
      rw [this, ← S.at_]; exact hi
  · rcases Nat.lt_or_ge e d with h1 | h1
    · exact S.none e h1
    · have : e = d := by omega
      rw [this, ← S.at_]; exact hk
theorem Seen.miss (S : Seen h T n key d i) (H : TabOk h T n st) (hi : (T i).full = false) : ixGet st key = Option.none := by
  rw [ixGet_none]
  intro x hx hk
  obtain ⟨j, hj, hfj, rfl⟩ := ents_of (H.perm.symm.subset hx)
  have hk : (T j).key = key := hk
  have hm := Nat.mod_lt (h key) H.pos
  have hp := H.path j hj hfj
  rw [hk] at hp
  rcases Nat.lt_or_ge (Go.Proofs.YtoepgbpmcjnbmaaGreatDoor.way n (h key % n) j) d with h1 | h1
  · have := S.none _ h1
    rw [nx_way hm hj] at this
    exact this hk
  · have := hp d h1
    rw [← S.at_, hi] at this; cases this
theorem TabOk.hit (H : TabOk h T n st) (hi : i < n) (hf : (T i).full = true) (hk : (T i).key = key) : ixGet st key = some (T i).pos := by
  refine ixGet_of H.nd (H.perm.subset ?_)
  rw [← hk]
  exact ents_mem hi hf
theorem TabOk.again (H : TabOk h T n st) (hi : i < n) (hf : (T i).full = true) (p : Int) : TabOk h (setT T i ⟨(T i).key, (T i).hash, p, true⟩) n (ixPut st (T i).key p) := by
  have e1 : ent (T i) = [((T i).key, (T i).pos)] := by simp [ent, hf]
  have h1 : st.Perm (((T i).key, (T i).pos) :: ents (setT T i Sl.zero) n) := by
    have := H.perm.symm.trans (ents_take hi)
    rwa [e1] at this
  have hP : (ents (setT T i ⟨(T i).key, (T i).hash, p, true⟩) n).Perm (ixPut st (T i).key p) := by
    refine (ents_take hi).trans ?_
    rw [setT_at, setT_two]
    exact (ixPut_again h1 H.nd).symm
  have hfull : ∀ j, (setT T i ⟨(T i).key, (T i).hash, p, true⟩ j).full = (T j).full := fun j => by
    unfold setT; split
    · rename_i e; rw [e, hf]
    · rfl
  have hkey : ∀ j, (setT T i ⟨(T i).key, (T i).hash, p, true⟩ j).key = (T j).key := fun j => by
    unfold setT; split
    · rename_i e; rw [e]
    · rfl
  have hhash : ∀ j, (setT T i ⟨(T i).key, (T i).hash, p, true⟩ j).hash = (T j).hash := fun j => by
    unfold setT; split
    · rename_i e; rw [e]
    · rfl
  refine ⟨hP, ixPut_nodup H.nd, fun j hj hfj => ?_, fun j hj hfj d hd => ?_, ?_⟩
  · rw [hfull] at hfj; rw [hhash, hkey]; exact H.hash j hj hfj
  · rw [hfull] at hfj; rw [hkey] at hd ⊢; rw [hfull]; exact H.path j hj hfj d hd
  · have hl := congrArg List.length (ixPut_keys st (T i).key p (by rw [H.hit hi hf rfl]; rfl))
    rw [List.length_map, List.length_map] at hl
    rw [hl]
    exact H.room
theorem TabOk.add (H : TabOk h T n st) (S : ∀ e, e < d → (T (nx n (h key % n) e)).full = true) (hd : d < n) (hi : i = nx n (h key % n) d) (hf : (T i).full = false) (hno : ixGet st key = none) (p : Int) (hroom : st.length + 1 < n) :
    TabOk h (setT T i ⟨key, (h key : Int), p, true⟩) n (st ++ [(key, p)]) := by
  have hm := Nat.mod_lt (h key) H.pos
  have hin : i < n := by rw [hi]; exact nx_lt hm (by omega)
  have hfull : ∀ j, (T j).full = true → (setT T i ⟨key, (h key : Int), p, true⟩ j).full = true := fun j hj => by
    unfold setT; split
    · rfl
    · exact hj
  refine ⟨?_, ?_, fun j hj hfj => ?_, fun j hj hfj d' hd' => ?_, by simpa using hroom⟩
  · refine (ents_take hin).trans ?_
    rw [setT_at, setT_two]
    have h1 := ents_take (T := T) hin
    have e0 : ent (T i) = [] := by simp [ent, hf]
    rw [e0, List.nil_append] at h1
    refine List.Perm.trans (List.Perm.append_left _ (h1.symm.trans H.perm)) ?_
    exact List.perm_append_comm
  · have := ixPut_nodup (k := key) (p := p) H.nd
    rwa [ixPut_new hno] at this
  · by_cases e : j = i
    · subst e; rw [setT_at]
    · rw [setT_ne _ _ e] at hfj ⊢; exact H.hash j hj hfj
  · by_cases e : j = i
    · subst e
      rw [setT_at] at hd' ⊢
      have hw : way n (h key % n) j = d := by rw [hi]; exact way_nx hm hd
      have hd' : d' ≤ way n (h key % n) j := hd'
      show (setT T j _ (nx n (h key % n) d')).full = true
      rcases Nat.lt_or_ge d' d with h1 | h1
      · exact hfull _ (S d' h1)
      · have : d' = d := by omega
        rw [this, ← hi, setT_at]
    · rw [setT_ne _ _ e] at hfj hd' ⊢
      exact hfull _ (H.path j hj hfj d' hd')
/-! ### A hole that wanders -/
structure Hole (h : ByteArray → Nat) (T : Tab) (n i k : Nat) (st : IxSt) : Prop where
  hi : i < n
  hk : k < n
  ik : i ≠ k
  stale : (T i).full = true
  perm : (ents (setT T i Sl.zero) n).Perm st
  nd : (st.map (·.1)).Nodup
  hash : ∀ j, j < n → (T j).full = true → (T j).hash = (h (T j).key : Int)
  path : ∀ j, j < n → (T j).full = true → j ≠ i → ∀ d, d ≤ way n (h (T j).key % n) j → (T (nx n (h (T j).key % n) d)).full = true
  seg : ∀ j, j < n → (T j).full = true → j ≠ i → way n i j < way n i k → way n (h (T j).key % n) j < way n i j
  full : ∀ e, e < way n i k → (T (nx n i e)).full = true
theorem Hole.start (H : TabOk h T n st) (hi : i < n) (hf : (T i).full = true) : Hole h T n i (nx n i 1) (ixDrop st (T i).key) := by
  obtain ⟨f, hf1, hf2⟩ := H.free
  have hfi : f ≠ i := fun e => by rw [e, hf] at hf2; cases hf2
  have hn : 1 < n := by omega
  have hw : way n i (nx n i 1) = 1 := way_nx hi hn
  have e1 : ent (T i) = [((T i).key, (T i).pos)] := by simp [ent, hf]
  have h1 : st.Perm (((T i).key, (T i).pos) :: ents (setT T i Sl.zero) n) := by
    have := H.perm.symm.trans (ents_take hi)
    rwa [e1] at this
  refine ⟨hi, nx_lt hi (by omega), ?_, hf, ?_, ixDrop_nodup H.nd, H.hash, fun j hj hfj _ => H.path j hj hfj, fun j hj hfj hji hlt => ?_, fun e he => ?_⟩
  · have := nx_c n i 1; omega
  · refine List.Perm.trans ?_ (ixDrop_perm h1).symm
    rw [ixDrop_cons ((h1.map (·.1)).nodup_iff.1 H.nd)]
  · rw [hw] at hlt
    have h2 := way_c n i j
    omega
  · rw [hw] at he
    have : e = 0 := by omega
    rw [this, nx_zero hi]; exact hf
theorem Hole.far (H : Hole h T n i k st) (hfn : f < n) (hff : (T f).full = false) (hk : (T k).full = true) : way n i k + 1 < n ∧ way n i (nx n k 1) = way n i k + 1 := by
  have hw := way_lt H.hi H.hk
  have hx := nx_way H.hi H.hk
  have h1 : way n i k + 1 < n := by
    refine Classical.byContradiction fun hh => ?_
    have hwf := way_lt H.hi hfn
    rcases Nat.lt_or_ge (way n i f) (way n i k) with h1 | h1
    · have := H.full _ h1
      rw [nx_way H.hi hfn, hff] at this; cases this
    · have e : way n i f = way n i k := by omega
      have := nx_way H.hi hfn
      rw [e, hx] at this
      rw [this, hff] at hk; cases hk
  refine ⟨h1, ?_⟩
  have := way_c n i k
  have := nx_c n k 1
  have := way_c n i (nx n k 1)
  have := H.hi
  have := H.hk
  omega
theorem Hole.stay (H : Hole h T n i k st) (hfn : f < n) (hff : (T f).full = false) (hk : (T k).full = true) (hno : way n (h (T k).key % n) k < way n i k) : Hole h T n i (nx n k 1) st := by
  obtain ⟨h1, h2⟩ := H.far hfn hff hk
  refine ⟨H.hi, nx_lt H.hk (by omega), ?_, H.stale, H.perm, H.nd, H.hash, H.path, fun j hj hfj hji hlt => ?_, fun e he => ?_⟩
  · intro e
    rw [← e, way_self] at h2; omega
  · rw [h2] at hlt
    rcases Nat.lt_or_ge (way n i j) (way n i k) with h3 | h3
    · exact H.seg j hj hfj hji h3
    · have e : way n i j = way n i k := by omega
      have e2 : j = k := by rw [← nx_way H.hi hj, e, nx_way H.hi H.hk]
      subst e2
      exact hno
  · rw [h2] at he
    rcases Nat.lt_or_ge e (way n i k) with h3 | h3
    · exact H.full e h3
    · have : e = way n i k := by omega
      rw [this, nx_way H.hi H.hk]; exact hk
theorem Hole.move (H : Hole h T n i k st) (hfn : f < n) (hff : (T f).full = false) (hk : (T k).full = true) (hyes : way n i k ≤ way n (h (T k).key % n) k) : Hole h (setT T i (T k)) n k (nx n k 1) st := by
  have hn : 0 < n := by omega
  have hfull : ∀ j, (setT T i (T k) j).full = (T j).full := fun j => by
    unfold setT; split
    · rename_i e; rw [e, H.stale, hk]
    · rfl
  have hfk : f ≠ k := fun e => by rw [e, hk] at hff; cases hff
  have hn1 : 1 < n := by have := H.hk; omega
  have hw1 : way n k (nx n k 1) = 1 := way_nx H.hk hn1
  have hki : k ≠ i := Ne.symm H.ik
  refine ⟨H.hk, nx_lt H.hk (by omega), ?_, by rw [hfull]; exact hk, ?_, H.nd, fun j hj hfj => ?_, fun j hj hfj hjk d hd => ?_, fun j hj hfj hjk hlt => ?_, fun e he => ?_⟩
  · have := nx_c n k 1; have := H.hk; omega
  · refine List.Perm.trans ?_ H.perm
    have p1 := ents_take (T := setT (setT T i (T k)) k Sl.zero) H.hi
    have p2 := ents_take (T := setT T i Sl.zero) H.hk
    have e1 : setT (setT T i (T k)) k Sl.zero i = T k := by rw [setT_ne _ _ H.ik, setT_at]
    have e2 : setT T i Sl.zero k = T k := setT_ne _ _ hki
    have e3 : setT (setT (setT T i (T k)) k Sl.zero) i Sl.zero = setT (setT T i Sl.zero) k Sl.zero := by
      funext j; unfold setT
      by_cases a : j = i
      · have : j ≠ k := fun b => hki (b.symm.trans a)
        simp [a, H.ik]
      · simp [a]
    rw [e1, e3] at p1
    rw [e2] at p2
    exact p1.trans p2.symm
  · by_cases e : j = i
    · subst e; rw [setT_at]; exact H.hash k H.hk hk
    · rw [setT_ne _ _ e] at hfj ⊢; exact H.hash j hj hfj
  · rw [hfull]
    by_cases e : j = i
    · subst e
      rw [setT_at] at hd ⊢
      refine H.path k H.hk hk hki d ?_
      have hm := Nat.mod_lt (h (T k).key) hn
      generalize h (T k).key % n = m at hm hd hyes ⊢
      have := way_c n m j
      have := way_c n m k
      have := way_c n j k
      have := H.hi
      have := H.hk
      omega
    · rw [hfull] at hfj
      rw [setT_ne _ _ e] at hd ⊢
      exact H.path j hj hfj e d hd
  · rw [hw1] at hlt
    have := way_c n k j
    have := H.hk
    omega
  · rw [hw1] at he
    have : e = 0 := by omega
    rw [this, nx_zero H.hk, hfull]; exact hk
theorem Hole.done (H : Hole h T n i k st) (hk : (T k).full = false) : TabOk h (setT T i Sl.zero) n st := by
  have hn : 0 < n := by have := H.hi; omega
  have hf : ∀ j, (setT T i Sl.zero j).full = true → j ≠ i ∧ (T j).full = true := fun j hj => by
    unfold setT at hj
    split at hj
    · cases hj
    · rename_i e; exact ⟨e, hj⟩
  refine ⟨H.perm, H.nd, fun j hj hfj => ?_, fun j hj hfj d hd => ?_, ?_⟩
  · obtain ⟨e, h1⟩ := hf j hfj
    rw [setT_ne _ _ e]; exact H.hash j hj h1
  · obtain ⟨e, h1⟩ := hf j hfj
    rw [setT_ne _ _ e] at hd ⊢
    have hp := H.path j hj h1 e
    have hm := Nat.mod_lt (h (T j).key) hn
    by_cases hx : nx n (h (T j).key % n) d = i
    · exfalso
      have hs := H.seg j hj h1 e
      generalize h (T j).key % n = m at hp hs hd hx hm
      have hlt : way n i j < way n i k := by
        refine Classical.byContradiction fun hh => ?_
        have hlast := hp (d + way n i k) (by
          have := way_c n m j
          have := way_c n i j
          have := nx_c n m d
          have := H.hi
          omega)
        have e3 : nx n m (d + way n i k) = k := by
          have := nx_c n m (d + way n i k)
          have := way_c n i k
          have := way_c n i j
          have := way_c n m j
          have := nx_c n m d
          have := H.hi
          have := H.hk
          omega
        rw [e3, hk] at hlast; cases hlast
      have := hs hlt
      have := way_c n m j
      have := way_c n i j
      have := nx_c n m d
      have := H.hi
      omega
    · rw [setT_ne _ _ hx]; exact hp d hd
  · rw [← H.perm.length_eq]
    refine Classical.byContradiction fun hh => ?_
    have h1 := ents_len (setT T i Sl.zero) n
    have h2 := (ents_take (T := setT T i Sl.zero) H.hi).length_eq
    rw [setT_at, setT_two] at h2
    have h3 := (ents_take (T := setT (setT T i Sl.zero) k ⟨⟨#[]⟩, 0, 0, true⟩) H.hk).length_eq
    rw [setT_at, setT_two] at h3
    have h4 := ents_len (setT (setT T i Sl.zero) k ⟨⟨#[]⟩, 0, 0, true⟩) n
    have h5 := (ents_take (T := setT T i Sl.zero) H.hk).length_eq
    rw [setT_ne _ _ (Ne.symm H.ik)] at h5
    simp [ent, hk] at h5 h3
    omega
end
end Go.Proofs.YtoepgbpmcjnbmaaGreatDoor
end
/-
  THE PROGRAM's INDEX IN MEMORY: its block, its row of slots; home, behind, way.
-/
section
namespace Go.Proofs.YtoepgbpmcjnbmaaGreatDoor
open Go Go.RowKit Go.Joins
def Sl.val (s : Sl) : Value := .agg #[.string s.key, .int .u64 s.hash, .int .i64 s.pos, .bool s.full]
def tabV (T : Tab) (m : Nat) : Value :=
  if m % 4 = 0 then .string (T (m / 4)).key else if m % 4 = 1 then .int .u64 (T (m / 4)).hash else if m % 4 = 2 then .int .i64 (T (m / 4)).pos else .bool (T (m / 4)).full
structure TabAt (w : World) (g n : Nat) (T : Tab) : Prop where
  cell : ∀ m, m < 4 * n → w.cell? ⟨g, m, none⟩ = some (tabV T m)
  ice : ∀ m, w.frozen? ⟨g, m, none⟩ = false
  lt : g < w.heap.size
section
variable {w w' : World} {g n i : Nat} {T : Tab} {G : Nat → Prop}
theorem TabAt.c0 (h : TabAt w g n T) (hi : i < n) : w.cell? ⟨g, i * 4, none⟩ = some (.string (T i).key) := by
  have := h.cell (i * 4) (by omega)
  rwa [tabV, if_pos (by omega), Nat.mul_div_cancel _ (by decide)] at this
theorem TabAt.c1 (h : TabAt w g n T) (hi : i < n) : w.cell? ⟨g, i * 4 + 1, none⟩ = some (.int .u64 (T i).hash) := by
  have := h.cell (i * 4 + 1) (by omega)
  rwa [tabV, if_neg (by omega), if_pos (by omega), show (i * 4 + 1) / 4 = i by omega] at this
theorem TabAt.c2 (h : TabAt w g n T) (hi : i < n) : w.cell? ⟨g, i * 4 + 2, none⟩ = some (.int .i64 (T i).pos) := by
  have := h.cell (i * 4 + 2) (by omega)
  rwa [tabV, if_neg (by omega), if_neg (by omega), if_pos (by omega), show (i * 4 + 2) / 4 = i by omega] at this
theorem TabAt.c3 (h : TabAt w g n T) (hi : i < n) : w.cell? ⟨g, i * 4 + 3, none⟩ = some (.bool (T i).full) := by
  have := h.cell (i * 4 + 3) (by omega)
  rwa [tabV, if_neg (by omega), if_neg (by omega), if_neg (by omega), show (i * 4 + 3) / 4 = i by omega] at this
theorem TabAt.keep (h : TabAt w g n T) (hk : Keeps G w w') (hg : G g) : TabAt w' g n T :=
  ⟨fun m hm => hk.cell (h.cell m hm) hg, fun m => by rw [hk.frozen (p := ⟨g, m, none⟩) h.lt hg]; exact h.ice m, Nat.lt_of_lt_of_le h.lt hk.size⟩
theorem TabAt.store (h : TabAt w g n T) (hi : i < n) (s : Sl) : TabAt ((((w.setCell ⟨g, i * 4, none⟩ (.string s.key)).setCell ⟨g, i * 4 + 1, none⟩ (.int .u64 s.hash)).setCell ⟨g, i * 4 + 2, none⟩ (.int .i64 s.pos)).setCell ⟨g, i * 4 + 3, none⟩ (.bool s.full)) g n (setT T i s) := by
  refine ⟨fun m hm => ?_, fun m => ?_, by simpa using h.lt⟩
  · have oth : ∀ (W : World) (a b : Nat) (v : Value), a ≠ b → (W.setCell ⟨g, a, none⟩ v).cell? ⟨g, b, none⟩ = W.cell? ⟨g, b, none⟩ := fun W a b v hab => World.cell?_setCell_other _ _ _ _ (fun e => hab (by injection e))
    have h0 := h.c0 hi
    have h1 := h.c1 hi
    have h2 := h.c2 hi
    have h3 := h.c3 hi
    by_cases e : m / 4 = i
    · have hT : setT T i s (m / 4) = s := by rw [e]; exact setT_at T i s
      unfold tabV
      rw [hT]
      by_cases e0 : m % 4 = 0
      · obtain rfl : m = i * 4 := by omega
        rw [if_pos e0, oth _ (i * 4 + 3) _ _ (by omega), oth _ (i * 4 + 2) _ _ (by omega), oth _ (i * 4 + 1) _ _ (by omega)]
        exact World.cell?_setCell_same _ _ _ h0
      · rw [if_neg e0]
        by_cases e1 : m % 4 = 1
        · obtain rfl : m = i * 4 + 1 := by omega
          rw [if_pos e1, oth _ (i * 4 + 3) _ _ (by omega), oth _ (i * 4 + 2) _ _ (by omega)]
          refine World.cell?_setCell_same (u := .int .u64 (T i).hash) _ _ _ ?_
          rw [oth _ (i * 4) _ _ (by omega)]; exact h1
        · rw [if_neg e1]
          by_cases e2 : m % 4 = 2
          · obtain rfl : m = i * 4 + 2 := by omega
            rw [if_pos e2, oth _ (i * 4 + 3) _ _ (by omega)]
            refine World.cell?_setCell_same (u := .int .i64 (T i).pos) _ _ _ ?_
            rw [oth _ (i * 4 + 1) _ _ (by omega), oth _ (i * 4) _ _ (by omega)]; exact h2
          · obtain rfl : m = i * 4 + 3 := by omega
            rw [if_neg e2]
            refine World.cell?_setCell_same (u := .bool (T i).full) _ _ _ ?_
            rw [oth _ (i * 4 + 2) _ _ (by omega), oth _ (i * 4 + 1) _ _ (by omega), oth _ (i * 4) _ _ (by omega)]; exact h3
    · rw [oth _ (i * 4 + 3) _ _ (by omega), oth _ (i * 4 + 2) _ _ (by omega), oth _ (i * 4 + 1) _ _ (by omega), oth _ (i * 4) _ _ (by omega), h.cell m hm]
      unfold tabV
      rw [setT_ne _ _ e]
  · rw [World.frozen?_setCell, World.frozen?_setCell, World.frozen?_setCell, World.frozen?_setCell]; exact h.ice m
end
def IxBlk (w : World) (q : Nat) (V : Value) (c : Nat) : Prop := w.heap[q]? = some (.cells #[V, .int .i64 (c : Int)] 113 (0, 0))
structure IxAt (w : World) (q g n c : Nat) (T : Tab) : Prop where
  blk : IxBlk w q (.slice (some ⟨g, 0, none⟩) n n) c
  tab : TabAt w g n T
  ne : g ≠ q
section
variable {w w' : World} {q g n c i : Nat} {T : Tab} {G : Nat → Prop} {V : Value}
theorem IxBlk.keep (h : IxBlk w q V c) (hk : Keeps G w w') (hq : G q) : IxBlk w' q V c := (hk.block q hq (Array.getElem?_eq_some_iff.1 h).1).trans h
theorem IxBlk.lt (h : IxBlk w q V c) : q < w.heap.size := (Array.getElem?_eq_some_iff.1 h).1
theorem IxBlk.c0 (h : IxBlk w q V c) : w.cell? ⟨q, 0, none⟩ = some V := (cell_of_block h 0).trans rfl
theorem IxBlk.c1 (h : IxBlk w q V c) : w.cell? ⟨q, 1, none⟩ = some (.int .i64 (c : Int)) := (cell_of_block h 1).trans rfl
theorem IxBlk.f0 (h : IxBlk w q V c) (i : Nat) : w.frozen? ⟨q, i, none⟩ = false := unfrozen_of_block h i
theorem IxBlk.set0 (h : IxBlk w q V c) (V' : Value) : IxBlk (w.setCell ⟨q, 0, none⟩ V') q V' c := (block_setCell h V').trans rfl
theorem IxBlk.set1 (h : IxBlk w q V c) (c' : Nat) : IxBlk (w.setCell ⟨q, 1, none⟩ (.int .i64 (c' : Int))) q V c' := (block_setCell h _).trans rfl
theorem IxAt.keep (h : IxAt w q g n c T) (hk : Keeps G w w') (hq : G q) (hg : G g) : IxAt w' q g n c T := ⟨h.blk.keep hk hq, h.tab.keep hk hg, h.ne⟩
end
theorem modN_cast (h n : Nat) : ((h : Int).tmod (n : Int)) = ((h % n : Nat) : Int) := by
  rw [Int.tmod_eq_emod_of_nonneg (by omega)]; rfl
set_option maxRecDepth 100000 in
set_option maxHeartbeats 1000000 in
theorem home_any (w : World) (q g n c : Nat) (T : Tab) (hI : IxAt w q g n c T) (h0 : 0 < n) (hn : n ≤ 1099511627776) (h : Nat) (_hh : h < 18446744073709551616) :
    Calls Tryz.prog 88 #[.pointer (some ⟨q, 0, none⟩), .int .u64 (h : Int)] w fun e w' => e = .returned (.int .i64 ((h % n : Nat) : Int)) ∧ w' = w := by
  have c0 := hI.blk.c0
  have hm := modN_cast h n
  have hl := Nat.mod_lt h h0
  obtain ⟨r, hr⟩ : ∃ r, h % n = r := ⟨_, rfl⟩
  rw [hr] at hm hl ⊢
  have e2 : ((h : Int) % (n : Int)) = (r : Int) := by rw [← hr]; rfl
  clear hI hr
  go_enter Tryz.func88, Tryz.ntmps88
  go_wp2_with fail
  go_ret
  exact ⟨rfl, rfl⟩
set_option maxRecDepth 100000 in
set_option maxHeartbeats 1000000 in
theorem ixbehind_any (w : World) (q g n c : Nat) (T : Tab) (hI : IxAt w q g n c T) (i : Nat) (hi : i < n) (hn : n ≤ 1099511627776) :
    Calls Tryz.prog 89 #[.pointer (some ⟨q, 0, none⟩), .int .i64 (i : Int)] w fun e w' => e = .returned (.int .i64 ((nx n i 1 : Nat) : Int)) ∧ w' = w := by
  have c0 := hI.blk.c0
  have hm : (((i : Int) + 1).tmod (n : Int)) = ((nx n i 1 : Nat) : Int) := by
    rw [show (i : Int) + 1 = ((i + 1 : Nat) : Int) by omega, modN_cast]
    congr 1
    rcases nx_c n i 1 with ⟨h1, h2⟩ | ⟨h1, h2⟩
    · rw [h2, Nat.mod_eq_of_lt h1]
    · rw [h2, show i + 1 = n by omega, Nat.mod_self]; omega
  have e2 : (((i : Int) + 1) % (n : Int)) = ((nx n i 1 : Nat) : Int) := by rw [← hm, Int.tmod_eq_emod_of_nonneg (by omega)]
  generalize nx n i 1 = r at *
  clear hI
  go_enter Tryz.func89, Tryz.ntmps89
  go_wp2_with fail
  go_ret
  exact ⟨rfl, rfl⟩
set_option maxRecDepth 100000 in
set_option maxHeartbeats 1000000 in
theorem way_any (w : World) (q g n c : Nat) (T : Tab) (hI : IxAt w q g n c T) (i k : Nat) (hi : i < n) (hk : k < n) (hn : n ≤ 1099511627776) :
    Calls Tryz.prog 113 #[.pointer (some ⟨q, 0, none⟩), .int .i64 (i : Int), .int .i64 (k : Int)] w fun e w' => e = .returned (.int .i64 ((way n i k : Nat) : Int)) ∧ Kp w w' := by
  have c0 := hI.blk.c0
  have hm : (((k : Int) - (i : Int) + (n : Int)).tmod (n : Int)) = ((way n i k : Nat) : Int) := by
    rw [show (k : Int) - (i : Int) + (n : Int) = ((k + n - i : Nat) : Int) by omega, modN_cast]
    congr 1
    rcases way_c n i k with ⟨h1, h2⟩ | ⟨h1, h2⟩
    · rw [h2, show k + n - i = (k - i) + n by omega, Nat.add_mod_right, Nat.mod_eq_of_lt (by omega)]
    · rw [h2, Nat.mod_eq_of_lt (by omega)]
  have e2 : (((k : Int) - (i : Int) + (n : Int)) % (n : Int)) = ((way n i k : Nat) : Int) := by rw [← hm, Int.tmod_eq_emod_of_nonneg (by omega)]
  generalize way n i k = r at *
  clear hI
  go_enter Tryz.func113, Tryz.ntmps113
  go_wp2_with fail
  go_region
  go_wp2_with fail
  go_ret
  exact ⟨rfl, (Keeps.refl _ _).drew⟩
end Go.Proofs.YtoepgbpmcjnbmaaGreatDoor
end
/-
  A KEY's HASH as the program's index takes it: mix.Of of that one text.
-/
section
namespace Go.Proofs.YtoepgbpmcjnbmaaGreatDoor
open Go Go.RowKit Go.Joins
def hashN (s : ByteArray) : Nat := (partsZ [s]).toNat
theorem hashZ_is (s : ByteArray) : 0 ≤ partsZ [s] ∧ partsZ [s] < 18446744073709551616 := by
  show 0 ≤ endZ _ _ ∧ endZ _ _ < _
  unfold endZ
  exact ⟨stZ_nonneg _, stZ_lt _⟩
theorem hashN_cast (s : ByteArray) : ((hashN s : Nat) : Int) = partsZ [s] := by
  have := hashZ_is s
  unfold hashN; omega
theorem hashN_lt (s : ByteArray) : hashN s < 18446744073709551616 := by
  have := hashZ_is s
  unfold hashN; omega
theorem hash_any (s : ByteArray) (b : Nat) (w : World) (hs : s.size ≤ 1000000) (hc : w.cell? ⟨b, 0, none⟩ = some (.string s)) :
    Calls Tryz.prog 52 #[.slice (some ⟨b, 0, none⟩) 1 1] w fun e w' => e = .returned (.int .u64 ((hashN s : Nat) : Int)) ∧ w' = w := by
  rw [hashN_cast]
  refine (of_any [s] b 0 1 w (show 1 ≤ maxLen by decide) (by intro x hx; simp at hx; rw [hx]; unfold maxLen; omega)
    (fun i hi => by have hi0 : i = 0 := by simpa using hi
                    subst hi0; exact hc)).mono ?_
  rintro e w' ⟨rfl, rfl⟩
  exact ⟨rfl, rfl⟩
end Go.Proofs.YtoepgbpmcjnbmaaGreatDoor
end
