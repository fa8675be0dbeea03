/- Texts of one proof, behind one another: each says above its part what it proves and on which conditions. -/
import Derived.Test.YtoepgbpmcjnbmaaGreatDoorAllCalc
import Derived.Test.YtoepgbpmcjnbmaaGreatDoorAllIxA
import Derived.Test.YtoepgbpmcjnbmaaGreatDoorFlashIf
import Derived.Test.YtoepgbpmcjnbmaaGreatDoorSlogIf
import Derived.Lib.SmallJoins
import Derived.Test.YtoepgbpmcjnbmaaGreatDoorAllItemB
import Derived.StillTailTactics
/-
  THE MATHEMATICS OF FLASH (no program): what a cache's log says, record by record, and where each key's entry lies.
-/
section
namespace Go.Proofs.YtoepgbpmcjnbmaaGreatDoor
open Go
abbrev FRec := Nat × Option It
def bodyO : Option It → List UInt8
  | none => [0]
  | some x => x.bytes
def frk (a : FRec) : Nat × List UInt8 := (a.1, bodyO a.2)
def spStep (k : ByteArray) (o : Option (Nat × It)) (a : FRec) : Option (Nat × It) :=
  match a.2 with
  | none => none
  | some x => if x.key = k then (if x.gone then none else some (a.1, x)) else o
def sp (l : List FRec) (k : ByteArray) : Option (Nat × It) := l.foldl (spStep k) none
theorem sp_snoc (l : List FRec) (a : FRec) (k : ByteArray) : sp (l ++ [a]) k = spStep k (sp l k) a := by simp [sp, List.foldl_append]
theorem fold_mem (k : ByteArray) (l : List FRec) (o : Option (Nat × It)) (p : Nat) (x : It) (h : l.foldl (spStep k) o = some (p, x)) : o = some (p, x) ∨ ((p, some x) ∈ l ∧ x.key = k ∧ x.gone = false) := by
  induction l generalizing o with
  | nil => exact .inl h
  | cons a l ih =>
    rcases ih _ h with h1 | ⟨h1, h2⟩
    · obtain ⟨q, y⟩ := a
      cases y with
      | none => cases h1
      | some y =>
        change (if y.key = k then (if y.gone then none else some (q, y)) else o) = _ at h1
        by_cases hk : y.key = k
        · rw [if_pos hk] at h1
          cases hg : y.gone with
          | true => rw [hg] at h1; cases h1
          | false =>
            rw [hg] at h1
            cases h1
            exact .inr ⟨List.mem_cons_self, hk, hg⟩
        · rw [if_neg hk] at h1
          exact .inl h1
    · exact .inr ⟨List.mem_cons_of_mem _ h1, h2⟩
theorem sp_mem {l : List FRec} {k : ByteArray} {p : Nat} {x : It} (h : sp l k = some (p, x)) : (p, some x) ∈ l ∧ x.key = k ∧ x.gone = false := by
  rcases fold_mem k l none p x h with h1 | h1
  · cases h1
  · exact h1
def above (f : Nat) (y : Nat × It) : Bool := decide (f ≤ y.1)
theorem fold_filter (f : Nat) (k : ByteArray) (l : List FRec) (hl : ∀ a ∈ l, f ≤ a.1) (o o' : Option (Nat × It)) (h : o.filter (above f) = o') : (l.foldl (spStep k) o).filter (above f) = l.foldl (spStep k) o' := by
  induction l generalizing o o' with
  | nil => exact h
  | cons a l ih =>
    refine ih (fun b hb => hl b (List.mem_cons_of_mem _ hb)) _ _ ?_
    have ha := hl a List.mem_cons_self
    obtain ⟨q, y⟩ := a
    cases y with
    | none => rfl
    | some y =>
      show (if y.key = k then (if y.gone then none else some (q, y)) else o).filter (above f) = (if y.key = k then (if y.gone then none else some (q, y)) else o')
      by_cases hk : y.key = k
      · rw [if_pos hk, if_pos hk]
        cases y.gone
        · have : above f (q, y) = true := decide_eq_true ha
          simp [Option.filter, this]
        · rfl
      · rw [if_neg hk, if_neg hk]; exact h
theorem sp_below (f : Nat) (k : ByteArray) (a b : List FRec) (ha : ∀ r ∈ a, r.1 < f) (hb : ∀ r ∈ b, f ≤ r.1) : (sp (a ++ b) k).filter (above f) = sp b k := by
  unfold sp
  rw [List.foldl_append]
  refine fold_filter f k b hb _ _ ?_
  cases h : a.foldl (spStep k) none with
  | none => rfl
  | some y =>
    obtain ⟨p, x⟩ := y
    rcases fold_mem k a none p x h with h1 | ⟨h1, -⟩
    · cases h1
    · have h2 : p < f := ha _ h1
      have : above f (p, x) = false := decide_eq_false (by omega)
      simp [Option.filter, this]
theorem sp_cut (a : List FRec) (p : Nat) (l : List FRec) (k : ByteArray) : sp (a ++ [(p, none)] ++ l) k = sp l k := by
  unfold sp
  rw [List.foldl_append, List.foldl_append]
  rfl
section
variable {st : IxSt} {k k' : ByteArray} {p f : Int}
theorem isK_self (k : ByteArray) (p : Int) : isK k (k, p) = true := isK_iff.2 rfl
theorem ixGet_put (hnd : (st.map (·.1)).Nodup) : ixGet (ixPut st k p) k' = if k = k' then some p else ixGet st k' := by
  have hn := ixPut_nodup (k := k) (p := p) hnd
  by_cases h : (ixGet st k).isSome = true
  · have e : ixPut st k p = st.map (fun x => if isK k x then (x.1, p) else x) := by unfold ixPut; rw [if_pos h]
    obtain ⟨q, hq⟩ := Option.isSome_iff_exists.1 h
    by_cases hk : k = k'
    · subst hk
      rw [if_pos rfl]
      refine ixGet_of hn ?_
      rw [e]
      exact List.mem_map.2 ⟨(k, q), ixGet_mem hq, by rw [if_pos (isK_self k q)]⟩
    · rw [if_neg hk]
      cases hg : ixGet st k' with
      | none =>
        rw [ixGet_none] at hg ⊢
        intro x hx
        rw [e] at hx
        obtain ⟨y, hy, rfl⟩ := List.mem_map.1 hx
        have := hg y hy
        split <;> exact this
      | some r =>
        refine ixGet_of hn ?_
        rw [e]
        refine List.mem_map.2 ⟨(k', r), ixGet_mem hg, ?_⟩
        rw [if_neg (fun hh => hk (isK_iff.1 hh).symm)]
  · have h0 : ixGet st k = none := by simpa using h
    rw [ixPut_new h0]
    rw [ixPut_new h0] at hn
    by_cases hk : k = k'
    · subst hk
      rw [if_pos rfl]
      exact ixGet_of hn (by simp)
    · rw [if_neg hk]
      cases hg : ixGet st k' with
      | none =>
        rw [ixGet_none] at hg ⊢
        intro x hx
        rcases List.mem_append.1 hx with hx | hx
        · exact hg x hx
        · rw [List.mem_singleton.1 hx]; exact hk
      | some r => exact ixGet_of hn (List.mem_append_left _ (ixGet_mem hg))
theorem ixGet_drop (hnd : (st.map (·.1)).Nodup) : ixGet (ixDrop st k) k' = if k = k' then none else ixGet st k' := by
  have hn := ixDrop_nodup (k := k) hnd
  by_cases hk : k = k'
  · subst hk
    rw [if_pos rfl, ixGet_none]
    intro x hx
    have := (List.mem_filter.1 hx).2
    intro e
    rw [isK_iff.2 e] at this
    cases this
  · rw [if_neg hk]
    cases hg : ixGet st k' with
    | none =>
      rw [ixGet_none] at hg ⊢
      exact fun x hx => hg x (List.mem_filter.1 hx).1
    | some r =>
      refine ixGet_of hn (List.mem_filter.2 ⟨ixGet_mem hg, ?_⟩)
      rw [isK_not.2 (fun e => hk e.symm)]
      rfl
theorem ixGet_below (hnd : (st.map (·.1)).Nodup) : ixGet (ixBelow st f) k = (ixGet st k).filter fun q => decide (f ≤ q) := by
  have hn := ixBelow_nodup (p := f) hnd
  cases hg : ixGet st k with
  | none =>
    rw [ixGet_none] at hg
    show _ = none
    rw [ixGet_none]
    exact fun x hx => hg x (List.mem_filter.1 hx).1
  | some r =>
    by_cases hr : f ≤ r
    · rw [Option.filter_some_pos (by simpa using hr)]
      exact ixGet_of hn (List.mem_filter.2 ⟨ixGet_mem hg, by simpa using hr⟩)
    · rw [Option.filter_some_neg (by simpa using hr), ixGet_none]
      intro x hx e
      have h1 := (List.mem_filter.1 hx).1
      have h2 : f ≤ x.2 := by simpa using (List.mem_filter.1 hx).2
      obtain ⟨a, b⟩ := x
      subst e
      have := ixGet_of hnd h1
      rw [hg] at this
      cases this
      exact hr h2
end
structure IxSays (ix : IxSt) (l : List FRec) (n : Nat) : Prop where
  nd : (ix.map (·.1)).Nodup
  len : ix.length ≤ n
  is : ∀ k, ixGet ix k = (sp l k).map fun a => (a.1 : Int)
section
variable {ix : IxSt} {l : List FRec} {n : Nat}
theorem IxSays.nil : IxSays [] [] 0 := ⟨List.nodup_nil, Nat.le_refl _, fun _ => rfl⟩
theorem IxSays.more (h : IxSays ix l n) {m : Nat} (hm : n ≤ m) : IxSays ix l m := ⟨h.nd, Nat.le_trans h.len hm, h.is⟩
theorem IxSays.wipe (l : List FRec) (n p : Nat) : IxSays [] (l ++ [(p, none)]) n := ⟨List.nodup_nil, Nat.zero_le _, fun k => by rw [sp_snoc]; rfl⟩
theorem flput_len (st : IxSt) (k : ByteArray) (p : Int) : (ixPut st k p).length ≤ st.length + 1 := by
  unfold ixPut
  split
  · rw [List.length_map]; omega
  · simp
theorem IxSays.put (h : IxSays ix l n) {x : It} (hx : x.gone = false) (p : Nat) : IxSays (ixPut ix x.key (p : Int)) (l ++ [(p, some x)]) (n + 1) := by
  refine ⟨ixPut_nodup h.nd, Nat.le_trans (flput_len _ _ _) (Nat.succ_le_succ h.len), fun k => ?_⟩
  rw [ixGet_put h.nd, sp_snoc]
  show _ = (if x.key = k then (if x.gone then none else some (p, x)) else sp l k).map _
  by_cases hk : x.key = k
  · rw [if_pos hk, if_pos hk, hx]; rfl
  · rw [if_neg hk, if_neg hk]; exact h.is k
theorem IxSays.drop (h : IxSays ix l n) {x : It} (hx : x.gone = true) (p : Nat) : IxSays (ixDrop ix x.key) (l ++ [(p, some x)]) (n + 1) := by
  refine ⟨ixDrop_nodup h.nd, Nat.le_trans (List.length_filter_le _ _) (Nat.le_succ_of_le h.len), fun k => ?_⟩
  rw [ixGet_drop h.nd, sp_snoc]
  show _ = (if x.key = k then (if x.gone then none else some (p, x)) else sp l k).map _
  by_cases hk : x.key = k
  · rw [if_pos hk, if_pos hk, hx]; rfl
  · rw [if_neg hk, if_neg hk]; exact h.is k
theorem IxSays.below {a b : List FRec} (h : IxSays ix (a ++ b) n) (f : Nat) (ha : ∀ r ∈ a, r.1 < f) (hb : ∀ r ∈ b, f ≤ r.1) : IxSays (ixBelow ix (f : Int)) b n := by
  refine ⟨ixBelow_nodup h.nd, Nat.le_trans (List.length_filter_le _ _) h.len, fun k => ?_⟩
  rw [ixGet_below h.nd, h.is k, ← sp_below f k a b ha hb]
  cases sp (a ++ b) k with
  | none => rfl
  | some y =>
    by_cases hy : f ≤ y.1
    · have h1 : above f y = true := decide_eq_true hy
      have h2 : decide ((f : Int) ≤ (y.1 : Int)) = true := decide_eq_true (by omega)
      rw [Option.filter_some_pos (by exact h1)]
      exact Option.filter_some_pos (by exact h2)
    · have h1 : ¬ above f y = true := fun h => hy (of_decide_eq_true h)
      have h2 : ¬ decide ((f : Int) ≤ (y.1 : Int)) = true := fun h => hy (by have := of_decide_eq_true h; omega)
      rw [Option.filter_some_neg (eq_false_of_ne_true h1)]
      exact Option.filter_some_neg (eq_false_of_ne_true h2)
end
theorem opened_snoc (l : List LRec) (r : LRec) : opened (l ++ [r]) = l ++ [⟨r.pos, r.body, r.opens + 1⟩] := by
  induction l with
  | nil => rfl
  | cons a l ih =>
    cases l with
    | nil => rfl
    | cons b l => show a :: opened ((b :: l) ++ [r]) = _; rw [ih]; rfl
theorem fopened_snoc (l : List FEnt) (e : FEnt) : fopened (l ++ [e]) = l ++ [⟨e.x, e.opens + 1⟩] := by
  induction l with
  | nil => rfl
  | cons a l ih =>
    cases l with
    | nil => rfl
    | cons b l => show a :: fopened ((b :: l) ++ [e]) = _; rw [ih]; rfl
theorem snoc_is {α : Type} (l : List α) (h : l ≠ []) : ∃ a b, l = a ++ [b] := ⟨l.dropLast, l.getLast h, (List.dropLast_concat_getLast h).symm⟩
theorem It.bytes_le {x : It} (h : x.may = true) : x.bytes.length ≤ x.key.size + x.val.size + 20 := by
  have m := It.may_is h
  have f := x.flag_bd
  have kx : x.key.data.toList.length = x.key.size := by simp
  have vx : x.val.data.toList.length = x.val.size := by simp
  have z : ∀ n : Int, 0 ≤ n → zig n = (2 * n).toNat := fun n hn => by unfold zig; rw [if_neg (by omega)]
  have h1 : (putZ (x.key.data.toList.length : Int)).length ≤ 1 := vin_len 0 _ (by rw [z _ (by omega)]; omega)
  have h2 : (putZ (x.val.data.toList.length : Int)).length ≤ 2 := vin_len 1 _ (by rw [z _ (by omega)]; omega)
  have h3 := putZ_len x.till (by omega) (by omega)
  have h4 : (putZ x.flag).length ≤ 1 := vin_len 0 _ (by rw [z _ (by omega)]; omega)
  unfold It.bytes putT
  simp only [List.length_append]
  omega
structure FM (st : FSt) (lst : LSt) (hs : List FRec) : Prop where
  key : lst.hist.map LRec.key = hs.map frk
  may : ∀ p x, (p, some x) ∈ hs → x.may = true
  cut : ∃ h0 h1, hs = h0 ++ h1 ∧ (h0 = [] ∨ ∃ a p, h0 = a ++ [(p, none)]) ∧ h1.map (·.2) = st.ents.map (fun e => some e.x) ∧ (lst.hist.drop h0.length).map (·.opens) = st.ents.map (·.opens) ∧ st.gone = lst.gone - h0.length
  place : lst.place = st.place
  segs : lst.segs = st.segs
  age : lst.hist.length ≤ st.age
  next : lst.next ≤ 1048576 * st.age
  old : st.age ≤ 30000
theorem costs_le (tl : List LRec) (h1 : List FRec) (es : List FEnt) (hk : tl.map LRec.key = h1.map frk) (hm : ∀ p x, (p, some x) ∈ h1 → x.may = true) (he : h1.map (·.2) = es.map fun e => some e.x) (ho : tl.map (·.opens) = es.map (·.opens)) : costs tl ≤ fcosts es := by
  induction tl generalizing h1 es with
  | nil => exact Nat.zero_le _
  | cons r tl ih =>
    cases h1 with
    | nil => simp at hk
    | cons a h1 =>
      cases es with
      | nil => simp at he
      | cons e es =>
        simp only [List.map_cons, List.cons.injEq] at hk he ho
        have := ih h1 es hk.2 (fun p x hx => hm p x (List.mem_cons_of_mem _ hx)) he.2 ho.2
        have hb : r.body = e.x.bytes := by
          have := hk.1
          unfold LRec.key frk at this
          rw [he.1] at this
          injection this
        have hx : e.x.may = true := hm a.1 e.x (by obtain ⟨p, y⟩ := a; simp only at he; rw [he.1]; exact List.mem_cons_self)
        have hl := It.bytes_le hx
        have e1 : costs (r :: tl) = r.cost + costs tl := by simp [costs]
        have e2 : fcosts (e :: es) = e.cost + fcosts es := by simp [fcosts]
        rw [e1, e2]
        unfold LRec.cost FEnt.cost
        rw [hb, ho.1]
        omega
section
variable {st : FSt} {lst : LSt} {hs : List FRec}
theorem FM.len (h : FM st lst hs) : lst.hist.length = hs.length := by have := congrArg List.length h.key; simpa using this
theorem FM.pos (h : FM st lst hs) : lst.hist.map (·.pos) = hs.map (·.1) := by
  have := congrArg (List.map Prod.fst) h.key
  rw [List.map_map, List.map_map] at this
  exact this
theorem FM.recs (h : FM st lst hs) : lst.recs = (hs.drop lst.gone).map frk := by
  unfold LSt.recs
  rw [List.map_drop, h.key, ← List.map_drop]
theorem FM.ok (h : FM st lst hs) (ho : lst.Ok) : st.Ok := by
  obtain ⟨h0, h1, e, -, he, hop, hg⟩ := h.cut
  have hlen := h.len
  have hl1 : h1.length = st.ents.length := by have := congrArg List.length he; simpa using this
  have hlen2 : hs.length = h0.length + h1.length := by rw [e, List.length_append]
  have hgo := ho.gone
  refine ⟨by rw [← h.segs]; exact ho.segs, fun en hen => ?_, by omega, fun i hi hc => ?_⟩
  · have : some en.x ∈ h1.map (·.2) := by rw [he]; exact List.mem_map.2 ⟨en, hen, rfl⟩
    obtain ⟨a, ha, hax⟩ := List.mem_map.1 this
    refine h.may a.1 en.x ?_
    rw [e]
    obtain ⟨p, y⟩ := a
    simp only at hax
    subst hax
    exact List.mem_append_right _ ha
  · have hd : (lst.hist.drop (h0.length + i)).map LRec.key = (h1.drop i).map frk := by
      rw [List.map_drop, h.key, e, List.map_append, List.drop_append, List.map_drop]
      rw [List.drop_eq_nil_of_le (by simp), List.nil_append, List.length_map]
      congr 1; omega
    have := costs_le (lst.hist.drop (h0.length + i)) (h1.drop i) (st.ents.drop i) hd (fun p x hx => h.may p x (by rw [e]; exact List.mem_append_right _ (List.mem_of_mem_drop hx)))
      (by rw [List.map_drop, he, List.map_drop]) (by rw [← List.drop_drop, List.map_drop, hop, List.map_drop])
    have := ho.kept (h0.length + i) (by omega) (by rw [h.segs]; omega)
    omega
theorem sp_plain (h1 : List FRec) (es : List FEnt) (he : h1.map (·.2) = es.map fun e => some e.x) (k : ByteArray) : (sp h1 k).map (·.2) = (fLast es 0 k).bind fun x => if x.gone then none else some x := by
  obtain ⟨n, hn⟩ : ∃ n, h1.length = n := ⟨_, rfl⟩
  induction n generalizing h1 es with
  | zero =>
    have : h1 = [] := List.eq_nil_of_length_eq_zero hn
    subst this
    cases es with
    | nil => rfl
    | cons e es => simp at he
  | succ n ih =>
    obtain ⟨a, b, rfl⟩ := snoc_is h1 (fun e => by rw [e] at hn; simp at hn)
    obtain ⟨c, d, rfl⟩ := snoc_is es (fun e => by rw [e] at he; simp at he)
    rw [List.map_append, List.map_append] at he
    have hl : (a.map (·.2)).length = (c.map fun e => some e.x).length := by
      have := congrArg List.length he
      simpa using this
    obtain ⟨e1, e2⟩ := List.append_inj he hl
    have hi := ih a c e1 (by simpa using hn)
    rw [sp_snoc, fLast_snoc]
    obtain ⟨q, y⟩ := b
    simp only [List.map_cons, List.map_nil, List.cons.injEq, and_true] at e2
    subst e2
    show (if d.x.key = k then (if d.x.gone then none else some (q, d.x)) else sp a k).map (·.2) = _
    by_cases hk : d.x.key = k
    · rw [if_pos hk, if_pos hk]
      show _ = (if d.x.gone then none else some d.x)
      cases d.x.gone <;> rfl
    · rw [if_neg hk, if_neg hk]; exact hi
theorem FM.at_ (h : FM st lst hs) (k : ByteArray) : st.at_ k = (sp (hs.drop lst.gone) k).map (·.2) := by
  obtain ⟨h0, h1, e, hc, he, hop, hg⟩ := h.cut
  have hf : fLast st.ents st.gone k = fLast (st.ents.drop st.gone) 0 k := by unfold fLast; rw [List.drop_zero]
  unfold FSt.at_
  rw [hf, ← sp_plain (h1.drop st.gone) (st.ents.drop st.gone) (by rw [List.map_drop, he, List.map_drop]) k]
  congr 1
  rw [e, List.drop_append, hg]
  rcases hc with rfl | ⟨a, p, rfl⟩
  · rw [List.drop_nil, List.nil_append]
  · by_cases hl : lst.gone ≤ a.length
    · have e0 : lst.gone - (a ++ [(p, none)]).length = 0 := by simp; omega
      rw [e0, List.drop_zero, List.drop_append_of_le_length hl, sp_cut]
    · have e1 : (a ++ [(p, (none : Option It))]).drop lst.gone = [] := List.drop_eq_nil_of_le (by simp; omega)
      rw [e1, List.nil_append]
theorem FM.add (h : FM st lst hs) {x : It} (hx : x.may = true) {p pos g f y : Nat} (hg : lst.gone ≤ g) (hy : y ≤ lst.next + 1048576) (hold : st.age + 1 ≤ 30000) :
    ∃ g', st.gone ≤ g' ∧ FM ⟨st.place, st.segs, st.ents ++ [⟨x, 0⟩], g', st.age + 1⟩ ⟨p, lst.place, lst.segs, lst.hist ++ [⟨pos, x.bytes, 0⟩], g, f, y⟩ (hs ++ [(pos, some x)]) := by
  obtain ⟨h0, h1, e, hc, he, hop, hgo⟩ := h.cut
  have hlen := h.len
  have hlen2 : hs.length = h0.length + h1.length := by rw [e, List.length_append]
  refine ⟨g - h0.length, by omega, ?_, fun q z hz => ?_, ⟨h0, h1 ++ [(pos, some x)], by rw [e, List.append_assoc], hc, by simp [he], ?_, rfl⟩, h.place, h.segs, by have := h.age; simp; omega, by have := h.next; simp only; omega, hold⟩
  · simp only [List.map_append, h.key]; rfl
  · rcases List.mem_append.1 hz with hz | hz
    · exact h.may q z hz
    · cases List.mem_singleton.1 hz; exact hx
  · simp only
    rw [List.drop_append_of_le_length (by omega), List.map_append, hop, List.map_append]
    rfl
theorem FM.wiped (h : FM st lst hs) {p pos g f y : Nat} (hg : g ≤ lst.hist.length + 1) (hy : y ≤ lst.next + 1048576) (hold : st.age + 1 ≤ 30000) :
    FM ⟨st.place, st.segs, [], 0, st.age + 1⟩ ⟨p, lst.place, lst.segs, lst.hist ++ [⟨pos, [0], 0⟩], g, f, y⟩ (hs ++ [(pos, none)]) := by
  have hlen := h.len
  refine ⟨?_, fun q z hz => ?_, ⟨hs ++ [(pos, none)], [], by simp, .inr ⟨hs, pos, rfl⟩, rfl, ?_, ?_⟩, h.place, h.segs, by have := h.age; simp; omega, by have := h.next; simp only; omega, hold⟩
  · simp only [List.map_append, h.key]; rfl
  · rcases List.mem_append.1 hz with hz | hz
    · exact h.may q z hz
    · cases List.mem_singleton.1 hz
  · rw [List.drop_eq_nil_of_le (by simp; omega)]; rfl
  · simp only [List.length_append, List.length_cons, List.length_nil]; omega
theorem opened_key (l : List LRec) : (opened l).map LRec.key = l.map LRec.key := by
  by_cases hl : l = []
  · subst hl; rfl
  · obtain ⟨a, r, rfl⟩ := snoc_is l hl
    rw [opened_snoc]; simp [LRec.key]
theorem opened_length (l : List LRec) : (opened l).length = l.length := by
  have := congrArg List.length (opened_key l)
  simpa using this
theorem opened_opens (l : List LRec) (n : Nat) (es : List FEnt) (h : (l.drop n).map (·.opens) = es.map (·.opens)) : ((opened l).drop n).map (·.opens) = (fopened es).map (·.opens) := by
  by_cases hl : l = []
  · subst hl
    cases es with
    | nil => show (([] : List LRec).drop n).map _ = _; rw [List.drop_nil]; rfl
    | cons e es => simp at h
  · obtain ⟨a, r, rfl⟩ := snoc_is l hl
    rw [opened_snoc]
    by_cases hn : n ≤ a.length
    · rw [List.drop_append_of_le_length hn] at h ⊢
      obtain ⟨c, d, rfl⟩ := snoc_is es (fun e => by rw [e] at h; simp at h)
      rw [fopened_snoc]
      rw [List.map_append, List.map_append] at h ⊢
      have hh : ((a.drop n).map (·.opens)).length = (c.map (·.opens)).length := by
        have := congrArg List.length h
        simpa using this
      obtain ⟨e1, e2⟩ := List.append_inj h hh
      simp only [List.map_cons, List.map_nil, List.cons.injEq, and_true] at e2
      rw [e1]
      simp [e2]
    · rw [List.drop_eq_nil_of_le (by simp; omega)] at h ⊢
      cases es with
      | nil => rfl
      | cons e es => simp at h
theorem fopened_x (l : List FEnt) : (fopened l).map (fun e => some e.x) = l.map fun e => some e.x := by
  by_cases hl : l = []
  · subst hl; rfl
  · obtain ⟨a, r, rfl⟩ := snoc_is l hl
    rw [fopened_snoc]; simp
theorem FM.opened (h : FM st lst hs) {p f y : Nat} (hy : y ≤ lst.next + 1048576) (hold : st.age + 1 ≤ 30000) :
    FM ⟨st.place, st.segs, fopened st.ents, st.gone, st.age + 1⟩ ⟨p, lst.place, lst.segs, opened lst.hist, lst.gone, f, y⟩ hs := by
  obtain ⟨h0, h1, e, hc, he, hop, hgo⟩ := h.cut
  refine ⟨by simp only; rw [opened_key]; exact h.key, h.may, ⟨h0, h1, e, hc, by simp only; rw [fopened_x]; exact he, opened_opens _ _ _ hop, hgo⟩, h.place, h.segs, by have := h.age; simp only; rw [opened_length]; omega, by have := h.next; simp only; omega, hold⟩
theorem pos_ge {hist : List LRec} {hs : List FRec} (h : hist.map (·.pos) = hs.map (·.1)) {P : Nat → Prop} (n : Nat) (hp : ∀ r ∈ hist.drop n, P r.pos) : ∀ a ∈ hs.drop n, P a.1 := by
  intro a ha
  have : a.1 ∈ (hs.drop n).map (·.1) := List.mem_map.2 ⟨a, ha, rfl⟩
  rw [List.map_drop, ← h, ← List.map_drop] at this
  obtain ⟨r, hr, e⟩ := List.mem_map.1 this
  rw [← e]; exact hp r hr
theorem pos_lt {hist : List LRec} {hs : List FRec} (h : hist.map (·.pos) = hs.map (·.1)) {P : Nat → Prop} (n : Nat) (hp : ∀ r ∈ hist.take n, P r.pos) : ∀ a ∈ hs.take n, P a.1 := by
  intro a ha
  have : a.1 ∈ (hs.take n).map (·.1) := List.mem_map.2 ⟨a, ha, rfl⟩
  rw [List.map_take, ← h, ← List.map_take] at this
  obtain ⟨r, hr, e⟩ := List.mem_map.1 this
  rw [← e]; exact hp r hr
theorem ix_kept {ix : IxSt} {hs : List FRec} {a : FRec} {n g g' f f' : Nat} (h : IxSays ix (hs.drop g ++ [a]) n) (hgl : g ≤ hs.length) (hg : g ≤ g') (h1 : ∀ r ∈ hs.drop g, f ≤ r.1) (ha : f ≤ a.1) (h2 : ∀ r ∈ (hs ++ [a]).take g', r.1 < f') (h3 : ∀ r ∈ (hs ++ [a]).drop g', f' ≤ r.1) :
    (f' = f → IxSays ix ((hs ++ [a]).drop g') n) ∧ IxSays (ixBelow ix (f' : Int)) ((hs ++ [a]).drop g') n := by
  have e : hs.drop g ++ [a] = (hs ++ [a]).drop g := by rw [List.drop_append_of_le_length hgl]
  rw [e] at h
  have e2 : (hs ++ [a]).drop g = ((hs ++ [a]).drop g).take (g' - g) ++ (hs ++ [a]).drop g' := by
    have := List.take_append_drop (g' - g) ((hs ++ [a]).drop g)
    rw [List.drop_drop, show g + (g' - g) = g' by omega] at this
    exact this.symm
  have h4 : ∀ r ∈ ((hs ++ [a]).drop g).take (g' - g), r.1 < f' := by
    intro r hr
    refine h2 r ?_
    rw [← List.drop_take] at hr
    exact List.mem_of_mem_drop hr
  refine ⟨fun hf => ?_, ?_⟩
  · have : ((hs ++ [a]).drop g).take (g' - g) = [] := by
      refine List.eq_nil_iff_forall_not_mem.2 fun r hr => ?_
      have h5 := h4 r hr
      have h6 : f ≤ r.1 := by
        have hm := List.mem_of_mem_take hr
        rw [List.drop_append_of_le_length hgl] at hm
        rcases List.mem_append.1 hm with hm | hm
        · exact h1 r hm
        · rw [List.mem_singleton.1 hm]; exact ha
      omega
    rw [e2, this, List.nil_append] at h
    exact h
  · rw [e2] at h
    exact h.below f' h4 h3
end
end Go.Proofs.YtoepgbpmcjnbmaaGreatDoor
end
/-
  THE PROGRAM's CACHE IN MEMORY: its log, its index, and what both say.
-/
section
namespace Go.Proofs.YtoepgbpmcjnbmaaGreatDoor
open Go Go.RowKit Go.Joins
def RecsC (w : World) (A : Option Addr) (G : Nat → Prop) (l : List (Nat × List UInt8)) : Prop :=
  l ≠ [] → ∃ b o, A = some ⟨b, o, none⟩ ∧ G b ∧ ∀ i (hi : i < l.length), w.cell? ⟨b, o + i * 2, none⟩ = some (.int .i64 ((l[i].1 : Nat) : Int)) ∧
    ∃ B c, w.cell? ⟨b, o + i * 2 + 1, none⟩ = some (.slice B l[i].2.length c) ∧ l[i].2.length ≤ c ∧ c ≤ maxLen ∧ Row w B G (bcells l[i].2)
theorem RecsC.keep {w w' : World} {A : Option Addr} {G : Nat → Prop} {l : List (Nat × List UInt8)} (h : RecsC w A G l) (hk : Keeps G w w') : RecsC w' A G l := fun hne => by
  obtain ⟨b, o, e, hG, hc⟩ := h hne
  refine ⟨b, o, e, hG, fun i hi => ?_⟩
  obtain ⟨c0, B, c, c1, h1, h2, h3⟩ := hc i hi
  exact ⟨hk.cell c0 hG, B, c, hk.cell c1 hG, h1, h2, h3.keep hk⟩
structure Slog2 extends SlogOK where
  past : ∀ {w : World} {q : Nat} {F : Foot} {st : LSt} {s : SDev}, rep w q F st s → st.first ≤ st.next ∧ ∀ r ∈ st.hist.take st.gone, r.pos < st.first
  first2 : ∀ (w : World) (q : Nat) (F : Foot) (s : SDev) (st : LSt), rep w q F st s → Calls Tryz.prog 65 #[.pointer (some ⟨q, 0, none⟩)] w fun e w' => e = .returned (.int .i64 (st.first : Int)) ∧ w' = w
  all2 : ∀ (w : World) (p q : Nat) (F Fs : Foot) (s : SDev) (st : LSt), DAt w p F s → rep w q Fs st s → st.dev = p → T w → st.place + 8 * st.segs ≤ s.now.length →
    Calls Tryz.prog 33 #[.pointer (some ⟨q, 0, none⟩)] w fun e w' => ∃ A c, e = .returned (.slice A st.recs.length c) ∧ st.recs.length ≤ c ∧ c ≤ maxLen ∧ RecsC w' A (fun b => w.heap.size ≤ b ∧ b < w'.heap.size) st.recs ∧ Keeps (fun _ => True) w w'
  next2 : ∀ (w : World) (q : Nat) (F : Foot) (s : SDev) (st : LSt), rep w q F st s → Calls Tryz.prog 44 #[.pointer (some ⟨q, 0, none⟩)] w fun e w' => e = .returned (.int .i64 (st.next : Int)) ∧ w' = w
def cfoot (q : Nat) (Fl Fi : Foot) : Foot := ⟨fun b => b = q ∨ Fl.M b ∨ Fi.M b, fun b => Fl.I b ∨ Fi.I b⟩
theorem cfoot_all {q : Nat} {Fl Fi : Foot} {b : Nat} : (cfoot q Fl Fi).all b ↔ b = q ∨ Fl.all b ∨ Fi.all b := by
  unfold cfoot Foot.all
  constructor
  · rintro ((h | h | h) | (h | h))
    · exact .inl h
    · exact .inr (.inl (.inl h))
    · exact .inr (.inr (.inl h))
    · exact .inr (.inl (.inr h))
    · exact .inr (.inr (.inr h))
  · rintro (h | (h | h) | (h | h))
    · exact .inl (.inl h)
    · exact .inl (.inr (.inl h))
    · exact .inr (.inl h)
    · exact .inl (.inr (.inr h))
    · exact .inr (.inr h)
def CBlk (w : World) (q lq iq : Nat) (lo : Int) : Prop := w.heap[q]? = some (.cells #[.pointer (some ⟨lq, 0, none⟩), .pointer (some ⟨iq, 0, none⟩), .int .i64 lo] 75 (0, 0))
section
variable {w w' : World} {q lq iq : Nat} {lo : Int} {G : Nat → Prop}
theorem CBlk.keep (h : CBlk w q lq iq lo) (hk : Keeps G w w') (hq : G q) : CBlk w' q lq iq lo := (hk.block q hq (Array.getElem?_eq_some_iff.1 h).1).trans h
theorem CBlk.lt (h : CBlk w q lq iq lo) : q < w.heap.size := (Array.getElem?_eq_some_iff.1 h).1
theorem CBlk.c0 (h : CBlk w q lq iq lo) : w.cell? ⟨q, 0, none⟩ = some (.pointer (some ⟨lq, 0, none⟩)) := (cell_of_block h 0).trans rfl
theorem CBlk.c1 (h : CBlk w q lq iq lo) : w.cell? ⟨q, 1, none⟩ = some (.pointer (some ⟨iq, 0, none⟩)) := (cell_of_block h 1).trans rfl
theorem CBlk.c2 (h : CBlk w q lq iq lo) : w.cell? ⟨q, 2, none⟩ = some (.int .i64 lo) := (cell_of_block h 2).trans rfl
theorem CBlk.f (h : CBlk w q lq iq lo) (i : Nat) : w.frozen? ⟨q, i, none⟩ = false := unfrozen_of_block h i
theorem CBlk.set1 (h : CBlk w q lq iq lo) (iq' : Nat) : CBlk (w.setCell ⟨q, 1, none⟩ (.pointer (some ⟨iq', 0, none⟩))) q lq iq' lo := (block_setCell h _).trans rfl
theorem CBlk.set2 (h : CBlk w q lq iq lo) (lo' : Int) : CBlk (w.setCell ⟨q, 2, none⟩ (.int .i64 lo')) q lq iq lo' := (block_setCell h _).trans rfl
end
structure CAt (S : Slog2) (I : IndexOK) (w : World) (p q lq iq : Nat) (Fl Fi : Foot) (lo : Int) (lst : LSt) (ix : IxSt) (s : SDev) : Prop where
  blk : CBlk w q lq iq lo
  l : S.rep w lq Fl lst s
  i : I.rep w iq Fi ix
  on : lst.dev = p
  ap : Apart Fl Fi
  ql : ¬ Fl.all q
  qi : ¬ Fi.all q
section
variable {S : Slog2} {I : IndexOK} {w w' : World} {p q lq iq : Nat} {Fl Fi : Foot} {lo : Int} {lst : LSt} {ix : IxSt} {s : SDev}
theorem CAt.keep (h : CAt S I w p q lq iq Fl Fi lo lst ix s) (hk : Keeps (cfoot q Fl Fi).all w w') : CAt S I w' p q lq iq Fl Fi lo lst ix s :=
  ⟨h.blk.keep hk (cfoot_all.2 (.inl rfl)), S.keep h.l (hk.mono fun _b _ hb => cfoot_all.2 (.inr (.inl hb))), I.keep h.i (hk.mono fun _b _ hb => cfoot_all.2 (.inr (.inr hb))), h.on, h.ap, h.ql, h.qi⟩
theorem CAt.kp (h : CAt S I w p q lq iq Fl Fi lo lst ix s) (hk : Kp w w') : CAt S I w' p q lq iq Fl Fi lo lst ix s := h.keep (hk.mono fun _ _ _ => trivial)
theorem CAt.lt (h : CAt S I w p q lq iq Fl Fi lo lst ix s) : ∀ b, (cfoot q Fl Fi).all b → b < w.heap.size := fun b hb => by
  rcases cfoot_all.1 hb with rfl | hb | hb
  · exact h.blk.lt
  · exact S.lt h.l b hb
  · exact I.lt h.i b hb
end
def flashRep (S : Slog2) (I : IndexOK) (w : World) (p q : Nat) (Fs : Foot) (st : FSt) (s : SDev) : Prop :=
  ∃ (lq iq : Nat) (Fl Fi : Foot) (lo : Int) (lst : LSt) (ix : IxSt) (hs : List FRec), Fs = cfoot q Fl Fi ∧ CAt S I w p q lq iq Fl Fi lo lst ix s ∧ FM st lst hs ∧ IxSays ix (hs.drop lst.gone) st.age
def flashDisk (S : Slog2) (st : FSt) (rows : List (List UInt8)) : Prop := ∃ (lst : LSt) (hs : List FRec), S.disk lst rows ∧ FM st lst hs
section
variable {S : Slog2} {I : IndexOK} {w w' : World} {p q : Nat} {Fs : Foot} {st : FSt} {s s' : SDev}
theorem frep_wf (h : flashRep S I w p q Fs st s) : st.Ok := by
  obtain ⟨lq, iq, Fl, Fi, lo, lst, ix, hs, rfl, hc, hm, -⟩ := h
  exact hm.ok (S.wf hc.l)
theorem frep_age (h : flashRep S I w p q Fs st s) : st.age ≤ 30000 := by
  obtain ⟨lq, iq, Fl, Fi, lo, lst, ix, hs, rfl, hc, hm, -⟩ := h
  exact hm.old
theorem frep_lt (h : flashRep S I w p q Fs st s) : ∀ b, Fs.all b → b < w.heap.size := by
  obtain ⟨lq, iq, Fl, Fi, lo, lst, ix, hs, rfl, hc, hm, -⟩ := h
  exact hc.lt
theorem frep_keep (h : flashRep S I w p q Fs st s) (hk : Keeps Fs.all w w') : flashRep S I w' p q Fs st s := by
  obtain ⟨lq, iq, Fl, Fi, lo, lst, ix, hs, rfl, hc, hm⟩ := h
  exact ⟨lq, iq, Fl, Fi, lo, lst, ix, hs, rfl, hc.keep hk, hm⟩
theorem FM.has {lst : LSt} {hs : List FRec} (hm : FM st lst hs) (i : Nat) : lst.has i ↔ st.has i := by
  unfold LSt.has FSt.has
  rw [hm.place, hm.segs]
theorem frep_other (h : flashRep S I w p q Fs st s) (hl : s'.now.length = s.now.length) (ho : ∀ i, st.has i → s'.now.getD i [] = s.now.getD i []) : flashRep S I w p q Fs st s' := by
  obtain ⟨lq, iq, Fl, Fi, lo, lst, ix, hs, rfl, hc, hm, hx⟩ := h
  exact ⟨lq, iq, Fl, Fi, lo, lst, ix, hs, rfl, { hc with l := S.other hc.l hl fun i hi => ho i ((hm.has i).1 hi) }, hm, hx⟩
theorem fdisk_keep {rows rows' : List (List UInt8)} (h : flashDisk S st rows) (hl : rows'.length = rows.length) (ho : ∀ i, st.has i → rows'.getD i [] = rows.getD i []) : flashDisk S st rows' := by
  obtain ⟨lst, hs, hd, hm⟩ := h
  exact ⟨lst, hs, S.diskKeep hd hl fun i hi => ho i ((hm.has i).1 hi), hm⟩
theorem FGo.trans {w w1 w2 : World} {F F1 F2 Fs1 Fs2 : Foot} {s s1 s2 : SDev} {st1 : FSt} {n m : Nat} (h : FGo w w1 F F1 Fs Fs1 s s1 st n) (k : FGo w1 w2 F1 F2 Fs1 Fs2 s1 s2 st1 m) (hst : ∀ i, st1.has i ↔ st.has i) : FGo w w2 F F2 Fs Fs2 s s2 st (n + m) := by
  have hsz := h.k.size
  have all1 : ∀ b, F1.all b → F.all b ∨ w.heap.size ≤ b := fun b hb => by
    rcases hb with hb | hb
    · rcases h.f1 b hb with h1 | h1
      · exact .inl (.inl h1)
      · exact .inr h1
    · exact h.f2 b hb
  have all2 : ∀ b, Fs1.all b → Fs.all b ∨ w.heap.size ≤ b := fun b hb => by
    rcases hb with hb | hb
    · rcases h.f3 b hb with h1 | h1
      · exact .inl (.inl h1)
      · exact .inr h1
    · exact h.f4 b hb
  refine ⟨k.ap, ⟨k.k.os.trans h.k.os, k.k.tape.trans h.k.tape, k.k.output.trans h.k.output, Nat.le_trans hsz k.k.size, fun b hb hlt => ?_⟩, fun b hb => ?_, fun b hb => ?_, fun b hb => ?_, fun b hb => ?_, k.len.trans h.len, fun i hi => (k.out i fun hh => hi ((hst i).1 hh)).trans (h.out i hi), ?_⟩
  · refine (k.k.block b ⟨fun hm => ?_, fun hm => ?_⟩ (Nat.lt_of_lt_of_le hlt hsz)).trans (h.k.block b hb hlt)
    · rcases h.f1 b hm with h1 | h1
      · exact hb.1 h1
      · omega
    · rcases h.f3 b hm with h1 | h1
      · exact hb.2 h1
      · omega
  · rcases k.f1 b hb with h1 | h1
    · exact h.f1 b h1
    · exact .inr (Nat.le_trans hsz h1)
  · rcases k.f2 b hb with h1 | h1
    · exact all1 b h1
    · exact .inr (Nat.le_trans hsz h1)
  · rcases k.f3 b hb with h1 | h1
    · exact h.f3 b h1
    · exact .inr (Nat.le_trans hsz h1)
  · rcases k.f4 b hb with h1 | h1
    · exact all2 b h1
    · exact .inr (Nat.le_trans hsz h1)
  · have := h.calls; have := k.calls; omega
end
structure Cb (S : Slog2) (I : IndexOK) (W w : World) (p q : Nat) (F Fs : Foot) (s : SDev) (st : FSt) : Prop where
  d : DAt w p F s
  r : flashRep S I w p q Fs st s
  ap : Apart F Fs
  kp : Kp W w
  gf : ∀ b, F.all b → W.heap.size ≤ b
  gs : ∀ b, Fs.all b → W.heap.size ≤ b
  room : st.place + 8 * st.segs ≤ s.now.length
section
variable {S : Slog2} {I : IndexOK} {W w w' : World} {p q : Nat} {F F' Fs Fs' : Foot} {st st' : FSt} {s s' : SDev} {n : Nat}
theorem Cb.keep (h : Cb S I W w p q F Fs s st) (hk : Kp w w') : Cb S I W w' p q F Fs s st :=
  ⟨h.d.keep (hk.mono fun _ _ _ => trivial), frep_keep h.r (hk.mono fun _ _ _ => trivial), h.ap, h.kp.trans hk, h.gf, h.gs, h.room⟩
theorem Cb.moved (h : Cb S I W w p q F Fs s st) (hd : DAt w' p F' s') (hr : flashRep S I w' p q Fs' st' s') (hpl : st'.place = st.place) (hsg : st'.segs = st.segs) (hgo : FGo w w' F F' Fs Fs' s s' st n) : Cb S I W w' p q F' Fs' s' st' := by
  have hsz := h.kp.size
  refine ⟨hd, hr, hgo.ap, ?_, fun b hb => ?_, fun b hb => ?_, by rw [hpl, hsg, hgo.len]; exact h.room⟩
  · exact ⟨hgo.k.os.trans h.kp.os, hgo.k.tape.trans h.kp.tape, hgo.k.output.trans h.kp.output, Nat.le_trans hsz hgo.k.size, fun b _ hb =>
      (hgo.k.block b ⟨fun hm => by have := h.gf b (.inl hm); omega, fun hm => by have := h.gs b (.inl hm); omega⟩ (by omega)).trans (h.kp.block b trivial hb)⟩
  · rcases hb with hb | hb
    · rcases hgo.f1 b hb with h1 | h1
      · exact h.gf b (.inl h1)
      · omega
    · rcases hgo.f2 b hb with h1 | h1
      · exact h.gf b h1
      · omega
  · rcases hb with hb | hb
    · rcases hgo.f3 b hb with h1 | h1
      · exact h.gs b (.inl h1)
      · omega
    · rcases hgo.f4 b hb with h1 | h1
      · exact h.gs b h1
      · omega
theorem FGo.still (h : Cb S I W w p q F Fs s st) (hk : Kp w w') : FGo w w' F F Fs Fs s s st 0 :=
  ⟨h.ap, hk.mono fun _ _ _ => trivial, fun _ hb => .inl hb, fun _ hb => .inl (.inr hb), fun _ hb => .inl hb, fun _ hb => .inl (.inr hb), rfl, fun _ _ => rfl, Nat.le_add_right _ _⟩
end
end Go.Proofs.YtoepgbpmcjnbmaaGreatDoor
end
/-
  THE PROGRAM's CACHE: entry, gone, within, down.
-/
section
namespace Go.Proofs.YtoepgbpmcjnbmaaGreatDoor
open Go Go.RowKit Go.Joins
theorem dec_one (J : ItemOK) (w : World) (hT : J.T w) (A : Option Addr) (n c : Nat) (x : It) (hm : x.may = true) (hr : Row w A (fun _ => True) (bcells x.bytes)) (hn : n = x.bytes.length) (hc : n ≤ c) (hcm : c ≤ maxLen) :
    Calls Tryz.prog 83 #[.slice A n c] w fun e w' => Kp w w' ∧ ∃ (b o k : Nat), e = .returned (.tuple #[.slice (some ⟨b, o, none⟩) 1 k, .int .i64 0]) ∧ w'.cell? ⟨b, o, none⟩ = some (.string x.key) ∧ w'.cell? ⟨b, o + 1, none⟩ = some (.string x.val) ∧ w'.cell? ⟨b, o + 2, none⟩ = some (.int .i64 x.till) ∧ w'.cell? ⟨b, o + 3, none⟩ = some (.bool x.gone) := by
  subst hn
  have hl := It.bytes_len hm
  have e1 : bytesOf [x] = x.bytes := by simp [bytesOf]
  have ha : [x].all It.may = true := by simp [hm]
  refine (J.decode w A c x.bytes hT hr hc hcm (by omega)).mono ?_
  rintro e w' ⟨hk, ⟨B, k, l, rfl, hne, hall, hb, h1, h2, hi⟩ | ⟨hno, -⟩⟩
  · obtain rfl : l = [x] := bytesOf_inj hall ha (by rw [hb, e1])
    obtain ⟨b, o, rfl, -, c0, c1, c2, c3⟩ := hi 0 (by simp)
    rw [show o + 0 * 4 = o by omega] at c0 c1 c2 c3
    exact ⟨hk, b, o, k, rfl, c0, c1, c2, c3⟩
  · exact absurd e1 (hno [x] (by simp) ha)
set_option maxRecDepth 100000 in
set_option maxHeartbeats 1000000 in
theorem centry (J : ItemOK) (w : World) (hT : J.T w) (A : Option Addr) (n c : Nat) (x : It) (hm : x.may = true) (hr : Row w A (fun _ => True) (bcells x.bytes)) (hn : n = x.bytes.length) (hc : n ≤ c) (hcm : c ≤ maxLen) :
    Calls Tryz.prog 61 #[.slice A n c] w fun e w' => e = .returned (.tuple #[.agg #[.string x.key, .string x.val, .int .i64 x.till, .bool x.gone], .bool true]) ∧ Kp w w' := by
  obtain ⟨w0, hw0⟩ : ∃ w0, w.alloc (.cells itZ 35) = w0 := ⟨_, rfl⟩
  have HW0 := Lib.hid (show w.alloc (.cells #[.string ⟨#[]⟩, .string ⟨#[]⟩, .int .i64 0, .bool false] 35) = w0 from hw0)
  have hb0 : w0.heap[w.heap.size]? = some (.cells itZ 35 (0, 0)) := by rw [← hw0]; exact heap_alloc_new w _
  have hk0 : Kp w w0 := by rw [← hw0]; exact (Keeps.refl _ w).alloc _
  have hz0 : w.heap.size < w0.heap.size := by rw [← hw0]; simp
  have HD := Lib.hid (dec_one J w0 (J.tk hT hk0) A n c x hm (hr.keep hk0) hn hc hcm)
  have HK0 := Lib.hid hk0
  have HB0 := Lib.hid hb0
  have HZ0 := Lib.hid hz0
  clear hr hn hc hcm hm hw0 hb0 hk0 hz0
  go_enter Tryz.func61, Tryz.ntmps61
  go_wp2_with (rw [HW0.out])
  try rw [HW0.out]
  refine (show Calls _ _ _ _ _ from HD.out).mono ?_
  rintro e w1 ⟨hk, b, o, k, rfl, c0, c1, c2, c3⟩
  have hb1 := (hk.block w.heap.size trivial HZ0.out).trans HB0.out
  have HRES := res4 w w1 hb1 (HK0.out.trans hk)
  obtain ⟨f0, f1, f2, f3, r0, r1, r2, r3⟩ := res4u w w1 hb1
  clear hb1 hk
  obtain ⟨d0, d1, d2, d3, HK⟩ := HRES.out (.string x.key) (.string x.val) (.int .i64 x.till) (.bool x.gone)
  have HKK := Lib.hid HK
  clear HK
  go_wp2_with fail
  exact bodyPost_ret (v := .tuple #[.agg #[.string x.key, .string x.val, .int .i64 x.till, .bool x.gone], .bool true]) (by simp [results, Tryz.results61, go_sem, d0, d1, d2, d3]) rfl ⟨rfl, HKK.out⟩
end Go.Proofs.YtoepgbpmcjnbmaaGreatDoor
end
/-
  THE PROGRAM's CACHE: down, gone, within.
-/
section
namespace Go.Proofs.YtoepgbpmcjnbmaaGreatDoor
open Go Go.RowKit Go.Joins
theorem cdown (w : World) (q lq : Nat) (c0 : w.cell? ⟨q, 0, none⟩ = some (.pointer (some ⟨lq, 0, none⟩))) :
    Calls Tryz.prog 36 #[.pointer (some ⟨q, 0, none⟩)] w fun e w' => e = .returned (.bool false) ∧ w = w' := by
  go_enter Tryz.func36, Tryz.ntmps36
  go_wp2_with fail
  go_ret
  exact ⟨rfl, rfl⟩
theorem cdown_nil (w : World) :
    Calls Tryz.prog 36 #[.pointer none] w fun e w' => e = .returned (.bool true) ∧ w = w' := by
  go_enter Tryz.func36, Tryz.ntmps36
  go_wp2_with fail
  go_ret
  exact ⟨rfl, rfl⟩
theorem cgone (w : World) (k : ByteArray) :
    Calls Tryz.prog 43 #[.string k] w fun e w' => e = .returned (.agg #[.string k, .string ⟨#[]⟩, .int .i64 0, .bool true]) ∧ Kp w w' := by
  obtain ⟨w0, hw0⟩ : ∃ w0, w.alloc (.cells itZ 35) = w0 := ⟨_, rfl⟩
  have HW0 := Lib.hid (show w.alloc (.cells #[.string ⟨#[]⟩, .string ⟨#[]⟩, .int .i64 0, .bool false] 35) = w0 from hw0)
  have hb0 : w0.heap[w.heap.size]? = some (.cells itZ 35 (0, 0)) := by rw [← hw0]; exact heap_alloc_new w _
  have hk0 : Kp w w0 := by rw [← hw0]; exact (Keeps.refl _ w).alloc _
  have HRES := res4 w w0 hb0 hk0
  obtain ⟨f0, f1, f2, f3, r0, r1, r2, r3⟩ := res4u w w0 hb0
  clear hb0 hk0 hw0
  obtain ⟨d0, d1, d2, d3, HK⟩ := HRES.out (.string k) (.string ⟨#[]⟩) (.int .i64 0) (.bool true)
  have HKK := Lib.hid HK
  clear HK HRES
  go_enter Tryz.func43, Tryz.ntmps43
  go_wp2_with (rw [HW0.out])
  try rw [HW0.out]
  try go_wp2_with fail
  exact bodyPost_ret (v := .agg #[.string k, .string ⟨#[]⟩, .int .i64 0, .bool true]) (by simp [results, Tryz.results43, go_sem, d0, d1, d2, d3]) rfl ⟨rfl, HKK.out⟩
theorem cwithin (w : World) (h lo hi : Nat) (_h1 : h < 18446744073709551616) (_h2 : lo < 18446744073709551616) (_h3 : hi < 18446744073709551616) :
    Calls Tryz.prog 51 #[.int .u64 h, .int .u64 lo, .int .u64 hi] w fun e w' => e = .returned (.bool (decide (lo ≤ h) && decide (h ≤ hi))) ∧ w = w' := by
  rcases Nat.lt_or_ge h lo with a | a
  · have e1 : decide ((lo : Int) ≤ (h : Int)) = false := by simp; omega
    have e2 : decide (lo ≤ h) = false := by simp; omega
    rw [e2]
    go_enter Tryz.func51, Tryz.ntmps51
    go_wp2_with fail
    go_ret
    exact ⟨rfl, rfl⟩
  · have e1 : decide ((lo : Int) ≤ (h : Int)) = true := by simp; omega
    have e2 : decide (lo ≤ h) = true := by simp; omega
    rw [e2, Bool.true_and]
    go_enter Tryz.func51, Tryz.ntmps51
    go_wp2_with fail
    go_ret
    exact ⟨rfl, rfl⟩
end Go.Proofs.YtoepgbpmcjnbmaaGreatDoor
end
/-
  THE PROGRAM's CACHE: learn.
-/
section
namespace Go.Proofs.YtoepgbpmcjnbmaaGreatDoor
open Go Go.RowKit Go.Joins
structure Lrn (w w' : World) (q : Nat) (Fi Fi' : Foot) : Prop where
  k : Keeps (fun b => b ≠ q ∧ ¬ Fi.M b) w w'
  m : ∀ b, Fi'.M b → Fi.M b ∨ w.heap.size ≤ b
  i : ∀ b, Fi'.I b → Fi.all b ∨ w.heap.size ≤ b
def LearnPost (S : Slog2) (I : IndexOK) (w : World) (p q lq : Nat) (Fl Fi : Foot) (lo : Int) (lst : LSt) (s : SDev) (l : List FRec) (n : Nat) (e : Ending) (w' : World) : Prop :=
  e = .returned (.tuple #[]) ∧ ∃ (iq' : Nat) (Fi' : Foot) (ix' : IxSt), CAt S I w' p q lq iq' Fl Fi' lo lst ix' s ∧ IxSays ix' l n ∧ Lrn w w' q Fi Fi'
section
variable {S : Slog2} {I : IndexOK} {w w1 w2 : World} {p q lq iq : Nat} {Fl Fi Fi' : Foot} {lo : Int} {lst : LSt} {ix ix' : IxSt} {s : SDev}
theorem CAt.learnt (h : CAt S I w1 p q lq iq Fl Fi lo lst ix s) (hk : Kp w w1) (hlt : ∀ b, (cfoot q Fl Fi).all b → b < w.heap.size) (hr : I.rep w2 iq Fi' ix') (hs : Step Fi Fi' w1 w2) : CAt S I w2 p q lq iq Fl Fi' lo lst ix' s ∧ Lrn w w2 q Fi Fi' := by
  have hq : q < w.heap.size := hlt q (cfoot_all.2 (.inl rfl))
  have hfl : ∀ b, Fl.all b → b < w.heap.size := fun b hb => hlt b (cfoot_all.2 (.inr (.inl hb)))
  have hsz := hk.size
  have all' := hs.all
  have hqi : ¬ Fi.M q := fun hm => h.qi (.inl hm)
  refine ⟨⟨h.blk.keep hs.keeps hqi, S.keep h.l (hs.keeps.mono fun b _ hb hm => h.ap.r b hm hb), hr, h.on, ⟨fun b hb hf => ?_, fun b hb hf => ?_⟩, h.ql, fun hf => ?_⟩, ⟨?_, fun b hb => ?_, fun b hb => ?_⟩⟩
  · rcases all' b hf with h1 | h1
    · exact h.ap.l b hb h1
    · have := hfl b (.inl hb); omega
  · rcases hs.m b hb with h1 | h1
    · exact h.ap.r b h1 hf
    · have := hfl b hf; omega
  · rcases all' q hf with h1 | h1
    · exact h.qi h1
    · omega
  · exact (hk.mono fun _ _ _ => trivial).trans (hs.keeps.mono fun b _ hb => hb.2)
  · rcases hs.m b hb with h1 | h1
    · exact .inl h1
    · exact .inr (by omega)
  · rcases hs.i b hb with h1 | h1
    · exact .inl h1
    · exact .inr (by omega)
end
set_option maxRecDepth 100000 in
set_option maxHeartbeats 1000000 in
theorem learn_put (S : Slog2) (I : IndexOK) (J : ItemOK) (W w : World) (hIT : I.T W) (hJT : J.T w) (p q lq iq : Nat) (Fl Fi : Foot) (lo : Int) (lst : LSt) (ix : IxSt) (s : SDev) (h : CAt S I w p q lq iq Fl Fi lo lst ix s) (hkp : Kp W w) (hgi : ∀ b, Fi.all b → W.heap.size ≤ b)
    (l : List FRec) (n : Nat) (hx : IxSays ix l n) (hn : n ≤ 32768) (x : It) (hm : x.may = true) (hg : x.gone = false) (po : Nat) (hpo : po < 9223372036854775808) (A : Option Addr) (m c : Nat) (hr : Row w A (fun _ => True) (bcells x.bytes)) (hml : m = x.bytes.length) (hmc : m ≤ c) (hcm : c ≤ maxLen) :
    Calls Tryz.prog 34 #[.pointer (some ⟨q, 0, none⟩), .int .i64 (po : Int), .slice A m c] w (LearnPost S I w p q lq Fl Fi lo lst s (l ++ [(po, some x)]) (n + 1)) := by
  have HCV := Lib.hid (hr.to_string (P := Tryz.prog) (src := 78) (dst := 9) Tryz.underlying78 Tryz.underlying5 Tryz.underlying9 m c hml)
  have hne : ((txt x.bytes).toList == [0]) = false := by
    have h4 := x.bytes_four
    refine Bool.eq_false_iff.2 fun e => ?_
    rw [Lib.toList_data, txt_list, beq_iff_eq] at e
    rw [e] at h4
    exact absurd h4 (by decide)
  have HEN := Lib.hid (centry J w hJT A m c x hm hr hml hmc hcm)
  have HLT := Lib.hid h.lt
  have HC := Lib.hid h
  have HPOST := Lib.hid (show ∀ (w1 : World) (hk : Kp w w1), Calls Tryz.prog 63 #[.pointer (some ⟨iq, 0, none⟩), .string x.key, .int .i64 (po : Int)] w1 fun e w2 => (∃ v, e = .returned (.int .i64 v)) ∧ LearnPost S I w p q lq Fl Fi lo lst s (l ++ [(po, some x)]) (n + 1) (.returned (.tuple #[])) w2 from fun w1 hk => by
    refine (I.put W w1 iq Fi ix (h.kp hk).i hIT (hkp.trans hk) hgi (Nat.le_trans hx.len hn) x.key (po : Int) (by have := It.may_is hm; omega) ⟨by omega, by omega⟩).mono ?_
    rintro e w2 ⟨rfl, Fi', hr2, hs2⟩
    have h2 := (h.kp hk).learnt hk h.lt hr2 hs2
    exact ⟨⟨_, rfl⟩, rfl, iq, Fi', _, h2.1, hx.put hg po, h2.2⟩)
  clear h hkp hgi hx hn hm hpo hr hml hmc hcm
  go_enter Tryz.func34, Tryz.ntmps34
  go_wp2_with (rw [HCV.out])
  refine (show Calls _ _ _ _ _ from HEN.out).mono ?_
  rintro e w1 ⟨rfl, hk1⟩
  have HK1 := Lib.hid hk1
  clear hk1
  go_wp2_with fail
  have hk2 : Kp w (w1.alloc (.cells #[.string x.key, .string x.val, .int .i64 x.till, .bool false] 35)) := HK1.out.alloc _
  have x0 : (w1.alloc (.cells #[.string x.key, .string x.val, .int .i64 x.till, .bool false] 35)).cell? ⟨w1.heap.size, 0, none⟩ = some (.string x.key) := (cell_of_block (heap_alloc_new w1 _) 0).trans rfl
  generalize w1.alloc (.cells #[.string x.key, .string x.val, .int .i64 x.till, .bool false] 35) = w2 at hk2 x0 ⊢
  have c1 := hk2.cell HC.out.blk.c1 trivial
  have HK2 := Lib.hid hk2
  clear hk2
  go_still_tail 7, (by kernel_rfl)
  change wpList _ _ _ _ _ w2.drew
  have HKD := Lib.hid (HK2.out.drew)
  replace x0 := ((Keeps.refl (fun _ => True) w2).drew).cell x0 trivial
  replace c1 := ((Keeps.refl (fun _ => True) w2).drew).cell c1 trivial
  generalize w2.drew = wd at HKD x0 c1 ⊢
  go_wp2_with fail
  refine (show Calls _ _ _ _ _ from HPOST.out wd HKD.out).mono ?_
  rintro e w3 ⟨⟨v, rfl⟩, hp⟩
  go_wp2_with fail
  go_end0
  exact hp
set_option maxRecDepth 100000 in
set_option maxHeartbeats 1000000 in
theorem learn_drop (S : Slog2) (I : IndexOK) (J : ItemOK) (W w : World) (hIT : I.T W) (hJT : J.T w) (p q lq iq : Nat) (Fl Fi : Foot) (lo : Int) (lst : LSt) (ix : IxSt) (s : SDev) (h : CAt S I w p q lq iq Fl Fi lo lst ix s) (hkp : Kp W w) (hgi : ∀ b, Fi.all b → W.heap.size ≤ b)
    (l : List FRec) (n : Nat) (hx : IxSays ix l n) (hn : n ≤ 32768) (x : It) (hm : x.may = true) (hg : x.gone = true) (po : Nat) (A : Option Addr) (m c : Nat) (hr : Row w A (fun _ => True) (bcells x.bytes)) (hml : m = x.bytes.length) (hmc : m ≤ c) (hcm : c ≤ maxLen) :
    Calls Tryz.prog 34 #[.pointer (some ⟨q, 0, none⟩), .int .i64 (po : Int), .slice A m c] w (LearnPost S I w p q lq Fl Fi lo lst s (l ++ [(po, some x)]) (n + 1)) := by
  have HCV := Lib.hid (hr.to_string (P := Tryz.prog) (src := 78) (dst := 9) Tryz.underlying78 Tryz.underlying5 Tryz.underlying9 m c hml)
  have hne : ((txt x.bytes).toList == [0]) = false := by
    have h4 := x.bytes_four
    refine Bool.eq_false_iff.2 fun e => ?_
    rw [Lib.toList_data, txt_list, beq_iff_eq] at e
    rw [e] at h4
    exact absurd h4 (by decide)
  have HEN := Lib.hid (centry J w hJT A m c x hm hr hml hmc hcm)
  have HLT := Lib.hid h.lt
  have HC := Lib.hid h
  have HPOST := Lib.hid (show ∀ (w1 : World) (hk : Kp w w1), Calls Tryz.prog 62 #[.pointer (some ⟨iq, 0, none⟩), .string x.key] w1 fun e w2 => (∃ v, e = .returned (.bool v)) ∧ LearnPost S I w p q lq Fl Fi lo lst s (l ++ [(po, some x)]) (n + 1) (.returned (.tuple #[])) w2 from fun w1 hk => by
    refine (I.drop W w1 iq Fi ix (h.kp hk).i hIT (hkp.trans hk) hgi (Nat.le_trans hx.len hn) x.key (by have := It.may_is hm; omega)).mono ?_
    rintro e w2 ⟨rfl, Fi', hr2, hs2⟩
    have h2 := (h.kp hk).learnt hk h.lt hr2 hs2
    exact ⟨⟨_, rfl⟩, rfl, iq, Fi', _, h2.1, hx.drop hg po, h2.2⟩)
  clear h hkp hgi hx hn hm hr hml hmc hcm
  go_enter Tryz.func34, Tryz.ntmps34
  go_wp2_with (rw [HCV.out])
  refine (show Calls _ _ _ _ _ from HEN.out).mono ?_
  rintro e w1 ⟨rfl, hk1⟩
  have HK1 := Lib.hid hk1
  clear hk1
  go_wp2_with fail
  have hk2 : Kp w (w1.alloc (.cells #[.string x.key, .string x.val, .int .i64 x.till, .bool true] 35)) := HK1.out.alloc _
  have x0 : (w1.alloc (.cells #[.string x.key, .string x.val, .int .i64 x.till, .bool true] 35)).cell? ⟨w1.heap.size, 0, none⟩ = some (.string x.key) := (cell_of_block (heap_alloc_new w1 _) 0).trans rfl
  generalize w1.alloc (.cells #[.string x.key, .string x.val, .int .i64 x.till, .bool true] 35) = w2 at hk2 x0 ⊢
  have c1 := hk2.cell HC.out.blk.c1 trivial
  have HK2 := Lib.hid hk2
  clear hk2
  go_still_tail 6, (by kernel_rfl)
  change wpList _ _ _ _ _ w2.drew
  have HKD := Lib.hid (HK2.out.drew)
  replace x0 := ((Keeps.refl (fun _ => True) w2).drew).cell x0 trivial
  replace c1 := ((Keeps.refl (fun _ => True) w2).drew).cell c1 trivial
  generalize w2.drew = wd at HKD x0 c1 ⊢
  go_wp2_with fail
  refine (show Calls _ _ _ _ _ from HPOST.out wd HKD.out).mono ?_
  rintro e w3 ⟨⟨v, rfl⟩, hp⟩
  go_wp2_with fail
  go_end0
  exact hp
set_option maxRecDepth 100000 in
set_option maxHeartbeats 1000000 in
theorem learn_wipe (S : Slog2) (I : IndexOK) (w : World) (hIT : I.T w) (p q lq iq : Nat) (Fl Fi : Foot) (lo : Int) (lst : LSt) (ix : IxSt) (s : SDev) (h : CAt S I w p q lq iq Fl Fi lo lst ix s)
    (l : List FRec) (n : Nat) (po : Nat) (A : Option Addr) (m c : Nat) (hr : Row w A (fun _ => True) (bcells [0])) (hml : m = 1) :
    Calls Tryz.prog 34 #[.pointer (some ⟨q, 0, none⟩), .int .i64 (po : Int), .slice A m c] w (LearnPost S I w p q lq Fl Fi lo lst s (l ++ [(po, none)]) (n + 1)) := by
  have HCV := Lib.hid (hr.to_string (P := Tryz.prog) (src := 78) (dst := 9) Tryz.underlying78 Tryz.underlying5 Tryz.underlying9 m c hml)
  have hne : ((txt [0]).toList == [0]) = true := by rw [Lib.toList_data, txt_list]; decide
  have HNEW := Lib.hid (I.new w hIT)
  have HC := Lib.hid h
  clear hr hml h
  go_enter Tryz.func34, Tryz.ntmps34
  go_wp2_with (rw [HCV.out])
  refine (show Calls _ _ _ _ _ from HNEW.out).mono ?_
  rintro e w1 ⟨iq', Fi', rfl, hi, hF, hk⟩
  have hc1 := HC.out.kp hk
  have c1 := hc1.blk.c1
  have f1 := hc1.blk.f 1
  have HFIN := Lib.hid (show LearnPost S I w p q lq Fl Fi lo lst s (l ++ [(po, none)]) (n + 1) (.returned (.tuple #[])) (w1.setCell ⟨q, 1, none⟩ (.pointer (some ⟨iq', 0, none⟩))) from by
    have hq := HC.out.blk.lt
    have hfl := fun b hb => S.lt HC.out.l b hb
    have hk1 : Keeps (fun b => b ≠ q) w1 (w1.setCell ⟨q, 1, none⟩ (.pointer (some ⟨iq', 0, none⟩))) := (Keeps.refl _ w1).setCell (.inr fun e => e rfl) _
    refine ⟨rfl, iq', Fi', [], ⟨hc1.blk.set1 iq', S.keep hc1.l (hk1.mono fun b _ hb e => HC.out.ql (e ▸ hb)), I.keep hi (hk1.mono fun b _ hb e => ?_), hc1.on, ⟨fun b hb hf => ?_, fun b hb hf => ?_⟩, hc1.ql, fun hf => ?_⟩, IxSays.wipe _ _ _, ⟨(hk.mono fun _ _ _ => trivial).trans (hk1.mono fun b _ hb => hb.1), fun b hb => .inr (hF b (.inl hb)), fun b hb => .inr (hF b (.inr hb))⟩⟩
    · have := hF b hb; omega
    · have := hF b hf; have := hfl b (.inl hb); omega
    · have := hF b (.inl hb); have := hfl b hf; omega
    · have := hF q hf; omega)
  clear hi hF hk hc1
  go_wp2_with fail
  go_end0
  exact HFIN.out
theorem clearn (S : Slog2) (I : IndexOK) (J : ItemOK) (W w : World) (hIT : I.T W) (hJT : J.T w) (p q lq iq : Nat) (Fl Fi : Foot) (lo : Int) (lst : LSt) (ix : IxSt) (s : SDev) (h : CAt S I w p q lq iq Fl Fi lo lst ix s) (hkp : Kp W w) (hgi : ∀ b, Fi.all b → W.heap.size ≤ b)
    (l : List FRec) (n : Nat) (hx : IxSays ix l n) (hn : n ≤ 32768) (a : FRec) (hm : ∀ x, a.2 = some x → x.may = true) (hpo : a.1 < 9223372036854775808) (A : Option Addr) (m c : Nat) (hr : Row w A (fun _ => True) (bcells (bodyO a.2))) (hml : m = (bodyO a.2).length) (hmc : m ≤ c) (hcm : c ≤ maxLen) :
    Calls Tryz.prog 34 #[.pointer (some ⟨q, 0, none⟩), .int .i64 (a.1 : Int), .slice A m c] w (LearnPost S I w p q lq Fl Fi lo lst s (l ++ [a]) (n + 1)) := by
  obtain ⟨po, y⟩ := a
  cases y with
  | none => exact learn_wipe S I w (I.tk hIT hkp) p q lq iq Fl Fi lo lst ix s h l n po A m c hr hml
  | some x =>
    cases hg : x.gone with
    | false => exact learn_put S I J W w hIT hJT p q lq iq Fl Fi lo lst ix s h hkp hgi l n hx hn x (hm x rfl) hg po hpo A m c hr hml hmc hcm
    | true => exact learn_drop S I J W w hIT hJT p q lq iq Fl Fi lo lst ix s h hkp hgi l n hx hn x (hm x rfl) hg po A m c hr hml hmc hcm
end Go.Proofs.YtoepgbpmcjnbmaaGreatDoor
end
