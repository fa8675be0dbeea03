/-
  A MAP IN MEMORY (my own text; it knows no program): a key struck, how many keys, a range under way.
-/
import Derived.Test.YtoegdfiehjabjaaMap
import Derived.Maps.RangeWalk
import Derived.Sort.MapsRangeIn
namespace Go.Proofs.Ytoegdfiehjabjaa
open Go Go.RowKit Go.Maps

open Classical in
/-- Without the key kl. -/
noncomputable def mdel (g : Lit → Option Value) (kl : Lit) : Lit → Option Value := fun l => if l = kl then none else g l
theorem mdel_same (g : Lit → Option Value) (kl : Lit) : mdel g kl kl = none := if_pos rfl
theorem mdel_other (g : Lit → Option Value) {kl l : Lit} (h : l ≠ kl) : mdel g kl l = g l := if_neg h
theorem mdel_some {g : Lit → Option Value} {kl l : Lit} {v : Value} (h : mdel g kl l = some v) : l ≠ kl ∧ g l = some v := by
  by_cases e : l = kl
  · subst e; rw [mdel_same] at h; cases h
  · rw [mdel_other g e] at h; exact ⟨e, h⟩
theorem mput_some {g : Lit → Option Value} {kl l : Lit} {u v : Value} (h : mput g kl u l = some v) : (l = kl ∧ v = u) ∨ (l ≠ kl ∧ g l = some v) := by
  by_cases e : l = kl
  · subst e; rw [mput_same] at h; exact .inl ⟨rfl, (Option.some.inj h).symm⟩
  · rw [mput_other g u e] at h; exact .inr ⟨e, h⟩

section
variable {P : Program} {k e t : TypeId} {w w' : World} {m N : Nat} {g : Lit → Option Value} {F : Nat → Prop}
theorem MapIs.isBlk (h : MapIs P k w m N g) : ∃ es clock, w.heap[m]? = some (.map es clock) := by
  obtain ⟨D, ⟨es, clock, hb, _⟩, _⟩ := h
  exact ⟨es, clock, hb⟩
theorem MapIs.not_cells (h : MapIs P k w m N g) {b : Nat} {C : Array Value} {T : TypeId} {fr : Nat × Nat} (hb : w.heap[b]? = some (.cells C T fr)) : b ≠ m := by
  obtain ⟨es, clock, h1⟩ := h.isBlk
  rintro rfl
  rw [hb] at h1
  cases h1
/-- Behind delete(m, key). -/
theorem MapIs.drop (h : MapIs P k w m N g) (K : Keyed P k) (ht : P.underlying t = some (.map k e)) {key : Value} {kl : Lit} (hkey : keyOf P k key = some kl) (ty : TypeId) :
    ∃ w', (Builtin.delete_ #[t, k] ty #[.map (some m), key]).run P w = .ok (.tuple #[]) w' ∧ MapIs P k w' m N (mdel g kl) ∧ w.grownBy w' (some m) := by
  obtain ⟨D, hown, h1, h2⟩ := h
  obtain ⟨w', hrun, hown', hg⟩ := hown.drop K ht hkey ty
  refine ⟨w', hrun, ⟨_, hown', fun l => ?_, fun l v z hl' => ?_⟩, hg.grown⟩
  · by_cases hll : l = kl
    · subst hll; rw [has_del_same, mdel_same]; rfl
    · rw [has_del_other hll, h1, mdel_other g hll]
  · obtain ⟨hne, hg'⟩ := mdel_some hl'
    rw [atKey_del_other hne]; exact h2 l v z hg'
/-- len(m): as many as there are keys. -/
theorem MapIs.len_is (h : MapIs P k w m N g) (K : Keyed P k) (ht : P.underlying t = some (.map k e)) (ls : List Lit) (hnd : ls.Nodup) (hm : ∀ l, l ∈ ls ↔ (g l).isSome = true) (ty : TypeId) :
    (Builtin.len_ #[t] ty #[.map (some m)]).run P w = .ok (.int .i64 (ls.length : Int)) w := by
  obtain ⟨D, hown, h1, h2⟩ := h
  rw [hown.len ht ty]
  obtain ⟨es, hD, hpw, hkl⟩ := hown.entries K
  subst hD
  have hp : (es.map (·.1)).Perm ls := by
    refine (List.perm_ext_iff_of_nodup (List.pairwise_map.2 hpw) hnd).2 fun l => ?_
    rw [hm, ← h1, has_eq, List.any_eq_true, List.mem_map]
    constructor
    · rintro ⟨p, hp, rfl⟩
      exact ⟨p, hp, WideAt.sameKey_self (hkl p hp)⟩
    · rintro ⟨p, hp, hs⟩
      exact ⟨p, hp, WideAt.sameKey_eq hs⟩
  have : Maps.size (DataW.map es) = ls.length := by rw [size_eq, ← hp.length_eq, List.length_map]
  rw [this]
end

/-- A range over the map at m is under way; its iterator is block r; 'left': who is still to come. -/
def MapRg (P : Program) (k : TypeId) (w : World) (m r N : Nat) (g : Lit → Option Value) (left : Lit → Bool) (cnt : Nat) : Prop :=
  ∃ D : DataW Value, w.ranges P k asIs m r N D left cnt ∧ (∀ l, Maps.has D l = (g l).isSome) ∧ ∀ l v z, g l = some v → D.atKey l z = .held v
section
variable {P : Program} {k e t : TypeId} {w w' : World} {m r N cnt : Nat} {g : Lit → Option Value} {left : Lit → Bool}
theorem MapRg.is (h : MapRg P k w m r N g left cnt) : MapIs P k w m N g := by
  obtain ⟨D, h, h1, h2⟩ := h
  exact ⟨D, h.owns, h1, h2⟩
theorem MapRg.left_eq (h : MapRg P k w m r N g left cnt) : w.rangeLeft m r = cnt := by
  obtain ⟨D, h, h1, h2⟩ := h
  exact h.left_eq
theorem MapRg.kept {row : Option Nat} (h : MapRg P k w m r N g left cnt) (hg : w.grownBy w' row) (hb' : some m ≠ row) (hr' : some r ≠ row) : MapRg P k w' m r N g left cnt := by
  obtain ⟨D, h, h1, h2⟩ := h
  exact ⟨D, h.kept hg hb' hr', h1, h2⟩
theorem MapRg.keep {F : Nat → Prop} (h : MapRg P k w m r N g left cnt) (hk : Keeps F w w') (hm : F m) (hr : F r) : MapRg P k w' m r N g left cnt := by
  obtain ⟨D, h, h1, h2⟩ := h
  refine ⟨D, ?_, h1, h2⟩
  have l1 := h.owns.lt
  have l2 := h.lt
  obtain ⟨es, clock, since, seen, c0, hb, F', hs, hD, hr', rest⟩ := h
  exact ⟨es, clock, since, seen, c0, (hk.block m hm l1).trans hb, F', hs, hD, (hk.block r hr l2).trans hr', rest⟩
end
section
variable {P : Program} {k e t : TypeId} {w : World} {m r N cnt : Nat} {g : Lit → Option Value} {left : Lit → Bool} {ops : Array Oper} {rest : List Oper} {o : Oper} {a : Act} {Q : Exit → Act → World → Prop}
/-- 'delete(m, k)' at the operation. -/
theorem MapIs.list_drop (h : MapIs P k w m N g) (hg : o.guard = none) (om x : Operand) (hop : o.op = Op.call { callee := Callee.builtin Builtin.delete, args := #[om, x], argTypes := #[t, k] }) (K : Keyed P k) (ht : P.underlying t = some (.map k e)) (hm : a.eval om = .map (some m))
    (key : Value) (kl : Lit) (hx : a.eval x = key) (hkey : keyOf P k key = some kl)
    (hK : ∀ w', MapIs P k w' m N (mdel g kl) → w.grownBy w' (some m) → wpList P ops Q rest (a.put o.dst (.tuple #[])) w') : wpList P ops Q (o :: rest) a w := by
  refine wpList_plain hg fun K' hK' => ?_
  obtain ⟨w', hrun, r1, r2⟩ := h.drop K ht hkey o.type
  unfold Oper.wp
  simp [execOp, hop, resolve, invoke, builtin, hm, hx, hrun, Result.andThen]
  exact hK' _ _ (hK w' r1 r2)
/-- 'range m' at the operation. -/
theorem MapIs.list_range (h : MapIs P k w m N g) (hg : o.guard = none) (om : Operand) (hop : o.op = Op.range t om) (K : Keyed P k) (ht : P.underlying t = some (.map k e)) (hm : a.eval om = .map (some m))
    (hK : ∀ w' cnt, MapRg P k w' m w.heap.size N g (fun l => (g l).isSome) cnt → w.grownBy w' none → w'.heap.size = w.heap.size + 1 → wpList P ops Q rest (a.put o.dst (.pointer (some ⟨w.heap.size, 0, none⟩))) w') : wpList P ops Q (o :: rest) a w := by
  obtain ⟨D, hown, h1, h2⟩ := h
  have e1 : Maps.has D = fun l => (g l).isSome := funext h1
  exact wpList_range_own w hg om t hop k e K ht asIs m N D hm hown fun w' hr hgr hs => hK w' (Maps.size D) ⟨D, e1 ▸ hr, h1, h2⟩ hgr hs
/-- The step of a range over texts. -/
theorem MapRg.list_next (h : MapRg P k w m r N g left cnt) (hg : o.guard = none) (it : Operand) (hop : o.op = Op.next it false) (K : Keyed P k) (hks : P.underlying k = some .string) (hit : a.eval it = .pointer (some ⟨r, 0, none⟩))
    (hDone : (∀ kl, left kl = false) → wpList P ops Q rest (a.put o.dst (.tuple #[.bool false])) w)
    (hMore : ∀ (s : ByteArray) (v : Value) (w' : World) (cnt' : Nat), left (.string s.data.toList) = true → g (.string s.data.toList) = some v → MapRg P k w' m r N g (fun z => left z && !z.sameKey (.string s.data.toList)) cnt' → cnt' < cnt → w.grownBy w' (some r) → w'.heap.size = w.heap.size →
      (Instr.entry (.pointer (some ⟨r, 0, none⟩))).run P w' = .ok (.tuple #[.string s, v]) w' → wpList P ops Q rest (a.put o.dst (.tuple #[.bool true, .string s, v])) w') : wpList P ops Q (o :: rest) a w := by
  obtain ⟨D, hrg, h1, h2⟩ := h
  refine wpList_next_ranges w hg it hop k K asIs Value.string id (fun key kl hk => Maps.keyOf_string_inv hks hk) (fun v y _ => ⟨v, rfl⟩) m r N D left cnt hit hrg (fun _ h => hDone h) fun s c kl y w' cnt' hkey hl hc hat hrg' hlt hgr hs hen => ?_
  have hkl : kl = .string s.data.toList := by
    by_cases hz : s.size ≤ maxLen
    · have := WideMaps.keyOf_string_mk hks hz
      rw [this] at hkey
      exact (Option.some.inj hkey).symm
    · simp [keyOf, hks, mapKey, hz] at hkey
  subst hkl
  have hy : y = (.held c, []) := by
    simp only [asIs, id, Option.some.injEq] at hc
    exact hc.symm
  subst hy
  refine hMore s c w' cnt' hl ?_ ⟨D, hrg', h1, h2⟩ hlt hgr hs hen
  cases hgk : g (.string s.data.toList) with
  | none =>
    have hn : Maps.has D (.string s.data.toList) = false := by rw [h1, hgk]; rfl
    have h3 := hat (.map [])
    rw [atKey_of_not_has hn] at h3
    cases h3
  | some u =>
    have h3 := hat (.map [])
    rw [h2 _ u _ hgk] at h3
    injection h3 with h4
    rw [h4]
end

end Go.Proofs.Ytoegdfiehjabjaa
