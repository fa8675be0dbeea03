/-
  A MAP IN MEMORY (my own text; it knows no program): what it holds, as a function from a key's reading to the value itself.
-/
import Derived.Test.YtemkjodkmehffaaGreatDoorWords
import Derived.Maps.OwnSet
import Derived.Maps.Range
import Derived.Lib.SlKeysI
namespace Go.Proofs.YtemkjodkmehffaaGreatDoor
open Go Go.RowKit Go.Maps

/-- An element is read as the value that it is. -/
def asIs (v : Value) : Option (DataW Value × List MemPlace) := some (.held v, [])
/-- Block m is a map of at most N entries, with keys of the type k; at the key l it has g l. -/
def MapIs (P : Program) (k : TypeId) (w : World) (m N : Nat) (g : Lit → Option Value) : Prop :=
  ∃ D : DataW Value, w.ownsMap P k asIs m N D ∧ (∀ l, Maps.has D l = (g l).isSome) ∧ ∀ l v z, g l = some v → D.atKey l z = .held v

open Classical in
/-- With v at the key kl. -/
noncomputable def mput (g : Lit → Option Value) (kl : Lit) (v : Value) : Lit → Option Value := fun l => if l = kl then some v else g l
theorem mput_same (g : Lit → Option Value) (kl : Lit) (v : Value) : mput g kl v kl = some v := if_pos rfl
theorem mput_other (g : Lit → Option Value) {kl l : Lit} (v : Value) (h : l ≠ kl) : mput g kl v l = g l := if_neg h

section
variable {P : Program} {k e t : TypeId} {w w' : World} {m N : Nat} {g : Lit → Option Value} {F : Nat → Prop}
theorem MapIs.lt (h : MapIs P k w m N g) : m < w.heap.size := by
  obtain ⟨D, h, _⟩ := h
  exact h.lt
theorem MapIs.made (P : Program) (k : TypeId) (w : World) : MapIs P k (w.alloc (.map #[] 0)) w.heap.size 0 (fun _ => none) :=
  ⟨.map [], World.ownsMap_made w P k asIs, fun _ => rfl, fun _ _ _ h => by cases h⟩
theorem MapIs.keep (h : MapIs P k w m N g) (hk : Keeps F w w') (hF : F m) : MapIs P k w' m N g := by
  obtain ⟨D, hown, h1, h2⟩ := h
  have hlt := hown.lt
  obtain ⟨es, clock, hb, Ft, hs, hD⟩ := hown
  exact ⟨D, ⟨es, clock, (hk.block m hF hlt).trans hb, Ft, hs, hD⟩, h1, h2⟩
/-- It has no more entries than it has. -/
theorem MapIs.bound (h : MapIs P k w m N g) (K : Keyed P k) {n : Nat} (hn : ∀ D : DataW Value, Tidy D → (∀ l, Maps.has D l = (g l).isSome) → Maps.size D ≤ n) : MapIs P k w m n g := by
  obtain ⟨D, hown, h1, h2⟩ := h
  have ht := hown.tidy K
  have hb := hn D ht h1
  obtain ⟨es, clock, hb', Ft, hs, hD⟩ := hown
  refine ⟨D, ⟨es, clock, hb', Ft, ?_, hD⟩, h1, h2⟩
  rw [hD] at hb
  simpa [Maps.size, length_sorted] using hb
theorem MapIs.look2 (h : MapIs P k w m N g) (K : Keyed P k) (ht : P.underlying t = some (.map k e)) {z : Value} (hz : (zeroValue e).run P w = .ok z w) {key : Value} {kl : Lit} (hkey : keyOf P k key = some kl) :
    (Instr.lookup t (.map (some m)) key true).run P w = .ok (.tuple #[(g kl).getD z, .bool (g kl).isSome]) w := by
  obtain ⟨D, hown, h1, h2⟩ := h
  obtain ⟨v, ps, hrun, hv⟩ := hown.look_ok K ht hz (zd := .held z) (zp := []) rfl hkey
  simp only [asIs, Option.some.injEq, Prod.mk.injEq] at hv
  rw [hrun, h1 kl]
  cases hg : g kl with
  | none =>
    have hn : Maps.has D kl = false := by rw [h1, hg]; rfl
    rw [Maps.atKey_of_not_has hn] at hv
    have hv' : v = z := by have := hv.1; injection this
    rw [hv']; rfl
  | some u =>
    rw [h2 kl u _ hg] at hv
    have hv' : v = u := by have := hv.1; injection this
    rw [hv']; rfl
theorem MapIs.look1 (h : MapIs P k w m N g) (K : Keyed P k) (ht : P.underlying t = some (.map k e)) {z : Value} (hz : (zeroValue e).run P w = .ok z w) {key : Value} {kl : Lit} (hkey : keyOf P k key = some kl) :
    (Instr.lookup t (.map (some m)) key false).run P w = .ok ((g kl).getD z) w := by
  obtain ⟨D, hown, h1, h2⟩ := h
  obtain ⟨v, ps, hrun, hv⟩ := hown.lookup K ht hz (zd := .held z) (zp := []) rfl hkey
  simp only [asIs, Option.some.injEq, Prod.mk.injEq] at hv
  rw [hrun]
  cases hg : g kl with
  | none =>
    have hn : Maps.has D kl = false := by rw [h1, hg]; rfl
    rw [Maps.atKey_of_not_has hn] at hv
    have hv' : v = z := by have := hv.1; injection this
    rw [hv']; rfl
  | some u =>
    rw [h2 kl u _ hg] at hv
    have hv' : v = u := by have := hv.1; injection this
    rw [hv']; rfl
/-- Behind m[key] = v. -/
theorem MapIs.put (h : MapIs P k w m N g) (K : Keyed P k) (ht : P.underlying t = some (.map k e)) (hN : N < maxLen) {key val : Value} {kl : Lit} (hkey : keyOf P k key = some kl) (hl : WideAt.IsKeyLit kl) :
    ∃ w', (Instr.mapUpdate t (.map (some m)) key val).run P w = .ok () w' ∧ MapIs P k w' m (N + 1) (mput g kl val) ∧ w.grownBy w' (some m) := by
  obtain ⟨D, hown, h1, h2⟩ := h
  have hm := hown.isMap
  obtain ⟨w', hrun, hown', hg⟩ := hown.update K ht hN hkey (d := .held val) (ps := []) (val := val) rfl
  refine ⟨w', hrun, ⟨_, hown', fun l => ?_, fun l v z hl' => ?_⟩, hg⟩
  · by_cases hll : l = kl
    · subst hll; rw [has_put_same hm hl, mput_same]; rfl
    · rw [has_put_other hll, h1, mput_other g val hll]
  · by_cases hll : l = kl
    · subst hll
      rw [mput_same] at hl'
      cases hl'
      exact atKey_put_same hm hl _ _
    · rw [mput_other g val hll] at hl'
      rw [atKey_put_other hll]; exact h2 l v z hl'
/-- Its keys, where they are numbers. -/
theorem MapIs.perm (h : MapIs P k w m N g) (K : Keyed P k) {ss : List Int} (hnd : ss.Nodup) (hm : ∀ x, x ∈ ss ↔ (g (.int .i64 x)).isSome = true) (hg : ∀ l, (g l).isSome = true → ∃ x, l = .int .i64 x) :
    ∃ D : DataW Value, w.ownsMap P k asIs m N D ∧ ss.Perm (intKeys D) := by
  obtain ⟨D, hown, h1, h2⟩ := h
  obtain ⟨es, hD, hpw, hkl⟩ := hown.entries K
  subst hD
  refine ⟨_, hown, perm_intKeys hpw (fun p hp => hg p.1 ?_) hnd (fun x => by rw [hm, h1])⟩
  rw [← h1, has_eq, List.any_eq_true]
  exact ⟨p, hp, WideAt.sameKey_self (hkl p hp)⟩
end

section
variable {P : Program} {k e t : TypeId} {w : World} {m N : Nat} {g : Lit → Option Value} {ops : Array Oper} {rest : List Oper} {o : Oper} {a : Act} {Q : Exit → Act → World → Prop}
/-- 'm[k] = v' at the operation. -/
theorem MapIs.list_put (h : MapIs P k w m N g) (hg : o.guard = none) (om x v : Operand) (hop : o.op = Op.mapUpdate t om x v) (K : Keyed P k) (ht : P.underlying t = some (.map k e)) (hm : a.eval om = .map (some m)) (hN : N < maxLen)
    (key val : Value) (kl : Lit) (hx : a.eval x = key) (hv : a.eval v = val) (hkey : keyOf P k key = some kl) (hl : WideAt.IsKeyLit kl)
    (hK : ∀ w', MapIs P k w' m (N + 1) (mput g kl val) → w.grownBy w' (some m) → wpList P ops Q rest (a.put o.dst undef) w') : wpList P ops Q (o :: rest) a w := by
  refine wpList_plain hg fun K' hK' => ?_
  obtain ⟨w', hrun, r1, r2⟩ := h.put K ht hN hkey hl (val := val)
  unfold Oper.wp
  simp [execOp, hop, hm, hx, hv, hrun, Result.andThen]
  exact hK' _ _ (hK w' r1 r2)
end

/-- A rising list of numbers is sorted. -/
theorem sorted_self (l : List Int) (h : l.Pairwise (fun a b => a ≤ b)) : l.mergeSort leI = l := by
  refine List.Perm.eq_of_pairwise (le := fun a b => leI a b = true) (fun a b _ _ h1 h2 => ?_) (List.pairwise_mergeSort (fun a b c h1 h2 => ?_) (fun a b => ?_) l) (h.imp fun hab => ?_) (List.mergeSort_perm l leI)
  · simp only [leI, decide_eq_true_eq] at h1 h2
    exact Int.le_antisymm h1 h2
  · simp only [leI, decide_eq_true_eq] at *; exact Int.le_trans h1 h2
  · simp only [leI, Bool.or_eq_true, decide_eq_true_eq]; exact Int.le_total a b
  · simpa [leI] using hab

end Go.Proofs.YtemkjodkmehffaaGreatDoor
