/-
  WHO OWNS A HASH, AS MATHEMATICS (layers 14, 15): the first point at it or above; of none the first of all.
-/
import Derived.Test.YtcmblihlbmclaaaPtMath
namespace Go.Proofs.Ytcmblihlbmclaaa
open Go Go.RowKit Go.Joins

def nodeO : Option P2 → Int
  | some x => x.node
  | none => 0
def placeO : Option P2 → Int
  | some x => x.place
  | none => 0
/-- The owner's point. -/
def ownO (l : List Int) (h : Int) : Option P2 :=
  match (pts l).find? fun x => decide (h ≤ x.place) with
  | some x => some x
  | none => (pts l).head?
def ownerL (l : List Int) (h : Int) : Int := if nodesB l then nodeO (ownO l h) else 0

/-- The lesser of what was there and one more. -/
def minB (o : Option P2) (x : P2) : Option P2 :=
  match o with
  | none => some x
  | some m => if lessB x m then some x else some m
theorem less_both {a b : P2} (h1 : lessB a b = false) (h2 : lessB b a = false) : a = b :=
  Classical.byContradiction fun hn => by
    have := less_tri h1 (fun e => hn e.symm)
    rw [h2] at this
    cases this
theorem less_asym {a b : P2} (h : lessB a b = true) : lessB b a = false := by
  cases h2 : lessB b a with
  | false => rfl
  | true => have h3 := less_not (less_irr a) h2; rw [← h3]; simp only [lessB, Bool.or_eq_true, Bool.and_eq_true, decide_eq_true_eq, beq_iff_eq, Bool.or_eq_false_iff, Bool.and_eq_false_iff, decide_eq_false_iff_not, beq_eq_false_iff_ne, ne_eq] at *; omega
theorem ins_head (x : P2) (l : List P2) : (ins x l).head? = minB l.head? x := by
  cases l with
  | nil => rfl
  | cons y l =>
    rw [ins_cons]
    show _ = (if lessB x y then some x else some y)
    cases h1 : lessB y x with
    | true => rw [less_asym h1]; rfl
    | false =>
      cases h2 : lessB x y with
      | true => rfl
      | false => rw [less_both h1 h2]; rfl
theorem sort_snoc (l : List P2) (x : P2) : sortP (l ++ [x]) = ins x (sortP l) :=
  asc_unique (sort_asc _) (ins_asc (sort_asc _)) ((sort_perm _).trans ((List.perm_append_comm).trans (((sort_perm l).symm.cons x).trans (ins_perm x (sortP l)).symm)))
theorem fold_snoc (l : List P2) (x : P2) : (l ++ [x]).foldl minB none = minB (l.foldl minB none) x := by rw [List.foldl_append]; rfl
theorem fold_min (l : List P2) : l.foldl minB none = (sortP l).head? := by
  suffices h : ∀ r : List P2, r.reverse.foldl minB none = (sortP r.reverse).head? by
    have := h l.reverse
    rwa [List.reverse_reverse] at this
  intro r
  induction r with
  | nil => rfl
  | cons x r ih => rw [List.reverse_cons, fold_snoc, sort_snoc, ins_head, ih]
theorem fold_all (l : List Int) : (l.flatMap ptsOf).foldl minB none = (pts l).head? := fold_min _
theorem fold_over (l : List Int) (h : Int) : ((l.flatMap ptsOf).filter fun x => decide (h ≤ x.place)).foldl minB none = (pts l).find? fun x => decide (h ≤ x.place) := by
  rw [fold_min, ← sort_filter, List.head?_filter]
  rfl
/-- What was found so far is some node's. -/
def Nod (o : Option P2) : Prop := ∀ m, o = some m → 1 ≤ m.node
theorem Nod.min {o : Option P2} {x : P2} (h : Nod o) (hx : 1 ≤ x.node) : Nod (minB o x) := by
  intro m hm
  unfold minB at hm
  cases o with
  | none => cases hm; exact hx
  | some y =>
    simp only at hm
    split at hm
    · cases hm; exact hx
    · cases hm; exact h _ rfl
theorem Nod.none : Nod none := fun _ h => by cases h
/-- How the test of the lesser one goes, r being what it leaves. -/
def Lesser2 (r : Option P2) (p n a b : Int) : Prop :=
  (a == 0) = true ∧ nodeO r = n ∧ placeO r = p ∨
  (a == 0) = false ∧ decide (p < b) = true ∧ nodeO r = n ∧ placeO r = p ∨
  (a == 0) = false ∧ decide (p < b) = false ∧ (p == b) = false ∧ nodeO r = a ∧ placeO r = b ∨
  (a == 0) = false ∧ decide (p < b) = false ∧ (p == b) = true ∧ decide (n < a) = true ∧ nodeO r = n ∧ placeO r = p ∨
  (a == 0) = false ∧ decide (p < b) = false ∧ (p == b) = true ∧ decide (n < a) = false ∧ nodeO r = a ∧ placeO r = b
theorem lesser_is {o : Option P2} (h : Nod o) (p n : Int) : Lesser2 (minB o ⟨p, n⟩) p n (nodeO o) (placeO o) := by
  unfold Lesser2
  cases o with
  | none => exact .inl ⟨rfl, rfl, rfl⟩
  | some m =>
    have h1 := h m rfl
    have ha : (nodeO (some m) == 0) = false := by show (m.node == 0) = false; simp; omega
    have hm : minB (some m) ⟨p, n⟩ = if lessB ⟨p, n⟩ m then some ⟨p, n⟩ else some m := rfl
    rw [ha, hm]
    show _ ∨ (_ ∧ decide (p < m.place) = true ∧ _) ∨ (_ ∧ decide (p < m.place) = false ∧ (p == m.place) = false ∧ _) ∨ (_ ∧ decide (p < m.place) = false ∧ (p == m.place) = true ∧ decide (n < m.node) = true ∧ _) ∨ (_ ∧ decide (p < m.place) = false ∧ (p == m.place) = true ∧ decide (n < m.node) = false ∧ _)
    have hl : lessB ⟨p, n⟩ m = (decide (p < m.place) || ((p == m.place) && decide (n < m.node))) := rfl
    rw [hl]
    cases decide (p < m.place) <;> cases (p == m.place) <;> cases decide (n < m.node) <;> simp [nodeO, placeO]

end Go.Proofs.Ytcmblihlbmclaaa
