/-
  POINTS AS MATHEMATICS (layers 13 to 15): points in order, those of some nodes; a row of points in memory.
-/
import Derived.Test.YtcmblihlbmclaaaProg
import Derived.Test.YtcmblihlbmclaaaObj
import Derived.Test.YtcmblihlbmclaaaAllInvs
import Derived.Test.YtcmblihlbmclaaaNodes
import Derived.Test.YtcmblihlbmclaaaOf
import Derived.WalkSpells
import Derived.Lib.Hide
import Derived.Lib.SmallJoins
namespace Go.Proofs.Ytcmblihlbmclaaa
open Go Go.RowKit Go.Joins

/-- A point. -/
structure P2 where
  place : Int
  node : Int
deriving DecidableEq
instance : Inhabited P2 := ⟨⟨0, 0⟩⟩
def pagg (x : P2) : Value := .agg #[.int .u64 x.place, .int .i64 x.node]
def pcells (x : P2) : Array Value := #[.int .u64 x.place, .int .i64 x.node]
def lessB (a b : P2) : Bool := decide (a.place < b.place) || ((a.place == b.place) && decide (a.node < b.node))
def placeZ (n i : Int) : Int := stZ (IntKind.u64.wrap (wrap64 (wrap64 (n * 1000003) + i)))
def ptsOf (n : Int) : List P2 := [⟨placeZ n 0, n⟩, ⟨placeZ n 1, n⟩, ⟨placeZ n 2, n⟩, ⟨placeZ n 3, n⟩, ⟨placeZ n 4, n⟩, ⟨placeZ n 5, n⟩, ⟨placeZ n 6, n⟩, ⟨placeZ n 7, n⟩]
def ins (x : P2) : List P2 → List P2
  | [] => [x]
  | y :: l => if lessB y x then y :: ins x l else x :: y :: l
def sortP (l : List P2) : List P2 := l.foldr ins []
/-- All points of these nodes, in order. -/
def pts (l : List Int) : List P2 := sortP (l.flatMap ptsOf)
def ofP (l : List Int) : List P2 := if nodesB l then pts l else []
def prow (l : List P2) : List Value := l.flatMap fun x => (pcells x).toList
theorem prow_len (l : List P2) : (prow l).length = l.length * 2 := by
  induction l with
  | nil => rfl
  | cons g l ih =>
    have e : prow (g :: l) = (pcells g).toList ++ prow l := by simp [prow]
    rw [e, List.length_append, ih, List.length_cons]
    show 2 + _ = _
    omega
theorem prow_at (l : List P2) (j i : Nat) (hj : j < l.length) (hi : i < 2) : (prow l)[j * 2 + i]? = (pcells l[j])[i]? := by
  induction l generalizing j with
  | nil => simp at hj
  | cons g l ih =>
    have e : prow (g :: l) = (pcells g).toList ++ prow l := by simp [prow]
    cases j with
    | zero =>
      rw [e, List.getElem?_append_left (by show _ < 2; omega)]
      simp
    | succ j =>
      have hl : j < l.length := by simpa using hj
      rw [e, List.getElem?_append_right (by show 2 ≤ _; omega)]
      have e2 : (j + 1) * 2 + i - (pcells g).toList.length = j * 2 + i := by show (j + 1) * 2 + i - 2 = _; omega
      rw [e2, ih j hl]
      simp
theorem ins_len (x : P2) (l : List P2) : (ins x l).length = l.length + 1 := by
  induction l with
  | nil => rfl
  | cons y l ih => unfold ins; split <;> simp [ih]
theorem sort_len (l : List P2) : (sortP l).length = l.length := by
  induction l with
  | nil => rfl
  | cons x l ih => show (ins x (sortP l)).length = _; rw [ins_len, ih]; rfl
theorem ins_perm (x : P2) (l : List P2) : (ins x l).Perm (x :: l) := by
  induction l with
  | nil => exact .refl _
  | cons y l ih =>
    unfold ins
    split
    · exact (ih.cons y).trans (.swap x y l)
    · exact .refl _
theorem sort_perm (l : List P2) : (sortP l).Perm l := by
  induction l with
  | nil => exact .refl _
  | cons x l ih => exact (ins_perm x (sortP l)).trans (ih.cons x)
theorem pts_len (l : List Int) : (pts l).length = 8 * l.length := by
  unfold pts
  rw [sort_len]
  induction l with
  | nil => rfl
  | cons x l ih => rw [List.flatMap_cons, List.length_append, ih]; show 8 + _ = 8 * (l.length + 1); omega

theorem ptsOf_node {n : Int} {x : P2} (h : x ∈ ptsOf n) : x.node = n := by
  simp only [ptsOf, List.mem_cons, List.not_mem_nil, or_false] at h
  rcases h with rfl | rfl | rfl | rfl | rfl | rfl | rfl | rfl <;> rfl
theorem pts_mem {l : List Int} {x : P2} : x ∈ pts l ↔ ∃ n ∈ l, x ∈ ptsOf n := by
  unfold pts
  rw [(sort_perm _).mem_iff, List.mem_flatMap]

/-- A row of points in memory. -/
def PRow (w : World) (A : Option Addr) (F : Nat → Prop) (l : List P2) : Prop := Row w A F (prow l)
theorem PRow.at_ {w : World} {A : Option Addr} {F : Nat → Prop} {l : List P2} (h : PRow w A F l) {j : Nat} (hj : j < l.length) : ∃ b o, A = some ⟨b, o, none⟩ ∧ F b ∧ w.cell? ⟨b, o + j * 2, none⟩ = some (.int .u64 l[j].place) ∧ w.cell? ⟨b, o + j * 2 + 1, none⟩ = some (.int .i64 l[j].node) := by
  have hl := prow_len l
  obtain ⟨b, o, e, hF, hc⟩ := h (by intro h0; rw [h0] at hl; simp at hl; omega)
  have c0 := hc (j * 2 + 0) _ (prow_at l j 0 hj (by decide))
  have c1 := hc (j * 2 + 1) _ (prow_at l j 1 hj (by decide))
  exact ⟨b, o, e, hF, c0, by rw [Nat.add_assoc]; exact c1⟩

/-! ### In order -/
theorem less_irr (a : P2) : lessB a a = false := by simp [lessB]
theorem less_not {a b c : P2} (h1 : lessB b a = false) (h2 : lessB c a = true) : lessB c b = true := by
  simp only [lessB, Bool.or_eq_true, Bool.and_eq_true, decide_eq_true_eq, beq_iff_eq, Bool.or_eq_false_iff, Bool.and_eq_false_iff, decide_eq_false_iff_not, beq_eq_false_iff_ne, ne_eq] at *
  omega
def Asc (l : List P2) : Prop := l.Pairwise fun a b => lessB b a = false
theorem ins_asc {x : P2} {l : List P2} (h : Asc l) : Asc (ins x l) := by
  induction l with
  | nil => exact List.pairwise_singleton _ _
  | cons y l ih =>
    obtain ⟨h1, h2⟩ := List.pairwise_cons.1 h
    unfold ins
    cases hb : lessB y x with
    | true =>
      rw [if_pos rfl]
      refine List.pairwise_cons.2 ⟨fun z hz => ?_, ih h2⟩
      rcases List.mem_cons.1 ((ins_perm x l).mem_iff.1 hz) with rfl | hz
      · cases hc : lessB z y with
        | false => rfl
        | true =>
          simp only [lessB, Bool.or_eq_true, Bool.and_eq_true, decide_eq_true_eq, beq_iff_eq] at hb hc
          omega
      · exact h1 z hz
    | false =>
      rw [if_neg (by simp)]
      refine List.pairwise_cons.2 ⟨fun z hz => ?_, h⟩
      rcases List.mem_cons.1 hz with rfl | hz
      · exact hb
      · cases hc : lessB z x with
        | false => rfl
        | true => have := less_not hb hc; rw [h1 z hz] at this; cases this
theorem sort_asc (l : List P2) : Asc (sortP l) := by
  induction l with
  | nil => exact List.Pairwise.nil
  | cons x l ih => exact ins_asc ih
theorem ins_first {x : P2} {l : List P2} (h : ∀ z ∈ l, lessB z x = false) : ins x l = x :: l := by
  cases l with
  | nil => rfl
  | cons y l => unfold ins; rw [h y List.mem_cons_self, if_neg (by simp)]
theorem ins_cons (x y : P2) (l : List P2) : ins x (y :: l) = if lessB y x then y :: ins x l else x :: y :: l := rfl
theorem ins_filter (p : P2 → Bool) (x : P2) (l : List P2) (h : Asc l) : (ins x l).filter p = if p x then ins x (l.filter p) else l.filter p := by
  induction l with
  | nil => cases hp : p x <;> simp [ins, hp]
  | cons y l ih =>
    obtain ⟨h1, h2⟩ := List.pairwise_cons.1 h
    have ih := ih h2
    rw [ins_cons]
    cases hb : lessB y x with
    | true =>
      rw [if_pos rfl, List.filter_cons, ih]
      cases hp : p x <;> cases hq : p y <;> simp [hq, ins_cons, hb]
    | false =>
      rw [if_neg (by simp), List.filter_cons]
      cases hp : p x with
      | false => simp
      | true =>
        rw [if_pos rfl, if_pos rfl]
        refine (ins_first fun z hz => ?_).symm
        obtain ⟨hz, -⟩ := List.mem_filter.1 hz
        rcases List.mem_cons.1 hz with rfl | hz
        · exact hb
        · cases hc : lessB z x with
          | false => rfl
          | true => have := less_not hb hc; rw [h1 z hz] at this; cases this
theorem sort_filter (p : P2 → Bool) (l : List P2) : (sortP l).filter p = sortP (l.filter p) := by
  induction l with
  | nil => rfl
  | cons x l ih =>
    show (ins x (sortP l)).filter p = _
    rw [ins_filter p x _ (sort_asc l), ih, List.filter_cons]
    cases p x <;> rfl

/-! ### A node's points -/
theorem ptsOf_same (n : Int) : (ptsOf n).filter (fun x => x.node == n) = ptsOf n := by
  rw [List.filter_eq_self]
  intro x hx
  rw [ptsOf_node hx]; simp
theorem ptsOf_other {n m : Int} (h : m ≠ n) : (ptsOf m).filter (fun x => x.node == n) = [] := by
  rw [List.filter_eq_nil_iff]
  intro x hx
  rw [ptsOf_node hx]; simpa using h
theorem flat_none {l : List Int} {n : Int} (h : ∀ m ∈ l, m ≠ n) : (l.flatMap ptsOf).filter (fun x => x.node == n) = [] := by
  induction l with
  | nil => rfl
  | cons m l ih =>
    rw [List.flatMap_cons, List.filter_append, ptsOf_other (h m List.mem_cons_self), ih fun k hk => h k (List.mem_cons_of_mem _ hk)]
    rfl
theorem flat_one {l : List Int} {n : Int} (hn : l.Nodup) (h : n ∈ l) : (l.flatMap ptsOf).filter (fun x => x.node == n) = ptsOf n := by
  induction l with
  | nil => cases h
  | cons m l ih =>
    obtain ⟨h1, h2⟩ := List.nodup_cons.1 hn
    rw [List.flatMap_cons, List.filter_append]
    by_cases hm : m = n
    · subst hm
      rw [ptsOf_same, flat_none fun k hk e => h1 (by rw [← e]; exact hk), List.append_nil]
    · rw [ptsOf_other hm, ih h2 ((List.mem_cons.1 h).resolve_left fun e => hm e.symm)]
      rfl
/-- Nodes that may be rise. -/
theorem nodes_rise {l : List Int} (h : nodesB l = true) (i j : Nat) (hij : i < j) (hj : j < l.length) : l.getD i 0 < l.getD j 0 := by
  have hs := (nodesB_iff.1 h).2
  induction j with
  | zero => omega
  | succ j ih =>
    have h1 := hs (j + 1) hj
    have h2 : l.getD j 0 < l.getD (j + 1) 0 := by
      unfold nodeB at h1
      simp only [Bool.and_eq_true, Bool.or_eq_true, decide_eq_true_eq, Nat.add_sub_cancel] at h1
      rcases h1.2.2 with h1 | h1
      · omega
      · exact h1
    rcases Nat.lt_or_ge i j with g | g
    · exact Int.lt_trans (ih g (by omega)) h2
    · obtain rfl : i = j := by omega
      exact h2
theorem nodes_nodup {l : List Int} (h : nodesB l = true) : l.Nodup := by
  rw [List.nodup_iff_pairwise_ne, List.pairwise_iff_getElem]
  intro i j hi hj hij e
  have := nodes_rise h i j hij hj
  rw [List.getD_eq_getElem?_getD, List.getD_eq_getElem?_getD, List.getElem?_eq_getElem hi, List.getElem?_eq_getElem hj] at this
  simp only [Option.getD_some] at this
  omega
theorem has_mem {l : List Int} {n : Int} (h : hasN l n = true) : n ∈ l := by
  obtain ⟨x, hx, e⟩ := List.any_eq_true.1 h
  simp at e
  exact e ▸ hx
theorem nodes_one {l : List Int} {n : Int} (h : nodesB l = true) (hn : n ∈ l) : nodesB [n] = true := by
  obtain ⟨i, hi, rfl⟩ := List.mem_iff_getElem.1 hn
  have h1 := (nodesB_iff.1 h).2 i hi
  unfold nodeB at h1
  rw [List.getD_eq_getElem?_getD, List.getElem?_eq_getElem hi] at h1
  simp only [Option.getD_some, Bool.and_eq_true, decide_eq_true_eq] at h1
  refine nodesB_iff.2 ⟨by simp, fun j hj => ?_⟩
  have hj' : j < 1 := by simpa using hj
  obtain rfl : j = 0 := by omega
  simp [nodeB, h1.1, h1.2.1]
theorem pts_filter {l : List Int} {n : Int} (h : nodesB l = true) (hn : n ∈ l) : (pts l).filter (fun x => x.node == n) = pts [n] := by
  unfold pts
  rw [sort_filter, flat_one (nodes_nodup h) hn]
  simp

/-- Is the k-th point of each node there once? -/
def onceB : Bool := [1, 2, 3, 4, 5].all fun n : Int => (List.range 8).all fun k : Nat => (ptsOf n).countP (fun x => x.place == placeZ n (k : Int)) == 1
set_option maxRecDepth 100000 in
theorem onceB_is : onceB = true := by kernel_rfl
theorem once_of {n : Int} (h1 : 1 ≤ n) (h5 : n ≤ 5) {k : Nat} (hk : k < 8) : (ptsOf n).countP (fun x => x.place == placeZ n (k : Int)) = 1 := by
  have h := onceB_is
  unfold onceB at h
  rw [List.all_eq_true] at h
  have hn : n ∈ ([1, 2, 3, 4, 5] : List Int) := by
    have : n = 1 ∨ n = 2 ∨ n = 3 ∨ n = 4 ∨ n = 5 := by omega
    rcases this with rfl | rfl | rfl | rfl | rfl <;> simp
  have h2 := List.all_eq_true.1 (h n hn) k (List.mem_range.2 hk)
  simpa using h2
theorem node_in {l : List Int} (h : nodesB l = true) {n : Int} (hn : n ∈ l) : 1 ≤ n ∧ n ≤ 5 := by
  obtain ⟨i, hi, rfl⟩ := List.mem_iff_getElem.1 hn
  have h1 := (nodesB_iff.1 h).2 i hi
  unfold nodeB at h1
  rw [List.getD_eq_getElem?_getD, List.getElem?_eq_getElem hi] at h1
  simp only [Option.getD_some, Bool.and_eq_true, decide_eq_true_eq] at h1
  exact ⟨h1.1, h1.2.1⟩
theorem pts_once {l : List Int} (h : nodesB l = true) {n : Int} (hn : n ∈ l) {k : Nat} (hk : k < 8) : (pts l).countP (fun x => (x.node == n) && (x.place == placeZ n (k : Int))) = 1 := by
  have hb := node_in h hn
  have e : (pts l).countP (fun x => (x.node == n) && (x.place == placeZ n (k : Int))) = ((pts l).filter (fun x => x.node == n)).countP (fun x => x.place == placeZ n (k : Int)) := by
    rw [List.countP_filter]
    congr 1
    funext x
    cases (x.node == n) <;> cases (x.place == placeZ n (k : Int)) <;> rfl
  rw [e, pts_filter h hn]
  unfold pts
  rw [(sort_perm _).countP_eq]
  simpa using once_of hb.1 hb.2 hk
/-- No point is there twice. -/
theorem pts_nodup {l : List Int} (h : nodesB l = true) : (pts l).Nodup := by
  rw [List.nodup_iff_count]
  intro x
  by_cases hx : x ∈ pts l
  · obtain ⟨n, hn, hx2⟩ := pts_mem.1 hx
    have e := ptsOf_node hx2
    have hk : ∃ k : Nat, k < 8 ∧ x = ⟨placeZ n (k : Int), n⟩ := by
      simp only [ptsOf, List.mem_cons, List.not_mem_nil, or_false] at hx2
      rcases hx2 with rfl | rfl | rfl | rfl | rfl | rfl | rfl | rfl
      · exact ⟨0, by omega, rfl⟩
      · exact ⟨1, by omega, rfl⟩
      · exact ⟨2, by omega, rfl⟩
      · exact ⟨3, by omega, rfl⟩
      · exact ⟨4, by omega, rfl⟩
      · exact ⟨5, by omega, rfl⟩
      · exact ⟨6, by omega, rfl⟩
      · exact ⟨7, by omega, rfl⟩
    obtain ⟨k, hk, rfl⟩ := hk
    have h1 := pts_once h hn hk
    have h2 : (pts l).count (⟨placeZ n (k : Int), n⟩ : P2) ≤ (pts l).countP (fun x => (x.node == n) && (x.place == placeZ n (k : Int))) := by
      unfold List.count
      refine List.countP_mono_left fun y _ hy => ?_
      have : y = ⟨placeZ n (k : Int), n⟩ := by simpa using hy
      subst this
      simp
    omega
  · rw [List.count_eq_zero_of_not_mem hx]; omega
theorem less_tri {a b : P2} (h : lessB b a = false) (hn : a ≠ b) : lessB a b = true := by
  obtain ⟨ap, an⟩ := a
  obtain ⟨bp, bn⟩ := b
  have hn' : ¬ (ap = bp ∧ an = bn) := fun e => hn (by rw [e.1, e.2])
  simp only [lessB, Bool.or_eq_true, Bool.and_eq_true, decide_eq_true_eq, beq_iff_eq, Bool.or_eq_false_iff, Bool.and_eq_false_iff, decide_eq_false_iff_not, beq_eq_false_iff_ne, ne_eq] at *
  omega
/-- Two rows in order that have the same points are the same. -/
theorem asc_unique {a b : List P2} (ha : Asc a) (hb : Asc b) (h : a.Perm b) : a = b := by
  induction a generalizing b with
  | nil => exact h.nil_eq
  | cons x a ih =>
    cases b with
    | nil => exact absurd h.length_eq (by simp)
    | cons y b =>
      obtain ⟨ha1, ha2⟩ := List.pairwise_cons.1 ha
      obtain ⟨hb1, hb2⟩ := List.pairwise_cons.1 hb
      have e : x = y := by
        apply Classical.byContradiction
        intro hn
        have h1 : lessB x y = false := by
          rcases List.mem_cons.1 (h.mem_iff.1 List.mem_cons_self) with e | hx
          · exact absurd e hn
          · exact hb1 x hx
        have h2 : lessB y x = false := by
          rcases List.mem_cons.1 (h.mem_iff.2 List.mem_cons_self) with e | hy
          · exact absurd e.symm hn
          · exact ha1 y hy
        rw [less_tri h2 hn] at h1; cases h1
      subst e
      rw [ih ha2 hb2 (h.cons_inv)]
theorem pts_is {l : List Int} {L : List P2} (hL : Asc L) (h : L.Perm (l.flatMap ptsOf)) : L = pts l :=
  asc_unique hL (sort_asc _) (h.trans (sort_perm _).symm)
theorem pts_less {l : List Int} (h : nodesB l = true) {i : Nat} (hi : i + 1 < (pts l).length) : lessB (pts l)[i] (pts l)[i + 1] = true :=
  less_tri (List.pairwise_iff_getElem.1 (show Asc (pts l) from sort_asc _) i (i + 1) (by omega) hi (by omega)) ((List.pairwise_iff_getElem.1 (List.nodup_iff_pairwise_ne.1 (pts_nodup h))) i (i + 1) (by omega) hi (by omega))

theorem nodes_five {l : List Int} (h : nodesB l = true) : l.length ≤ 5 := by
  have hk : ∀ k, k < l.length → (k : Int) + 1 ≤ l.getD k 0 := by
    intro k
    induction k with
    | zero =>
      intro hl
      have h1 := (nodesB_iff.1 h).2 0 hl
      unfold nodeB at h1
      simp only [Bool.and_eq_true, decide_eq_true_eq] at h1
      simpa using h1.1
    | succ k ih =>
      intro hl
      have h1 := nodes_rise h k (k + 1) (by omega) hl
      have h2 := ih (by omega)
      omega
  rcases Nat.lt_or_ge 5 l.length with h5 | h5
  · have h1 := hk 5 h5
    have h2 := (nodesB_iff.1 h).2 5 h5
    unfold nodeB at h2
    simp only [Bool.and_eq_true, decide_eq_true_eq] at h2
    omega
  · exact h5

end Go.Proofs.Ytcmblihlbmclaaa
