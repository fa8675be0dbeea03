/-
  PLANS AS MATHEMATICS (layer 15): the parts in which two functions of a hash differ; there is one such list alone.
-/
import Derived.Test.YtcmblihlbmclaaaRgIf
import Derived.Test.YtcmblihlbmclaaaRgBits
namespace Go.Proofs.Ytcmblihlbmclaaa
open Go Go.RowKit Go.Joins

/-- A part. -/
structure Mv where
  frm : Int
  til : Int
  src : Int
  dst : Int
deriving DecidableEq
instance : Inhabited Mv := ⟨⟨0, 0, 0, 0⟩⟩
/-- None that goes on in the next one. -/
def MaxL : List Mv → Prop
  | a :: b :: l => ¬ (a.til + 1 = b.frm ∧ a.src = b.src ∧ a.dst = b.dst) ∧ MaxL (b :: l)
  | _ => True
/-- The parts, from b on, in which u and v differ. -/
structure PlanFrom (b : Int) (u v : Int → Int) (P : List Mv) : Prop where
  low : ∀ m ∈ P, b ≤ m.frm
  rng : ∀ m ∈ P, m.frm ≤ m.til ∧ m.til < 18446744073709551616
  asc : P.Pairwise fun a b => a.til < b.frm
  ne : ∀ m ∈ P, m.src ≠ m.dst
  own : ∀ m ∈ P, ∀ h, m.frm ≤ h → h ≤ m.til → u h = m.src ∧ v h = m.dst
  all : ∀ h, b ≤ h → h < 18446744073709551616 → u h ≠ v h → ∃ m ∈ P, m.frm ≤ h ∧ h ≤ m.til
  top : MaxL P
def PlanIs (u v : Int → Int) (P : List Mv) : Prop := PlanFrom 0 u v P
section
variable {b : Int} {u v : Int → Int} {P Q : List Mv} {p q : Mv}
theorem PlanFrom.tail (h : PlanFrom b u v (p :: P)) : PlanFrom (p.til + 1) u v P where
  low m hm := by have := (List.pairwise_cons.1 h.asc).1 m hm; omega
  rng m hm := h.rng m (List.mem_cons_of_mem _ hm)
  asc := (List.pairwise_cons.1 h.asc).2
  ne m hm := h.ne m (List.mem_cons_of_mem _ hm)
  own m hm := h.own m (List.mem_cons_of_mem _ hm)
  all x h1 h2 h3 := by
    have h4 := h.rng p List.mem_cons_self
    have h5 := h.low p List.mem_cons_self
    obtain ⟨m, hm, h6, h7⟩ := h.all x (by omega) h2 h3
    rcases List.mem_cons.1 hm with rfl | hm
    · omega
    · exact ⟨m, hm, h6, h7⟩
  top := by
    have := h.top
    cases P with
    | nil => trivial
    | cons a P => exact this.2
theorem PlanFrom.first (h : PlanFrom b u v (p :: P)) : u p.frm ≠ v p.frm := by
  have h1 := h.rng p List.mem_cons_self
  obtain ⟨h2, h3⟩ := h.own p List.mem_cons_self p.frm (Int.le_refl _) h1.1
  rw [h2, h3]
  exact h.ne p List.mem_cons_self
theorem PlanFrom.over (hP : PlanFrom b u v (p :: P)) (hQ : PlanFrom b u v (q :: Q)) (hs : p.src = q.src) (hd : p.dst = q.dst) (hf : p.frm = q.frm) : q.til ≤ p.til := by
  refine Int.not_lt.1 fun hlt => ?_
  have hp := hP.rng p List.mem_cons_self
  have hq := hQ.rng q List.mem_cons_self
  have hb := hP.low p List.mem_cons_self
  obtain ⟨h1, h2⟩ := hQ.own q List.mem_cons_self (p.til + 1) (by omega) (by omega)
  obtain ⟨m, hm, h3, h4⟩ := hP.all (p.til + 1) (by omega) (by omega) (by rw [h1, h2]; exact hQ.ne q List.mem_cons_self)
  rcases List.mem_cons.1 hm with rfl | hm
  · omega
  · cases P with
    | nil => cases hm
    | cons a P =>
      have hpa := (List.pairwise_cons.1 hP.asc).1 a List.mem_cons_self
      have hra := hP.rng a (List.mem_cons_of_mem _ List.mem_cons_self)
      have hpm := (List.pairwise_cons.1 hP.asc).1 m hm
      have haf : a.frm = p.til + 1 := by
        rcases List.mem_cons.1 hm with rfl | hm'
        · omega
        · have := (List.pairwise_cons.1 (List.pairwise_cons.1 hP.asc).2).1 m hm'
          omega
      obtain ⟨h5, h6⟩ := hP.own a (List.mem_cons_of_mem _ List.mem_cons_self) (p.til + 1) (by omega) (by omega)
      exact hP.top.1 ⟨haf.symm, by rw [hs, ← h1, h5], by rw [hd, ← h2, h6]⟩
theorem PlanFrom.unique (hP : PlanFrom b u v P) (hQ : PlanFrom b u v Q) : P = Q := by
  induction P generalizing b Q with
  | nil =>
    cases Q with
    | nil => rfl
    | cons q Q =>
      have hq := hQ.rng q List.mem_cons_self
      obtain ⟨m, hm, -⟩ := hP.all q.frm (hQ.low q List.mem_cons_self) (by omega) hQ.first
      cases hm
  | cons p P ih =>
    cases Q with
    | nil =>
      have hp := hP.rng p List.mem_cons_self
      obtain ⟨m, hm, -⟩ := hQ.all p.frm (hP.low p List.mem_cons_self) (by omega) hP.first
      cases hm
    | cons q Q =>
      have hp := hP.rng p List.mem_cons_self
      have hq := hQ.rng q List.mem_cons_self
      have le : ∀ {p q : Mv} {P Q : List Mv}, PlanFrom b u v (p :: P) → PlanFrom b u v (q :: Q) → q.frm ≤ p.frm := by
        intro p q P Q hP hQ
        have hp := hP.rng p List.mem_cons_self
        obtain ⟨m, hm, h1, -⟩ := hQ.all p.frm (hP.low p List.mem_cons_self) (by omega) hP.first
        rcases List.mem_cons.1 hm with rfl | hm
        · exact h1
        · have := (List.pairwise_cons.1 hQ.asc).1 m hm
          have := hQ.rng q List.mem_cons_self
          omega
      have hf : p.frm = q.frm := Int.le_antisymm (le hQ hP) (le hP hQ)
      obtain ⟨h1, h2⟩ := hP.own p List.mem_cons_self p.frm (Int.le_refl _) hp.1
      obtain ⟨h3, h4⟩ := hQ.own q List.mem_cons_self p.frm (by omega) (by omega)
      have hs : p.src = q.src := by rw [← h1, h3]
      have hd : p.dst = q.dst := by rw [← h2, h4]
      have ht : p.til = q.til := Int.le_antisymm (hQ.over hP hs.symm hd.symm hf.symm) (hP.over hQ hs hd hf)
      have e : p = q := by
        cases p; cases q
        simp only at hf hs hd ht
        subst hf hs hd ht
        rfl
      subst e
      rw [ih hP.tail hQ.tail]
def swapM (m : Mv) : Mv := ⟨m.frm, m.til, m.dst, m.src⟩
theorem MaxL.swap : ∀ {P : List Mv}, MaxL P → MaxL (P.map swapM)
  | [], _ => trivial
  | [_], _ => trivial
  | _a :: c :: l, h => ⟨fun ⟨h1, h2, h3⟩ => h.1 ⟨h1, h3, h2⟩, MaxL.swap (P := c :: l) h.2⟩
theorem PlanFrom.swap (h : PlanFrom b u v P) : PlanFrom b v u (P.map swapM) where
  low m hm := by obtain ⟨x, hx, rfl⟩ := List.mem_map.1 hm; exact h.low x hx
  rng m hm := by obtain ⟨x, hx, rfl⟩ := List.mem_map.1 hm; exact h.rng x hx
  asc := List.pairwise_map.2 h.asc
  ne m hm := by obtain ⟨x, hx, rfl⟩ := List.mem_map.1 hm; exact fun e => h.ne x hx e.symm
  own m hm y h1 h2 := by obtain ⟨x, hx, rfl⟩ := List.mem_map.1 hm; exact (h.own x hx y h1 h2).symm
  all x h1 h2 h3 := by
    obtain ⟨m, hm, h4⟩ := h.all x h1 h2 (fun e => h3 e.symm)
    exact ⟨swapM m, List.mem_map.2 ⟨m, hm, rfl⟩, h4⟩
  top := h.top.swap
theorem PlanFrom.same (h : PlanFrom b u u P) : P = [] := by
  cases P with
  | nil => rfl
  | cons p P => exact absurd rfl h.first
theorem MaxL.at_ : ∀ {P : List Mv}, MaxL P → ∀ {i : Nat} (hi : i + 1 < P.length), ¬ (P[i].til + 1 = P[i + 1].frm ∧ P[i].src = P[i + 1].src ∧ P[i].dst = P[i + 1].dst)
  | a :: c :: l, h, 0, _ => h.1
  | a :: c :: l, h, i + 1, hi => MaxL.at_ (P := c :: l) h.2 (i := i) (by simpa using hi)
end

/-! ### Which part has a hash -/
def inM (h : Int) (m : Mv) : Bool := decide (m.frm ≤ h) && decide (h ≤ m.til)
def covO (P : List Mv) (h : Int) : Option Mv := P.find? (inM h)
def covM (P : List Mv) (h : Int) : Mv := (covO P h).getD ⟨0, 0, 0, 0⟩
def covB (P : List Mv) (h : Int) : Bool := (covO P h).isSome
/-- Parts that lie apart. -/
structure Apart15 (P : List Mv) : Prop where
  rng : ∀ m ∈ P, 0 ≤ m.frm ∧ m.frm ≤ m.til ∧ m.til < 18446744073709551616
  asc : P.Pairwise fun a b => a.til < b.frm
theorem PlanFrom.apart {u v : Int → Int} {P : List Mv} (h : PlanIs u v P) : Apart15 P := ⟨fun m hm => ⟨h.low m hm, h.rng m hm⟩, h.asc⟩
theorem cov_some {P : List Mv} {h : Int} {m : Mv} (hm : covO P h = some m) : m ∈ P ∧ m.frm ≤ h ∧ h ≤ m.til := by
  have h1 := List.find?_some hm
  unfold inM at h1
  simp only [Bool.and_eq_true, decide_eq_true_eq] at h1
  exact ⟨List.mem_of_find?_eq_some hm, h1⟩
theorem cov_none {P : List Mv} {h : Int} (hn : covO P h = none) (m : Mv) (hm : m ∈ P) : ¬ (m.frm ≤ h ∧ h ≤ m.til) := by
  have h1 := List.find?_eq_none.1 hn m hm
  unfold inM at h1
  simpa using h1
/-- A plan says what the owners say. -/
theorem plan_says {u v : Int → Int} {P : List Mv} (hP : PlanIs u v P) {h : Int} (h0 : 0 ≤ h) (h1 : h < 18446744073709551616) :
    (u h ≠ v h ∧ covB P h = true ∧ (covM P h).src = u h ∧ (covM P h).dst = v h ∧ (covM P h).frm ≤ h ∧ h ≤ (covM P h).til) ∨ (u h = v h ∧ covB P h = false) := by
  unfold covB covM
  cases hc : covO P h with
  | some m =>
    obtain ⟨hm, h2, h3⟩ := cov_some hc
    obtain ⟨h4, h5⟩ := hP.own m hm h h2 h3
    exact .inl ⟨by rw [h4, h5]; exact hP.ne m hm, rfl, h4.symm, h5.symm, h2, h3⟩
  | none =>
    refine .inr ⟨Classical.byContradiction fun hne => ?_, rfl⟩
    obtain ⟨m, hm, h2⟩ := hP.all h h0 h1 hne
    exact cov_none hc m hm h2

/-! ### A node's own hash -/
def onlyB : Bool := [1, 2, 3, 4, 5].all fun n : Int => [1, 2, 3, 4, 5].all fun k : Int => (ptsOf k).all fun x => x.place != placeZ n 0 || k == n
set_option maxRecDepth 100000 in
theorem onlyB_is : onlyB = true := by kernel_rfl
theorem place_u64 (n i : Int) : 0 ≤ placeZ n i ∧ placeZ n i < 18446744073709551616 := ⟨stZ_nonneg _, stZ_lt _⟩
theorem only_of {n k : Int} (hn1 : 1 ≤ n) (hn5 : n ≤ 5) (hk1 : 1 ≤ k) (hk5 : k ≤ 5) {x : P2} (hx : x ∈ ptsOf k) (he : x.place = placeZ n 0) : k = n := by
  have hin : ∀ y : Int, 1 ≤ y → y ≤ 5 → y ∈ ([1, 2, 3, 4, 5] : List Int) := by
    intro y h1 h5
    have : y = 1 ∨ y = 2 ∨ y = 3 ∨ y = 4 ∨ y = 5 := by omega
    rcases this with rfl | rfl | rfl | rfl | rfl <;> simp
  have h := onlyB_is
  unfold onlyB at h
  have h2 := List.all_eq_true.1 (List.all_eq_true.1 (List.all_eq_true.1 h n (hin n hn1 hn5)) k (hin k hk1 hk5)) x hx
  simp only [Bool.or_eq_true, bne_iff_ne, ne_eq, beq_iff_eq] at h2
  exact h2.resolve_left fun hne => hne he
/-- A node's first point is its own. -/
theorem owner_own {l : List Int} (hl : nodesB l = true) {n : Int} (hn : n ∈ l) : ownerL l (placeZ n 0) = n := by
  obtain ⟨h1, h5⟩ := node_in hl hn
  obtain ⟨x, hx⟩ := own_some hl (placeZ n 0)
  have hxm := find_mem hx
  obtain ⟨k, hk, hxk⟩ := pts_mem.1 hxm
  have hpn : (⟨placeZ n 0, n⟩ : P2) ∈ pts l := pts_mem.2 ⟨n, hn, by simp [ptsOf]⟩
  have hax : Asc (pts l) := sort_asc _
  have hpl : x.place = placeZ n 0 := by
    unfold ownO at hx
    cases hf : (pts l).find? fun x => decide (placeZ n 0 ≤ x.place) with
    | none => exact absurd (List.find?_eq_none.1 hf _ hpn) (by simp)
    | some z =>
      rw [hf] at hx
      cases hx
      obtain ⟨hz, ys, zs, hsp, hys⟩ := List.find?_eq_some_iff_append.1 hf
      have hz' : placeZ n 0 ≤ x.place := by simpa using hz
      rw [hsp] at hpn hax
      rcases List.mem_append.1 hpn with hm | hm
      · have := hys _ hm
        simp at this
      · rcases List.mem_cons.1 hm with e | hm
        · rw [← e]
        · have := (List.pairwise_cons.1 (List.pairwise_append.1 hax).2.1).1 _ hm
          simp only [lessB, Bool.or_eq_false_iff, decide_eq_false_iff_not] at this
          omega
  have hnk := node_in hl hk
  have e := only_of h1 h5 hnk.1 hnk.2 hxk hpl
  unfold ownerL
  rw [hl, hx, if_pos rfl]
  show x.node = n
  rw [ptsOf_node hxk, e]
/-- Of a node more all goes to it, and something does. -/
theorem plan_more {x y : List Int} {n : Int} {P : List Mv} (hx : nodesB x = true) (hy : nodesB y = true) (hsub : ∀ z, z ∈ y ↔ z ∈ x ∨ z = n) (hnx : n ∉ x) (hP : PlanIs (ownerL x) (ownerL y) P) : P ≠ [] ∧ ∀ m ∈ P, m.dst = n ∧ m.src ∈ x := by
  constructor
  · intro e
    subst e
    have hny : n ∈ y := (hsub n).2 (.inr rfl)
    obtain ⟨m, hm, -⟩ := hP.all (placeZ n 0) (place_u64 n 0).1 (place_u64 n 0).2 (by
      rw [owner_own hy hny]
      exact fun e => hnx (by rw [← e]; exact owner_mem hx _))
    cases hm
  · intro m hm
    have h1 := hP.rng m hm
    obtain ⟨h2, h3⟩ := hP.own m hm m.frm (Int.le_refl _) h1.1
    refine ⟨?_, by rw [← h2]; exact owner_mem hx _⟩
    rcases owner_join hx hy hsub m.frm with e | e
    · exact absurd (by rw [← h2, ← h3, e]) (hP.ne m hm)
    · rw [← h3]; exact e

end Go.Proofs.Ytcmblihlbmclaaa
