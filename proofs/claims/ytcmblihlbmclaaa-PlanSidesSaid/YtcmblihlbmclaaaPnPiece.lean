/-
  A PLAN PIECE BY PIECE, AS MATHEMATICS (layer 15): between two ends no owner changes; pieces are joined into parts.
-/
import Derived.Test.YtcmblihlbmclaaaPnMath
namespace Go.Proofs.Ytcmblihlbmclaaa
open Go Go.RowKit Go.Joins

theorem find_same {α : Type} {p q : α → Bool} : ∀ {l : List α}, (∀ x ∈ l, p x = q x) → l.find? p = l.find? q
  | [], _ => rfl
  | a :: l, h => by
    have h1 := h a List.mem_cons_self
    have h2 := find_same (l := l) fun x hx => h x (List.mem_cons_of_mem _ hx)
    simp only [List.find?_cons, h1, h2]
/-- Where no point lies from h to before t, both have one owner. -/
theorem own_piece {l : List Int} {h t : Int} (hle : h ≤ t) (hno : ∀ p ∈ pts l, h ≤ p.place → t ≤ p.place) : ownerL l h = ownerL l t := by
  have e : ownO l h = ownO l t := by
    unfold ownO
    rw [find_same fun p hp => show decide (h ≤ p.place) = decide (t ≤ p.place) from by
      by_cases g : h ≤ p.place
      · rw [decide_eq_true g, decide_eq_true (hno p hp g)]
      · rw [decide_eq_false g, decide_eq_false (by omega)]]
  unfold ownerL
  rw [e]

/-- Does m go on where p ends? -/
def goesB (p m : Mv) : Bool := decide (m.frm = p.til + 1) && (decide (p.src = m.src) && decide (p.dst = m.dst))
def longM (p m : Mv) : Mv := ⟨p.frm, m.til, p.src, p.dst⟩
/-- One piece more. -/
def joinL (P : List Mv) (m : Mv) : List Mv :=
  match P.getLast? with
  | some p => if goesB p m then P.dropLast ++ [longM p m] else P ++ [m]
  | none => [m]
theorem joinL_nil (m : Mv) : joinL [] m = [m] := rfl
theorem joinL_snoc (Q : List Mv) (p m : Mv) : joinL (Q ++ [p]) m = if goesB p m then Q ++ [longM p m] else Q ++ [p] ++ [m] := by
  unfold joinL
  rw [List.getLast?_concat, List.dropLast_concat]
theorem MaxL.snoc : ∀ {Q : List Mv} {p m : Mv}, MaxL (Q ++ [p]) → ¬ (p.til + 1 = m.frm ∧ p.src = m.src ∧ p.dst = m.dst) → MaxL (Q ++ [p] ++ [m])
  | [], _, _, _, h => ⟨h, trivial⟩
  | [_], _, _, h1, h => ⟨h1.1, h, trivial⟩
  | _ :: b :: Q, _, _, h1, h => ⟨h1.1, MaxL.snoc (Q := b :: Q) h1.2 h⟩
theorem MaxL.long : ∀ {Q : List Mv} {p q : Mv}, MaxL (Q ++ [p]) → q.frm = p.frm → q.src = p.src → q.dst = p.dst → MaxL (Q ++ [q])
  | [], _, _, _, _, _, _ => trivial
  | [_], _, _, h, e1, e2, e3 => ⟨by rw [e1, e2, e3]; exact h.1, trivial⟩
  | _ :: b :: Q, _, _, h, e1, e2, e3 => ⟨h.1, MaxL.long (Q := b :: Q) h.2 e1 e2 e3⟩

/-- The parts up to, without, t in which u and v differ. -/
structure PlanTo (t : Int) (u v : Int → Int) (P : List Mv) : Prop where
  low : ∀ m ∈ P, 0 ≤ m.frm
  rng : ∀ m ∈ P, m.frm ≤ m.til ∧ m.til < t
  asc : P.Pairwise fun a b => a.til < b.frm
  ne : ∀ m ∈ P, m.src ≠ m.dst
  own : ∀ m ∈ P, ∀ h, m.frm ≤ h → h ≤ m.til → u h = m.src ∧ v h = m.dst
  all : ∀ h, 0 ≤ h → h < t → u h ≠ v h → ∃ m ∈ P, m.frm ≤ h ∧ h ≤ m.til
  top : MaxL P
section
variable {f t a b : Int} {u v : Int → Int} {P : List Mv}
theorem PlanTo.nil : PlanTo 0 u v [] := ⟨fun _ h => by simp at h, fun _ h => by simp at h, List.Pairwise.nil, fun _ h => by simp at h, fun _ h => by simp at h, fun h h1 h2 => by omega, trivial⟩
theorem PlanTo.full (h : PlanTo 18446744073709551616 u v P) : PlanIs u v P := ⟨h.low, h.rng, h.asc, h.ne, h.own, h.all, h.top⟩
theorem PlanTo.same (h : PlanTo f u v P) (hft : f ≤ t) (hp : ∀ z, f ≤ z → z ≤ t → u z = a ∧ v z = b) (hab : a = b) : PlanTo (t + 1) u v P := by
  refine ⟨h.low, fun m hm => ?_, h.asc, h.ne, h.own, fun z h0 h1 h2 => ?_, h.top⟩
  · have := h.rng m hm; omega
  · refine h.all z h0 (Int.not_le.1 fun hz => ?_) h2
    obtain ⟨e1, e2⟩ := hp z hz (by omega)
    exact h2 (by rw [e1, e2, hab])
theorem PlanTo.join (h : PlanTo f u v P) (h0 : 0 ≤ f) (hft : f ≤ t) (hp : ∀ z, f ≤ z → z ≤ t → u z = a ∧ v z = b) (hab : a ≠ b) : PlanTo (t + 1) u v (joinL P ⟨f, t, a, b⟩) := by
  rcases List.eq_nil_or_concat P with rfl | ⟨Q, p, rfl⟩
  · rw [joinL_nil]
    refine ⟨fun m hm => ?_, fun m hm => ?_, List.pairwise_singleton _ _, fun m hm => ?_, fun m hm => ?_, fun z g0 g1 g2 => ?_, trivial⟩
    · rw [List.mem_singleton.1 hm]; exact h0
    · rw [List.mem_singleton.1 hm]; exact ⟨hft, by show t < t + 1; omega⟩
    · rw [List.mem_singleton.1 hm]; exact hab
    · rw [List.mem_singleton.1 hm]; exact fun z g1 g2 => hp z g1 g2
    · rcases Int.lt_or_le z f with g | g
      · obtain ⟨m, hm, -⟩ := h.all z g0 g g2
        simp at hm
      · exact ⟨_, List.mem_singleton.2 rfl, g, by show z ≤ t; omega⟩
  · rw [List.concat_eq_append] at *
    have hpm : p ∈ Q ++ [p] := by simp
    have hpr := h.rng p hpm
    have hpo := h.own p hpm
    rw [joinL_snoc]
    cases hg : goesB p ⟨f, t, a, b⟩ with
    | true =>
      rw [if_pos rfl]
      simp only [goesB, Bool.and_eq_true, decide_eq_true_eq] at hg
      obtain ⟨g1, g2, g3⟩ := hg
      have hq : ∀ m ∈ Q ++ [longM p ⟨f, t, a, b⟩], (m ∈ Q ++ [p] ∧ m ∈ Q) ∨ m = ⟨p.frm, t, p.src, p.dst⟩ := fun m hm => by
        rcases List.mem_append.1 hm with hm | hm
        · exact .inl ⟨List.mem_append_left _ hm, hm⟩
        · exact .inr (List.mem_singleton.1 hm)
      refine ⟨fun m hm => ?_, fun m hm => ?_, ?_, fun m hm => ?_, fun m hm => ?_, fun z k0 k1 k2 => ?_, h.top.long rfl rfl rfl⟩
      · rcases hq m hm with ⟨hm, -⟩ | rfl
        · exact h.low m hm
        · exact h.low p hpm
      · rcases hq m hm with ⟨hm, -⟩ | rfl
        · have := h.rng m hm; omega
        · exact ⟨by show p.frm ≤ t; omega, by show t < t + 1; omega⟩
      · have ha := h.asc
        rw [List.pairwise_append] at ha ⊢
        refine ⟨ha.1, List.pairwise_singleton _ _, fun q hq2 m hm => ?_⟩
        rw [List.mem_singleton.1 hm]
        exact ha.2.2 q hq2 p (List.mem_singleton.2 rfl)
      · rcases hq m hm with ⟨hm, -⟩ | rfl
        · exact h.ne m hm
        · exact h.ne p hpm
      · rcases hq m hm with ⟨hm, -⟩ | rfl
        · exact h.own m hm
        · intro z k1 k2
          rcases Int.lt_or_le p.til z with k | k
          · obtain ⟨e1, e2⟩ := hp z (by omega) k2
            exact ⟨e1.trans g2.symm, e2.trans g3.symm⟩
          · exact hpo z k1 k
      · rcases Int.lt_or_le z f with k | k
        · obtain ⟨m, hm, k3, k4⟩ := h.all z k0 k k2
          rcases List.mem_append.1 hm with hm | hm
          · exact ⟨m, List.mem_append_left _ hm, k3, k4⟩
          · rw [List.mem_singleton.1 hm] at k3 k4
            exact ⟨_, List.mem_append_right _ (List.mem_singleton.2 rfl), k3, by show z ≤ t; omega⟩
        · exact ⟨_, List.mem_append_right _ (List.mem_singleton.2 rfl), by show p.frm ≤ z; omega, by show z ≤ t; omega⟩
    | false =>
      rw [if_neg (by simp)]
      have hq : ∀ m ∈ Q ++ [p] ++ [⟨f, t, a, b⟩], m ∈ Q ++ [p] ∨ m = ⟨f, t, a, b⟩ := fun m hm => by
        rcases List.mem_append.1 hm with hm | hm
        · exact .inl hm
        · exact .inr (List.mem_singleton.1 hm)
      refine ⟨fun m hm => ?_, fun m hm => ?_, ?_, fun m hm => ?_, fun m hm => ?_, fun z k0 k1 k2 => ?_, h.top.snoc fun hn => ?_⟩
      · rcases hq m hm with hm | rfl
        · exact h.low m hm
        · exact h0
      · rcases hq m hm with hm | rfl
        · have := h.rng m hm; omega
        · exact ⟨hft, by show t < t + 1; omega⟩
      · rw [List.pairwise_append]
        refine ⟨h.asc, List.pairwise_singleton _ _, fun q hq2 m hm => ?_⟩
        rw [List.mem_singleton.1 hm]
        exact (h.rng q hq2).2
      · rcases hq m hm with hm | rfl
        · exact h.ne m hm
        · exact hab
      · rcases hq m hm with hm | rfl
        · exact h.own m hm
        · exact fun z k1 k2 => hp z k1 k2
      · rcases Int.lt_or_le z f with k | k
        · obtain ⟨m, hm, k3, k4⟩ := h.all z k0 k k2
          exact ⟨m, List.mem_append_left _ hm, k3, k4⟩
        · exact ⟨_, List.mem_append_right _ (List.mem_singleton.2 rfl), k, by show z ≤ t; omega⟩
      · have : goesB p ⟨f, t, a, b⟩ = true := by
          simp only [goesB, Bool.and_eq_true, decide_eq_true_eq]
          exact ⟨hn.1.symm, hn.2.1, hn.2.2⟩
        rw [this] at hg
        cases hg
theorem joinL_len (P : List Mv) (m : Mv) : (joinL P m).length ≤ P.length + 1 := by
  rcases List.eq_nil_or_concat P with rfl | ⟨Q, p, rfl⟩
  · simp [joinL_nil]
  · rw [List.concat_eq_append, joinL_snoc]
    split <;> simp
end

end Go.Proofs.Ytcmblihlbmclaaa
