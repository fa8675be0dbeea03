/-
  FlashBetween: rows of entries that rise by their keys (no program).
-/
import Derived.Test.YtoepgbpmcjnbmaaGreatDoorAllCalc
namespace Go.Proofs.YtoepgbpmcjnbmaaGreatDoor.flashBetween
open Go Go.Proofs.YtoepgbpmcjnbmaaGreatDoor
def RiseK (l : List It) : Prop := l.Pairwise fun x y => lessB x.key y.key = true
theorem riseK_iff {l : List It} : Rising (l.map (·.key)) ↔ RiseK l := List.pairwise_map
theorem riseK_nodup {l : List It} (h : RiseK l) : l.Nodup := List.Pairwise.imp (fun {a b} hab e => by
  subst e
  rw [lessB_irrefl] at hab
  cases hab) h
theorem its_one {a b : List It} (ha : RiseK a) (hb : RiseK b) (h : ∀ x, x ∈ a ↔ x ∈ b) : a = b := by
  have hp : a.Perm b := (List.perm_ext_iff_of_nodup (riseK_nodup ha) (riseK_nodup hb)).2 h
  refine List.Perm.eq_of_pairwise (le := fun x y : It => lessB x.key y.key = true) (fun x y _ _ hx hy => ?_) ha hb hp
  have := lessB_trans hx hy
  rw [lessB_irrefl] at this
  cases this
theorem less_empty {k : ByteArray} (h : k ≠ ⟨#[]⟩) : lessB ⟨#[]⟩ k = true := by
  cases hk : lessB ⟨#[]⟩ k with
  | true => rfl
  | false =>
    have h1 := lessB_total hk fun e => h e.symm
    rw [lessB_iff] at h1
    exact absurd h1 (by simp)
theorem rest_is {want got rest all : List It} {after : ByteArray} (hw : want = got ++ rest) (hr : RiseK want) (hall : RiseK all) (hm : ∀ x, x ∈ all ↔ x ∈ want ∧ lessB after x.key = true)
    (ha : (got = [] ∧ after = ⟨#[]⟩ ∧ ∀ x ∈ want, x.key ≠ ⟨#[]⟩) ∨ ∃ y, got.getLast? = some y ∧ after = y.key) : all = rest := by
  subst hw
  obtain ⟨hg, hrest, hcross⟩ := List.pairwise_append.1 hr
  refine its_one hall hrest fun x => ?_
  rw [hm x]
  constructor
  · rintro ⟨hx, hl⟩
    rcases List.mem_append.1 hx with hx | hx
    · rcases ha with ⟨rfl, -, -⟩ | ⟨y, hy, rfl⟩
      · cases hx
      · obtain ⟨pre, rfl⟩ := List.getLast?_eq_some_iff.1 hy
        exfalso
        rcases List.mem_append.1 hx with h1 | h1
        · have h2 := (List.pairwise_append.1 hg).2.2 x h1 y (by simp)
          have := lessB_trans h2 hl
          rw [lessB_irrefl] at this
          cases this
        · rw [List.mem_singleton.1 h1, lessB_irrefl] at hl
          cases hl
    · exact hx
  · intro hx
    refine ⟨List.mem_append.2 (.inr hx), ?_⟩
    rcases ha with ⟨rfl, rfl, hne⟩ | ⟨y, hy, rfl⟩
    · exact less_empty (hne x hx)
    · obtain ⟨pre, rfl⟩ := List.getLast?_eq_some_iff.1 hy
      exact hcross y (by simp) x hx
def Wants (R : ByteArray → Prop) (f : ByteArray → Option It) (want : List It) : Prop := ∀ x, x ∈ want ↔ f x.key = some x ∧ R x.key
section
variable {R : ByteArray → Prop} {f : ByteArray → Option It} {want : List It} {y : It}
theorem wants_skip (h : Wants R f want) (hR : ¬ R y.key) : Wants R (fun k => if k = y.key then some y else f k) want := fun x => by
  rw [h x]
  by_cases hk : x.key = y.key
  · rw [hk]; exact ⟨fun h => absurd h.2 hR, fun h => absurd h.2 hR⟩
  · simp only [if_neg hk]
theorem wants_put (h : Wants R f want) (hr : RiseK want) (hR : R y.key) {k : Nat} (hk : k ≤ want.length) (h1 : ∀ j (hj : j < want.length), j < k → lessB want[j].key y.key = true) (h2 : ∀ hk : k < want.length, lessB want[k].key y.key = false) :
    (∀ hk : k < want.length, want[k].key = y.key → RiseK (want.set k y) ∧ Wants R (fun k => if k = y.key then some y else f k) (want.set k y)) ∧
    ((∀ hk : k < want.length, want[k].key ≠ y.key) → RiseK (want.take k ++ y :: want.drop k) ∧ Wants R (fun k => if k = y.key then some y else f k) (want.take k ++ y :: want.drop k)) := by
  have hlow : ∀ x ∈ want.take k, lessB x.key y.key = true := fun x hx => by
    obtain ⟨i, hi, rfl⟩ := List.getElem_of_mem hx
    rw [List.length_take] at hi
    rw [List.getElem_take]
    exact h1 i (by omega) (by omega)
  have irr : ∀ {a : It}, lessB a.key y.key = true → a.key ≠ y.key := fun hl e => by rw [e, lessB_irrefl] at hl; cases hl
  have irr2 : ∀ {a : It}, lessB y.key a.key = true → a.key ≠ y.key := fun hl e => by rw [e, lessB_irrefl] at hl; cases hl
  refine ⟨fun hkl he => ?_, fun hne => ?_⟩
  · have e0 : want = want.take k ++ want[k] :: want.drop (k + 1) := by
      rw [List.getElem_cons_drop, List.take_append_drop]
    have e1 : want.set k y = want.take k ++ y :: want.drop (k + 1) := by
      rw [List.set_eq_take_append_cons_drop, if_pos hkl]
    have hr' := hr
    rw [e0] at hr'
    obtain ⟨p1, p2, p3⟩ := List.pairwise_append.1 hr'
    obtain ⟨p4, p5⟩ := List.pairwise_cons.1 p2
    rw [e1]
    refine ⟨List.pairwise_append.2 ⟨p1, List.pairwise_cons.2 ⟨fun x hx => by rw [← he]; exact p4 x hx, p5⟩, fun x hx z hz => ?_⟩, fun x => ?_⟩
    · rcases List.mem_cons.1 hz with rfl | hz
      · exact hlow x hx
      · exact p3 x hx z (List.mem_cons_of_mem _ hz)
    · by_cases hxk : x.key = y.key
      · simp only [if_pos hxk]
        constructor
        · intro hx
          rcases List.mem_append.1 hx with hx | hx
          · exact absurd hxk (irr (hlow x hx))
          · rcases List.mem_cons.1 hx with rfl | hx
            · exact ⟨rfl, hR⟩
            · exact absurd hxk (irr2 (by rw [← he]; exact p4 x hx))
        · rintro ⟨hx, -⟩
          injection hx with hx
          subst hx
          simp
      · simp only [if_neg hxk]
        rw [← h x]
        have hm : x ∈ want ↔ x ∈ want.take k ∨ x ∈ want.drop (k + 1) := by
          constructor
          · intro hx
            rw [e0] at hx
            rcases List.mem_append.1 hx with hx | hx
            · exact .inl hx
            · rcases List.mem_cons.1 hx with hx | hx
              · exact absurd (by rw [hx]; exact he) hxk
              · exact .inr hx
          · rintro (hx | hx)
            · exact List.mem_of_mem_take hx
            · exact List.mem_of_mem_drop hx
        rw [hm, List.mem_append, List.mem_cons]
        constructor
        · rintro (hx | rfl | hx)
          · exact .inl hx
          · exact absurd rfl hxk
          · exact .inr hx
        · rintro (hx | hx)
          · exact .inl hx
          · exact .inr (.inr hx)
  · have hup : ∀ x ∈ want.drop k, lessB y.key x.key = true := fun x hx => by
      obtain ⟨i, hi, rfl⟩ := List.getElem_of_mem hx
      rw [List.length_drop] at hi
      rw [List.getElem_drop]
      have h3 : lessB y.key (want[k]'(by omega)).key = true := lessB_total (h2 (by omega)) (hne (by omega))
      rcases Nat.eq_zero_or_pos i with h0 | h0
      · subst h0; exact h3
      · exact lessB_trans h3 (List.pairwise_iff_getElem.1 hr k (k + i) (by omega) (by omega) (by omega))
    have hd : (want.take k ++ want.drop k).Pairwise fun x y => lessB x.key y.key = true := by rw [List.take_append_drop]; exact hr
    obtain ⟨p1, p2, p3⟩ := List.pairwise_append.1 hd
    refine ⟨List.pairwise_append.2 ⟨p1, List.pairwise_cons.2 ⟨hup, p2⟩, fun x hx z hz => ?_⟩, fun x => ?_⟩
    · rcases List.mem_cons.1 hz with rfl | hz
      · exact hlow x hx
      · exact p3 x hx z hz
    · have hm : x ∈ want ↔ x ∈ want.take k ∨ x ∈ want.drop k := by rw [← List.mem_append, List.take_append_drop]
      by_cases hxk : x.key = y.key
      · simp only [if_pos hxk]
        rw [List.mem_append, List.mem_cons]
        constructor
        · rintro (hx | rfl | hx)
          · exact absurd hxk (irr (hlow x hx))
          · exact ⟨rfl, hR⟩
          · exact absurd hxk (irr2 (hup x hx))
        · rintro ⟨hx, -⟩
          injection hx with hx
          exact .inr (.inl hx.symm)
      · simp only [if_neg hxk]
        rw [← h x, hm, List.mem_append, List.mem_cons]
        constructor
        · rintro (hx | rfl | hx)
          · exact .inl hx
          · exact absurd rfl hxk
          · exact .inr hx
        · rintro (hx | hx)
          · exact .inl hx
          · exact .inr (.inr hx)
end
end Go.Proofs.YtoepgbpmcjnbmaaGreatDoor.flashBetween
