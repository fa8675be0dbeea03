/-
  THE PROGRAM's LOG: what 'find' finds on a device that holds a chain of segments.
-/
import Derived.Test.YtgdbkmecfbkobaaDoorSlgFind
namespace Go.Proofs.YtgdbkmecfbkobaaDoor

/-- What a scan over the sectors in 'S' tells. -/
structure Fnd.Tells (rows : List (List UInt8)) (p : Nat) (S : Nat → Nat → Prop) (t : Fnd) : Prop where
  topGe : ∀ i k m x, S i k → secAt rows p i k = some (m, x) → (m : Int) ≤ t.top
  topIs : t.top = -1 ∨ ∃ i k m x, S i k ∧ secAt rows p i k = some (m, x) ∧ t.top = (m : Int)
  headGe : ∀ i m x, S i 0 → secAt rows p i 0 = some (m, x) → (m : Int) ≤ t.head
  headIs : (t.head = -1 ∧ t.slot = 0) ∨ ∃ m x, S t.slot 0 ∧ secAt rows p t.slot 0 = some (m, x) ∧ t.head = (m : Int)
theorem Fnd.Tells.step {rows : List (List UInt8)} {p : Nat} {S S' : Nat → Nat → Prop} {t : Fnd} (h : t.Tells rows p S) (i k : Nat) (hS : ∀ a b, S' a b ↔ S a b ∨ (a = i ∧ b = k)) : (t.step i k (secAt rows p i k)).Tells rows p S' := by
  obtain ⟨h1, h2, h3, h4⟩ := h
  cases hs : secAt rows p i k with
  | none =>
    refine ⟨fun a b m x hab e => ?_, ?_, fun a m x hab e => ?_, ?_⟩
    · rcases (hS a b).1 hab with h | ⟨rfl, rfl⟩
      · exact h1 a b m x h e
      · rw [hs] at e; cases e
    · rcases h2 with h | ⟨a, b, m, x, hab, e, e2⟩
      · exact .inl h
      · exact .inr ⟨a, b, m, x, (hS a b).2 (.inl hab), e, e2⟩
    · rcases (hS a 0).1 hab with h | ⟨rfl, rfl⟩
      · exact h3 a m x h e
      · rw [hs] at e; cases e
    · rcases h4 with h | ⟨m, x, hab, e, e2⟩
      · exact .inl h
      · exact .inr ⟨m, x, (hS _ 0).2 (.inl hab), e, e2⟩
  | some nx =>
    obtain ⟨n, y⟩ := nx
    have hin : S' i k := (hS i k).2 (.inr ⟨rfl, rfl⟩)
    have htop : ∀ a b m x, S' a b → secAt rows p a b = some (m, x) → (m : Int) ≤ max t.top (n : Int) := fun a b m x hab e => by
      rcases (hS a b).1 hab with h | ⟨rfl, rfl⟩
      · have := h1 a b m x h e; omega
      · rw [hs] at e; cases e; omega
    have htopI : max t.top (n : Int) = -1 ∨ ∃ a b m x, S' a b ∧ secAt rows p a b = some (m, x) ∧ max t.top (n : Int) = (m : Int) := by
      by_cases hle : t.top ≤ (n : Int)
      · exact .inr ⟨i, k, n, y, hin, hs, by omega⟩
      · rcases h2 with h | ⟨a, b, m, x, hab, e, e2⟩
        · omega
        · exact .inr ⟨a, b, m, x, (hS a b).2 (.inl hab), e, by omega⟩
    unfold Fnd.step
    simp only
    split
    · rename_i hc
      obtain ⟨hk0, hlt⟩ := hc
      subst hk0
      refine ⟨htop, htopI, fun a m x hab e => ?_, .inr ⟨n, y, hin, hs, rfl⟩⟩
      show (m : Int) ≤ (n : Int)
      rcases (hS a 0).1 hab with h | ⟨rfl, -⟩
      · have := h3 a m x h e; omega
      · rw [hs] at e; cases e; omega
    · rename_i hc
      refine ⟨htop, htopI, fun a m x hab e => ?_, ?_⟩
      · show (m : Int) ≤ t.head
        rcases (hS a 0).1 hab with h | ⟨rfl, hk⟩
        · exact h3 a m x h e
        · subst hk
          rw [hs] at e; cases e
          have := not_and.1 hc rfl
          omega
      · rcases h4 with h | ⟨m, x, hab, e, e2⟩
        · exact .inl h
        · exact .inr ⟨m, x, (hS _ 0).2 (.inl hab), e, e2⟩
theorem Fnd.Tells.iff {rows : List (List UInt8)} {p : Nat} {S S' : Nat → Nat → Prop} {t : Fnd} (h : t.Tells rows p S) (hS : ∀ a b, b < 8 ∨ b = 0 → (S' a b ↔ S a b)) (hb : ∀ a b, S a b → b < 8) (hb' : ∀ a b, S' a b → b < 8) : t.Tells rows p S' := by
  obtain ⟨h1, h2, h3, h4⟩ := h
  refine ⟨fun a b m x hab e => h1 a b m x ((hS a b (.inl (hb' a b hab))).1 hab) e, ?_, fun a m x hab e => h3 a m x ((hS a 0 (.inr rfl)).1 hab) e, ?_⟩
  · rcases h2 with h | ⟨a, b, m, x, hab, e, e2⟩
    · exact .inl h
    · exact .inr ⟨a, b, m, x, (hS a b (.inl (hb a b hab))).2 hab, e, e2⟩
  · rcases h4 with h | ⟨m, x, hab, e, e2⟩
    · exact .inl h
    · exact .inr ⟨m, x, (hS _ 0 (.inr rfl)).2 hab, e, e2⟩
/-- The sectors ahead of the k-th of slot i. -/
def ahead (i k : Nat) : Nat → Nat → Prop := fun a b => b < 8 ∧ (a < i ∨ (a = i ∧ b < k))
theorem findIn_tells (rows : List (List UInt8)) (p i : Nat) (t : Fnd) (h : t.Tells rows p (ahead i 0)) (k : Nat) (hk : k ≤ 8) : (findIn rows p i t k).Tells rows p (ahead i k) := by
  induction k with
  | zero => exact h
  | succ k ih =>
    exact (ih (by omega)).step i k (fun a b => by unfold ahead; constructor <;> intro h <;> omega)
theorem findTo_tells (rows : List (List UInt8)) (p : Nat) (j : Nat) : (findTo rows p j).Tells rows p (ahead j 0) := by
  induction j with
  | zero => exact ⟨fun a b m x hab => by unfold ahead at hab; omega, .inl rfl, fun a m x hab => by unfold ahead at hab; omega, .inl ⟨rfl, rfl⟩⟩
  | succ j ih =>
    exact (findIn_tells rows p j _ ih 8 (Nat.le_refl _)).iff (fun a b hb => by unfold ahead; constructor <;> intro h <;> omega) (fun a b h => h.1) (fun a b h => h.1)

/-- Every sector of a chain's device tells a number of its last segment, or a lower one. -/
theorem find_empty {rows : List (List UInt8)} {p segs : Nat} (h : OnDisk rows p segs []) : (findTo rows p segs).top = -1 ∧ (findTo rows p segs).head = -1 := by
  obtain ⟨-, h2, -, h4⟩ := findTo_tells rows p segs
  have hn : ∀ a b, ahead segs 0 a b → secAt rows p a b = none := fun a b hab => by
    unfold ahead at hab
    exact h.none a (by omega) (fun s hs => by cases hs) b hab.1
  constructor
  · rcases h2 with h | ⟨a, b, m, x, hab, e, -⟩
    · exact h
    · rw [hn a b hab] at e; cases e
  · rcases h4 with h | ⟨m, x, hab, e, -⟩
    · exact h.1
    · rw [hn _ _ hab] at e; cases e
theorem nsec_pos (n : Nat) : 0 < nsec n := by unfold nsec; omega
theorem find_last {rows : List (List UInt8)} {p segs b0 : Nat} {ks : List Seg} {l : Seg} (hc : Chain segs b0 (ks ++ [l])) (h : OnDisk rows p segs (ks ++ [l])) :
    (findTo rows p segs).slot = l.slot ∧ (findTo rows p segs).head = (l.first : Int) * 8 ∧ 0 ≤ (findTo rows p segs).top ∧ (findTo rows p segs).top / 8 = (l.first : Int) := by
  obtain ⟨h1, h2, h3, h4⟩ := findTo_tells rows p segs
  have hml : l ∈ ks ++ [l] := by simp
  have hls := hc.slot_lt l hml
  have hl0 := (h.on l hml).has 0 (nsec_pos _)
  have hbelow : ∀ s ∈ ks, s.first < l.first := fun s hs => by
    have h1 := (List.pairwise_append.1 hc.rise).2.2 s hs l (by simp)
    have h2 := List.length_pos_iff.2 (hc.full s (List.mem_append_left _ hs))
    unfold Seg.end_ at h1
    omega
  -- each sector
  have hsec : ∀ a b m x, a < segs → b < 8 → secAt rows p a b = some (m, x) → m < l.first * 8 ∨ (a = l.slot ∧ m = l.first * 8 + b) := fun a b m x ha hb e => by
    by_cases hs : ∃ s ∈ ks ++ [l], s.slot = a
    · obtain ⟨s, hs, rfl⟩ := hs
      have hon := h.on s hs
      by_cases hn : b < nsec s.text.length
      · have := hon.has b hn
        rw [e] at this
        cases this
        rcases List.mem_append.1 hs with hs | hs
        · have := hbelow s hs; left; omega
        · rw [List.mem_singleton.1 hs]; exact .inr ⟨rfl, rfl⟩
      · have := hon.rest b (by omega) hb m x e
        rcases List.mem_append.1 hs with hs | hs
        · have := hbelow s hs; left; omega
        · rw [List.mem_singleton.1 hs] at this; exact .inl this
    · rw [h.none a ha (fun s hs' e' => hs ⟨s, hs', e'⟩) b hb] at e; cases e
  have hge : (l.first : Int) * 8 ≤ (findTo rows p segs).top := by
    have := h1 l.slot 0 _ _ (by unfold ahead; omega) hl0; omega
  have hhd : (l.first : Int) * 8 ≤ (findTo rows p segs).head := by
    have := h3 l.slot _ _ (by unfold ahead; omega) hl0; omega
  have hslot : (findTo rows p segs).slot = l.slot ∧ (findTo rows p segs).head = (l.first : Int) * 8 := by
    rcases h4 with ⟨e, -⟩ | ⟨m, x, hab, e, e2⟩
    · omega
    · rcases hsec _ 0 m x (by unfold ahead at hab; omega) (by omega) e with h | ⟨h, hm⟩
      · omega
      · exact ⟨h, by omega⟩
  refine ⟨hslot.1, hslot.2, by omega, ?_⟩
  rcases h2 with e | ⟨a, b, m, x, hab, e, e2⟩
  · omega
  · unfold ahead at hab
    rcases hsec a b m x (by omega) hab.1 e with h | ⟨-, hm⟩
    · omega
    · omega

end Go.Proofs.YtgdbkmecfbkobaaDoor
