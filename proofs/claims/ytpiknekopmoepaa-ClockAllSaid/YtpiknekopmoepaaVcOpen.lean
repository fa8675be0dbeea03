/-
  AN ARGUMENT THAT IS A SLICE OF SLICES OF WHOLE NUMBERS, opened.
-/
import Derived.Test.YtpiknekopmoepaaFrame
import Derived.Test.YtpiknekopmoepaaIPart
namespace Go.Proofs.Ytpiknekopmoepaa
open Go Go.ChangeShapes Go.WideShapes Go.ChangeAt Go.RowKit Go.Deep

section
variable {H : Type} {enc : TypeId × Value → H} {P : Program} {W : World}
/-- A slice of whole numbers, off its cells. -/
theorem open_ints_cs {t e : TypeId} {k : IntKind} {fuel : Nat} {cs : List Value} {y : DataW H × List MemPlace} (ht : P.underlying t = some (.slice e)) (he : P.underlying e = some (.int k)) (ce : P.cellsOf e = 1)
    (hf : DataW.trod enc P W 0 (fun _ => true) true fuel t cs = some y) :
    ∃ (A : Option Addr) (cap : Nat) (l : List Int), cs = [.slice A l.length cap] ∧ l.length ≤ cap ∧ cap ≤ maxLen ∧ (A = none → cap = 0) ∧ Row W A (fun b => b < W.heap.size) (l.map (Value.int k)) ∧ ∀ n ∈ l, (Lit.int k n).wf = true := by
  rcases open_ints ht he ce hf with ⟨hcs, _⟩ | ⟨x, len, cap, zs, hcs, _, hl, hm, hz, _, hcell, hwz⟩
  · exact ⟨none, 0, [], hcs, Nat.le_refl _, Nat.zero_le _, (fun _ => rfl), Row.nil _ _ _, by simp⟩
  · simp only [if_true] at hz
    have hln : (zs.take len).length = len := by simp; omega
    refine ⟨some x, cap, zs.take len, by rw [hln]; exact hcs, by rw [hln]; exact hl, hm, (fun h => by cases h), (fun hne => ?_), fun n hn => hwz n (List.mem_of_mem_take hn)⟩
    have hpos : 0 < len := by
      rcases Nat.eq_zero_or_pos len with h0 | h0
      · subst h0; simp at hne
      · exact h0
    obtain ⟨b, off, spot⟩ := x
    have hspot : spot = none := by simpa [Addr.add] using World.cell?_spot (hcell 0 (by omega))
    subst hspot
    have h0 := hcell 0 (by omega)
    rw [add_plain] at h0
    refine ⟨b, off, rfl, World.block_lt_of_cell? W _ h0, fun i v hv => ?_⟩
    simp only [List.getElem?_map, Option.map_eq_some_iff] at hv
    obtain ⟨z, hzi, rfl⟩ := hv
    have hi : i < len := by
      rcases Nat.lt_or_ge i len with h1 | h1
      · exact h1
      · rw [List.getElem?_take, if_neg (by omega)] at hzi; cases hzi
    rw [List.getElem?_take, if_pos hi] at hzi
    have hc := hcell i (by omega)
    rw [add_plain] at hc
    have e0 : zs.getD i 0 = z := by rw [List.getD_eq_getElem?_getD, hzi]; rfl
    rw [e0] at hc
    exact hc
/-- A slice of slices of whole numbers. -/
theorem open_i64rows {t e q : TypeId} {v : Value} {d : DataW H} {ps : List MemPlace} {base : Nat} (ht : P.underlying t = some (.slice e)) (he : P.underlying e = some (.slice q)) (hq : P.underlying q = some (.int .i64)) (ce : P.cellsOf e = 1) (cq : P.cellsOf q = 1)
    (hok : Value.okWide P W .any base t v) (h : DataW.Trod enc P W 0 (fun _ => true) true t v d ps) :
    ∃ (B : Option Addr) (cap : Nat) (l : List IPart), v = .slice B l.length cap ∧ l.length ≤ cap ∧ cap ≤ maxLen ∧ (B = none → cap = 0) ∧ Row W B (fun b => b < W.heap.size) (l.map IPart.val) ∧ ∀ p ∈ l, p.Fits W := by
  obtain ⟨a, len, cap, rfl⟩ := okWide_slice ht hok
  obtain ⟨fuel, hf⟩ := h
  rcases open_slice1 ht ce hf with ⟨hcs, _⟩ | ⟨x, n, c, m, fu, V, D, Pl, hcs, _, hl, hm, hmm, _, hcell⟩
  · simp [Value.cells] at hcs
    obtain ⟨rfl, rfl, rfl⟩ := hcs
    exact ⟨none, 0, [], rfl, Nat.le_refl _, Nat.zero_le _, (fun _ => rfl), Row.nil _ _ _, by simp⟩
  · simp [Value.cells] at hcs
    obtain ⟨rfl, rfl, rfl⟩ := hcs
    simp only [if_true] at hmm
    subst hmm
    have each : ∀ i, i < len → ∃ p : IPart, V i = p.val ∧ p.Fits W := fun i hi => by
      obtain ⟨A, c, l, h1, h2, h3, -, h5, h6⟩ := open_ints_cs he hq cq (hcell i (by omega)).2
      exact ⟨⟨A, c, l⟩, (List.cons.inj h1).1, h2, h3, h5, fun n hn => (by have := (bounds_i64 (h6 n hn)).2; omega)⟩
    obtain ⟨f, hpf⟩ := choose_lt each
    refine ⟨some x, m, (List.range len).map f, by simp, by simpa using hl, hm, (fun h => by cases h), (fun hne => ?_), fun p hp => ?_⟩
    · have hpos : 0 < len := by
        rcases Nat.eq_zero_or_pos len with h0 | h0
        · subst h0; simp at hne
        · exact h0
      obtain ⟨b, off, spot⟩ := x
      have hspot : spot = none := by simpa [Addr.add] using World.cell?_spot (hcell 0 (by omega)).1
      subst hspot
      have h0 := (hcell 0 (by omega)).1
      rw [add_plain] at h0
      refine ⟨b, off, rfl, World.block_lt_of_cell? W _ h0, fun i v hv => ?_⟩
      simp only [List.getElem?_map, Option.map_eq_some_iff] at hv
      obtain ⟨p, ⟨j, hj, rfl⟩, rfl⟩ := hv
      have hi : i < len ∧ j = i := by
        have := List.getElem?_eq_some_iff.1 hj
        obtain ⟨h1, h2⟩ := this
        simp at h1 h2
        exact ⟨h1, h2.symm⟩
      obtain ⟨hi, rfl⟩ := hi
      have hc := (hcell j (by omega)).1
      rw [add_plain, (hpf j hi).1] at hc
      exact hc
    · obtain ⟨j, hj, rfl⟩ := List.mem_map.1 hp
      exact (hpf j (List.mem_range.1 hj)).2
end

end Go.Proofs.Ytpiknekopmoepaa
