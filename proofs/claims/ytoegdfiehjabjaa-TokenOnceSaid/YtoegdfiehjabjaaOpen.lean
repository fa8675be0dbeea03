/-
  HOW ARGUMENTS OPEN, MORE (my own text; it knows no program): a slice of one-cell elements of any kind; a slice of structs.
-/
import Derived.Test.YtoegdfiehjabjaaFrame
import Derived.Deep.Fields
namespace Go.Proofs.Ytoegdfiehjabjaa
open Go Go.ChangeShapes Go.WideShapes Go.ChangeAt Go.RowKit Go.Deep

section
variable {H : Type} {enc : TypeId × Value → H} {P : Program} {W : World}
/-- A slice of one-cell elements, off its cells. -/
theorem open_list {α : Type} [Inhabited α] (val : α → Value) (good : α → Prop) {t e : TypeId} {fuel : Nat} {cs : List Value} {x : DataW H × List MemPlace} (ht : P.underlying t = some (.slice e)) (ce : P.cellsOf e = 1)
    (hel : ∀ n v y, DataW.trod enc P W 0 (fun _ => true) true n e [v] = some y → ∃ a, v = val a ∧ good a) (hf : DataW.trod enc P W 0 (fun _ => true) true fuel t cs = some x) :
    ∃ (A : Option Addr) (cap : Nat) (l : List α), cs = [.slice A l.length cap] ∧ l.length ≤ cap ∧ cap ≤ maxLen ∧ (A = none → cap = 0) ∧ Row W A (fun b => b < W.heap.size) (l.map val) ∧ ∀ a ∈ l, good a := by
  rcases open_slice1 ht ce hf with ⟨hcs, _⟩ | ⟨ad, len, cap, m, fu, V, D, Pl, hcs, _, hl, hm, hmm, _, hcell⟩
  · exact ⟨none, 0, [], hcs, Nat.le_refl _, Nat.zero_le _, (fun _ => rfl), Row.nil _ _ _, by simp⟩
  · simp only [if_true] at hmm
    subst hmm
    obtain ⟨f, hpf⟩ := choose_lt (n := len) (p := fun i a => V i = val a ∧ good a) fun i hi => hel fu (V i) _ (hcell i (by omega)).2
    refine ⟨some ad, m, (List.range len).map f, by simpa using hcs, by simpa using hl, hm, (fun h => by cases h), (fun hne => ?_), fun a ha => ?_⟩
    · have hpos : 0 < len := by
        rcases Nat.eq_zero_or_pos len with h0 | h0
        · subst h0; simp at hne
        · exact h0
      obtain ⟨b, off, spot⟩ := ad
      have hspot : spot = none := by simpa [Addr.add] using World.cell?_spot (hcell 0 (by omega)).1
      subst hspot
      have h0 := (hcell 0 (by omega)).1
      rw [add_plain] at h0
      refine ⟨b, off, rfl, World.block_lt_of_cell? W _ h0, fun i v hv => ?_⟩
      have hi : i < len := by
        have := (List.getElem?_eq_some_iff.1 hv).1
        simpa using this
      rw [List.getElem?_map, List.getElem?_map, List.getElem?_range hi] at hv
      simp only [Option.map_some, Option.some.injEq] at hv
      have hc := (hcell i (by omega)).1
      rw [add_plain, (hpf i hi).1] at hc
      rw [hc, hv]
    · obtain ⟨j, hj, rfl⟩ := List.mem_map.1 ha
      exact (hpf j (List.mem_range.1 hj)).2
/-- A slice of bools. -/
theorem open_bools {t e : TypeId} {fuel : Nat} {cs : List Value} {x : DataW H × List MemPlace} (ht : P.underlying t = some (.slice e)) (he : P.underlying e = some .bool) (ce : P.cellsOf e = 1) (hf : DataW.trod enc P W 0 (fun _ => true) true fuel t cs = some x) :
    ∃ (A : Option Addr) (cap : Nat) (l : List Bool), cs = [.slice A l.length cap] ∧ l.length ≤ cap ∧ cap ≤ maxLen ∧ (A = none → cap = 0) ∧ Row W A (fun b => b < W.heap.size) (l.map Value.bool) := by
  obtain ⟨A, cap, l, h1, h2, h3, h4, h5, _⟩ := open_list (α := Bool) Value.bool (fun _ => True) ht ce (fun n v y h => by
    obtain ⟨b, hb, _⟩ := DataW.trod_bool he h
    exact ⟨b, (List.cons.inj hb).1, trivial⟩) hf
  exact ⟨A, cap, l, h1, h2, h3, h4, h5⟩
/-- Off the argument itself. -/
theorem open_bools_whole {t e : TypeId} {v : Value} {d : DataW H} {ps : List MemPlace} {base : Nat} (ht : P.underlying t = some (.slice e)) (he : P.underlying e = some .bool) (ce : P.cellsOf e = 1)
    (hok : Value.okWide P W .any base t v) (h : DataW.Trod enc P W 0 (fun _ => true) true t v d ps) :
    ∃ (A : Option Addr) (cap : Nat) (l : List Bool), v = .slice A l.length cap ∧ l.length ≤ cap ∧ cap ≤ maxLen ∧ (A = none → cap = 0) ∧ Row W A (fun b => b < W.heap.size) (l.map Value.bool) := by
  obtain ⟨a, len, cap, rfl⟩ := okWide_slice ht hok
  obtain ⟨fuel, hf⟩ := h
  obtain ⟨A, c, l, hcs, h1, h2, h3, h4⟩ := open_bools ht he ce hf
  simp [Value.cells] at hcs
  obtain ⟨rfl, rfl, rfl⟩ := hcs
  exact ⟨_, _, l, rfl, h1, h2, h3, h4⟩
/-- A slice of structs of one-cell fields: each element's cells, and what each reads as. -/
theorem open_structs {t e : TypeId} {fs : Array Field} {fuel : Nat} {cs : List Value} {x : DataW H × List MemPlace} (ht : P.underlying t = some (.slice e)) (he : P.underlying e = some (.struct fs)) (hone : oneCellFields P fs = true) (hC : P.cellsOf e = fs.size) (hpos : 0 < fs.size)
    (hf : DataW.trod enc P W 0 (fun _ => true) true fuel t cs = some x) :
    ∃ (A : Option Addr) (len cap : Nat), cs = [.slice A len cap] ∧ len ≤ cap ∧ cap ≤ maxLen ∧ (A = none → cap = 0) ∧
      ∀ i, i < len → ∃ (b o : Nat) (vs : List Value) (n : Nat), A = some ⟨b, o, none⟩ ∧ b < W.heap.size ∧ vs.length = fs.size ∧
        (∀ j v, vs[j]? = some v → W.cell? ⟨b, o + (i * fs.size + j), none⟩ = some v) ∧ ∀ (j : Nat) (f : Field), fs[j]? = some f → ∃ v y, vs[j]? = some v ∧ DataW.trod enc P W 0 (fun _ => true) true n f.type [v] = some y := by
  rcases open_slice ht hf with ⟨hcs, _⟩ | ⟨ad, len, cap, m, fu, D, Pl, hcs, _, hl, hm, hmm, _, hcell⟩
  · exact ⟨none, 0, 0, hcs, Nat.le_refl _, Nat.zero_le _, (fun _ => rfl), fun i hi => by omega⟩
  · simp only [if_true] at hmm
    subst hmm
    refine ⟨some ad, len, m, hcs, hl, hm, (fun h => by cases h), fun i hi => ?_⟩
    obtain ⟨vs, hc, htr⟩ := hcell i (by omega)
    rw [hC] at hc
    obtain ⟨_, hvl, hat⟩ := World.cells?_some hc
    obtain ⟨ys, n, _, _, hcl, hyl, hfl⟩ := DataW.trod_struct he htr
    obtain ⟨b, off, spot⟩ := ad
    have hat' : ∀ j v, vs[j]? = some v → W.cell? ((⟨b, off, spot⟩ : Addr).add (i * fs.size + j)) = some v := fun j v hv => by
      have hj : j < fs.size := by have := (List.getElem?_eq_some_iff.1 hv).1; omega
      rw [← Go.Deep.add_add, hat j hj, hv]
    have h0 : 0 < vs.length := by omega
    have hspot : spot = none := by
      obtain ⟨vs0, hc0, _⟩ := hcell 0 (by omega)
      rw [hC] at hc0
      obtain ⟨_, hvl0, hat0⟩ := World.cells?_some hc0
      have h2 := hat0 0 hpos
      rw [Go.Deep.add_add, List.getElem?_eq_getElem (by omega)] at h2
      simpa [Addr.add] using World.cell?_spot h2
    subst hspot
    refine ⟨b, off, vs, n, rfl, ?_, hvl, fun j v hv => ?_, fun j f hj => ?_⟩
    · have h1 := hat' 0 vs[0] (List.getElem?_eq_getElem h0)
      rw [add_plain] at h1
      exact World.block_lt_of_cell? W _ h1
    · have h1 := hat' j v hv
      rwa [add_plain] at h1
    · obtain ⟨ho, hk⟩ := hone_of hone j f hj
      have hjs : j < fs.size := (Array.getElem?_eq_some_iff.1 hj).1
      have h1 := hfl j f hj
      have hjv : j < vs.length := by omega
      rw [ho, hk, List.drop_eq_getElem_cons hjv, List.take_succ_cons, List.take_zero, List.getElem?_eq_getElem (by omega)] at h1
      exact ⟨_, _, List.getElem?_eq_getElem hjv, h1⟩
end

end Go.Proofs.Ytoegdfiehjabjaa
