/-
  A SLICE OF STRUCTS OF ANY NUMBER OF CELLS, as a law is handed it.
-/
import Derived.Test.YtpijhpfcigjkeaaDoorAllLaid
namespace Go.Proofs.YtpijhpfcigjkeaaDoor
open Go Go.ChangeShapes Go.WideShapes Go.ChangeAt Go.RowKit Go.Deep

section
variable {H : Type} {enc : TypeId × Value → H} {P : Program} {W : World}
/-- A slice of structs of N cells, whatever their fields. -/
theorem open_rows {t e : TypeId} {N : Nat} {fuel : Nat} {cs : List Value} {x : DataW H × List MemPlace} (ht : P.underlying t = some (.slice e)) (hC : P.cellsOf e = N) (hpos : 0 < N)
    (hf : DataW.trod enc P W 0 (fun _ => true) true fuel t cs = some x) :
    ∃ (A : Option Addr) (len cap : Nat), cs = [.slice A len cap] ∧ len ≤ cap ∧ cap ≤ maxLen ∧ (A = none → cap = 0) ∧
      ∀ i, i < len → ∃ (b o : Nat) (vs : List Value) (n : Nat) (y : DataW H × List MemPlace), A = some ⟨b, o, none⟩ ∧ b < W.heap.size ∧ vs.length = N ∧
        (∀ j v, vs[j]? = some v → W.cell? ⟨b, o + (i * N + j), none⟩ = some v) ∧ DataW.trod enc P W 0 (fun _ => true) true n e vs = some y := by
  rcases open_slice ht hf with ⟨hcs, _⟩ | ⟨ad, len, cap, m, fu, D, Pl, hcs, _, hl, hm, hmm, _, hcell⟩
  · exact ⟨none, 0, 0, hcs, Nat.le_refl _, Nat.zero_le _, (fun _ => rfl), fun i hi => by omega⟩
  · simp only [if_true] at hmm
    subst hmm
    refine ⟨some ad, len, m, hcs, hl, hm, (fun h => by cases h), fun i hi => ?_⟩
    obtain ⟨vs, hc, htr⟩ := hcell i (by omega)
    rw [hC] at hc
    obtain ⟨_, hvl, hat⟩ := World.cells?_some hc
    obtain ⟨b, off, spot⟩ := ad
    have hat' : ∀ j v, vs[j]? = some v → W.cell? ((⟨b, off, spot⟩ : Addr).add (i * N + j)) = some v := fun j v hv => by
      have hj : j < N := by have := (List.getElem?_eq_some_iff.1 hv).1; omega
      rw [← Go.Deep.add_add, hat j hj, hv]
    have h0 : 0 < vs.length := by omega
    have hspot : spot = none := by
      obtain ⟨vs0, hc0, _⟩ := hcell 0 (by omega)
      rw [hC] at hc0
      obtain ⟨_, hvl0, hat0⟩ := World.cells?_some hc0
      have h2 := hat0 0 hpos
      rw [Go.Deep.add_add, List.getElem?_eq_getElem (by omega)] at h2
      simpa [Addr.add] using World.cell?_spot h2
    subst hspot
    refine ⟨b, off, vs, _, _, rfl, ?_, hvl, fun j v hv => ?_, htr⟩
    · have h1 := hat' 0 vs[0] (List.getElem?_eq_getElem h0)
      rw [add_plain] at h1
      exact World.block_lt_of_cell? W _ h1
    · have h1 := hat' j v hv
      rwa [add_plain] at h1
end


end Go.Proofs.YtpijhpfcigjkeaaDoor
