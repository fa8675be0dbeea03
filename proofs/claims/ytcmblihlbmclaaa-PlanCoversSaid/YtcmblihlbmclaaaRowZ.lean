/-
  ROWS WHOSE VALUES DO NOT MATTER (my own text; it knows no program): an owned row of integers; cells of integers that may be written, in a block of any marks.
-/
import Derived.Test.YtcmblihlbmclaaaWords
import Derived.Laws.OwnMore
import Derived.Lib.SmallJoins
namespace Go.Proofs.Ytcmblihlbmclaaa
open Go Go.RowKit Go.Joins

/-- An owned row of integers, whichever. -/
def RowZ (W : World) (base : Nat) (e : TypeId) (k : IntKind) (v : Value) (n : Nat) : Prop := ∃ zs : List Int, W.ownsRow base e 1 v n (zs.map (Value.int k))
section
variable {W W' : World} {base : Nat} {e : TypeId} {k : IntKind} {v : Value} {n c g : Nat} {F : Nat → Prop}
theorem RowZ.store (h : RowZ W base e k (.slice (some ⟨g, 0, none⟩) n c) n) (j : Nat) (z : Int) : RowZ (W.setCell ⟨g, j, none⟩ (.int k z)) base e k (.slice (some ⟨g, 0, none⟩) n c) n := by
  obtain ⟨zs, h⟩ := h
  exact ⟨zs.set j z, by rw [List.map_set]; exact (h.stored j _).1⟩
theorem RowZ.keep (h : RowZ W base e k v n) (hk : Keeps F W W') (hF : ∀ b, v.ownBlock = some b → F b) : RowZ W' base e k v n := by
  obtain ⟨zs, h⟩ := h
  exact ⟨zs, hk.own h hF⟩
theorem RowZ.at_ (h : RowZ W base e k (.slice (some ⟨g, 0, none⟩) n c) n) {j : Nat} (hj : j < n) : ∃ z, W.cell? ⟨g, j, none⟩ = some (.int k z) := by
  obtain ⟨zs, h⟩ := h
  have hl : n = zs.length := by have := h.1; simp at this; omega
  exact ⟨zs[j], (h.cellAt j (by omega)).trans (by simp [List.getElem?_eq_getElem (show j < zs.length by omega)])⟩
theorem RowZ.frozen (h : RowZ W base e k (.slice (some ⟨g, 0, none⟩) n c) n) (j : Nat) : W.frozen? ⟨g, j, none⟩ = false := by
  obtain ⟨zs, h⟩ := h
  exact h.frozenAt j
theorem RowZ.form {A : Option Addr} (h : RowZ W base e k (.slice A n c) n) (hn : 0 < n) : ∃ g, A = some ⟨g, 0, none⟩ := by
  obtain ⟨zs, h⟩ := h
  obtain ⟨g, _, e, _⟩ := h.form hn
  injection e with e
  exact ⟨g, e⟩
theorem rowZ_bytes {l : List UInt8} (h : W.ownsRow base e 1 v n (bcells l)) : RowZ W base e .u8 v n := ⟨l.map fun b => (b.toNat : Int), by rw [List.map_map]; exact h⟩
theorem own_cap {A : Option Addr} {xs : List Value} (h : W.ownsRow base e 1 (.slice A n c) n xs) : n ≤ c ∧ c ≤ maxLen ∧ (A = none → c = 0) := by
  rcases h.2 with ⟨h', h0⟩ | ⟨g', cap', cur, h', _, _, h1, h2, _⟩
  · injection h' with a1 a2 a3
    subst a2 a3
    exact ⟨Nat.le_refl _, Nat.zero_le _, fun _ => rfl⟩
  · injection h' with a1 a2 a3
    subst a1 a3
    exact ⟨h1, h2, fun h => by cases h⟩
end

/-- Integers that may be written: none of their cells is frozen. -/
def Mine (w : World) (k : IntKind) (A : Option Addr) (n : Nat) : Prop := 0 < n → ∃ (g o : Nat) (cur : Array Value) (t : TypeId) (fr : Nat × Nat), A = some ⟨g, o, none⟩ ∧ w.heap[g]? = some (.cells cur t fr) ∧ ∀ i, i < n → (∃ z : Int, cur[o + i]? = some (.int k z)) ∧ w.frozen? ⟨g, o + i, none⟩ = false
section
variable {w w' : World} {k : IntKind} {A : Option Addr} {n g o : Nat} {F : Nat → Prop}
theorem Mine.form (h : Mine w k A n) (hn : 0 < n) : ∃ g o, A = some ⟨g, o, none⟩ ∧ g < w.heap.size := by
  obtain ⟨g, o, cur, t, fr, e, hb, _⟩ := h hn
  exact ⟨g, o, e, (Array.getElem?_eq_some_iff.1 hb).1⟩
theorem Mine.at_ (h : Mine w k (some ⟨g, o, none⟩) n) {j : Nat} (hj : j < n) : (∃ z, w.cell? ⟨g, o + j, none⟩ = some (.int k z)) ∧ w.frozen? ⟨g, o + j, none⟩ = false := by
  obtain ⟨g', o', cur, t, fr, e, hb, hc⟩ := h (by omega)
  injection e with e
  injection e with e1 e2
  subst e1 e2
  obtain ⟨⟨z, hz⟩, hf⟩ := hc j hj
  exact ⟨⟨z, (cell_of_block hb (o + j)).trans hz⟩, hf⟩
theorem Mine.store (h : Mine w k (some ⟨g, o, none⟩) n) (j : Nat) (z : Int) : Mine (w.setCell ⟨g, o + j, none⟩ (.int k z)) k (some ⟨g, o, none⟩) n := by
  intro hn
  obtain ⟨g', o', cur, t, fr, e, hb, hc⟩ := h hn
  injection e with e
  injection e with e1 e2
  subst e1 e2
  refine ⟨g, o, _, t, fr, rfl, block_setCell hb (i := o + j) _, fun i hi => ⟨?_, ?_⟩⟩
  · obtain ⟨⟨y, hy⟩, _⟩ := hc i hi
    rw [Array.getElem?_setIfInBounds]
    have hlt := (Array.getElem?_eq_some_iff.1 hy).1
    by_cases hij : o + j = o + i
    · rw [if_pos hij, if_pos (by omega)]; exact ⟨z, rfl⟩
    · rw [if_neg hij]; exact ⟨y, hy⟩
  · rw [World.frozen?_setCell]; exact (hc i hi).2
theorem Mine.keep (h : Mine w k A n) (hk : Keeps F w w') (hF : ∀ b, (∃ o, A = some ⟨b, o, none⟩) → F b) : Mine w' k A n := by
  intro hn
  obtain ⟨g, o, cur, t, fr, e, hb, hc⟩ := h hn
  have hlt := (Array.getElem?_eq_some_iff.1 hb).1
  exact ⟨g, o, cur, t, fr, e, (hk.block g (hF g ⟨o, e⟩) hlt).trans hb, fun i hi => ⟨(hc i hi).1, (hk.frozen (p := ⟨g, o + i, none⟩) hlt (hF g ⟨o, e⟩)).trans (hc i hi).2⟩⟩
end

end Go.Proofs.Ytcmblihlbmclaaa
