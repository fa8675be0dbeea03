/-
  A ROW OF POINTS of a law's own.
-/
import Derived.Test.YtonalhjhokkcmaaPtMath
namespace Go.Proofs.Ytonalhjhokkcmaa
open Go Go.RowKit Go.Joins

theorem pt_elem : Elem Try.prog 48 54 (.agg #[.int .u64 0, .int .i64 0]) 2 16 := ⟨Try.underlying48, by kernel_rfl, rfl, by decide⟩
theorem src_pt (w : World) (x : P2) (b : Nat) (hb : b = w.heap.size) (c : Nat) (t : TypeId) : Src Try.prog 2 48 (.slice (some ⟨b, 0, none⟩) 1 c) 1 (pcells x).toList (w.alloc (.cells (pcells x) t)) := by
  subst hb
  refine Src.ofSlice _ Try.underlying48 _ 1 c _ rfl (fun j u hu => ?_) (fun u hu => ?_)
  · have hb := heap_alloc_new w (.cells (pcells x) t)
    rw [WideShapes.add_plain, Nat.zero_add]
    rw [Array.getElem?_toList] at hu
    exact (cell_of_block hb j).trans hu
  · simp [pcells] at hu
    rcases hu with rfl | rfl <;> rfl
theorem own_form2 {w : World} {base n : Nat} {e : TypeId} {v : Value} {xs : List Value} (h : w.ownsRow base e 2 v n xs) : ∃ A c, v = .slice A n c ∧ n ≤ c ∧ c ≤ maxLen ∧ (0 < n → ∃ g, A = some ⟨g, 0, none⟩) := by
  rcases h.2 with ⟨rfl, h0⟩ | ⟨g, cap, cur, rfl, hb, hg, h1, h2, r⟩
  · exact ⟨none, 0, by rw [h0], by omega, Nat.zero_le _, fun h => by omega⟩
  · exact ⟨_, _, rfl, h1, h2, fun _ => ⟨g, rfl⟩⟩
theorem PRow.of_own {w : World} {base n c : Nat} {A : Option Addr} {e : TypeId} {l : List P2} (h : w.ownsRow base e 2 (.slice A n c) n (prow l)) (hn : n = l.length) : PRow w A (fun _ => True) l := by
  intro hne
  have hp : 0 < n := by
    rcases Nat.eq_zero_or_pos n with h0 | h0
    · exfalso
      have hl := prow_len l
      rw [← hn, h0, Nat.zero_mul] at hl
      exact hne (List.eq_nil_of_length_eq_zero hl)
    · exact h0
  obtain ⟨g, cap, e, hb, -⟩ := h.form hp
  injection e with e1 e2 e3
  subst e1
  refine ⟨g, 0, rfl, trivial, fun i v hv => ?_⟩
  have := h.cells (g := g) rfl i v hv
  rwa [WideShapes.add_plain] at this
theorem prow_snoc (l : List P2) (x : P2) : prow (l ++ [x]) = prow l ++ (pcells x).toList := by simp [prow]

end Go.Proofs.Ytonalhjhokkcmaa
