/-
  LISTS OF ENTRIES AND OF MARKS AS WHAT AN APPEND APPENDS (layers 19, 20).
-/
import Derived.Test.YtfhhobinpmbgmaaDoorAllCutG
namespace Go.Proofs.YtfhhobinpmbgmaaDoor
open Go Go.RowKit Go.Joins

theorem its_all {w : World} {A : Option Addr} {F : Nat → Prop} {l : List It} {c : Nat} (h : ItsAt w A F l) : Src Tryd.prog 4 25 (.slice A l.length c) l.length (itCells l) w := by
  rcases A with _ | ad
  · have hl : l = [] := by
      cases l with
      | nil => rfl
      | cons x l => obtain ⟨b, o, e, _⟩ := h 0 (by simp); cases e
    subst hl
    exact Src.ofNil w Tryd.underlying25 c
  · refine Src.ofSlice w Tryd.underlying25 ad l.length c (itCells l) (itCells_len l) (fun j u hu => ?_) (fun u hu => ?_)
    · have hj : j < l.length * 4 := by
        have := (List.getElem?_eq_some_iff.1 hu).1
        rwa [itCells_len] at this
      have hk : j / 4 < l.length := by omega
      obtain ⟨b, o, e, -, c0, c1, c2, c3⟩ := h (j / 4) hk
      injection e with e
      subst e
      have e1 := itCells_at l (j / 4) (j % 4) hk (by omega)
      rw [show j / 4 * 4 + j % 4 = j by omega, hu] at e1
      rw [WideShapes.add_plain, show o + j = o + j / 4 * 4 + j % 4 by omega]
      have h4 : j % 4 = 0 ∨ j % 4 = 1 ∨ j % 4 = 2 ∨ j % 4 = 3 := by omega
      rcases h4 with h4 | h4 | h4 | h4 <;> rw [h4] at e1 ⊢ <;> injection e1 with e1 <;> subst e1
      · exact c0
      · exact c1
      · exact c2
      · exact c3
    · unfold itCells at hu
      obtain ⟨x, -, hx⟩ := List.mem_flatMap.1 hu
      simp only [It.cells, List.mem_cons, List.not_mem_nil, or_false] at hx
      rcases hx with rfl | rfl | rfl | rfl <;> rfl
theorem mks_all {w : World} {A : Option Addr} {F : Nat → Prop} {l : List Mk} {c : Nat} (h : MksAt w A F l) : Src Tryd.prog 2 26 (.slice A l.length c) l.length (mkCells l) w := by
  rcases A with _ | ad
  · have hl : l = [] := by
      cases l with
      | nil => rfl
      | cons x l => obtain ⟨b, o, e, _⟩ := h 0 (by simp); cases e
    subst hl
    exact Src.ofNil w Tryd.underlying26 c
  · refine Src.ofSlice w Tryd.underlying26 ad l.length c (mkCells l) (mkCells_len l) (fun j u hu => ?_) (fun u hu => ?_)
    · have hj : j < l.length * 2 := by
        have := (List.getElem?_eq_some_iff.1 hu).1
        rwa [mkCells_len] at this
      have hk : j / 2 < l.length := by omega
      obtain ⟨b, o, e, -, c0, c1⟩ := h (j / 2) hk
      injection e with e
      subst e
      have e1 := mkCells_at l (j / 2) (j % 2) hk (by omega)
      rw [show j / 2 * 2 + j % 2 = j by omega, hu] at e1
      rw [WideShapes.add_plain, show o + j = o + j / 2 * 2 + j % 2 by omega]
      have h4 : j % 2 = 0 ∨ j % 2 = 1 := by omega
      rcases h4 with h4 | h4 <;> rw [h4] at e1 ⊢ <;> injection e1 with e1 <;> subst e1
      · exact c0
      · exact c1
    · unfold mkCells at hu
      obtain ⟨x, -, hx⟩ := List.mem_flatMap.1 hu
      simp only [Mk.cells, List.mem_cons, List.not_mem_nil, or_false] at hx
      rcases hx with rfl | rfl <;> rfl
/-- An own row of entries, of marks. -/
theorem own_formL {w : World} {base n size : Nat} {e : TypeId} {v : Value} {xs : List Value} (h : w.ownsRow base e size v n xs) : ∃ A c, v = .slice A n c ∧ n ≤ c ∧ c ≤ maxLen ∧ (0 < n → ∃ g, A = some ⟨g, 0, none⟩ ∧ base ≤ g) := by
  rcases h.2 with ⟨rfl, h0⟩ | ⟨g, cap, cur, rfl, hb, hg, h1, h2, r⟩
  · exact ⟨none, 0, by rw [h0], by omega, Nat.zero_le _, fun h => by omega⟩
  · exact ⟨_, _, rfl, h1, h2, fun _ => ⟨g, rfl, hb⟩⟩
theorem mark_src (W : World) (x : Mk) : Src Tryd.prog 2 26 (.slice (some ⟨W.heap.size, 0, none⟩) 1 1) 1 x.cells (W.alloc (.cells #[.int .i64 x.seq, .string x.key] 42)) := mks_src W x.seq x.key

end Go.Proofs.YtfhhobinpmbgmaaDoor
