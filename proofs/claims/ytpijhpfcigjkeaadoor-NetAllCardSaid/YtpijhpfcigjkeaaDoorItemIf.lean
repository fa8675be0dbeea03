/-
  WHAT THE PROGRAM'S ENTRIES KEEP (the face of layer 7), and how a row of entries lies in memory.
-/
import Derived.Test.YtpijhpfcigjkeaaDoorAllCalc
import Derived.Test.YtpijhpfcigjkeaaDoorAllBase
import Derived.Lib.Hide
namespace Go.Proofs.YtpijhpfcigjkeaaDoor
open Go Go.RowKit

def It.cells (x : It) : List Value := [.string x.key, .string x.val, .int .i64 x.till, .bool x.gone]
def itCells (l : List It) : List Value := l.flatMap It.cells
/-- What fits a machine. -/
def It.fits (x : It) : Prop := x.key.size ≤ 1000000 ∧ x.val.size ≤ 1000000 ∧ -9223372036854775808 ≤ x.till ∧ x.till < 9223372036854775808
theorem It.may_fits {x : It} (h : x.may = true) : x.fits := by
  have := It.may_is h
  exact ⟨by omega, by omega, by omega, by omega⟩
theorem all_fits {l : List It} (h : l.all It.may = true) : ∀ x ∈ l, x.fits := fun x hx => It.may_fits (List.all_eq_true.1 h x hx)
theorem itCells_len (l : List It) : (itCells l).length = l.length * 4 := by
  induction l with
  | nil => rfl
  | cons r l ih =>
    have e : itCells (r :: l) = r.cells ++ itCells l := by simp [itCells]
    rw [e, List.length_append, ih, List.length_cons]
    show 4 + _ = _
    omega
theorem itCells_at (l : List It) (j i : Nat) (hj : j < l.length) (hi : i < 4) : (itCells l)[j * 4 + i]? = (l[j].cells)[i]? := by
  induction l generalizing j with
  | nil => simp at hj
  | cons r l ih =>
    have e : itCells (r :: l) = r.cells ++ itCells l := by simp [itCells]
    rw [e]
    cases j with
    | zero =>
      rw [Nat.zero_mul, Nat.zero_add, List.getElem?_append_left (by show i < 4; exact hi)]
      rfl
    | succ j =>
      rw [List.getElem?_append_right (by show 4 ≤ _; omega), show (j + 1) * 4 + i - r.cells.length = j * 4 + i by show (j + 1) * 4 + i - 4 = _; omega, ih j (by simpa using hj)]
      rfl
theorem itCells_snoc (l : List It) (r : It) : itCells (l ++ [r]) = itCells l ++ r.cells := by simp [itCells]

/-- A slice of entries: each one's four cells. -/
def ItsAt (w : World) (A : Option Addr) (F : Nat → Prop) (l : List It) : Prop := ∀ k (h : k < l.length), ∃ b o, A = some ⟨b, o, none⟩ ∧ F b ∧ w.cell? ⟨b, o + k * 4, none⟩ = some (.string l[k].key) ∧
  w.cell? ⟨b, o + k * 4 + 1, none⟩ = some (.string l[k].val) ∧ w.cell? ⟨b, o + k * 4 + 2, none⟩ = some (.int .i64 l[k].till) ∧ w.cell? ⟨b, o + k * 4 + 3, none⟩ = some (.bool l[k].gone)
section
variable {w w' : World} {A : Option Addr} {F G : Nat → Prop} {l : List It}
theorem ItsAt.keep (h : ItsAt w A F l) (hk : Keeps F w w') : ItsAt w' A F l := fun k hl => by
  obtain ⟨b, o, e, hF, c0, c1, c2, c3⟩ := h k hl
  exact ⟨b, o, e, hF, hk.cell c0 hF, hk.cell c1 hF, hk.cell c2 hF, hk.cell c3 hF⟩
theorem ItsAt.mono (h : ItsAt w A F l) (hF : ∀ b, b < w.heap.size → F b → G b) : ItsAt w A G l := fun k hl => by
  obtain ⟨b, o, e, hFb, c0, c1, c2, c3⟩ := h k hl
  exact ⟨b, o, e, hF b (World.block_lt_of_cell? w _ c0) hFb, c0, c1, c2, c3⟩
theorem ItsAt.nil (w : World) (A : Option Addr) (F : Nat → Prop) : ItsAt w A F [] := fun k hl => absurd hl (by simp)
theorem ItsAt.of_row (h : Row w A F (itCells l)) : ItsAt w A F l := fun k hk => by
  obtain ⟨b, o, e, hF, hc⟩ := h (fun e => by have := itCells_len l; rw [e] at this; simp at this; omega)
  have cell : ∀ i v, i < 4 → (l[k].cells)[i]? = some v → w.cell? ⟨b, o + k * 4 + i, none⟩ = some v := fun i v hi hv => by
    rw [Nat.add_assoc]
    exact hc _ v (by rw [itCells_at l k i hk hi]; exact hv)
  exact ⟨b, o, e, hF, by simpa using cell 0 _ (by decide) rfl, cell 1 _ (by decide) rfl, cell 2 _ (by decide) rfl, cell 3 _ (by decide) rfl⟩
theorem ItsAt.of_own {base n c : Nat} {e : TypeId} (h : w.ownsRow base e 4 (.slice A n c) n (itCells l)) (hn : n = l.length) : ItsAt w A (fun b => base ≤ b ∧ b < w.heap.size) l := by
  rcases Nat.eq_zero_or_pos n with h0 | hp
  · intro k hk; omega
  obtain ⟨g, cap, e, hb, -⟩ := h.form hp
  injection e with e1 e2 e3
  subst e1
  have hc := h.cells (g := g) rfl
  refine ItsAt.of_row fun _ => ⟨g, 0, rfl, h.lt g rfl, fun i v hv => ?_⟩
  have := hc i v hv
  rw [WideShapes.add_plain] at this
  exact this
theorem ItsAt.fresh (w : World) (C : Array Value) (t : TypeId) (fr : Nat × Nat) (b : Nat) (hb : b = w.heap.size) (hF : F b) (l : List It) (hx : C.toList = itCells l) : ItsAt (w.alloc (.cells C t fr)) (some ⟨b, 0, none⟩) F l :=
  ItsAt.of_row (Row.fresh w C t fr b hb hF _ hx)
end
theorem item_elem : Elem Tryd.prog 32 31 (.agg #[.string ⟨#[]⟩, .string ⟨#[]⟩, .int .i64 0, .bool false]) 4 48 := ⟨Tryd.underlying32, by kernel_rfl, rfl, by decide⟩


end Go.Proofs.YtpijhpfcigjkeaaDoor
