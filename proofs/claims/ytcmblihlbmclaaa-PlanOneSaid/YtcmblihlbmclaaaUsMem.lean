/-
  A ROW OF uint64s THAT IS BEING SORTED: as it lies in memory, with what else was there untouched (slices.Sort at []uint64: the shelf lays the sort at the kinds int and string alone; the plain layer of the sort, over an array and a 'less', is the library's; the walks over uint64 are mine).
-/
import Derived.Test.YtcmblihlbmclaaaWords
import Derived.Test.YtcmblihlbmclaaaRows
import Derived.Sort.Row
import Derived.Sort.LotA
import Derived.Sort.LotB
import Derived.Sort.LotC
import Derived.Sort.LotD3
import Derived.WalkKit
import Derived.BigGuard
import Derived.BigCall
import Derived.CellFam
import Derived.Deep.Draws
import Derived.Deep.QuietTactic
import Derived.BigQuiet
import Derived.Lib.Hide
namespace Go.Proofs.Ytcmblihlbmclaaa
open Go Go.RowKit Go.Sort

/-- In w the cells of block b from o on are d; of what v had all other blocks are as they were. -/
structure UAt (v w : World) (b o : Nat) (d : Array Int) : Prop where
  row : Holds (Value.int .u64) w b o d
  kp : Keeps (fun i => i ≠ b) v w
section
variable {u v w : World} {b o : Nat} {d e : Array Int}
theorem UAt.refl (h : Holds (Value.int .u64) w b o d) : UAt w w b o d := ⟨h, Keeps.refl _ _⟩
theorem UAt.trans (h : UAt u v b o d) (k : UAt v w b o e) : UAt u w b o e := ⟨k.row, h.kp.trans k.kp⟩
theorem UAt.drewN (h : UAt v w b o d) (n : Nat) : UAt v (w.drewN n) b o d := ⟨h.row, h.kp.drewN n⟩
theorem UAt.cell (h : UAt v w b o d) {t : Nat} (ht : t < d.size) : w.cell? ⟨b, o + t, none⟩ = some (.int .u64 d[t]!) := (h.row t ht).1
theorem UAt.frozen (h : UAt v w b o d) {t : Nat} (ht : t < d.size) : w.frozen? ⟨b, o + t, none⟩ = false := (h.row t ht).2
theorem UAt.swap (h : UAt v w b o d) {i j : Nat} (hi : i < d.size) (hj : j < d.size) : UAt v ((w.setCell ⟨b, o + i, none⟩ (.int .u64 d[j]!)).setCell ⟨b, o + j, none⟩ (.int .u64 d[i]!)) b o (swp d i j) := by
  refine ⟨?_, (h.kp.setCell (.inr fun e => e rfl) _).setCell (.inr fun e => e rfl) _⟩
  have := putRow_swp (Value.int .u64) w b o d i j hi hj
  rw [putRow_self _ _ _ _ _ h.row] at this
  rw [this]
  exact holds_putRow _ _ _ _ d _ h.row (size_swp d i j)
theorem UAt.swapN (h : UAt v w b o d) (n : Nat) {i j : Nat} (hi : i < d.size) (hj : j < d.size) : UAt v (((w.drewN n).setCell ⟨b, o + i, none⟩ (.int .u64 d[j]!)).setCell ⟨b, o + j, none⟩ (.int .u64 d[i]!)) b o (swp d i j) := (h.drewN n).swap hi hj
end
/-- A store leaves every cell of the row a cell. -/
theorem UAt.mid {v w : World} {b o : Nat} {d : Array Int} (h : UAt v w b o d) (i : Nat) {j : Nat} (hj : j < d.size) (x : Value) : ∃ y, (w.setCell ⟨b, o + i, none⟩ x).cell? ⟨b, o + j, none⟩ = some y := cell?_setCell_some (h.cell hj)
/-- A row's numbers by a function: so no simplifier touches them. -/
theorem fam_of (d : Array Int) : ∃ G : Nat → Int, ∀ t, G t = d[t]! := ⟨fun t => d[t]!, fun _ => rfl⟩
/-- The cells, by that function. -/
theorem UAt.fam {v w : World} {b o : Nat} {d : Array Int} (h : UAt v w b o d) {G : Nat → Int} (hG : ∀ t, G t = d[t]!) {n : Nat} (hn : d.size = n) :
    (∀ t, t < n → w.cell? ⟨b, o + t, none⟩ = some (.int .u64 (G t))) ∧ ∀ t, t < n → w.frozen? ⟨b, o + t, none⟩ = false :=
  ⟨fun t ht => by rw [hG]; exact h.cell (by omega), fun t ht => h.frozen (by omega)⟩
theorem UAt.swapG {v w : World} {b o : Nat} {d : Array Int} (h : UAt v w b o d) (n : Nat) {G : Nat → Int} (hG : ∀ t, G t = d[t]!) {i j : Nat} (hi : i < d.size) (hj : j < d.size) :
    UAt v (((w.drewN n).setCell ⟨b, o + i, none⟩ (.int .u64 (G j))).setCell ⟨b, o + j, none⟩ (.int .u64 (G i))) b o (swp d i j) := by
  rw [hG, hG]; exact h.swapN n hi hj

set_option maxHeartbeats 1000000 in
theorem unan_any (x : Int) (w : World) : Calls Try.prog 66 #[.int .u64 x] w fun e w' => e = .returned (.bool false) ∧ w' = w := by
  go_enter Try.func66, Try.ntmps66
  go_wp2
  go_ret
  exact ⟨by simp, rfl⟩
set_option maxHeartbeats 1000000 in
theorem uless_any (x y : Int) (w : World) : Calls Try.prog 53 #[.int .u64 x, .int .u64 y] w fun e w' => e = .returned (.bool (ltInt x y)) ∧ w' = w := by
  go_enter Try.func53, Try.ntmps53
  go_wp2_with (go_at_call 66; refine (unan_any _ _).mono ?_; rintro e w' ⟨rfl, rfl⟩)
  go_ret
  exact ⟨rfl, rfl⟩

end Go.Proofs.Ytcmblihlbmclaaa
