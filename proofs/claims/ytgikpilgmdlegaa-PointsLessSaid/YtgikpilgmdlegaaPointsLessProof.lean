/-
  For every two points: an order of points: PointsLess answers true.
  Conditions: none.
-/
import Derived.Test.YtgikpilgmdlegaaPointsLessWalk
import Derived.Test.YtgikpilgmdlegaaPtMade
import Derived.Test.YtgikpilgmdlegaaRows
import Derived.Test.YtgikpilgmdlegaaFrame
import Derived.Test.YtgikpilgmdlegaaPtOpen
namespace Go.Proofs.Ytgikpilgmdlegaa.pointsLess
open Go Go.ChangeShapes Go.WideShapes Go.ChangeAt Go.RowKit

theorem walked (W : World) (x y : P2) :
    Calls Try.prog 4 #[pagg x, pagg y] W fun e W' => e = .returned (.bool true) ∧ Below W.heap.size W W' := by
  exact pointsLess.walk thePoints W trivial x y

set_option maxRecDepth 100000 in
theorem lawWalk (H : Type) (enc : TypeId × Value → H) : LawWalk H enc Try.prog 4 Try.f4 (fun _ => True) := by
  intro W base args ds p hval hA hL
  rw [Try.params4] at hA hval
  obtain ⟨v0, vs0, d0, ds0, p0, q0, hargs, rfl, rfl, h0, r0⟩ := trodAll_cons hA
  obtain ⟨v1, vs1, d1, ds1, p1, q1, rfl, rfl, rfl, h1, r1⟩ := trodAll_cons r0
  obtain ⟨rfl, rfl, rfl⟩ := trodAll_nil r1
  obtain rfl : args = #[v0, v1] := by cases args; simp_all
  obtain ⟨x0, rfl⟩ := open_pt (hval 0 31 v0 rfl rfl) h0
  obtain ⟨x1, rfl⟩ := open_pt (hval 1 31 v1 rfl rfl) h1
  exact walked W x0 x1

set_option maxRecDepth 100000 in
theorem lifted (os : Os) (started : os.Started) (H : Type) (enc : TypeId × Value → H) :
    ReturnsInHanded {} Try.checked os 4 .any (Rows.pointsLessSpec.pre6 enc Try.prog Try.f4 Rows.pointsLessRow.domain false) (Rows.pointsLessSpec.post enc Try.prog Try.f4 false true false false) :=
  law_plain (C := Try.checked) (tb := 4) own started (by kernel_rfl) Try.func4
    (ChangeSpec.witness6 (enc := enc) (C := Try.checked) false ⟨#[], #[.agg #[.int .u64 0, .int .i64 0], .agg #[.int .u64 0, .int .i64 0]], []⟩ 8 (by kernel_rfl) (by kernel_rfl) (by kernel_rfl) (by kernel_rfl))
    laidOut (by kernel_rfl) (by kernel_rfl) Try.underlying4 rfl (fun ds h => by match ds, h with | [_, _], _ => rfl) (lawWalk H enc)

set_option maxRecDepth 100000 in
theorem over : Rows.pointsLessRow.holds Try.pinned (OpenSpec.ofChange Rows.pointsLessSpec) :=
  OpenClaim.holds_of_wide 4 Try.f4 rfl rfl rfl rfl rfl rfl rfl ⟨rfl, rfl, rfl, rfl, rfl⟩ rfl rfl rfl rfl rfl (by kernel_rfl) Try.func4 (by kernel_rfl)
    (of_decide_eq_true (by kernel_rfl)) (by unfold Func.isWrapper; first | (rw [if_pos (by decide +kernel)]; kernel_rfl) | (rw [if_neg (by decide +kernel)]; exact ⟨rfl, rfl⟩))
    (fun os started H enc _ => lifted os started H enc)

/-- The statement. -/
theorem proved : Rows.PointsLessSaid :=
  over
#print axioms proved
end Go.Proofs.Ytgikpilgmdlegaa.pointsLess
