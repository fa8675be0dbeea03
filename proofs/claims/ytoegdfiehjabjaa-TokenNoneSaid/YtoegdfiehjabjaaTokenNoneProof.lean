/-
  For the closed sentence: no rights: TokenNone answers true.
  Conditions: none.
-/
import Derived.Test.YtoegdfiehjabjaaTokenNoneWalk
import Derived.Test.YtoegdfiehjabjaaTkMade
import Derived.Test.YtoegdfiehjabjaaRows
import Derived.Test.YtoegdfiehjabjaaFrame
import Derived.Test.YtoegdfiehjabjaaOpen
namespace Go.Proofs.Ytoegdfiehjabjaa.tokenNone
open Go Go.ChangeShapes Go.WideShapes Go.ChangeAt Go.RowKit

theorem walked (W : World)  :
    Calls Try.prog 5 #[] W fun e W' => e = .returned (.bool true) ∧ Below W.heap.size W W' := by
  exact tokenNone.walk theTokens W trivial

set_option maxRecDepth 100000 in
theorem lawWalk (H : Type) (enc : TypeId × Value → H) : LawWalk H enc Try.prog 5 Try.f5 (fun _ => True) := by
  intro W base args ds p hval hA hL
  rw [Try.params5] at hA hval
  obtain ⟨hargs, rfl, rfl⟩ := trodAll_nil hA
  obtain rfl : args = #[] := by cases args; simp_all
  exact walked W 

set_option maxRecDepth 100000 in
theorem lifted (os : Os) (started : os.Started) (H : Type) (enc : TypeId × Value → H) :
    ReturnsInHanded {} Try.checked os 5 .any (Rows.tokenNoneSpec.pre6 enc Try.prog Try.f5 Rows.tokenNoneRow.domain false) (Rows.tokenNoneSpec.post enc Try.prog Try.f5 false true false false) :=
  law_plain (C := Try.checked) (tb := 4) own started (by kernel_rfl) Try.func5
    (ChangeSpec.witness6 (enc := enc) (C := Try.checked) false ⟨#[], #[], []⟩ 8 (by kernel_rfl) (by kernel_rfl) (by kernel_rfl) (by kernel_rfl))
    laidOut (by kernel_rfl) (by kernel_rfl) Try.underlying4 rfl (fun ds h => by match ds, h with | [], _ => rfl) (lawWalk H enc)

set_option maxRecDepth 100000 in
theorem over : Rows.tokenNoneRow.holds Try.pinned (OpenSpec.ofChange Rows.tokenNoneSpec) :=
  OpenClaim.holds_of_wide 5 Try.f5 rfl rfl rfl rfl rfl rfl rfl ⟨rfl, rfl, rfl, rfl, rfl⟩ rfl rfl rfl rfl rfl (by kernel_rfl) Try.func5 (by kernel_rfl)
    (of_decide_eq_true (by kernel_rfl)) (by unfold Func.isWrapper; first | (rw [if_pos (by decide +kernel)]; kernel_rfl) | (rw [if_neg (by decide +kernel)]; exact ⟨rfl, rfl⟩))
    (fun os started H enc _ => lifted os started H enc)

/-- The statement. -/
theorem proved : Rows.TokenNoneSaid :=
  over
#print axioms proved
end Go.Proofs.Ytoegdfiehjabjaa.tokenNone
