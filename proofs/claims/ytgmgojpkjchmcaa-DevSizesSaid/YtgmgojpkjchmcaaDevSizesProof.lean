/-
  For every size: one to 2,048 sectors, all 0: DevSizes answers true.
  Conditions: none. (The frame of a row that lists no variable; where a table is reached: LAID=1 python3 wip/law.py.)
-/
import Derived.Test.YtgmgojpkjchmcaaDevSizesWalk
import Derived.Test.YtgmgojpkjchmcaaDevMade
import Derived.Test.YtgmgojpkjchmcaaRows
namespace Go.Proofs.Ytgmgojpkjchmcaa.devSizes
open Go Go.ChangeShapes Go.WideShapes Go.ChangeAt Go.RowKit

theorem walked (W : World) (n : Int) (wn : (Lit.int .i64 n).wf = true) :
    Calls Try.prog 4 #[.int .i64 n] W fun e W' => e = .returned (.bool true) ∧ Below W.heap.size W W' :=
  walk theDev W n wn

theorem lawWalk (H : Type) (enc : TypeId × Value → H) : LawWalk H enc Try.prog 4 Try.f4 (fun _ => True) := by
  intro W base args ds p hval hA hL
  rw [Try.params4] at hA hval
  obtain ⟨v0, vs0, d0, ds0, p0, q0, hargs, rfl, rfl, h0, r0⟩ := trodAll_cons hA
  obtain ⟨rfl, rfl, rfl⟩ := trodAll_nil r0
  obtain rfl : args = #[v0] := by cases args; simp_all
  obtain ⟨n0, rfl, _, _, w0⟩ := open_int Try.underlying3 (hval 0 3 v0 rfl rfl) h0
  exact walked W n0 w0

set_option maxRecDepth 100000 in
theorem lifted (os : Os) (started : os.Started) (H : Type) (enc : TypeId × Value → H) :
    ReturnsInHanded {} Try.checked os 4 .any (Rows.devSizesSpec.pre6 enc Try.prog Try.f4 Rows.devSizesRow.domain false) (Rows.devSizesSpec.post enc Try.prog Try.f4 false true false false) :=
  law_plain (C := Try.checked) (tb := 4) own started (by kernel_rfl) Try.func4
    (ChangeSpec.witness6 (enc := enc) (C := Try.checked) false ⟨#[], #[.int .i64 0], []⟩ 8 (by kernel_rfl) (by kernel_rfl) (by kernel_rfl) (by kernel_rfl))
    laidOut (by kernel_rfl) (by kernel_rfl) Try.underlying4 rfl (fun ds h => by match ds, h with | [_], _ => rfl) (lawWalk H enc)

theorem over : Rows.devSizesRow.holds Try.pinned (OpenSpec.ofChange Rows.devSizesSpec) :=
  OpenClaim.holds_of_wide 4 Try.f4 rfl rfl rfl rfl rfl rfl rfl ⟨rfl, rfl, rfl, rfl, rfl⟩ rfl rfl rfl rfl rfl (by kernel_rfl) Try.func4 (by kernel_rfl)
    (of_decide_eq_true (by kernel_rfl)) (by unfold Func.isWrapper; first | (rw [if_pos (by decide +kernel)]; kernel_rfl) | (rw [if_neg (by decide +kernel)]; exact ⟨rfl, rfl⟩))
    (fun os started H enc _ => lifted os started H enc)

/-- The statement. -/
theorem proved : Rows.DevSizesSaid :=
  over
#print axioms proved
end Go.Proofs.Ytgmgojpkjchmcaa.devSizes
