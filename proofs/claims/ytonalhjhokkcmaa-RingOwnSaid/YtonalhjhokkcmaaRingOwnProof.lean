/-
  For every set of nodes by bits and every hash: what is told is a copy: RingOwn answers true.
  Conditions: none.
-/
import Derived.Test.YtonalhjhokkcmaaRingOwnWalk
import Derived.Test.YtonalhjhokkcmaaRgMade
import Derived.Test.YtonalhjhokkcmaaRows
import Derived.Test.YtonalhjhokkcmaaFrame
namespace Go.Proofs.Ytonalhjhokkcmaa.ringOwn
open Go Go.ChangeShapes Go.WideShapes Go.ChangeAt Go.RowKit

theorem walked (W : World) (z : Int) (_wz : (Lit.int .i64 z).wf = true) (h : Int) (wh : (Lit.int .u64 h).wf = true) :
    Calls Try.prog 9 #[.int .i64 z, .int .u64 h] W fun e W' => e = .returned (.bool true) ∧ Below W.heap.size W W' := by
  exact ringOwn.walk theRing W trivial z h (bounds_u64 wh).1 (Int.lt_of_le_of_lt (bounds_u64 wh).2 (by decide))

set_option maxRecDepth 100000 in
theorem lawWalk (H : Type) (enc : TypeId × Value → H) : LawWalk H enc Try.prog 9 Try.f9 (fun _ => True) := by
  intro W base args ds p hval hA hL
  rw [Try.params9] at hA hval
  obtain ⟨v0, vs0, d0, ds0, p0, q0, hargs, rfl, rfl, h0, r0⟩ := trodAll_cons hA
  obtain ⟨v1, vs1, d1, ds1, p1, q1, rfl, rfl, rfl, h1, r1⟩ := trodAll_cons r0
  obtain ⟨rfl, rfl, rfl⟩ := trodAll_nil r1
  obtain rfl : args = #[v0, v1] := by cases args; simp_all
  obtain ⟨n0, rfl, _, _, w0⟩ := open_int Try.underlying3 (hval 0 3 v0 rfl rfl) h0
  obtain ⟨n1, rfl, _, _, w1⟩ := open_int Try.underlying22 (hval 1 22 v1 rfl rfl) h1
  exact walked W n0 w0 n1 w1

set_option maxRecDepth 100000 in
theorem lifted (os : Os) (started : os.Started) (H : Type) (enc : TypeId × Value → H) :
    ReturnsInHanded {} Try.checked os 9 .any (Rows.ringOwnSpec.pre6 enc Try.prog Try.f9 Rows.ringOwnRow.domain false) (Rows.ringOwnSpec.post enc Try.prog Try.f9 false true false false) :=
  law_plain (C := Try.checked) (tb := 4) own started (by kernel_rfl) Try.func9
    (ChangeSpec.witness6 (enc := enc) (C := Try.checked) false ⟨#[], #[.int .i64 0, .int .u64 0], []⟩ 8 (by kernel_rfl) (by kernel_rfl) (by kernel_rfl) (by kernel_rfl))
    laidOut (by kernel_rfl) (by kernel_rfl) Try.underlying4 rfl (fun ds h => by match ds, h with | [_, _], _ => rfl) (lawWalk H enc)

set_option maxRecDepth 100000 in
theorem over : Rows.ringOwnRow.holds Try.pinned (OpenSpec.ofChange Rows.ringOwnSpec) :=
  OpenClaim.holds_of_wide 9 Try.f9 rfl rfl rfl rfl rfl rfl rfl ⟨rfl, rfl, rfl, rfl, rfl⟩ rfl rfl rfl rfl rfl (by kernel_rfl) Try.func9 (by kernel_rfl)
    (of_decide_eq_true (by kernel_rfl)) (by unfold Func.isWrapper; first | (rw [if_pos (by decide +kernel)]; kernel_rfl) | (rw [if_neg (by decide +kernel)]; exact ⟨rfl, rfl⟩))
    (fun os started H enc _ => lifted os started H enc)

/-- The statement. -/
theorem proved : Rows.RingOwnSaid :=
  over
#print axioms proved
end Go.Proofs.Ytonalhjhokkcmaa.ringOwn
