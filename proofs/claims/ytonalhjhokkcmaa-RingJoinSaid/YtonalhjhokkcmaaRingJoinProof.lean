/-
  For every set of nodes by bits, every node and hash: a node more takes keys, and gives none from one of the others to another one: RingJoin answers true.
  Conditions: none.
-/
import Derived.Test.YtonalhjhokkcmaaRingJoinWalk
import Derived.Test.YtonalhjhokkcmaaRgMade
import Derived.Test.YtonalhjhokkcmaaRows
import Derived.Test.YtonalhjhokkcmaaFrame
namespace Go.Proofs.Ytonalhjhokkcmaa.ringJoin
open Go Go.ChangeShapes Go.WideShapes Go.ChangeAt Go.RowKit

theorem walked (W : World) (z : Int) (_wz : (Lit.int .i64 z).wf = true) (n : Int) (_wn : (Lit.int .i64 n).wf = true) (h : Int) (wh : (Lit.int .u64 h).wf = true) :
    Calls Try.prog 5 #[.int .i64 z, .int .i64 n, .int .u64 h] W fun e W' => e = .returned (.bool true) ∧ Below W.heap.size W W' := by
  exact ringJoin.walk theRing W trivial z n h (bounds_u64 wh).1 (Int.lt_of_le_of_lt (bounds_u64 wh).2 (by decide))

set_option maxRecDepth 100000 in
theorem lawWalk (H : Type) (enc : TypeId × Value → H) : LawWalk H enc Try.prog 5 Try.f5 (fun _ => True) := by
  intro W base args ds p hval hA hL
  rw [Try.params5] at hA hval
  obtain ⟨v0, vs0, d0, ds0, p0, q0, hargs, rfl, rfl, h0, r0⟩ := trodAll_cons hA
  obtain ⟨v1, vs1, d1, ds1, p1, q1, rfl, rfl, rfl, h1, r1⟩ := trodAll_cons r0
  obtain ⟨v2, vs2, d2, ds2, p2, q2, rfl, rfl, rfl, h2, r2⟩ := trodAll_cons r1
  obtain ⟨rfl, rfl, rfl⟩ := trodAll_nil r2
  obtain rfl : args = #[v0, v1, v2] := by cases args; simp_all
  obtain ⟨n0, rfl, _, _, w0⟩ := open_int Try.underlying3 (hval 0 3 v0 rfl rfl) h0
  obtain ⟨n1, rfl, _, _, w1⟩ := open_int Try.underlying3 (hval 1 3 v1 rfl rfl) h1
  obtain ⟨n2, rfl, _, _, w2⟩ := open_int Try.underlying22 (hval 2 22 v2 rfl rfl) h2
  exact walked W n0 w0 n1 w1 n2 w2

set_option maxRecDepth 100000 in
theorem lifted (os : Os) (started : os.Started) (H : Type) (enc : TypeId × Value → H) :
    ReturnsInHanded {} Try.checked os 5 .any (Rows.ringJoinSpec.pre6 enc Try.prog Try.f5 Rows.ringJoinRow.domain false) (Rows.ringJoinSpec.post enc Try.prog Try.f5 false true false false) :=
  law_plain (C := Try.checked) (tb := 4) own started (by kernel_rfl) Try.func5
    (ChangeSpec.witness6 (enc := enc) (C := Try.checked) false ⟨#[], #[.int .i64 0, .int .i64 0, .int .u64 0], []⟩ 8 (by kernel_rfl) (by kernel_rfl) (by kernel_rfl) (by kernel_rfl))
    laidOut (by kernel_rfl) (by kernel_rfl) Try.underlying4 rfl (fun ds h => by match ds, h with | [_, _, _], _ => rfl) (lawWalk H enc)

set_option maxRecDepth 100000 in
theorem over : Rows.ringJoinRow.holds Try.pinned (OpenSpec.ofChange Rows.ringJoinSpec) :=
  OpenClaim.holds_of_wide 5 Try.f5 rfl rfl rfl rfl rfl rfl rfl ⟨rfl, rfl, rfl, rfl, rfl⟩ rfl rfl rfl rfl rfl (by kernel_rfl) Try.func5 (by kernel_rfl)
    (of_decide_eq_true (by kernel_rfl)) (by unfold Func.isWrapper; first | (rw [if_pos (by decide +kernel)]; kernel_rfl) | (rw [if_neg (by decide +kernel)]; exact ⟨rfl, rfl⟩))
    (fun os started H enc _ => lifted os started H enc)

/-- The statement. -/
theorem proved : Rows.RingJoinSaid :=
  over
#print axioms proved
end Go.Proofs.Ytonalhjhokkcmaa.ringJoin
