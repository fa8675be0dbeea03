/-
  For every row of numbers and every hash: of any parts that lie apart the one is told that has it: PlanCovers answers true.
  Conditions: none.
-/
import Derived.Test.YtcmblihlbmclaaaPlanCoversWalk
import Derived.Test.YtcmblihlbmclaaaPnMade
import Derived.Test.YtcmblihlbmclaaaRows
import Derived.Test.YtcmblihlbmclaaaFrame
namespace Go.Proofs.Ytcmblihlbmclaaa.planCovers
open Go Go.ChangeShapes Go.WideShapes Go.ChangeAt Go.RowKit

theorem walked (W : World) (A : Option Addr) (c : Nat) (l : List Int) (h1 : l.length ≤ c) (h2 : c ≤ maxLen) (_ : A = none → c = 0) (g : Row W A (fun b => b < W.heap.size) (l.map (Value.int .u64))) (f : ∀ z ∈ l, (Lit.int .u64 z).wf = true) (h : Int) (wh : (Lit.int .u64 h).wf = true) :
    Calls Try.prog 8 #[.slice A l.length c, .int .u64 h] W fun e W' => e = .returned (.bool true) ∧ Below W.heap.size W W' := by
  exact planCovers.walk thePlan W trivial A c l h1 h2 g (fun z hz => ⟨(bounds_u64 (f z hz)).1, Int.lt_of_le_of_lt (bounds_u64 (f z hz)).2 (by decide)⟩) h (bounds_u64 wh).1 (Int.lt_of_le_of_lt (bounds_u64 wh).2 (by decide))

set_option maxRecDepth 100000 in
theorem lawWalk (H : Type) (enc : TypeId × Value → H) : LawWalk H enc Try.prog 8 Try.f8 (fun _ => True) := by
  intro W base args ds p hval hA hL
  rw [Try.params8] at hA hval
  obtain ⟨v0, vs0, d0, ds0, p0, q0, hargs, rfl, rfl, h0, r0⟩ := trodAll_cons hA
  obtain ⟨v1, vs1, d1, ds1, p1, q1, rfl, rfl, rfl, h1, r1⟩ := trodAll_cons r0
  obtain ⟨rfl, rfl, rfl⟩ := trodAll_nil r1
  obtain rfl : args = #[v0, v1] := by cases args; simp_all
  obtain ⟨A0, c0, l0, rfl, a0, b0, e0, g0, f0⟩ := open_row_ints Try.underlying22 Try.underlying30 (by kernel_rfl) (hval 0 22 v0 rfl rfl) h0
  obtain ⟨n1, rfl, _, _, w1⟩ := open_int Try.underlying30 (hval 1 30 v1 rfl rfl) h1
  exact walked W A0 c0 l0 a0 b0 e0 g0 f0 n1 w1

set_option maxRecDepth 100000 in
theorem lifted (os : Os) (started : os.Started) (H : Type) (enc : TypeId × Value → H) :
    ReturnsInHanded {} Try.checked os 8 .any (Rows.planCoversSpec.pre6 enc Try.prog Try.f8 Rows.planCoversRow.domain false) (Rows.planCoversSpec.post enc Try.prog Try.f8 false true false false) :=
  law_plain (C := Try.checked) (tb := 4) own started (by kernel_rfl) Try.func8
    (ChangeSpec.witness6 (enc := enc) (C := Try.checked) false ⟨#[], #[.slice none 0 0, .int .u64 0], []⟩ 8 (by kernel_rfl) (by kernel_rfl) (by kernel_rfl) (by kernel_rfl))
    laidOut (by kernel_rfl) (by kernel_rfl) Try.underlying4 rfl (fun ds h => by match ds, h with | [_, _], _ => rfl) (lawWalk H enc)

set_option maxRecDepth 100000 in
theorem over : Rows.planCoversRow.holds Try.pinned (OpenSpec.ofChange Rows.planCoversSpec) :=
  OpenClaim.holds_of_wide 8 Try.f8 rfl rfl rfl rfl rfl rfl rfl ⟨rfl, rfl, rfl, rfl, rfl⟩ rfl rfl rfl rfl rfl (by kernel_rfl) Try.func8 (by kernel_rfl)
    (of_decide_eq_true (by kernel_rfl)) (by unfold Func.isWrapper; first | (rw [if_pos (by decide +kernel)]; kernel_rfl) | (rw [if_neg (by decide +kernel)]; exact ⟨rfl, rfl⟩))
    (fun os started H enc _ => lifted os started H enc)

/-- The statement. -/
theorem proved : Rows.PlanCoversSaid :=
  over
#print axioms proved
end Go.Proofs.Ytcmblihlbmclaaa.planCovers
