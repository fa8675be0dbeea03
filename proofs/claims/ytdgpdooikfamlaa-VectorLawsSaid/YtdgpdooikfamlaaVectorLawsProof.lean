/-
  For every two slices of numbers: the greater vector has both, both have the lesser one, 'has' is an order: VectorLaws answers true.
  Conditions: none.
-/
import Derived.Test.YtdgpdooikfamlaaVectorLawsWalk
import Derived.Test.YtdgpdooikfamlaaVcMade
import Derived.Test.YtdgpdooikfamlaaRows
import Derived.Test.YtdgpdooikfamlaaFrame
namespace Go.Proofs.Ytdgpdooikfamlaa.vectorLaws
open Go Go.ChangeShapes Go.WideShapes Go.ChangeAt Go.RowKit

theorem walked (W : World) (A0 : Option Addr) (c0 : Nat) (l0 : List Int) (a0 : l0.length ≤ c0) (b0 : c0 ≤ maxLen) (_ : A0 = none → c0 = 0) (g0 : Row W A0 (fun b => b < W.heap.size) (l0.map (Value.int .i64))) (f0 : ∀ z ∈ l0, (Lit.int .i64 z).wf = true) (A1 : Option Addr) (c1 : Nat) (l1 : List Int) (a1 : l1.length ≤ c1) (b1 : c1 ≤ maxLen) (_ : A1 = none → c1 = 0) (g1 : Row W A1 (fun b => b < W.heap.size) (l1.map (Value.int .i64))) (f1 : ∀ z ∈ l1, (Lit.int .i64 z).wf = true) :
    Calls Try.prog 5 #[.slice A0 l0.length c0, .slice A1 l1.length c1] W fun e W' => e = .returned (.bool true) ∧ Below W.heap.size W W' := by
  exact walk theVector W trivial A0 c0 l0 a0 b0 g0 (fun z hz => Int.lt_of_le_of_lt (bounds_i64 (f0 z hz)).2 (by decide)) A1 c1 l1 a1 b1 g1 (fun z hz => Int.lt_of_le_of_lt (bounds_i64 (f1 z hz)).2 (by decide))

set_option maxRecDepth 100000 in
theorem lawWalk (H : Type) (enc : TypeId × Value → H) : LawWalk H enc Try.prog 5 Try.f5 (fun _ => True) := by
  intro W base args ds p hval hA hL
  rw [Try.params5] at hA hval
  obtain ⟨v0, vs0, d0, ds0, p0, q0, hargs, rfl, rfl, h0, r0⟩ := trodAll_cons hA
  obtain ⟨v1, vs1, d1, ds1, p1, q1, rfl, rfl, rfl, h1, r1⟩ := trodAll_cons r0
  obtain ⟨rfl, rfl, rfl⟩ := trodAll_nil r1
  obtain rfl : args = #[v0, v1] := by cases args; simp_all
  obtain ⟨A0, c0, l0, rfl, a0, b0, e0, g0, f0⟩ := open_row_ints Try.underlying22 Try.underlying2 (by kernel_rfl) (hval 0 22 v0 rfl rfl) h0
  obtain ⟨A1, c1, l1, rfl, a1, b1, e1, g1, f1⟩ := open_row_ints Try.underlying22 Try.underlying2 (by kernel_rfl) (hval 1 22 v1 rfl rfl) h1
  exact walked W A0 c0 l0 a0 b0 e0 g0 f0 A1 c1 l1 a1 b1 e1 g1 f1

set_option maxRecDepth 100000 in
theorem lifted (os : Os) (started : os.Started) (H : Type) (enc : TypeId × Value → H) :
    ReturnsInHanded {} Try.checked os 5 .any (Rows.vectorLawsSpec.pre6 enc Try.prog Try.f5 Rows.vectorLawsRow.domain false) (Rows.vectorLawsSpec.post enc Try.prog Try.f5 false true false false) :=
  law_plain (C := Try.checked) (tb := 4) own started (by kernel_rfl) Try.func5
    (ChangeSpec.witness6 (enc := enc) (C := Try.checked) false ⟨#[], #[.slice none 0 0, .slice none 0 0], []⟩ 8 (by kernel_rfl) (by kernel_rfl) (by kernel_rfl) (by kernel_rfl))
    laidOut (by kernel_rfl) (by kernel_rfl) Try.underlying4 rfl (fun ds h => by match ds, h with | [_, _], _ => rfl) (lawWalk H enc)

set_option maxRecDepth 100000 in
theorem over : Rows.vectorLawsRow.holds Try.pinned (OpenSpec.ofChange Rows.vectorLawsSpec) :=
  OpenClaim.holds_of_wide 5 Try.f5 rfl rfl rfl rfl rfl rfl rfl ⟨rfl, rfl, rfl, rfl, rfl⟩ rfl rfl rfl rfl rfl (by kernel_rfl) Try.func5 (by kernel_rfl)
    (of_decide_eq_true (by kernel_rfl)) (by unfold Func.isWrapper; first | (rw [if_pos (by decide +kernel)]; kernel_rfl) | (rw [if_neg (by decide +kernel)]; exact ⟨rfl, rfl⟩))
    (fun os started H enc _ => lifted os started H enc)

/-- The statement. -/
theorem proved : Rows.VectorLawsSaid :=
  over
#print axioms proved
end Go.Proofs.Ytdgpdooikfamlaa.vectorLaws
