/-
  For every slice of numbers, every node, number and other node: what is set is got, nothing else has changed, the vector itself stays: VectorSet answers true.
  Conditions: none.
-/
import Derived.Test.YtdgpdooikfamlaaVectorSetWalk
import Derived.Test.YtdgpdooikfamlaaVcMade
import Derived.Test.YtdgpdooikfamlaaRows
import Derived.Test.YtdgpdooikfamlaaFrame
namespace Go.Proofs.Ytdgpdooikfamlaa.vectorSet
open Go Go.ChangeShapes Go.WideShapes Go.ChangeAt Go.RowKit

theorem walked (W : World) (A0 : Option Addr) (c0 : Nat) (l0 : List Int) (a0 : l0.length ≤ c0) (b0 : c0 ≤ maxLen) (_ : A0 = none → c0 = 0) (g0 : Row W A0 (fun b => b < W.heap.size) (l0.map (Value.int .i64))) (f0 : ∀ z ∈ l0, (Lit.int .i64 z).wf = true) (z : Int) (_wz : (Lit.int .i64 z).wf = true) (n : Int) (wn : (Lit.int .i64 n).wf = true) (y : Int) (_wy : (Lit.int .i64 y).wf = true) :
    Calls Try.prog 7 #[.slice A0 l0.length c0, .int .i64 z, .int .i64 n, .int .i64 y] W fun e W' => e = .returned (.bool true) ∧ Below W.heap.size W W' := by
  exact walk theVector W trivial A0 c0 l0 a0 b0 g0 (fun z hz => Int.lt_of_le_of_lt (bounds_i64 (f0 z hz)).2 (by decide)) z n (Int.lt_of_le_of_lt (bounds_i64 wn).2 (by decide)) y

set_option maxRecDepth 100000 in
theorem lawWalk (H : Type) (enc : TypeId × Value → H) : LawWalk H enc Try.prog 7 Try.f7 (fun _ => True) := by
  intro W base args ds p hval hA hL
  rw [Try.params7] at hA hval
  obtain ⟨v0, vs0, d0, ds0, p0, q0, hargs, rfl, rfl, h0, r0⟩ := trodAll_cons hA
  obtain ⟨v1, vs1, d1, ds1, p1, q1, rfl, rfl, rfl, h1, r1⟩ := trodAll_cons r0
  obtain ⟨v2, vs2, d2, ds2, p2, q2, rfl, rfl, rfl, h2, r2⟩ := trodAll_cons r1
  obtain ⟨v3, vs3, d3, ds3, p3, q3, rfl, rfl, rfl, h3, r3⟩ := trodAll_cons r2
  obtain ⟨rfl, rfl, rfl⟩ := trodAll_nil r3
  obtain rfl : args = #[v0, v1, v2, v3] := by cases args; simp_all
  obtain ⟨A0, c0, l0, rfl, a0, b0, e0, g0, f0⟩ := open_row_ints Try.underlying22 Try.underlying2 (by kernel_rfl) (hval 0 22 v0 rfl rfl) h0
  obtain ⟨n1, rfl, _, _, w1⟩ := open_int Try.underlying3 (hval 1 3 v1 rfl rfl) h1
  obtain ⟨n2, rfl, _, _, w2⟩ := open_int Try.underlying2 (hval 2 2 v2 rfl rfl) h2
  obtain ⟨n3, rfl, _, _, w3⟩ := open_int Try.underlying3 (hval 3 3 v3 rfl rfl) h3
  exact walked W A0 c0 l0 a0 b0 e0 g0 f0 n1 w1 n2 w2 n3 w3

set_option maxRecDepth 100000 in
theorem lifted (os : Os) (started : os.Started) (H : Type) (enc : TypeId × Value → H) :
    ReturnsInHanded {} Try.checked os 7 .any (Rows.vectorSetSpec.pre6 enc Try.prog Try.f7 Rows.vectorSetRow.domain false) (Rows.vectorSetSpec.post enc Try.prog Try.f7 false true false false) :=
  law_plain (C := Try.checked) (tb := 4) own started (by kernel_rfl) Try.func7
    (ChangeSpec.witness6 (enc := enc) (C := Try.checked) false ⟨#[], #[.slice none 0 0, .int .i64 0, .int .i64 0, .int .i64 0], []⟩ 8 (by kernel_rfl) (by kernel_rfl) (by kernel_rfl) (by kernel_rfl))
    laidOut (by kernel_rfl) (by kernel_rfl) Try.underlying4 rfl (fun ds h => by match ds, h with | [_, _, _, _], _ => rfl) (lawWalk H enc)

set_option maxRecDepth 100000 in
theorem over : Rows.vectorSetRow.holds Try.pinned (OpenSpec.ofChange Rows.vectorSetSpec) :=
  OpenClaim.holds_of_wide 7 Try.f7 rfl rfl rfl rfl rfl rfl rfl ⟨rfl, rfl, rfl, rfl, rfl⟩ rfl rfl rfl rfl rfl (by kernel_rfl) Try.func7 (by kernel_rfl)
    (of_decide_eq_true (by kernel_rfl)) (by unfold Func.isWrapper; first | (rw [if_pos (by decide +kernel)]; kernel_rfl) | (rw [if_neg (by decide +kernel)]; exact ⟨rfl, rfl⟩))
    (fun os started H enc _ => lifted os started H enc)

/-- The statement. -/
theorem proved : Rows.VectorSetSaid :=
  over
#print axioms proved
end Go.Proofs.Ytdgpdooikfamlaa.vectorSet
