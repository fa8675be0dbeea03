/-
  For every three slices of numbers, every node and number: the greater, the lesser vector, node by node; one more node's; which has which: VectorAll answers true.
  Conditions: none.
-/
import Derived.Test.YtdgpdooikfamlaaVectorAllWalk
import Derived.Test.YtdgpdooikfamlaaVcMade
import Derived.Test.YtdgpdooikfamlaaRows
import Derived.Test.YtdgpdooikfamlaaFrame
namespace Go.Proofs.Ytdgpdooikfamlaa.vectorAll
open Go Go.ChangeShapes Go.WideShapes Go.ChangeAt Go.RowKit

theorem walked (W : World) (A0 : Option Addr) (c0 : Nat) (l0 : List Int) (a0 : l0.length ≤ c0) (b0 : c0 ≤ maxLen) (_ : A0 = none → c0 = 0) (g0 : Row W A0 (fun b => b < W.heap.size) (l0.map (Value.int .i64))) (f0 : ∀ z ∈ l0, (Lit.int .i64 z).wf = true) (A1 : Option Addr) (c1 : Nat) (l1 : List Int) (a1 : l1.length ≤ c1) (b1 : c1 ≤ maxLen) (_ : A1 = none → c1 = 0) (g1 : Row W A1 (fun b => b < W.heap.size) (l1.map (Value.int .i64))) (f1 : ∀ z ∈ l1, (Lit.int .i64 z).wf = true) (A2 : Option Addr) (c2 : Nat) (l2 : List Int) (a2 : l2.length ≤ c2) (b2 : c2 ≤ maxLen) (_ : A2 = none → c2 = 0) (g2 : Row W A2 (fun b => b < W.heap.size) (l2.map (Value.int .i64))) (f2 : ∀ z ∈ l2, (Lit.int .i64 z).wf = true) (z : Int) (_wz : (Lit.int .i64 z).wf = true) (n : Int) (wn : (Lit.int .i64 n).wf = true) :
    Calls Try.prog 3 #[.slice A0 l0.length c0, .slice A1 l1.length c1, .slice A2 l2.length c2, .int .i64 z, .int .i64 n] W fun e W' => e = .returned (.bool true) ∧ Below W.heap.size W W' := by
  exact walk theVector W trivial A0 c0 l0 a0 b0 g0 (fun z hz => Int.lt_of_le_of_lt (bounds_i64 (f0 z hz)).2 (by decide)) A1 c1 l1 a1 b1 g1 (fun z hz => Int.lt_of_le_of_lt (bounds_i64 (f1 z hz)).2 (by decide)) A2 c2 l2 a2 b2 g2 (fun z hz => Int.lt_of_le_of_lt (bounds_i64 (f2 z hz)).2 (by decide)) z n (Int.lt_of_le_of_lt (bounds_i64 wn).2 (by decide))

set_option maxRecDepth 100000 in
theorem lawWalk (H : Type) (enc : TypeId × Value → H) : LawWalk H enc Try.prog 3 Try.f3 (fun _ => True) := by
  intro W base args ds p hval hA hL
  rw [Try.params3] at hA hval
  obtain ⟨v0, vs0, d0, ds0, p0, q0, hargs, rfl, rfl, h0, r0⟩ := trodAll_cons hA
  obtain ⟨v1, vs1, d1, ds1, p1, q1, rfl, rfl, rfl, h1, r1⟩ := trodAll_cons r0
  obtain ⟨v2, vs2, d2, ds2, p2, q2, rfl, rfl, rfl, h2, r2⟩ := trodAll_cons r1
  obtain ⟨v3, vs3, d3, ds3, p3, q3, rfl, rfl, rfl, h3, r3⟩ := trodAll_cons r2
  obtain ⟨v4, vs4, d4, ds4, p4, q4, rfl, rfl, rfl, h4, r4⟩ := trodAll_cons r3
  obtain ⟨rfl, rfl, rfl⟩ := trodAll_nil r4
  obtain rfl : args = #[v0, v1, v2, v3, v4] := by cases args; simp_all
  obtain ⟨A0, c0, l0, rfl, a0, b0, e0, g0, f0⟩ := open_row_ints Try.underlying22 Try.underlying2 (by kernel_rfl) (hval 0 22 v0 rfl rfl) h0
  obtain ⟨A1, c1, l1, rfl, a1, b1, e1, g1, f1⟩ := open_row_ints Try.underlying22 Try.underlying2 (by kernel_rfl) (hval 1 22 v1 rfl rfl) h1
  obtain ⟨A2, c2, l2, rfl, a2, b2, e2, g2, f2⟩ := open_row_ints Try.underlying22 Try.underlying2 (by kernel_rfl) (hval 2 22 v2 rfl rfl) h2
  obtain ⟨n3, rfl, _, _, w3⟩ := open_int Try.underlying3 (hval 3 3 v3 rfl rfl) h3
  obtain ⟨n4, rfl, _, _, w4⟩ := open_int Try.underlying2 (hval 4 2 v4 rfl rfl) h4
  exact walked W A0 c0 l0 a0 b0 e0 g0 f0 A1 c1 l1 a1 b1 e1 g1 f1 A2 c2 l2 a2 b2 e2 g2 f2 n3 w3 n4 w4

set_option maxRecDepth 100000 in
theorem lifted (os : Os) (started : os.Started) (H : Type) (enc : TypeId × Value → H) :
    ReturnsInHanded {} Try.checked os 3 .any (Rows.vectorAllSpec.pre6 enc Try.prog Try.f3 Rows.vectorAllRow.domain false) (Rows.vectorAllSpec.post enc Try.prog Try.f3 false true false false) :=
  law_plain (C := Try.checked) (tb := 4) own started (by kernel_rfl) Try.func3
    (ChangeSpec.witness6 (enc := enc) (C := Try.checked) false ⟨#[], #[.slice none 0 0, .slice none 0 0, .slice none 0 0, .int .i64 0, .int .i64 0], []⟩ 8 (by kernel_rfl) (by kernel_rfl) (by kernel_rfl) (by kernel_rfl))
    laidOut (by kernel_rfl) (by kernel_rfl) Try.underlying4 rfl (fun ds h => by match ds, h with | [_, _, _, _, _], _ => rfl) (lawWalk H enc)

set_option maxRecDepth 100000 in
theorem over : Rows.vectorAllRow.holds Try.pinned (OpenSpec.ofChange Rows.vectorAllSpec) :=
  OpenClaim.holds_of_wide 3 Try.f3 rfl rfl rfl rfl rfl rfl rfl ⟨rfl, rfl, rfl, rfl, rfl⟩ rfl rfl rfl rfl rfl (by kernel_rfl) Try.func3 (by kernel_rfl)
    (of_decide_eq_true (by kernel_rfl)) (by unfold Func.isWrapper; first | (rw [if_pos (by decide +kernel)]; kernel_rfl) | (rw [if_neg (by decide +kernel)]; exact ⟨rfl, rfl⟩))
    (fun os started H enc _ => lifted os started H enc)

/-- The statement. -/
theorem proved : Rows.VectorAllSaid :=
  over
#print axioms proved
end Go.Proofs.Ytdgpdooikfamlaa.vectorAll
