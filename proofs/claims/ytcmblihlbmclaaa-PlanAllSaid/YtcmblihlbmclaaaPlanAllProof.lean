/-
  For every two sets of nodes by bits and every row of hashes: a plan's parts are in order, and say what the owners say: PlanAll answers true.
  Conditions: none.
-/
import Derived.Test.YtcmblihlbmclaaaPlanAllWalk
import Derived.Test.YtcmblihlbmclaaaPnMade
import Derived.Test.YtcmblihlbmclaaaRows
import Derived.Test.YtcmblihlbmclaaaFrame
namespace Go.Proofs.Ytcmblihlbmclaaa.planAll
open Go Go.ChangeShapes Go.WideShapes Go.ChangeAt Go.RowKit

theorem walked (W : World) (a : Int) (_wa : (Lit.int .i64 a).wf = true) (b : Int) (_wb : (Lit.int .i64 b).wf = true) (A : Option Addr) (c : Nat) (l : List Int) (h1 : l.length ≤ c) (h2 : c ≤ maxLen) (_ : A = none → c = 0) (g : Row W A (fun b => b < W.heap.size) (l.map (Value.int .u64))) (f : ∀ z ∈ l, (Lit.int .u64 z).wf = true) :
    Calls Try.prog 3 #[.int .i64 a, .int .i64 b, .slice A l.length c] W fun e W' => e = .returned (.bool true) ∧ Below W.heap.size W W' := by
  exact planAll.walk thePlan W trivial a b A c l h1 h2 g (fun z hz => ⟨(bounds_u64 (f z hz)).1, Int.lt_of_le_of_lt (bounds_u64 (f z hz)).2 (by decide)⟩)

set_option maxRecDepth 100000 in
theorem lawWalk (H : Type) (enc : TypeId × Value → H) : LawWalk H enc Try.prog 3 Try.f3 (fun _ => True) := by
  intro W base args ds p hval hA hL
  rw [Try.params3] at hA hval
  obtain ⟨v0, vs0, d0, ds0, p0, q0, hargs, rfl, rfl, h0, r0⟩ := trodAll_cons hA
  obtain ⟨v1, vs1, d1, ds1, p1, q1, rfl, rfl, rfl, h1, r1⟩ := trodAll_cons r0
  obtain ⟨v2, vs2, d2, ds2, p2, q2, rfl, rfl, rfl, h2, r2⟩ := trodAll_cons r1
  obtain ⟨rfl, rfl, rfl⟩ := trodAll_nil r2
  obtain rfl : args = #[v0, v1, v2] := by cases args; simp_all
  obtain ⟨n0, rfl, _, _, w0⟩ := open_int Try.underlying3 (hval 0 3 v0 rfl rfl) h0
  obtain ⟨n1, rfl, _, _, w1⟩ := open_int Try.underlying3 (hval 1 3 v1 rfl rfl) h1
  obtain ⟨A2, c2, l2, rfl, a2, b2, e2, g2, f2⟩ := open_row_ints Try.underlying22 Try.underlying30 (by kernel_rfl) (hval 2 22 v2 rfl rfl) h2
  exact walked W n0 w0 n1 w1 A2 c2 l2 a2 b2 e2 g2 f2

set_option maxRecDepth 100000 in
theorem lifted (os : Os) (started : os.Started) (H : Type) (enc : TypeId × Value → H) :
    ReturnsInHanded {} Try.checked os 3 .any (Rows.planAllSpec.pre6 enc Try.prog Try.f3 Rows.planAllRow.domain false) (Rows.planAllSpec.post enc Try.prog Try.f3 false true false false) :=
  law_plain (C := Try.checked) (tb := 4) own started (by kernel_rfl) Try.func3
    (ChangeSpec.witness6 (enc := enc) (C := Try.checked) false ⟨#[], #[.int .i64 0, .int .i64 0, .slice none 0 0], []⟩ 8 (by kernel_rfl) (by kernel_rfl) (by kernel_rfl) (by kernel_rfl))
    laidOut (by kernel_rfl) (by kernel_rfl) Try.underlying4 rfl (fun ds h => by match ds, h with | [_, _, _], _ => rfl) (lawWalk H enc)

set_option maxRecDepth 100000 in
theorem over : Rows.planAllRow.holds Try.pinned (OpenSpec.ofChange Rows.planAllSpec) :=
  OpenClaim.holds_of_wide 3 Try.f3 rfl rfl rfl rfl rfl rfl rfl ⟨rfl, rfl, rfl, rfl, rfl⟩ rfl rfl rfl rfl rfl (by kernel_rfl) Try.func3 (by kernel_rfl)
    (of_decide_eq_true (by kernel_rfl)) (by unfold Func.isWrapper; first | (rw [if_pos (by decide +kernel)]; kernel_rfl) | (rw [if_neg (by decide +kernel)]; exact ⟨rfl, rfl⟩))
    (fun os started H enc _ => lifted os started H enc)

/-- The statement. -/
theorem proved : Rows.PlanAllSaid :=
  over
#print axioms proved
end Go.Proofs.Ytcmblihlbmclaaa.planAll
