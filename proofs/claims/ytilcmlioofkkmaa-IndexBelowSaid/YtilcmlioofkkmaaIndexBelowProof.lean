/-
  For every number of keys, every place, all keys that are put again: what lies below the place goes, the rest stays: IndexBelow answers true.
  Conditions: none.
-/
import Derived.Test.YtilcmlioofkkmaaIndexBelowWalk
import Derived.Test.YtilcmlioofkkmaaIxMade
import Derived.Test.YtilcmlioofkkmaaRows
namespace Go.Proofs.Ytilcmlioofkkmaa.indexBelow
open Go Go.ChangeShapes Go.WideShapes Go.ChangeAt Go.RowKit

theorem walked (W : World) (n : Int) (_ : (Lit.int .i64 n).wf = true) (p : Int) (_ : (Lit.int .i64 p).wf = true) (A : Option Addr) (c : Nat) (l : List Int) (a : l.length ≤ c) (b : c ≤ maxLen) (_ : A = none → c = 0) (g : Row W A (fun b => b < W.heap.size) (l.map (Value.int .i64))) (f : ∀ z ∈ l, (Lit.int .i64 z).wf = true) :
    Calls Try.prog 6 #[.int .i64 n, .int .i64 p, .slice A l.length c] W fun e W' => e = .returned (.bool true) ∧ Below W.heap.size W W' := by
  exact walk theIndex W trivial n p A c l a b g fun z hz => bounds_i64 (f z hz)

set_option maxRecDepth 100000 in
theorem lawWalk (H : Type) (enc : TypeId × Value → H) : LawWalk H enc Try.prog 6 Try.f6 (fun _ => True) := by
  intro W base args ds p hval hA hL
  rw [Try.params6] at hA hval
  obtain ⟨v0, vs0, d0, ds0, p0, q0, hargs, rfl, rfl, h0, r0⟩ := trodAll_cons hA
  obtain ⟨v1, vs1, d1, ds1, p1, q1, rfl, rfl, rfl, h1, r1⟩ := trodAll_cons r0
  obtain ⟨v2, vs2, d2, ds2, p2, q2, rfl, rfl, rfl, h2, r2⟩ := trodAll_cons r1
  obtain ⟨rfl, rfl, rfl⟩ := trodAll_nil r2
  obtain rfl : args = #[v0, v1, v2] := by cases args; simp_all
  obtain ⟨n0, rfl, _, _, w0⟩ := open_int Try.underlying3 (hval 0 3 v0 rfl rfl) h0
  obtain ⟨n1, rfl, _, _, w1⟩ := open_int Try.underlying2 (hval 1 2 v1 rfl rfl) h1
  obtain ⟨A2, c2, l2, rfl, a2, b2, e2, g2, f2⟩ := open_row_ints Try.underlying46 Try.underlying3 (by kernel_rfl) (hval 2 46 v2 rfl rfl) h2
  exact walked W n0 w0 n1 w1 A2 c2 l2 a2 b2 e2 g2 f2

set_option maxRecDepth 100000 in
theorem lifted (os : Os) (started : os.Started) (H : Type) (enc : TypeId × Value → H) :
    ReturnsInHanded {} Try.checked os 6 .any (Rows.indexBelowSpec.pre6 enc Try.prog Try.f6 Rows.indexBelowRow.domain false) (Rows.indexBelowSpec.post enc Try.prog Try.f6 false true false false) :=
  law_plain (C := Try.checked) (tb := 4) own started (by kernel_rfl) Try.func6
    (ChangeSpec.witness6 (enc := enc) (C := Try.checked) false ⟨#[], #[.int .i64 0, .int .i64 0, .slice none 0 0], []⟩ 8 (by kernel_rfl) (by kernel_rfl) (by kernel_rfl) (by kernel_rfl))
    laidOut (by kernel_rfl) (by kernel_rfl) Try.underlying4 rfl (fun ds h => by match ds, h with | [_, _, _], _ => rfl) (lawWalk H enc)

set_option maxRecDepth 100000 in
theorem over : Rows.indexBelowRow.holds Try.pinned (OpenSpec.ofChange Rows.indexBelowSpec) :=
  OpenClaim.holds_of_wide 6 Try.f6 rfl rfl rfl rfl rfl rfl rfl ⟨rfl, rfl, rfl, rfl, rfl⟩ rfl rfl rfl rfl rfl (by kernel_rfl) Try.func6 (by kernel_rfl)
    (of_decide_eq_true (by kernel_rfl)) (by unfold Func.isWrapper; first | (rw [if_pos (by decide +kernel)]; kernel_rfl) | (rw [if_neg (by decide +kernel)]; exact ⟨rfl, rfl⟩))
    (fun os started H enc _ => lifted os started H enc)

/-- The statement. -/
theorem proved : Rows.IndexBelowSaid :=
  over
#print axioms proved
end Go.Proofs.Ytilcmlioofkkmaa.indexBelow
