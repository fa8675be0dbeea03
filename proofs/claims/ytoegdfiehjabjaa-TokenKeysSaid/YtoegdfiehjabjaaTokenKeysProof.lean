/-
  For every number and every row of numbers: a kill of some keys leaves those of others good: TokenKeys answers true.
  Conditions: none.
-/
import Derived.Test.YtoegdfiehjabjaaTokenKeysWalk
import Derived.Test.YtoegdfiehjabjaaTkMade
import Derived.Test.YtoegdfiehjabjaaRows
import Derived.Test.YtoegdfiehjabjaaFrame
import Derived.Test.YtoegdfiehjabjaaOpen
namespace Go.Proofs.Ytoegdfiehjabjaa.tokenKeys
open Go Go.ChangeShapes Go.WideShapes Go.ChangeAt Go.RowKit

theorem walked (W : World) (n : Int) (_wn : (Lit.int .i64 n).wf = true) (A : Option Addr) (c : Nat) (l : List Int) (a : l.length ≤ c) (b : c ≤ maxLen) (_ : A = none → c = 0) (g : Row W A (fun b => b < W.heap.size) (l.map (Value.int .i64))) (_ : ∀ z ∈ l, (Lit.int .i64 z).wf = true) :
    Calls Try.prog 6 #[.int .i64 n, .slice A l.length c] W fun e W' => e = .returned (.bool true) ∧ Below W.heap.size W W' := by
  exact tokenKeys.walk theTokens W trivial n A c l a b g

set_option maxRecDepth 100000 in
theorem lawWalk (H : Type) (enc : TypeId × Value → H) : LawWalk H enc Try.prog 6 Try.f6 (fun _ => True) := by
  intro W base args ds p hval hA hL
  rw [Try.params6] at hA hval
  obtain ⟨v0, vs0, d0, ds0, p0, q0, hargs, rfl, rfl, h0, r0⟩ := trodAll_cons hA
  obtain ⟨v1, vs1, d1, ds1, p1, q1, rfl, rfl, rfl, h1, r1⟩ := trodAll_cons r0
  obtain ⟨rfl, rfl, rfl⟩ := trodAll_nil r1
  obtain rfl : args = #[v0, v1] := by cases args; simp_all
  obtain ⟨n0, rfl, _, _, w0⟩ := open_int Try.underlying3 (hval 0 3 v0 rfl rfl) h0
  obtain ⟨A1, c1, l1, rfl, a1, b1, e1, g1, f1⟩ := open_row_ints Try.underlying43 Try.underlying3 (by kernel_rfl) (hval 1 43 v1 rfl rfl) h1
  exact walked W n0 w0 A1 c1 l1 a1 b1 e1 g1 f1

set_option maxRecDepth 100000 in
theorem lifted (os : Os) (started : os.Started) (H : Type) (enc : TypeId × Value → H) :
    ReturnsInHanded {} Try.checked os 6 .any (Rows.tokenKeysSpec.pre6 enc Try.prog Try.f6 Rows.tokenKeysRow.domain false) (Rows.tokenKeysSpec.post enc Try.prog Try.f6 false true false false) :=
  law_plain (C := Try.checked) (tb := 4) own started (by kernel_rfl) Try.func6
    (ChangeSpec.witness6 (enc := enc) (C := Try.checked) false ⟨#[], #[.int .i64 0, .slice none 0 0], []⟩ 8 (by kernel_rfl) (by kernel_rfl) (by kernel_rfl) (by kernel_rfl))
    laidOut (by kernel_rfl) (by kernel_rfl) Try.underlying4 rfl (fun ds h => by match ds, h with | [_, _], _ => rfl) (lawWalk H enc)

set_option maxRecDepth 100000 in
theorem over : Rows.tokenKeysRow.holds Try.pinned (OpenSpec.ofChange Rows.tokenKeysSpec) :=
  OpenClaim.holds_of_wide 6 Try.f6 rfl rfl rfl rfl rfl rfl rfl ⟨rfl, rfl, rfl, rfl, rfl⟩ rfl rfl rfl rfl rfl (by kernel_rfl) Try.func6 (by kernel_rfl)
    (of_decide_eq_true (by kernel_rfl)) (by unfold Func.isWrapper; first | (rw [if_pos (by decide +kernel)]; kernel_rfl) | (rw [if_neg (by decide +kernel)]; exact ⟨rfl, rfl⟩))
    (fun os started H enc _ => lifted os started H enc)

/-- The statement. -/
theorem proved : Rows.TokenKeysSaid :=
  over
#print axioms proved
end Go.Proofs.Ytoegdfiehjabjaa.tokenKeys
