/-
  For every row of operations: rights are given, used once, killed with their keys: TokenAll answers true.
  Conditions: none.
-/
import Derived.Test.YtoegdfiehjabjaaTokenAllWalk
import Derived.Test.YtoegdfiehjabjaaTkMade
import Derived.Test.YtoegdfiehjabjaaRows
import Derived.Test.YtoegdfiehjabjaaFrame
import Derived.Test.YtoegdfiehjabjaaOpen
import Derived.Test.YtoegdfiehjabjaaTkOpen
namespace Go.Proofs.Ytoegdfiehjabjaa.tokenAll
open Go Go.ChangeShapes Go.WideShapes Go.ChangeAt Go.RowKit

theorem walked (W : World) (A : Option Addr) (c : Nat) (l : List Op18) (a : l.length ≤ c) (b : c ≤ maxLen) (_ : A = none → c = 0) (g : tokenAll.OpsAt W A (fun b => b < W.heap.size) l) :
    Calls Try.prog 3 #[.slice A l.length c] W fun e W' => e = .returned (.bool true) ∧ Below W.heap.size W W' := by
  exact tokenAll.walk theTokens W trivial A c l a b g

set_option maxRecDepth 100000 in
theorem lawWalk (H : Type) (enc : TypeId × Value → H) : LawWalk H enc Try.prog 3 Try.f3 (fun _ => True) := by
  intro W base args ds p hval hA hL
  rw [Try.params3] at hA hval
  obtain ⟨v0, vs0, d0, ds0, p0, q0, hargs, rfl, rfl, h0, r0⟩ := trodAll_cons hA
  obtain ⟨rfl, rfl, rfl⟩ := trodAll_nil r0
  obtain rfl : args = #[v0] := by cases args; simp_all
  obtain ⟨A0, c0, l0, rfl, a0, b0, e0, g0⟩ := open_ops18 (hval 0 22 v0 rfl rfl) h0
  exact walked W A0 c0 l0 a0 b0 e0 g0

set_option maxRecDepth 100000 in
theorem lifted (os : Os) (started : os.Started) (H : Type) (enc : TypeId × Value → H) :
    ReturnsInHanded {} Try.checked os 3 .any (Rows.tokenAllSpec.pre6 enc Try.prog Try.f3 Rows.tokenAllRow.domain false) (Rows.tokenAllSpec.post enc Try.prog Try.f3 false true false false) :=
  law_plain (C := Try.checked) (tb := 4) own started (by kernel_rfl) Try.func3
    (ChangeSpec.witness6 (enc := enc) (C := Try.checked) false ⟨#[], #[.slice none 0 0], []⟩ 8 (by kernel_rfl) (by kernel_rfl) (by kernel_rfl) (by kernel_rfl))
    laidOut (by kernel_rfl) (by kernel_rfl) Try.underlying4 rfl (fun ds h => by match ds, h with | [_], _ => rfl) (lawWalk H enc)

set_option maxRecDepth 100000 in
theorem over : Rows.tokenAllRow.holds Try.pinned (OpenSpec.ofChange Rows.tokenAllSpec) :=
  OpenClaim.holds_of_wide 3 Try.f3 rfl rfl rfl rfl rfl rfl rfl ⟨rfl, rfl, rfl, rfl, rfl⟩ rfl rfl rfl rfl rfl (by kernel_rfl) Try.func3 (by kernel_rfl)
    (of_decide_eq_true (by kernel_rfl)) (by unfold Func.isWrapper; first | (rw [if_pos (by decide +kernel)]; kernel_rfl) | (rw [if_neg (by decide +kernel)]; exact ⟨rfl, rfl⟩))
    (fun os started H enc _ => lifted os started H enc)

/-- The statement. -/
theorem proved : Rows.TokenAllSaid :=
  over
#print axioms proved
end Go.Proofs.Ytoegdfiehjabjaa.tokenAll
