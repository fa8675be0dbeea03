/-
  For every two rows of entries: their bytes are one just if the entries are: ItemTwins answers true.
  Conditions: none.
-/
import Derived.Test.YtgdbkmecfbkobaaItemTwinsWalk
import Derived.Test.YtgdbkmecfbkobaaItemMade
import Derived.Test.YtgdbkmecfbkobaaItemOpen
import Derived.Test.YtgdbkmecfbkobaaRows
namespace Go.Proofs.Ytgdbkmecfbkobaa.itemTwins
open Go Go.ChangeShapes Go.WideShapes Go.ChangeAt Go.RowKit

theorem walked (W : World) (A0 : Option Addr) (c0 : Nat) (l0 : List It) (a0 : l0.length ≤ c0) (b0 : c0 ≤ maxLen) (_ : A0 = none → c0 = 0) (g0 : ItsAt W A0 (fun b => b < W.heap.size) l0) (f0 : ∀ x ∈ l0, x.came) (A1 : Option Addr) (c1 : Nat) (l1 : List It) (a1 : l1.length ≤ c1) (b1 : c1 ≤ maxLen) (_ : A1 = none → c1 = 0) (g1 : ItsAt W A1 (fun b => b < W.heap.size) l1) (f1 : ∀ x ∈ l1, x.came) :
    Calls Try.prog 6 #[.slice A0 l0.length c0, .slice A1 l1.length c1] W fun e W' => e = .returned (.bool true) ∧ Below W.heap.size W W' := by
  exact walk theItems W trivial A0 A1 c0 c1 l0 l1 a0 b0 g0 (fun x hx => f0 x hx) a1 b1 g1 (fun x hx => f1 x hx)

set_option maxRecDepth 100000 in
theorem lawWalk (H : Type) (enc : TypeId × Value → H) : LawWalk H enc Try.prog 6 Try.f6 (fun _ => True) := by
  intro W base args ds p hval hA hL
  rw [Try.params6] at hA hval
  obtain ⟨v0, vs0, d0, ds0, p0, q0, hargs, rfl, rfl, h0, r0⟩ := trodAll_cons hA
  obtain ⟨v1, vs1, d1, ds1, p1, q1, rfl, rfl, rfl, h1, r1⟩ := trodAll_cons r0
  obtain ⟨rfl, rfl, rfl⟩ := trodAll_nil r1
  obtain rfl : args = #[v0, v1] := by cases args; simp_all
  obtain ⟨A0, c0, l0, rfl, a0, b0, e0, g0, f0⟩ := open_items (hval 0 28 v0 rfl rfl) h0
  obtain ⟨A1, c1, l1, rfl, a1, b1, e1, g1, f1⟩ := open_items (hval 1 28 v1 rfl rfl) h1
  exact walked W A0 c0 l0 a0 b0 e0 g0 f0 A1 c1 l1 a1 b1 e1 g1 f1

set_option maxRecDepth 100000 in
theorem lifted (os : Os) (started : os.Started) (H : Type) (enc : TypeId × Value → H) :
    ReturnsInHanded {} Try.checked os 6 .any (Rows.itemTwinsSpec.pre6 enc Try.prog Try.f6 Rows.itemTwinsRow.domain false) (Rows.itemTwinsSpec.post enc Try.prog Try.f6 false true false false) :=
  law_plain (C := Try.checked) (tb := 4) own started (by kernel_rfl) Try.func6
    (ChangeSpec.witness6 (enc := enc) (C := Try.checked) false ⟨#[], #[.slice none 0 0, .slice none 0 0], []⟩ 8 (by kernel_rfl) (by kernel_rfl) (by kernel_rfl) (by kernel_rfl))
    laidOut (by kernel_rfl) (by kernel_rfl) Try.underlying4 rfl (fun ds h => by match ds, h with | [_, _], _ => rfl) (lawWalk H enc)

set_option maxRecDepth 100000 in
theorem over : Rows.itemTwinsRow.holds Try.pinned (OpenSpec.ofChange Rows.itemTwinsSpec) :=
  OpenClaim.holds_of_wide 6 Try.f6 rfl rfl rfl rfl rfl rfl rfl ⟨rfl, rfl, rfl, rfl, rfl⟩ rfl rfl rfl rfl rfl (by kernel_rfl) Try.func6 (by kernel_rfl)
    (of_decide_eq_true (by kernel_rfl)) (by unfold Func.isWrapper; first | (rw [if_pos (by decide +kernel)]; kernel_rfl) | (rw [if_neg (by decide +kernel)]; exact ⟨rfl, rfl⟩))
    (fun os started H enc _ => lifted os started H enc)

/-- The statement. -/
theorem proved : Rows.ItemTwinsSaid :=
  over
#print axioms proved
end Go.Proofs.Ytgdbkmecfbkobaa.itemTwins
