/-
  For every entry, cut, and every time: what may be and what is live is as the chapter says: ItemMay answers true.
  Conditions: none.
-/
import Derived.Test.YtgdbkmecfbkobaaItemMayWalk
import Derived.Test.YtgdbkmecfbkobaaItemMade
import Derived.Test.YtgdbkmecfbkobaaItemOpen
import Derived.Test.YtgdbkmecfbkobaaRows
namespace Go.Proofs.Ytgdbkmecfbkobaa.itemMay
open Go Go.ChangeShapes Go.WideShapes Go.ChangeAt Go.RowKit

theorem walked (W : World) (x : It) (k : x.came) (n : Int) (w : (Lit.int .i64 n).wf = true) :
    Calls Try.prog 3 #[.agg #[.string x.key, .string x.val, .int .i64 x.till, .bool x.gone], .int .i64 n] W fun e W' => e = .returned (.bool true) ∧ Below W.heap.size W W' := by
  have hb := bounds_i64 w
  exact walk theItems W trivial x k.1 k.2.1 k.2.2.1 k.2.2.2 n hb.1 (Int.lt_of_le_of_lt hb.2 (by decide))

set_option maxRecDepth 100000 in
theorem lawWalk (H : Type) (enc : TypeId × Value → H) : LawWalk H enc Try.prog 3 Try.f3 (fun _ => True) := by
  intro W base args ds p hval hA hL
  rw [Try.params3] at hA hval
  obtain ⟨v0, vs0, d0, ds0, p0, q0, hargs, rfl, rfl, h0, r0⟩ := trodAll_cons hA
  obtain ⟨v1, vs1, d1, ds1, p1, q1, rfl, rfl, rfl, h1, r1⟩ := trodAll_cons r0
  obtain ⟨rfl, rfl, rfl⟩ := trodAll_nil r1
  obtain rfl : args = #[v0, v1] := by cases args; simp_all
  obtain ⟨x0, rfl, k0⟩ := open_item (hval 0 23 v0 rfl rfl) h0
  obtain ⟨n1, rfl, _, _, w1⟩ := open_int Try.underlying2 (hval 1 2 v1 rfl rfl) h1
  exact walked W x0 k0 n1 w1

set_option maxRecDepth 100000 in
theorem lifted (os : Os) (started : os.Started) (H : Type) (enc : TypeId × Value → H) :
    ReturnsInHanded {} Try.checked os 3 .any (Rows.itemMaySpec.pre6 enc Try.prog Try.f3 Rows.itemMayRow.domain false) (Rows.itemMaySpec.post enc Try.prog Try.f3 false true false false) :=
  law_plain (C := Try.checked) (tb := 4) own started (by kernel_rfl) Try.func3
    (ChangeSpec.witness6 (enc := enc) (C := Try.checked) false ⟨#[], #[.agg #[.string ⟨#[]⟩, .string ⟨#[]⟩, .int .i64 0, .bool false], .int .i64 0], []⟩ 8 (by kernel_rfl) (by kernel_rfl) (by kernel_rfl) (by kernel_rfl))
    laidOut (by kernel_rfl) (by kernel_rfl) Try.underlying4 rfl (fun ds h => by match ds, h with | [_, _], _ => rfl) (lawWalk H enc)

set_option maxRecDepth 100000 in
theorem over : Rows.itemMayRow.holds Try.pinned (OpenSpec.ofChange Rows.itemMaySpec) :=
  OpenClaim.holds_of_wide 3 Try.f3 rfl rfl rfl rfl rfl rfl rfl ⟨rfl, rfl, rfl, rfl, rfl⟩ rfl rfl rfl rfl rfl (by kernel_rfl) Try.func3 (by kernel_rfl)
    (of_decide_eq_true (by kernel_rfl)) (by unfold Func.isWrapper; first | (rw [if_pos (by decide +kernel)]; kernel_rfl) | (rw [if_neg (by decide +kernel)]; exact ⟨rfl, rfl⟩))
    (fun os started H enc _ => lifted os started H enc)

/-- The statement. -/
theorem proved : Rows.ItemMaySaid :=
  over
#print axioms proved
end Go.Proofs.Ytgdbkmecfbkobaa.itemMay
