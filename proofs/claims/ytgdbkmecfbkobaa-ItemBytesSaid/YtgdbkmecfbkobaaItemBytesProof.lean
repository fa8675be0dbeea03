/-
  For every row of entries, every place and byte: what was encoded is decoded; with a byte changed, or cut, it is other entries or refused: ItemBytes answers true.
  Conditions: none.
-/
import Derived.Test.YtgdbkmecfbkobaaItemBytesWalk
import Derived.Test.YtgdbkmecfbkobaaItemMade
import Derived.Test.YtgdbkmecfbkobaaItemOpen
import Derived.Test.YtgdbkmecfbkobaaRows
namespace Go.Proofs.Ytgdbkmecfbkobaa.itemBytes
open Go Go.ChangeShapes Go.WideShapes Go.ChangeAt Go.RowKit

theorem walked (W : World) (A0 : Option Addr) (c0 : Nat) (l0 : List It) (a0 : l0.length ≤ c0) (b0 : c0 ≤ maxLen) (_ : A0 = none → c0 = 0) (g0 : ItsAt W A0 (fun b => b < W.heap.size) l0) (f0 : ∀ x ∈ l0, x.came) (n : Int) (w : (Lit.int .i64 n).wf = true) (x : Int) (wx : (Lit.int .u8 x).wf = true) :
    Calls Try.prog 4 #[.slice A0 l0.length c0, .int .i64 n, .int .u8 x] W fun e W' => e = .returned (.bool true) ∧ Below W.heap.size W W' := by
  have hb := bounds_i64 w
  have hx := bounds_u8 wx
  obtain ⟨y, rfl⟩ : ∃ y : UInt8, x = (y.toNat : Int) := ⟨UInt8.ofNat x.toNat, by rw [UInt8.toNat_ofNat', Nat.mod_eq_of_lt (by omega)]; omega⟩
  exact walk theItems W trivial A0 c0 l0 a0 b0 g0 (fun x hx => f0 x hx) n hb.1 (Int.lt_of_le_of_lt hb.2 (by decide)) y

set_option maxRecDepth 100000 in
theorem lawWalk (H : Type) (enc : TypeId × Value → H) : LawWalk H enc Try.prog 4 Try.f4 (fun _ => True) := by
  intro W base args ds p hval hA hL
  rw [Try.params4] at hA hval
  obtain ⟨v0, vs0, d0, ds0, p0, q0, hargs, rfl, rfl, h0, r0⟩ := trodAll_cons hA
  obtain ⟨v1, vs1, d1, ds1, p1, q1, rfl, rfl, rfl, h1, r1⟩ := trodAll_cons r0
  obtain ⟨v2, vs2, d2, ds2, p2, q2, rfl, rfl, rfl, h2, r2⟩ := trodAll_cons r1
  obtain ⟨rfl, rfl, rfl⟩ := trodAll_nil r2
  obtain rfl : args = #[v0, v1, v2] := by cases args; simp_all
  obtain ⟨A0, c0, l0, rfl, a0, b0, e0, g0, f0⟩ := open_items (hval 0 28 v0 rfl rfl) h0
  obtain ⟨n1, rfl, _, _, w1⟩ := open_int Try.underlying3 (hval 1 3 v1 rfl rfl) h1
  obtain ⟨n2, rfl, _, _, w2⟩ := open_int Try.underlying5 (hval 2 5 v2 rfl rfl) h2
  exact walked W A0 c0 l0 a0 b0 e0 g0 f0 n1 w1 n2 w2

set_option maxRecDepth 100000 in
theorem lifted (os : Os) (started : os.Started) (H : Type) (enc : TypeId × Value → H) :
    ReturnsInHanded {} Try.checked os 4 .any (Rows.itemBytesSpec.pre6 enc Try.prog Try.f4 Rows.itemBytesRow.domain false) (Rows.itemBytesSpec.post enc Try.prog Try.f4 false true false false) :=
  law_plain (C := Try.checked) (tb := 4) own started (by kernel_rfl) Try.func4
    (ChangeSpec.witness6 (enc := enc) (C := Try.checked) false ⟨#[], #[.slice none 0 0, .int .i64 0, .int .u8 0], []⟩ 8 (by kernel_rfl) (by kernel_rfl) (by kernel_rfl) (by kernel_rfl))
    laidOut (by kernel_rfl) (by kernel_rfl) Try.underlying4 rfl (fun ds h => by match ds, h with | [_, _, _], _ => rfl) (lawWalk H enc)

set_option maxRecDepth 100000 in
theorem over : Rows.itemBytesRow.holds Try.pinned (OpenSpec.ofChange Rows.itemBytesSpec) :=
  OpenClaim.holds_of_wide 4 Try.f4 rfl rfl rfl rfl rfl rfl rfl ⟨rfl, rfl, rfl, rfl, rfl⟩ rfl rfl rfl rfl rfl (by kernel_rfl) Try.func4 (by kernel_rfl)
    (of_decide_eq_true (by kernel_rfl)) (by unfold Func.isWrapper; first | (rw [if_pos (by decide +kernel)]; kernel_rfl) | (rw [if_neg (by decide +kernel)]; exact ⟨rfl, rfl⟩))
    (fun os started H enc _ => lifted os started H enc)

/-- The statement. -/
theorem proved : Rows.ItemBytesSaid :=
  over
#print axioms proved
end Go.Proofs.Ytgdbkmecfbkobaa.itemBytes
