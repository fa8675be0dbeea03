/-
  For every sequence and two choices: a crash of a crash keeps all: DevTwice answers true.
  Conditions: none. (The frame of a row that lists no variable; where a table is reached: LAID=1 python3 wip/law.py.)
-/
import Derived.Test.YtgmgojpkjchmcaaDevTwiceWalk
import Derived.Test.YtgmgojpkjchmcaaDevMade
import Derived.Test.YtgmgojpkjchmcaaRows
namespace Go.Proofs.Ytgmgojpkjchmcaa.devTwice
open Go Go.ChangeShapes Go.WideShapes Go.ChangeAt Go.RowKit

theorem walked (W : World) (A : Option Addr) (c : Nat) (l : List OpD) (a : l.length ≤ c) (b : c ≤ maxLen) (_ : A = none → c = 0) (g : OpsAt W A (fun b => b < W.heap.size) l) (A1 : Option Addr) (c1 : Nat) (l1 : List Bool) (a1 : l1.length ≤ c1) (b1 : c1 ≤ maxLen) (_ : A1 = none → c1 = 0) (g1 : Row W A1 (fun b => b < W.heap.size) (l1.map Value.bool)) (A2 : Option Addr) (c2 : Nat) (l2 : List Bool) (a2 : l2.length ≤ c2) (b2 : c2 ≤ maxLen) (_ : A2 = none → c2 = 0) (g2 : Row W A2 (fun b => b < W.heap.size) (l2.map Value.bool)) :
    Calls Try.prog 8 #[.slice A l.length c, .slice A1 l1.length c1, .slice A2 l2.length c2] W fun e W' => e = .returned (.bool true) ∧ Below W.heap.size W W' :=
  walk theDev W A c l a b g A1 c1 l1 a1 b1 g1 A2 c2 l2 a2 b2 g2

theorem lawWalk (H : Type) (enc : TypeId × Value → H) : LawWalk H enc Try.prog 8 Try.f8 (fun _ => True) := by
  intro W base args ds p hval hA hL
  rw [Try.params8] at hA hval
  obtain ⟨v0, vs0, d0, ds0, p0, q0, hargs, rfl, rfl, h0, r0⟩ := trodAll_cons hA
  obtain ⟨v1, vs1, d1, ds1, p1, q1, rfl, rfl, rfl, h1, r1⟩ := trodAll_cons r0
  obtain ⟨v2, vs2, d2, ds2, p2, q2, rfl, rfl, rfl, h2, r2⟩ := trodAll_cons r1
  obtain ⟨rfl, rfl, rfl⟩ := trodAll_nil r2
  obtain rfl : args = #[v0, v1, v2] := by cases args; simp_all
  obtain ⟨A0, c0, l0, rfl, a0, b0, e0, g0⟩ := open_ops (hval 0 22 v0 rfl rfl) h0
  obtain ⟨A1, c1, l1, rfl, a1, b1, e1, g1⟩ := open_bools_whole Try.underlying29 Try.underlying4 (by kernel_rfl) (hval 1 29 v1 rfl rfl) h1
  obtain ⟨A2, c2, l2, rfl, a2, b2, e2, g2⟩ := open_bools_whole Try.underlying29 Try.underlying4 (by kernel_rfl) (hval 2 29 v2 rfl rfl) h2
  exact walked W A0 c0 l0 a0 b0 e0 g0 A1 c1 l1 a1 b1 e1 g1 A2 c2 l2 a2 b2 e2 g2

set_option maxRecDepth 100000 in
theorem lifted (os : Os) (started : os.Started) (H : Type) (enc : TypeId × Value → H) :
    ReturnsInHanded {} Try.checked os 8 .any (Rows.devTwiceSpec.pre6 enc Try.prog Try.f8 Rows.devTwiceRow.domain false) (Rows.devTwiceSpec.post enc Try.prog Try.f8 false true false false) :=
  law_plain (C := Try.checked) (tb := 4) own started (by kernel_rfl) Try.func8
    (ChangeSpec.witness6 (enc := enc) (C := Try.checked) false ⟨#[], #[.slice none 0 0, .slice none 0 0, .slice none 0 0], []⟩ 8 (by kernel_rfl) (by kernel_rfl) (by kernel_rfl) (by kernel_rfl))
    laidOut (by kernel_rfl) (by kernel_rfl) Try.underlying4 rfl (fun ds h => by match ds, h with | [_, _, _], _ => rfl) (lawWalk H enc)

theorem over : Rows.devTwiceRow.holds Try.pinned (OpenSpec.ofChange Rows.devTwiceSpec) :=
  OpenClaim.holds_of_wide 8 Try.f8 rfl rfl rfl rfl rfl rfl rfl ⟨rfl, rfl, rfl, rfl, rfl⟩ rfl rfl rfl rfl rfl (by kernel_rfl) Try.func8 (by kernel_rfl)
    (of_decide_eq_true (by kernel_rfl)) (by unfold Func.isWrapper; first | (rw [if_pos (by decide +kernel)]; kernel_rfl) | (rw [if_neg (by decide +kernel)]; exact ⟨rfl, rfl⟩))
    (fun os started H enc _ => lifted os started H enc)

/-- The statement. -/
theorem proved : Rows.DevTwiceSaid :=
  over
#print axioms proved
end Go.Proofs.Ytgmgojpkjchmcaa.devTwice
